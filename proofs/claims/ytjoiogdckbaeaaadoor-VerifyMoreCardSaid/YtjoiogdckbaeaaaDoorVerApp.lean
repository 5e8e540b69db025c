/- Copies of rows of ports and of partitions, and cells of these set. -/
import Derived.Test.YtjoiogdckbaeaaaDoorVerMem
namespace Go.Proofs.YtjoiogdckbaeaaaDoor
open Go.ChangeShapes Go.WideShapes Go.ChangeAt Go.RowKit
namespace Ver
open Isa Flw
set_option linter.unusedVariables false
set_option linter.unusedSimpArgs false
set_option maxRecDepth 10000 in
/-- a row behind an empty literal: a copy in a block of its own -/
theorem app_copy {ts e : TypeId} {z : Value} {sz bs : Nat} (hu : Tryd.prog.underlying ts = some (.slice e)) (hi : (Tryd.prog.info? e).map (fun i => (i.zero, i.size, i.bytes)) = some (some z, sz, bs)) (hzs : z.cells.size = sz) (hsz : 0 < sz) (hbs : bs ≤ 64)
    (w : World) {a : Option Addr} {n c : Nat} (cs : List Value) (hc : cs.length = n * sz) (hsrc : n = 0 ∨ ∃ b off, a = some ⟨b, off, none⟩ ∧ ∀ (j : Nat) (u : Value), cs[j]? = some u → w.cell? ⟨b, off + j, none⟩ = some u) (h1 : ∀ u ∈ cs, u.oneCell' = true) (hn : n ≤ 1000000) (ha : a = none → c = 0) (ty : TypeId) :
    ∃ g cap w', (Builtin.append_ #[ts, ts] ty #[.slice (some ⟨w.heap.size, 0, none⟩) 0 0, .slice a n c]).run Tryd.prog (w.alloc (.cells #[] e)) = .ok (.slice (some ⟨g, 0, none⟩) n cap) w' ∧
      (∃ cur, w'.heap[g]? = some (.cells cur e (0, 0)) ∧ ∀ (j : Nat) (u : Value), cs[j]? = some u → cur[j]? = some u) ∧ w.heap.size ≤ g ∧ n ≤ cap ∧ cap ≤ maxLen ∧ Below w.heap.size w w' := by
  obtain ⟨i0, hi, hz0, hz1, hz2⟩ := info_parts hi
  have hb : n * bs ≤ 1000000 * 64 := Nat.mul_le_mul hn hbs
  have hown := World.ownsRow_made (base := w.heap.size) (e := e) (size := sz) w #[] 0 (Nat.le_refl _) (Nat.zero_le _) (by simp)
  by_cases hz : a = none
  · subst hz
    obtain rfl := ha rfl
    have hn0 : n = 0 := by
      rcases hsrc with h0 | ⟨b, off, e, _⟩
      · exact h0
      · cases e
    subst hn0
    have hrun := run_append_owned_none (P := Tryd.prog) (w := w.alloc (.cells #[] e)) w.heap.size ts ty e i0 sz hu hi _ 0 [] hown
    refine ⟨w.heap.size, 0, _, hrun, ⟨#[], heap_alloc_new _ _, ?_⟩, Nat.le_refl _, Nat.le_refl _, Nat.zero_le _, (Below.refl w.heap.size w).alloc (Nat.le_refl _) _⟩
    intro j u hu
    rw [show cs = [] from List.eq_nil_of_length_eq_zero (by rw [hc]; omega)] at hu
    simp at hu
  · obtain ⟨x, rfl⟩ := Option.ne_none_iff_exists'.1 hz
    have hnews : ∀ j u, cs[j]? = some u → (w.alloc (.cells #[] e)).cell? (x.add j) = some u := fun j u hj => by
      rcases hsrc with h0 | ⟨b, off, e1, hs⟩
      · subst h0
        rw [show cs = [] from List.eq_nil_of_length_eq_zero (by rw [hc]; omega)] at hj
        simp at hj
      · obtain rfl := Option.some.inj e1
        rw [show (⟨b, off, none⟩ : Addr).add j = ⟨b, off + j, none⟩ from by unfold Addr.add; split <;> simp_all]
        have := hs j u hj
        exact (World.cell?_of_block (((Below.refl w.heap.size w).alloc (Nat.le_refl _) (.cells #[] e)).block _ (World.block_lt_of_cell? _ _ this))).trans this
    obtain ⟨v', w', h1', h2, h3, h4⟩ := run_append_own (P := Tryd.prog) (w := w.alloc (.cells #[] e)) w.heap.size ts ty e i0 z sz bs hu hi hz0 hz1 hz2 hzs hsz _ 0 [] hown x n c cs (by rw [hc]) hnews h1 (by unfold maxLen; omega) (by rw [Nat.zero_add]; omega) (by simp)
    obtain ⟨q1, q2⟩ := h2
    rcases q2 with ⟨e', _⟩ | ⟨g, cap, cur, rfl, q3, q4, q5, q6, q7, q8⟩
    · exact absurd (h4.1 e').1 (by simp)
    · have hn1 : 0 + n = n := by omega
      rw [hn1] at h1' q5 q8
      refine ⟨g, cap, w', h1', ⟨cur, q4, ?_⟩, q3, q5, by omega, ((Below.refl w.heap.size w).alloc (Nat.le_refl _) (.cells #[] e)).grown h3 (by simp) (by intro k hk; simp [Value.ownBlock] at hk; omega)⟩
      intro j u hj
      have hjl := (List.getElem?_eq_some_iff.1 hj).1
      rw [List.nil_append] at q8
      rw [← q8, List.getElem?_take] at hj
      split at hj
      · simpa using hj
      · cases hj
theorem infoPd : (Tryd.prog.info? 46).map (fun i => (i.zero, i.size, i.bytes)) = some (some (.agg #[.slice none 0 0, .int .i64 0, .int .u8 0, .int .u8 0, .int .u8 0]), 5, 40) := by kernel_rfl
theorem infoPt : (Tryd.prog.info? 48).map (fun i => (i.zero, i.size, i.bytes)) = some (some (.agg #[.int .i64 0, .int .i64 0, .int .u32 0]), 3, 24) := by kernel_rfl
def encsD (l : List Pd) : List Value := l.flatMap encD
def encsT (l : List Pt) : List Value := l.flatMap encT
theorem encsD_len (l : List Pd) : (encsD l).length = l.length * 5 := by
  unfold encsD
  induction l with
  | nil => rfl
  | cons x r ih => rw [List.flatMap_cons, List.length_append, ih, List.length_cons]; show 5 + _ = _; omega
theorem encsT_len (l : List Pt) : (encsT l).length = l.length * 3 := by
  unfold encsT
  induction l with
  | nil => rfl
  | cons x r ih => rw [List.flatMap_cons, List.length_append, ih, List.length_cons]; show 3 + _ = _; omega
theorem encsD_at (l : List Pd) : ∀ (j r : Nat), j < l.length → r < 5 → (encsD l)[j * 5 + r]? = (encD (l.getD j dz))[r]? := by
  unfold encsD
  induction l with
  | nil => intro j r h; simp at h
  | cons x t ih =>
    intro j r hj hr
    rw [List.flatMap_cons]
    cases j with
    | zero => rw [List.getElem?_append_left (by show _ < 5; omega)]; simp
    | succ j =>
      rw [List.getElem?_append_right (by show 5 ≤ _; omega)]
      have : (j + 1) * 5 + r - (encD x).length = j * 5 + r := by show _ - 5 = _; omega
      rw [this, ih j r (by simpa using hj) hr]
      simp
theorem encsT_at (l : List Pt) : ∀ (j r : Nat), j < l.length → r < 3 → (encsT l)[j * 3 + r]? = (encT (l.getD j pz))[r]? := by
  unfold encsT
  induction l with
  | nil => intro j r h; simp at h
  | cons x t ih =>
    intro j r hj hr
    rw [List.flatMap_cons]
    cases j with
    | zero => rw [List.getElem?_append_left (by show _ < 3; omega)]; simp
    | succ j =>
      rw [List.getElem?_append_right (by show 3 ≤ _; omega)]
      have : (j + 1) * 3 + r - (encT x).length = j * 3 + r := by show _ - 3 = _; omega
      rw [this, ih j r (by simpa using hj) hr]
      simp
theorem encsD_one (l : List Pd) : ∀ u ∈ encsD l, u.oneCell' = true := by
  intro u hu
  obtain ⟨d, _, h⟩ := List.mem_flatMap.1 hu
  simp only [encD, List.mem_cons, List.not_mem_nil, or_false] at h
  rcases h with rfl | rfl | rfl | rfl | rfl <;> rfl
theorem encsT_one (l : List Pt) : ∀ u ∈ encsT l, u.oneCell' = true := by
  intro u hu
  obtain ⟨d, _, h⟩ := List.mem_flatMap.1 hu
  simp only [encT, List.mem_cons, List.not_mem_nil, or_false] at h
  rcases h with rfl | rfl | rfl <;> rfl
/-- a row of the call's own, from cell 0 of its block on -/
structure OwnD (w : World) (g : Nat) (l : List Pd) : Prop where
  blk : ∃ cur, w.heap[g]? = some (.cells cur 46 (0, 0))
  wf : ∀ d ∈ l, d.wf
  at_ : ∀ j, j < l.length → PdAt w g (j * 5) (l.getD j dz)
structure OwnT (w : World) (g : Nat) (l : List Pt) : Prop where
  blk : ∃ cur, w.heap[g]? = some (.cells cur 48 (0, 0))
  wf : ∀ d ∈ l, d.wf
  at_ : ∀ j, j < l.length → PtAt w g (j * 3) (l.getD j pz)
theorem OwnD.row {w : World} {g : Nat} {l : List Pd} (h : OwnD w g l) : PdRow w (some ⟨g, 0, none⟩) l.length l := ⟨rfl, h.wf, .inr ⟨g, 0, rfl, fun j hj => by rw [Nat.zero_add]; exact h.at_ j hj⟩⟩
theorem OwnT.row {w : World} {g : Nat} {l : List Pt} (h : OwnT w g l) : PtRow w (some ⟨g, 0, none⟩) l.length l := ⟨rfl, h.wf, .inr ⟨g, 0, rfl, fun j hj => by rw [Nat.zero_add]; exact h.at_ j hj⟩⟩
theorem OwnD.blockOf {w w' : World} {g : Nat} {l : List Pd} (h : OwnD w g l) (hb : w'.heap[g]? = w.heap[g]?) : OwnD w' g l :=
  ⟨by obtain ⟨cur, e⟩ := h.blk; exact ⟨cur, hb.trans e⟩, h.wf, fun j hj => by
    obtain ⟨c0, c1, c2, c3, c4⟩ := h.at_ j hj
    exact ⟨(World.cell?_of_block hb).trans c0, (World.cell?_of_block hb).trans c1, (World.cell?_of_block hb).trans c2, (World.cell?_of_block hb).trans c3, (World.cell?_of_block hb).trans c4⟩⟩
theorem OwnT.blockOf {w w' : World} {g : Nat} {l : List Pt} (h : OwnT w g l) (hb : w'.heap[g]? = w.heap[g]?) : OwnT w' g l :=
  ⟨by obtain ⟨cur, e⟩ := h.blk; exact ⟨cur, hb.trans e⟩, h.wf, fun j hj => by
    obtain ⟨c0, c1, c2⟩ := h.at_ j hj
    exact ⟨(World.cell?_of_block hb).trans c0, (World.cell?_of_block hb).trans c1, (World.cell?_of_block hb).trans c2⟩⟩
theorem OwnD.lt {w : World} {g : Nat} {l : List Pd} (h : OwnD w g l) : g < w.heap.size := by obtain ⟨cur, e⟩ := h.blk; exact lt_of_block e
theorem OwnT.lt {w : World} {g : Nat} {l : List Pt} (h : OwnT w g l) : g < w.heap.size := by obtain ⟨cur, e⟩ := h.blk; exact lt_of_block e
theorem getD_set_self {α : Type} (l : List α) (k : Nat) (x d : α) (h : k < l.length) : (l.set k x).getD k d = x := by rw [List.getD_eq_getElem?_getD, List.getElem?_set]; simp [h]
theorem getD_set_ne {α : Type} (l : List α) (k j : Nat) (x d : α) (h : k ≠ j) : (l.set k x).getD j d = l.getD j d := by rw [List.getD_eq_getElem?_getD, List.getElem?_set, if_neg h, ← List.getD_eq_getElem?_getD]
theorem cell_ne {w : World} {g k j : Nat} {u v : Value} (h : w.cell? ⟨g, j, none⟩ = some u) (hne : j ≠ k) : (w.setCell ⟨g, k, none⟩ v).cell? ⟨g, j, none⟩ = some u :=
  (World.cell?_setCell_other _ _ _ _ (by intro e; exact hne (by injection e with _ h2; exact h2.symm))).trans h
theorem OwnD.blkSet {w : World} {g k : Nat} {v : Value} {t : TypeId} (h : ∃ cur, w.heap[g]? = some (.cells cur t (0, 0))) : ∃ cur, (w.setCell ⟨g, k, none⟩ v).heap[g]? = some (.cells cur t (0, 0)) := by
  obtain ⟨cur, e⟩ := h
  exact ⟨_, heap_setCell_own _ _ _ _ _ _ e⟩
/-- the stack of one set -/
theorem OwnD.setSt {w : World} {g : Nat} {l : List Pd} (h : OwnD w g l) (k : Nat) (hk : k < l.length) (s : Int) (hs : -9223372036854775808 ≤ s ∧ s ≤ 9223372036854775807) : OwnD (w.setCell ⟨g, k * 5 + 1, none⟩ (.int .i64 s)) g (l.set k { l.getD k dz with st := s }) := by
  refine ⟨OwnD.blkSet h.blk, fun d hd => ?_, fun j hj => ?_⟩
  · rcases List.mem_or_eq_of_mem_set hd with q | rfl
    · exact h.wf d q
    · exact hs
  · rw [List.length_set] at hj
    obtain ⟨c0, c1, c2, c3, c4⟩ := h.at_ j hj
    by_cases e : k = j
    · subst e
      rw [getD_set_self _ _ _ _ hk]
      exact ⟨cell_ne c0 (by omega), World.cell?_setCell_same _ _ _ c1, cell_ne c2 (by omega), cell_ne c3 (by omega), cell_ne c4 (by omega)⟩
    · rw [getD_set_ne _ _ _ _ _ e]
      exact ⟨cell_ne c0 (by omega), cell_ne c1 (by omega), cell_ne c2 (by omega), cell_ne c3 (by omega), cell_ne c4 (by omega)⟩
theorem OwnT.setRd {w : World} {g : Nat} {l : List Pt} (h : OwnT w g l) (k : Nat) (hk : k < l.length) (s : Int) (hs : 0 ≤ s ∧ s ≤ 4294967295) : OwnT (w.setCell ⟨g, k * 3 + 2, none⟩ (.int .u32 s)) g (l.set k { l.getD k pz with rd := s }) := by
  refine ⟨OwnD.blkSet h.blk, fun d hd => ?_, fun j hj => ?_⟩
  · rcases List.mem_or_eq_of_mem_set hd with q | rfl
    · exact h.wf d q
    · have := h.wf _ (getD_mem pz hk)
      exact ⟨this.1, this.2.1, hs⟩
  · rw [List.length_set] at hj
    obtain ⟨c0, c1, c2⟩ := h.at_ j hj
    by_cases e : k = j
    · subst e
      rw [getD_set_self _ _ _ _ hk]
      exact ⟨cell_ne c0 (by omega), cell_ne c1 (by omega), World.cell?_setCell_same _ _ _ c2⟩
    · rw [getD_set_ne _ _ _ _ _ e]
      exact ⟨cell_ne c0 (by omega), cell_ne c1 (by omega), cell_ne c2 (by omega)⟩
theorem OwnT.setWr {w : World} {g : Nat} {l : List Pt} (h : OwnT w g l) (k : Nat) (hk : k < l.length) (s : Int) (hs : -9223372036854775808 ≤ s ∧ s ≤ 9223372036854775807) : OwnT (w.setCell ⟨g, k * 3 + 1, none⟩ (.int .i64 s)) g (l.set k { l.getD k pz with wr := s }) := by
  refine ⟨OwnD.blkSet h.blk, fun d hd => ?_, fun j hj => ?_⟩
  · rcases List.mem_or_eq_of_mem_set hd with q | rfl
    · exact h.wf d q
    · have := h.wf _ (getD_mem pz hk)
      exact ⟨this.1, hs, this.2.2⟩
  · rw [List.length_set] at hj
    obtain ⟨c0, c1, c2⟩ := h.at_ j hj
    by_cases e : k = j
    · subst e
      rw [getD_set_self _ _ _ _ hk]
      exact ⟨cell_ne c0 (by omega), World.cell?_setCell_same _ _ _ c1, cell_ne c2 (by omega)⟩
    · rw [getD_set_ne _ _ _ _ _ e]
      exact ⟨cell_ne c0 (by omega), cell_ne c1 (by omega), cell_ne c2 (by omega)⟩
/-- copies -/
theorem copyD (w : World) {a : Option Addr} {n c : Nat} {l : List Pd} (h : PdRow w a n l) (hn : n ≤ 1000000) (ha : a = none → c = 0) (ty : TypeId) :
    ∃ g cap w', (Builtin.append_ #[24, 24] ty #[.slice (some ⟨w.heap.size, 0, none⟩) 0 0, .slice a n c]).run Tryd.prog (w.alloc (.cells #[] 46)) = .ok (.slice (some ⟨g, 0, none⟩) n cap) w' ∧
      OwnD w' g l ∧ w.heap.size ≤ g ∧ (n ≤ cap ∧ cap ≤ 9223372036854775807) ∧ Below w.heap.size w w' := by
  obtain ⟨hl, hwf, hc⟩ := h
  obtain ⟨g, cap, w', h1, ⟨cur, h2, h2'⟩, h3, h4, h5, h6⟩ := app_copy (ts := 24) (e := 46) Tryd.underlying24 infoPd rfl (by decide) (by decide) w (a := a) (n := n) (c := c) (encsD l) (by rw [encsD_len, hl]) (by
    rcases hc with hc | ⟨b, off, rfl, hc⟩
    · exact .inl hc
    · refine .inr ⟨b, off, rfl, fun j u hj => ?_⟩
      have hjl := (List.getElem?_eq_some_iff.1 hj).1
      rw [encsD_len, hl] at hjl
      have e : j = j / 5 * 5 + j % 5 := by omega
      have hm : j % 5 < 5 := Nat.mod_lt _ (by omega)
      have hj5 : j / 5 < n := by omega
      obtain ⟨c0, c1, c2, c3, c4⟩ := hc (j / 5) hj5
      generalize j / 5 = q at *
      generalize j % 5 = r at *
      subst e
      rw [encsD_at l q r (by omega) hm] at hj
      have : r = 0 ∨ r = 1 ∨ r = 2 ∨ r = 3 ∨ r = 4 := by omega
      rcases this with rfl | rfl | rfl | rfl | rfl <;> (simp only [encD, List.getElem?_cons_zero, List.getElem?_cons_succ, Option.some.injEq] at hj; subst hj)
      · exact c0
      · rw [← Nat.add_assoc]; exact c1
      · rw [← Nat.add_assoc]; exact c2
      · rw [← Nat.add_assoc]; exact c3
      · rw [← Nat.add_assoc]; exact c4) (encsD_one l) hn ha ty
  refine ⟨g, cap, w', h1, ⟨⟨cur, h2⟩, hwf, fun j hj => ?_⟩, h3, ⟨h4, by unfold maxLen at h5; omega⟩, h6⟩
  have key : ∀ r, r < 5 → ∀ u, (encD (l.getD j dz))[r]? = some u → w'.cell? ⟨g, j * 5 + r, none⟩ = some u := fun r hr u hu => by
    rw [← encsD_at l j r hj hr] at hu
    have := h2' _ _ hu
    simp [World.cell?, h2, this]
  exact ⟨key 0 (by omega) _ rfl, key 1 (by omega) _ rfl, key 2 (by omega) _ rfl, key 3 (by omega) _ rfl, key 4 (by omega) _ rfl⟩
theorem copyT (w : World) {a : Option Addr} {n c : Nat} {l : List Pt} (h : PtRow w a n l) (hn : n ≤ 1000000) (ha : a = none → c = 0) (ty : TypeId) :
    ∃ g cap w', (Builtin.append_ #[25, 25] ty #[.slice (some ⟨w.heap.size, 0, none⟩) 0 0, .slice a n c]).run Tryd.prog (w.alloc (.cells #[] 48)) = .ok (.slice (some ⟨g, 0, none⟩) n cap) w' ∧
      OwnT w' g l ∧ w.heap.size ≤ g ∧ (n ≤ cap ∧ cap ≤ 9223372036854775807) ∧ Below w.heap.size w w' := by
  obtain ⟨hl, hwf, hc⟩ := h
  obtain ⟨g, cap, w', h1, ⟨cur, h2, h2'⟩, h3, h4, h5, h6⟩ := app_copy (ts := 25) (e := 48) Tryd.underlying25 infoPt rfl (by decide) (by decide) w (a := a) (n := n) (c := c) (encsT l) (by rw [encsT_len, hl]) (by
    rcases hc with hc | ⟨b, off, rfl, hc⟩
    · exact .inl hc
    · refine .inr ⟨b, off, rfl, fun j u hj => ?_⟩
      have hjl := (List.getElem?_eq_some_iff.1 hj).1
      rw [encsT_len, hl] at hjl
      have e : j = j / 3 * 3 + j % 3 := by omega
      have hm : j % 3 < 3 := Nat.mod_lt _ (by omega)
      have hj5 : j / 3 < n := by omega
      obtain ⟨c0, c1, c2⟩ := hc (j / 3) hj5
      generalize j / 3 = q at *
      generalize j % 3 = r at *
      subst e
      rw [encsT_at l q r (by omega) hm] at hj
      have : r = 0 ∨ r = 1 ∨ r = 2 := by omega
      rcases this with rfl | rfl | rfl <;> (simp only [encT, List.getElem?_cons_zero, List.getElem?_cons_succ, Option.some.injEq] at hj; subst hj)
      · exact c0
      · rw [← Nat.add_assoc]; exact c1
      · rw [← Nat.add_assoc]; exact c2) (encsT_one l) hn ha ty
  refine ⟨g, cap, w', h1, ⟨⟨cur, h2⟩, hwf, fun j hj => ?_⟩, h3, ⟨h4, by unfold maxLen at h5; omega⟩, h6⟩
  have key : ∀ r, r < 3 → ∀ u, (encT (l.getD j pz))[r]? = some u → w'.cell? ⟨g, j * 3 + r, none⟩ = some u := fun r hr u hu => by
    rw [← encsT_at l j r hj hr] at hu
    have := h2' _ _ hu
    simp [World.cell?, h2, this]
  exact ⟨key 0 (by omega) _ rfl, key 1 (by omega) _ rfl, key 2 (by omega) _ rfl⟩
end Ver
end Go.Proofs.YtjoiogdckbaeaaaDoor
