/- verify's own calls, I: whether a bit is set; one more grant. · verify's own calls, III: an instruction held against a list of grants; what is noted of it. · verify's own calls, II: all that a partition may do with ports and the field. · verify's own calls, IV: what is noted of an instruction. -/
import Derived.Test.YtjoiogdckbaeaaaDoorVerM
import Derived.Test.YtjoiogdckbaeaaaDoorVerMem
import Derived.Test.YtjoiogdckbaeaaaDoorFlowS
import Derived.Laws.ShiftsVarLaws
import Derived.Test.YtjoiogdckbaeaaaDoorFlowP1
import Derived.Laws.StructEq
import Derived.Laws.EntriesVeiled
namespace Go.Proofs.YtjoiogdckbaeaaaDoor
open Go.ChangeShapes Go.WideShapes Go.ChangeAt Go.RowKit
namespace Ver
open Isa Flw
set_option linter.unusedVariables false
set_option linter.unusedSimpArgs false
theorem and_oneP (x : Int) (hx : 0 ≤ x ∧ x ≤ 4294967295) : bits .and .u32 x 1 = x % 2 := by
  obtain ⟨X, rfl⟩ := Int.eq_ofNat_of_zero_le hx.1
  have hb := (bits_nat .u32 32 (by decide) (fun n h0 h1 => by simp only [IntKind.wrap, IntKind.bits, IntKind.signed]; exact Int.emod_eq_of_lt h0 h1) X 1 (by omega) (by omega)).1
  rw [show ((1 : Nat) : Int) = 1 from rfl] at hb
  rw [hb, Nat.and_one_is_mod]
  omega
/-- the bit, as the program asks for it -/
theorem bit_is (rd part : Int) (hr : 0 ≤ rd ∧ rd ≤ 4294967295) (hp : 0 ≤ part) : (bits .and .u32 (rd / 2 ^ min part.toNat 32) 1 == 1) = bit rd part := by
  have hpos : (0 : Int) < 2 ^ min part.toNat 32 := Int.pow_pos (by omega)
  have h1 : 0 ≤ rd / 2 ^ min part.toNat 32 := Int.ediv_nonneg hr.1 (by omega)
  have h2 : rd / 2 ^ min part.toNat 32 ≤ rd := Int.ediv_le_self _ hr.1
  rw [and_oneP _ ⟨h1, by omega⟩]
  have hs := u32_shr_var rd part hr.1 (by omega)
  unfold bit
  rw [hs, show decide ((0 : Int) ≤ part) = true from by simpa using hp, Bool.true_and]
  split
  · rename_i h
    have hbig : (2 : Int) ^ 32 ≤ 2 ^ part.toNat := by
      have := Nat.pow_le_pow_right (n := 2) (by omega) (show 32 ≤ part.toNat by omega)
      exact_mod_cast this
    have : rd / 2 ^ part.toNat = 0 := Int.ediv_eq_zero_of_lt hr.1 (by have : (2 : Int) ^ 32 = 4294967296 := by decide
                                                                      omega)
    rw [this]; decide
  · rw [Bool.eq_iff_iff]; simp
theorem inSet_any (rd part : Int) (hr : 0 ≤ rd ∧ rd ≤ 4294967295) (w : World) :
    Calls Tryd.prog 31 #[.int .u32 rd, .int .i64 part] w fun e w' => e = .returned (.bool (bit rd part)) ∧ w' = w := by
  by_cases h0 : 0 ≤ part
  · have e0 : decide ((0 : Int) ≤ part) = true := by simpa using h0
    have HB := Lib.hid (bit_is rd part hr h0)
    have hr0 := hr.1
    go_enter Tryd.func31, Tryd.ntmps31
    go_wp2_with fail
    go_ret
    exact ⟨ret_bool HB.out, rfl⟩
  · have e0 : decide ((0 : Int) ≤ part) = false := by simpa using h0
    have HB : Hid (bit rd part = false) := by show _ = _; unfold bit; rw [e0]; rfl
    go_enter Tryd.func31, Tryd.ntmps31
    go_wp2_with fail
    go_ret
    exact ⟨by rw [HB.out]; rfl, rfl⟩
/-! ### The list of grants -/
def encG (g : Gr) : List Value := [.int .u8 g.op, .int .u8 g.a, .int .u16 0, .int .u32 0, .int .i64 g.w]
def encsG (l : List Gr) : List Value := l.flatMap encG
theorem infoG : (Tryd.prog.info? 77).map (fun i => (i.zero, i.size, i.bytes)) = some (some (.agg #[.int .u8 0, .int .u8 0, .int .u16 0, .int .u32 0, .int .i64 0]), 5, 16) := by kernel_rfl
def GrO (S : Nat) (v : Value) (l : List Gr) (w : World) : Prop := w.ownsRow S 77 5 v l.length (encsG l)
/-- what has been put by now; B: the list's variable -/
structure PG (B : Nat) (w0 : World) (l : List Gr) (w : World) : Prop where
  box : ∃ v, w.heap[B]? = some (.cells #[v] 61 (0, 0)) ∧ GrO (B + 1) v l w
  bel : Below B w0 w
/-- one more behind a row of the call's own: and how the world has grown -/
theorem app_gr {ts e : TypeId} {z : Value} {sz bs : Nat} (hu : Tryd.prog.underlying ts = some (.slice e)) (hi : (Tryd.prog.info? e).map (fun i => (i.zero, i.size, i.bytes)) = some (some z, sz, bs)) (hzs : z.cells.size = sz) (hsz : 0 < sz) (hbs : bs ≤ 64)
    {w : World} {S : Nat} {v : Value} {n : Nat} {xs : List Value} (h : w.ownsRow S e sz v n xs) (hS : S ≤ w.heap.size) (hn : n ≤ 1000000000) (cs : List Value) (hc : cs.length = sz) (h1 : ∀ u ∈ cs, u.oneCell' = true) (ty : TypeId) :
    ∃ g cap w', (Builtin.append_ #[ts, ts] ty #[v, .slice (some ⟨w.heap.size, 0, none⟩) 1 1]).run Tryd.prog (w.alloc (.cells cs.toArray e)) = .ok (.slice (some ⟨g, 0, none⟩) (n + 1 : Nat) cap) w' ∧
      w'.ownsRow S e sz (.slice (some ⟨g, 0, none⟩) (n + 1 : Nat) cap) (n + 1) (xs ++ cs) ∧ Below S w w' ∧
      ∀ (V : Nat) (cur : Array Value) (t : TypeId), w.heap[V]? = some (.cells cur t (0, 0)) → t ≠ e → w'.heap[V]? = some (.cells cur t (0, 0)) := by
  obtain ⟨i0, hi, hz0, hz1, hz2⟩ := info_parts hi
  have hb : (n + 1) * bs ≤ (1000000001) * 64 := Nat.mul_le_mul (by omega) hbs
  have hlies := run_append_lies (P := Tryd.prog) (w.alloc (.cells cs.toArray e)) ts ty S e i0 z sz bs hu hi hz0 hz1 hz2 hzs hsz v n xs (h.alloc _) ⟨w.heap.size, 0, none⟩ 1 1 cs (by rw [hc]; omega)
    (World.news_of_block (heap_alloc_new w _)) h1 (by omega) (by unfold maxLen; omega) (by omega) (by simp; omega) _ rfl
  obtain ⟨g, cap, w', h1, h2, h3, h4, h5⟩ := hlies
  refine ⟨g, cap, w', h1, h2, Below.grown ((Below.refl S w).alloc hS _) h3 (by simp; omega) (fun j hj => (World.ownsRow.lt h j hj).1), ?_⟩
  intro V cur t hV ht
  have h6 : (w.alloc (.cells cs.toArray e)).heap[V]? = some (.cells cur t (0, 0)) := (Below.heap_alloc _ _ _ (lt_of_block hV)).trans hV
  refine (h3.block V (lt_of_block h6) (fun q => ?_)).trans h6
  obtain ⟨cur2, h7⟩ := own_block h q.symm
  rw [h7] at hV
  simp at hV
  exact ht hV.2.symm
def PutG (B : Nat) (w0 w : World) (l : List Gr) (g : Gr) (e : Ending) (w' : World) : Prop := e = .returned (.tuple #[]) ∧ PG B w0 (l ++ [g]) w' ∧ ∀ (V : Nat) (cur : Array Value) (t : TypeId), w.heap[V]? = some (.cells cur t (0, 0)) → t ≠ 77 → V ≠ B → w'.heap[V]? = some (.cells cur t (0, 0))
theorem putg_any (op k n : Int) (hk : 0 ≤ k ∧ k ≤ 255) {B : Nat} {w0 w : World} {l : List Gr} (h : PG B w0 l w) (hl : l.length ≤ 2000) :
    Calls Tryd.prog 30 #[.int .u8 op, .int .i64 k, .int .i64 n, .pointer (some ⟨B, 0, none⟩)] w (PutG B w0 w l ⟨op, k, n⟩) := by
  obtain ⟨⟨v, hb, ho⟩, hbel⟩ := h
  have hlt := lt_of_block hb
  obtain ⟨av, cv, rfl, hc1, hc2⟩ := own_shape ho
  have ho' : w.ownsRow (B + 1) 77 5 (.slice av l.length cv) l.length (encsG l) := ho
  obtain ⟨g9, cap, W9, hap, hown9, hb9, hk9⟩ := app_gr Tryd.underlying61 infoG rfl (by decide) (by decide) ho' (by omega) (by omega) [.int .u8 op, .int .u8 k, .int .u16 0, .int .u32 0, .int .i64 n] rfl (by intro u hu; simp at hu; rcases hu with rfl | rfl | rfl | rfl | rfl <;> rfl) 61
  have hc0 : w.cell? ⟨B, 0, none⟩ = some (.slice av l.length cv) := cells_at hb 0
  have hB9 : W9.heap[B]? = some (.cells #[.slice av l.length cv] 61 (0, 0)) := (hb9.block B (by omega)).trans hb
  have f9 : W9.frozen? ⟨B, 0, none⟩ = false := by simp [World.frozen?, hB9]
  have c9 : W9.cell? ⟨B, 0, none⟩ = some (.slice av l.length cv) := cells_at hB9 0
  have HP : Hid (PG B w0 (l ++ [⟨op, k, n⟩]) (W9.setCell ⟨B, 0, none⟩ (.slice (some ⟨g9, 0, none⟩) (l.length + 1 : Nat) cap))) := by
    refine ⟨⟨_, by have := heap_setCell_own W9 B 0 _ _ (.slice (some ⟨g9, 0, none⟩) (l.length + 1 : Nat) cap) hB9; simpa using this, ?_⟩, ?_⟩
    · have e1 : (l ++ [(⟨op, k, n⟩ : Gr)]).length = l.length + 1 := by simp
      have e2 : encsG (l ++ [⟨op, k, n⟩]) = encsG l ++ [.int .u8 op, .int .u8 k, .int .u16 0, .int .u32 0, .int .i64 n] := by unfold encsG; rw [List.flatMap_append]; rfl
      unfold GrO
      rw [e1, e2]
      have hge := World.ownsRow.lt hown9 g9 rfl
      exact Goes.own_kept hown9 (p := fun j => j = B) (Goes.kept_set _ _ _ _ rfl) (fun j hj e => by simp [Value.ownBlock] at hj; omega)
    · exact (hbel.trans (hb9.mono (by omega))).setCell (p := ⟨B, 0, none⟩) (Nat.le_refl _) _
  have HK : Hid (∀ (V : Nat) (cur : Array Value) (t : TypeId), w.heap[V]? = some (.cells cur t (0, 0)) → t ≠ 77 → V ≠ B → (W9.setCell ⟨B, 0, none⟩ (.slice (some ⟨g9, 0, none⟩) (l.length + 1 : Nat) cap)).heap[V]? = some (.cells cur t (0, 0))) := fun V cur t h1 h2 h3 => (setCell_blk W9 V B 0 _ h3).trans (hk9 V cur t h1 h2)
  have hwk : IntKind.u8.wrap k = k := by simp [IntKind.wrap, IntKind.bits, IntKind.signed]; omega
  clear hk9 hb ho ho' hbel hown9 hb9 hB9 hc1 hc2
  generalize l.length = L at *
  go_enter Tryd.func30, Tryd.ntmps30
  go_wp2_with (at_builtin; refine wpList_append_run rfl (.tmp 7) (.tmp 14) 61 61 rfl _ _ _ W9 61 rfl rfl rfl hap ?_)
  go_wp2_with fail
  exact bodyPost_ret (results_none rfl _ _ _) rfl ⟨rfl, HP.out, HK.out⟩
theorem PG.alloc {B : Nat} {w0 w : World} {l : List Gr} (h : PG B w0 l w) (hB : w0.heap.size = B) (o : Obj) : PG B w0 l (w.alloc o) := by
  obtain ⟨⟨v, hb, ho⟩, hbel⟩ := h
  have hlt := lt_of_block hb
  exact ⟨⟨v, (Below.heap_alloc _ _ _ hlt).trans hb, World.ownsRow.alloc ho _⟩, hbel.alloc (by omega) _⟩
theorem run_min (a b M : Int) (h : M = min a b) (X : World) : (Builtin.min_ #[3, 3] 3 #[.int .i64 a, .int .i64 b]).run Tryd.prog X = .ok (.int .i64 M) X := by
  subst h
  have h : (if b < a then b else a) = min a b := by split <;> omega
  simp only [Builtin.min_, ← h]
  simp [Builtin.min2]
theorem cells3p {X : World} {V : Nat} {v0 v1 v2 : Value} {t : TypeId} {fr : Nat × Nat} (h : X.heap[V]? = some (.cells #[v0, v1, v2] t fr)) :
    X.cell? ⟨V, 0, none⟩ = some v0 ∧ X.cell? ⟨V, 1, none⟩ = some v1 ∧ X.cell? ⟨V, 2, none⟩ = some v2 := ⟨cells_at h 0, cells_at h 1, cells_at h 2⟩
theorem cells14p {X : World} {V : Nat} {v0 v1 v2 v3 v4 v5 v6 v7 v8 v9 v10 v11 v12 v13 : Value} {t : TypeId} {fr : Nat × Nat} (h : X.heap[V]? = some (.cells #[v0, v1, v2, v3, v4, v5, v6, v7, v8, v9, v10, v11, v12, v13] t fr)) :
    X.cell? ⟨V, 1, none⟩ = some v1 ∧ X.cell? ⟨V, 2, none⟩ = some v2 ∧ X.cell? ⟨V, 3, none⟩ = some v3 ∧ X.cell? ⟨V, 4, none⟩ = some v4 ∧ X.cell? ⟨V, 5, none⟩ = some v5 ∧ X.cell? ⟨V, 6, none⟩ = some v6 := ⟨cells_at h 1, cells_at h 2, cells_at h 3, cells_at h 4, cells_at h 5, cells_at h 6⟩
end Ver
end Go.Proofs.YtjoiogdckbaeaaaDoor
namespace Go.Proofs.YtjoiogdckbaeaaaDoor
open Go.ChangeShapes Go.WideShapes Go.ChangeAt Go.RowKit
namespace Ver
open Isa Flw
set_option linter.unusedVariables false
set_option linter.unusedSimpArgs false
/-- a row of grants in memory -/
def GAt (w : World) (b off : Nat) (g : Gr) : Prop := w.cell? ⟨b, off, none⟩ = some (.int .u8 g.op) ∧ w.cell? ⟨b, off + 1, none⟩ = some (.int .u8 g.a) ∧ w.cell? ⟨b, off + 2, none⟩ = some (.int .u16 0) ∧ w.cell? ⟨b, off + 3, none⟩ = some (.int .u32 0) ∧ w.cell? ⟨b, off + 4, none⟩ = some (.int .i64 g.w)
def GRow (w : World) (a : Option Addr) (n : Nat) (l : List Gr) : Prop := l.length = n ∧ (n = 0 ∨ ∃ b off, a = some ⟨b, off, none⟩ ∧ ∀ j, j < n → GAt w b (off + j * 5) (l.getD j gz))
theorem GRow.below {w w' : World} {a : Option Addr} {n : Nat} {l : List Gr} (h : GRow w a n l) {B : Nat} (hb : Below B w w') (hB : w.heap.size ≤ B) : GRow w' a n l := by
  obtain ⟨h1, h3⟩ := h
  refine ⟨h1, ?_⟩
  rcases h3 with h3 | ⟨b, off, rfl, hc⟩
  · exact .inl h3
  · have key : ∀ (off : Nat) v, w.cell? ⟨b, off, none⟩ = some v → w'.cell? ⟨b, off, none⟩ = some v := fun o v h => (World.cell?_of_block (hb.block b (Nat.lt_of_lt_of_le (World.block_lt_of_cell? _ _ h) hB))).trans h
    exact .inr ⟨b, off, rfl, fun j hj => ⟨key _ _ (hc j hj).1, key _ _ (hc j hj).2.1, key _ _ (hc j hj).2.2.1, key _ _ (hc j hj).2.2.2.1, key _ _ (hc j hj).2.2.2.2⟩⟩
theorem encsG_at (l : List Gr) : ∀ (j r : Nat), j < l.length → r < 5 → (encsG l)[j * 5 + r]? = (encG (l.getD j gz))[r]? := by
  unfold encsG
  induction l with
  | nil => intro j r h; simp at h
  | cons x t ih =>
    intro j r hj hr
    rw [List.flatMap_cons]
    cases j with
    | zero => rw [List.getElem?_append_left (by show _ < 5; omega)]; simp
    | succ j =>
      rw [List.getElem?_append_right (by show 5 ≤ _; omega)]
      have : (j + 1) * 5 + r - (encG x).length = j * 5 + r := by show _ - 5 = _; omega
      rw [this, ih j r (by simpa using hj) hr]
      simp
theorem GrO.row {S : Nat} {v : Value} {l : List Gr} {w : World} (h : GrO S v l w) : ∃ a c, v = .slice a l.length c ∧ l.length ≤ c ∧ c ≤ maxLen ∧ GRow w a l.length l := by
  have h' : w.ownsRow S 77 5 v l.length (encsG l) := h
  obtain ⟨a, c, rfl, h1, h2⟩ := own_shape h'
  refine ⟨a, c, rfl, h1, h2, rfl, ?_⟩
  rcases Nat.eq_zero_or_pos l.length with e | e
  · exact .inl e
  · obtain ⟨g, cap, e1, h3, h4⟩ := own_some h' e
    injection e1 with e1 e2 e3
    subst e1
    refine .inr ⟨g, 0, rfl, fun j hj => ?_⟩
    have hlen : (encsG l).length = l.length * 5 := h'.1
    have key : ∀ r v, r < 5 → (encG (l.getD j gz))[r]? = some v → w.cell? ⟨g, 0 + j * 5 + r, none⟩ = some v := fun r v hr hv => by
      rw [Nat.zero_add, World.ownsRow.cellAt h' (j * 5 + r) (by omega), encsG_at l j r hj hr]
      exact hv
    exact ⟨key 0 _ (by omega) rfl, key 1 _ (by omega) rfl, key 2 _ (by omega) rfl, key 3 _ (by omega) rfl, key 4 _ (by omega) rfl⟩
theorem cells5p {X : World} {V : Nat} {v0 v1 v2 v3 v4 : Value} {t : TypeId} {fr : Nat × Nat} (h : X.heap[V]? = some (.cells #[v0, v1, v2, v3, v4] t fr)) :
    X.cell? ⟨V, 0, none⟩ = some v0 ∧ X.cell? ⟨V, 1, none⟩ = some v1 ∧ X.cell? ⟨V, 2, none⟩ = some v2 ∧ X.cell? ⟨V, 3, none⟩ = some v3 ∧ X.cell? ⟨V, 4, none⟩ = some v4 := ⟨cells_at h 0, cells_at h 1, cells_at h 2, cells_at h 3, cells_at h 4⟩
/-- the walk's own form of == of two instructions -/
theorem eqIn (x y : Iv) (w : World) : (Op.equalIn 10000 55 (.agg #[.int .u8 x.op, .int .u8 x.a, .int .u16 x.b, .int .u32 x.c]) (.agg #[.int .u8 y.op, .int .u8 y.a, .int .u16 y.b, .int .u32 y.c])).run Tryd.prog w = .ok (decide (x = y)) w := by
  have u1 := Tryd.underlying5
  have a1 := Tryd.isAgg5
  have z1 := Tryd.sizeOf5
  have u2 := Tryd.underlying53
  have a2 := Tryd.isAgg53
  have z2 := Tryd.sizeOf53
  have u3 := Tryd.underlying23
  have a3 := Tryd.isAgg23
  have z3 := Tryd.sizeOf23
  have hS : Tryd.prog.underlying 55 = some (.struct (Tryd.prog.fieldsOf 55)) := by kernel_rfl
  have hp : Tryd.prog.stoodInHeld 55 = false := by kernel_rfl
  have hxy : decide (x = y) = (x.op == y.op && (x.a == y.a && (x.b == y.b && x.c == y.c))) := by
    rw [Bool.eq_iff_iff]
    simp only [decide_eq_true_eq, Bool.and_eq_true, beq_iff_eq]
    exact ⟨fun h => by subst h; simp, fun h => Iv.eq_of h.1 h.2.1 h.2.2.1 h.2.2.2⟩
  rw [hxy, show (10000 : Nat) = 9999 + 1 from rfl, run_equalIn_agg w 9999 55 _ _ hS hp]
  simp only [Program.fieldsOf, Tryd.underlying55]
  go_simp
  by_cases h1 : x.op = y.op <;> by_cases h2 : x.a = y.a <;> by_cases h3 : x.b = y.b <;> by_cases h4 : x.c = y.c <;> simp [h1, h2, h3, h4]
def gv (g : Gr) : Value := .agg #[.int .u8 g.op, .int .u8 g.a, .int .u16 0, .int .u32 0, .int .i64 g.w]
/-- one grant: does it let the instruction be? -/
theorem isIt_any (i : Iv) (hb : 0 ≤ i.b ∧ i.b ≤ 65535) (g : Gr) (L : Nat) (w : World) (hL : w.heap[L]? = some (.cells #[.int .u8 i.op, .int .u8 i.a, .int .u16 i.b, .int .u32 i.c] 55 (0, 0))) :
    Calls Tryd.prog 34 #[gv g, .pointer (some ⟨L, 0, none⟩)] w fun e w' => e = .returned (.bool (isG i g)) ∧ Below w.heap.size w w' := by
  obtain ⟨go, ga, gw⟩ := g
  obtain ⟨op, a, b, c⟩ := i
  simp only at hb hL
  unfold gv
  simp only
  have hlt := lt_of_block hL
  obtain ⟨S, hS⟩ : ∃ S, w.heap.size = S := ⟨_, rfl⟩
  have HS := Lib.hid hS
  have HL1 : Hid ((w.alloc (.cells #[.int .u8 go, .int .u8 ga, .int .u16 0, .int .u32 0, .int .i64 gw] 77)).heap[L]? = some (.cells #[.int .u8 op, .int .u8 a, .int .u16 b, .int .u32 c] 55 (0, 0))) := (Below.heap_alloc _ _ _ hlt).trans hL
  have HG1 : Hid ((w.alloc (.cells #[.int .u8 go, .int .u8 ga, .int .u16 0, .int .u32 0, .int .i64 gw] 77)).heap[S]? = some (.cells #[.int .u8 go, .int .u8 ga, .int .u16 0, .int .u32 0, .int .i64 gw] 77 (0, 0))) := by show _ = _; rw [← hS]; exact alloc_new w _
  have HB1 : Hid (Below S w (w.alloc (.cells #[.int .u8 go, .int .u8 ga, .int .u16 0, .int .u32 0, .int .i64 gw] 77))) := by show Below _ _ _; rw [← hS]; exact (Below.refl _ w).alloc (Nat.le_refl _) _
  have hwb : IntKind.i64.wrap b = b := by simp [IntKind.wrap, IntKind.bits, IntKind.signed]; omega
  have heq := fun W => eqIn ⟨go, ga, 0, 0⟩ ⟨op, a, 0, 0⟩ W
  obtain ⟨E, hE⟩ : ∃ E, decide ((⟨go, ga, 0, 0⟩ : Iv) = ⟨op, a, 0, 0⟩) = E := ⟨_, rfl⟩
  obtain ⟨D, hD⟩ : ∃ D, decide (b < gw) = D := ⟨_, rfl⟩
  have HR : Hid (isG ⟨op, a, b, c⟩ ⟨go, ga, gw⟩ = (E && D)) := by show _ = _; unfold isG; simp only [hE, hD]
  rw [hE] at heq
  clear hE hL hlt
  go_enter Tryd.func34, Tryd.ntmps34
  go_upto_region 1 with fail
  clear hS
  generalize w.alloc (.cells #[.int .u8 go, .int .u8 ga, .int .u16 0, .int .u32 0, .int .i64 gw] 77) = X at *
  obtain ⟨x0, x1, x2, x3⟩ := cells4 HL1.out
  obtain ⟨z0, z1, z2, z3, z4⟩ := cells5p HG1.out
  cases E with
  | false =>
    go_wp2_with fail
    go_ret
    exact ⟨ret_bool (by rw [HR.out]; rfl), by rw [HS.out]; exact HB1.out⟩
  | true =>
    go_wp2_with fail
    go_ret
    exact ⟨ret_bool (by rw [HR.out]; first | rfl | simp), by rw [HS.out]; exact HB1.out⟩
set_option maxHeartbeats 1600000 in
/-- the number of the first grant that lets it be, or -1 -/
theorem gindex_any (l : List Gr) (a : Option Addr) (n c : Nat) (hn : n ≤ 1000000) (p : Nat → Bool) (L : Nat) (w : World) (h : GRow w a n l)
    (hp : ∀ k, k < n → ∀ W, Below w.heap.size w W → Calls Tryd.prog 34 #[gv (l.getD k gz), .pointer (some ⟨L, 0, none⟩)] W fun e W' => e = .returned (.bool (p k)) ∧ Below W.heap.size W W') :
    Calls Tryd.prog 58 #[.slice a n c, .func (.func 34) #[] #[.pointer (some ⟨L, 0, none⟩)]] w fun e w' => e = .returned (.int .i64 (idxA p n)) ∧ Below w.heap.size w w' := by
  have HA := Lib.hid (fun W (hb : Below w.heap.size w W) => (h.below hb (Nat.le_refl _)).2)
  have HP := Lib.hid hp
  clear h hp
  go_enter Tryd.func58, Tryd.ntmps58
  go_wp2_with fail
  go_loopw [8] (fun i wr => ∃ k : Nat, k ≤ n ∧ i = .int .i64 k ∧ (∀ t, t < k → p t = false) ∧ Below w.heap.size w wr) (fun i _ => n - (intOf i).toNat)
  case atStart => exact ⟨0, by omega, rfl, fun t ht => by omega, Below.refl _ _⟩
  case round =>
    obtain ⟨k, hk, rfl, hno, hbel⟩ := hrel
    have HNo := Lib.hid hno
    have HB := Lib.hid hbel
    clear hno hbel
    by_cases hlt : k < n
    · have hd : decide ((k : Int) < (n : Int)) = true := decide_eq_true (by omega)
      have k0 : (0 : Int) ≤ k := by omega
      have k1 : (k : Int) < n := by omega
      obtain ⟨b, off, rfl, hc⟩ := (HA.out wr HB.out).resolve_left (by omega)
      obtain ⟨c0, c1, c2, c3, c4⟩ := hc k hlt
      have HPk := Lib.hid (HP.out k hlt wr HB.out)
      clear hc
      generalize l.getD k gz = x at *
      obtain ⟨op, ia, iw⟩ := x
      unfold gv at HPk
      simp only at *
      go_wp2_with fail
      refine HPk.out.mono ?_
      rintro e w2 ⟨rfl, hb2⟩
      have HB2 := Lib.hid (HB.out.trans (hb2.mono HB.out.size))
      clear hb2 c0 c1 c2 c3 c4 HPk
      generalize hpk : p k = b2 at *
      have HK := Lib.hid hpk
      clear hpk
      cases b2 with
      | true =>
        have HR : Hid (idxA p n = (k : Nat)) := by
          show _ = _
          unfold idxA
          rw [first_at hlt HNo.out HK.out, if_pos hlt]
        go_wp2_with fail
        go_ret
        exact ⟨ret_int HR.out.symm, HB2.out⟩
      | false =>
        go_wp2_with fail
        refine ⟨⟨k + 1, by omega, by simp, fun t ht => ?_, HB2.out⟩, by simp [intOf]; omega⟩
        by_cases e : t = k
        · rw [e]; exact HK.out
        · exact HNo.out t (by omega)
    · obtain rfl : k = n := by omega
      have hd : decide ((k : Int) < (k : Int)) = false := decide_eq_false (by omega)
      have HR : Hid (idxA p k = -1) := by
        show _ = _
        unfold idxA
        rw [first_none HNo.out, if_neg (Nat.lt_irrefl _)]
      go_wp2_with fail
      go_ret
      exact ⟨ret_int HR.out.symm, HB.out⟩
theorem any_first (q : Gr → Bool) (l : List Gr) : l.any q = decide (0 ≤ idxA (fun k => q (l.getD k gz)) l.length) := by
  unfold idxA
  rw [Bool.eq_iff_iff, decide_eq_true_eq, List.any_eq_true]
  constructor
  · rintro ⟨x, hx, hq⟩
    obtain ⟨k, hk, rfl⟩ := List.getElem_of_mem hx
    have : first (fun k => q (l.getD k gz)) l.length < l.length := by
      rcases Nat.lt_or_ge (first (fun k => q (l.getD k gz)) l.length) l.length with h | h
      · exact h
      · exfalso
        have := first_miss (p := fun k => q (l.getD k gz)) (n := l.length) (t := k) (by omega)
        simp only [List.getD_eq_getElem?_getD, List.getElem?_eq_getElem hk, Option.getD_some] at this
        rw [hq] at this
        cases this
    rw [if_pos this]
    omega
  · intro h
    by_cases q2 : first (fun k => q (l.getD k gz)) l.length < l.length
    · exact ⟨_, getD_mem gz q2, first_hit q2⟩
    · rw [if_neg q2] at h
      omega
theorem contains_any (l : List Gr) (a : Option Addr) (n c : Nat) (hn : n ≤ 1000000) (i : Iv) (hb : 0 ≤ i.b ∧ i.b ≤ 65535) (L : Nat) (w : World) (h : GRow w a n l) (hL : w.heap[L]? = some (.cells #[.int .u8 i.op, .int .u8 i.a, .int .u16 i.b, .int .u32 i.c] 55 (0, 0))) :
    Calls Tryd.prog 35 #[.slice a n c, .func (.func 34) #[] #[.pointer (some ⟨L, 0, none⟩)]] w fun e w' => e = .returned (.bool (l.any (isG i))) ∧ Below w.heap.size w w' := by
  have hlen := h.1
  have HC := Lib.hid (gindex_any l a n c hn (fun k => isG i (l.getD k gz)) L w h (fun k hk W hbW => isIt_any i hb _ L W ((hbW.block L (lt_of_block hL)).trans hL)))
  have HR : Hid (l.any (isG i) = decide (0 ≤ idxA (fun k => isG i (l.getD k gz)) n)) := by show _ = _; rw [← hlen]; exact any_first _ _
  clear h hL hlen
  generalize idxA (fun k => isG i (l.getD k gz)) n = K at *
  obtain ⟨D, hD⟩ : ∃ D, decide (0 ≤ K) = D := ⟨_, rfl⟩
  rw [hD] at HR
  go_enter Tryd.func35, Tryd.ntmps35
  go_wp2_with fail
  refine HC.out.mono ?_
  rintro e w1 ⟨rfl, hb1⟩
  have HB1 := Lib.hid hb1
  clear hb1
  go_wp2_with fail
  go_ret
  exact ⟨ret_bool HR.out.symm, HB1.out⟩
theorem refusal_any (op : Int) (w : World) : Calls Tryd.prog 36 #[.int .u8 op] w fun e w' => e = .returned (.int .i64 (refE op)) ∧ w' = w := by
  by_cases h23 : op = 23
  · subst h23; go_enter Tryd.func36, Tryd.ntmps36; go_wp2_with fail; go_ret; exact ⟨rfl, rfl⟩
  by_cases h24 : op = 24
  · subst h24; go_enter Tryd.func36, Tryd.ntmps36; go_wp2_with fail; go_ret; exact ⟨rfl, rfl⟩
  by_cases h25 : op = 25
  · subst h25; go_enter Tryd.func36, Tryd.ntmps36; go_wp2_with fail; go_ret; exact ⟨rfl, rfl⟩
  by_cases h26 : op = 26
  · subst h26; go_enter Tryd.func36, Tryd.ntmps36; go_wp2_with fail; go_ret; exact ⟨rfl, rfl⟩
  by_cases h21 : op = 21
  · subst h21; go_enter Tryd.func36, Tryd.ntmps36; go_wp2_with fail; go_ret; exact ⟨rfl, rfl⟩
  by_cases h22 : op = 22
  · subst h22; go_enter Tryd.func36, Tryd.ntmps36; go_wp2_with fail; go_ret; exact ⟨rfl, rfl⟩
  have HR : Hid (refE op = 0) := by
    show _ = _
    unfold refE pOp
    rw [if_neg (by simp only [Bool.and_eq_true, decide_eq_true_eq]; omega), if_neg (by omega)]
  have e23 : (op == 23) = false := by simpa using h23
  have e24 : (op == 24) = false := by simpa using h24
  have e25 : (op == 25) = false := by simpa using h25
  have e26 : (op == 26) = false := by simpa using h26
  have e21 : (op == 21) = false := by simpa using h21
  have e22 : (op == 22) = false := by simpa using h22
  clear h23 h24 h25 h26 h21 h22
  go_enter Tryd.func36, Tryd.ntmps36
  go_wp2_with fail
  go_ret
  exact ⟨ret_int HR.out.symm, rfl⟩
/-- an instruction held against a list of grants -/
theorem hold_any (i : Iv) (hb : 0 ≤ i.b ∧ i.b ≤ 65535) (l : List Gr) (a : Option Addr) (n c : Nat) (hn : n ≤ 1000000) (w : World) (h : GRow w a n l) :
    Calls Tryd.prog 17 #[iv i, .slice a n c] w fun e w' => e = .returned (.int .i64 (holdE i l)) ∧ Below w.heap.size w w' := by
  obtain ⟨S, hS⟩ : ∃ S, w.heap.size = S := ⟨_, rfl⟩
  have HS := Lib.hid hS
  have HX : Hid ((w.alloc (.cells #[.int .u8 i.op, .int .u8 i.a, .int .u16 i.b, .int .u32 i.c] 55)).heap[S]? = some (.cells #[.int .u8 i.op, .int .u8 i.a, .int .u16 i.b, .int .u32 i.c] 55 (0, 0))) := by show _ = _; rw [← hS]; exact alloc_new w _
  have HB : Hid (Below S w (w.alloc (.cells #[.int .u8 i.op, .int .u8 i.a, .int .u16 i.b, .int .u32 i.c] 55))) := by show Below _ _ _; rw [← hS]; exact (Below.refl _ w).alloc (Nat.le_refl _) _
  have HC := Lib.hid (contains_any l a n c hn i hb S _ (h.below (B := w.heap.size) ((Below.refl _ w).alloc (Nat.le_refl _) (.cells #[.int .u8 i.op, .int .u8 i.a, .int .u16 i.b, .int .u32 i.c] 55)) (Nat.le_refl _)) HX.out)
  have HE : Hid (holdE i l = if l.any (isG i) = true then 0 else refE i.op) := rfl
  have HF := Lib.hid (fun W => refusal_any i.op W)
  clear h
  unfold iv
  obtain ⟨op, ia, ib, ic⟩ := i
  simp only at *
  generalize l.any (isG ⟨op, ia, ib, ic⟩) = E at *
  generalize holdE ⟨op, ia, ib, ic⟩ l = V at *
  generalize refE op = R at *
  go_enter Tryd.func17, Tryd.ntmps17
  go_upto_region 1 with fail
  clear hS
  generalize w.alloc (.cells #[.int .u8 op, .int .u8 ia, .int .u16 ib, .int .u32 ic] 55) = X at *
  go_wp2_with fail
  refine HC.out.mono ?_
  rintro e w1 ⟨rfl, hb1⟩
  have HX1 : Hid (w1.heap[S]? = _) := (hb1.block S (lt_of_block HX.out)).trans HX.out
  have HB1 : Hid (Below S w w1) := HB.out.trans (hb1.mono (by have := lt_of_block HX.out; omega))
  clear hb1
  cases E with
  | true =>
    go_wp2_with fail
    go_ret
    exact ⟨by rw [HE.out]; rfl, by rw [HS.out]; exact HB1.out⟩
  | false =>
    obtain ⟨x0, x1, x2, x3⟩ := cells4 HX1.out
    go_wp2_with fail
    refine (HF.out _).mono ?_
    rintro e w2 ⟨rfl, hw⟩
    subst w2
    go_wp2_with fail
    go_ret
    exact ⟨by rw [HE.out]; rfl, by rw [HS.out]; exact HB1.out⟩
end Ver
end Go.Proofs.YtjoiogdckbaeaaaDoor
namespace Go.Proofs.YtjoiogdckbaeaaaDoor
open Go.ChangeShapes Go.WideShapes Go.ChangeAt Go.RowKit
namespace Ver
open Isa Flw
set_option linter.unusedVariables false
set_option linter.unusedSimpArgs false
def GrantsP (S : Nat) (part : Int) (c : Cf) (w : World) (e : Ending) (w' : World) : Prop := ∃ v, e = .returned v ∧ GrO S v (grantsL part c) w' ∧ Below S w w'
set_option maxRecDepth 100000 in
set_option maxHeartbeats 6400000 in
theorem grants_any (part : Int) (hp : -9223372036854775808 ≤ part ∧ part ≤ 9223372036854775807) (m : Cm) (ds : List Pd) (c : Cf) (w : World) (h : CfIn w m ds c) :
    Calls Tryd.prog 15 #[.int .i64 part, m.val] w (GrantsP w.heap.size part c w) := by
  obtain ⟨S, hS⟩ : ∃ S, w.heap.size = S := ⟨_, rfl⟩
  rw [hS]
  have HX0 : Hid ((w.alloc (.cells m.cells 33)).heap[S]? = some (.cells m.cells 33 (0, 0))) := by show _ = _; rw [← hS]; exact alloc_new w _
  have HB0 : Hid (Below S w (w.alloc (.cells m.cells 33))) := by show Below _ _ _; rw [← hS]; exact (Below.refl _ w).alloc (Nat.le_refl _) _
  have HZ0 : Hid ((w.alloc (.cells m.cells 33)).heap.size = S + 1) := by show _ = _; rw [World.size_alloc, hS]
  have hc1 : CfIn (w.alloc (.cells m.cells 33)) m ds c := h.below ((Below.refl w.heap.size w).alloc (Nat.le_refl _) _) (Nat.le_refl _)
  clear h
  obtain ⟨mem, ap, np, cp, aq, nq, cq, ins, sa, ns, cs, fr, fw, fl, fs, al, nl, cl, vi, dg, rq, sg⟩ := m
  unfold Cm.val
  unfold Cm.cells at *
  simp only at *
  have hpt : PtRow _ aq nq c.po := hc1.pt
  have hlq : nq ≤ cq ∧ cq ≤ 9223372036854775807 := hc1.lq
  have hls : ns ≤ cs ∧ cs ≤ 9223372036854775807 := hc1.ls
  have hfr : 0 ≤ fr ∧ fr ≤ 4294967295 := hc1.wr
  have hlen : c.po.length = nq := hpt.1
  have HIns : Hid (ins = c.ins) := hc1.ins
  have HNs : Hid (ns = c.ns) := hc1.ns
  have HFr : Hid (fr = c.fr) := hc1.fr
  have HFw : Hid (fw = c.fw) := hc1.fw
  have HPt := Lib.hid hpt
  clear hc1 hpt
  obtain ⟨K, hK⟩ : ∃ K : Nat, K = min nq 256 := ⟨_, rfl⟩
  have hm1 := fun X => run_min (nq : Int) 256 ((K : Nat) : Int) (by omega) X
  obtain ⟨M, hM⟩ : ∃ M : Int, M = min ins 256 := ⟨_, rfl⟩
  have hm2 := fun X => run_min ins 256 M hM X
  obtain ⟨O, hO⟩ : ∃ O : Nat, O = min ns 256 := ⟨_, rfl⟩
  have hm3 := fun X => run_min (ns : Int) 256 ((O : Nat) : Int) (by omega) X
  have HK := Lib.hid hK
  have HM := Lib.hid hM
  have HO := Lib.hid hO
  have HL := Lib.hid hlen
  have hKq : K ≤ nq := by omega
  have hK2 : K ≤ 256 := by omega
  have hO2 : O ≤ 256 := by omega
  have hM2 : M ≤ 256 := by omega
  have hKc : K ≤ cq := by omega
  clear hK hM hO hlen
  have HS := Lib.hid hS
  have HIn := Lib.hid (fun X => inSet_any fr part hfr X)
  go_enter Tryd.func15, Tryd.ntmps15
  go_upto_region 1 with fail
  clear hS
  generalize w.alloc (.cells #[.int .u32 mem, .slice ap np cp, .slice aq nq cq, .int .i64 ins, .slice sa ns cs, .int .u32 fr, .int .i64 fw, .int .u32 fl, .int .u32 fs, .slice al nl cl, .int .i64 vi, .int .u8 dg, .int .i64 rq, .int .i64 sg] 33) = X at *
  go_upto_region 2 with fail
  have hz := HZ0.out
  rw [hz]
  have HP0 : Hid (PG (S + 1) X (portsG part c.po 0) (X.alloc (.cells #[.slice none 0 0] 61))) := by
    refine ⟨⟨_, by have := alloc_new X (.cells #[.slice none 0 0] 61); rwa [hz] at this, ?_⟩, by rw [← hz]; exact (Below.refl _ X).alloc (Nat.le_refl _) _⟩
    exact World.ownsRow_nil _ _ _ _
  have HC0 : Hid ((X.alloc (.cells #[.slice none 0 0] 61)).heap[S]? = some (.cells #[.int .u32 mem, .slice ap np cp, .slice aq nq cq, .int .i64 ins, .slice sa ns cs, .int .u32 fr, .int .i64 fw, .int .u32 fl, .int .u32 fs, .slice al nl cl, .int .i64 vi, .int .u8 dg, .int .i64 rq, .int .i64 sg] 33 (0, 0))) := (Below.heap_alloc _ _ _ (by omega)).trans HX0.out
  clear hz
  generalize X.alloc (.cells #[.slice none 0 0] 61) = X1 at *
  obtain ⟨y1, y2, y3, y4, y5, y6⟩ := cells14p HC0.out
  go_wp2_with fail
  go_loopw [21] (fun i wr => ∃ k : Nat, k ≤ K ∧ i = .int .i64 k ∧ PG (S + 1) X (portsG part c.po k) wr) (fun i _ => K - (intOf i).toNat)
  case atStart => exact ⟨0, by omega, rfl, HP0.out⟩
  case round =>
    obtain ⟨k, hk, rfl, hpg⟩ := hrel
    have HG := Lib.hid hpg
    clear hpg y1 y2 y3 y4 y5 y6
    by_cases hlt : k < K
    · have hd : decide ((k : Int) < (K : Int)) = true := decide_eq_true (by omega)
      have k0 : (0 : Int) ≤ k := by omega
      have k1 : (k : Int) < K := by omega
      have hsz0 := HZ0.out
      have hbelX := HG.out.bel
      obtain ⟨pb, po, rfl, hat, hwf⟩ := (HPt.out.below hbelX (by omega)).at k (by omega)
      have HGe : Hid (portsG part c.po (k + 1) = portsG part c.po k ++ portG part (c.po.getD k pz) (k : Int)) := rfl
      have HLe := Lib.hid (portsG_len part c.po k)
      generalize c.po.getD k pz = d at *
      obtain ⟨dw, dr, dd⟩ := d
      unfold PtAt at hat
      simp only at hat
      obtain ⟨t0, t1, t2⟩ := hat
      have hrd : 0 ≤ dd ∧ dd ≤ 4294967295 := hwf.2.2
      have HIs := Lib.hid (fun W => inSet_any dd part hrd W)
      obtain ⟨V, hV⟩ : ∃ V, wr.heap.size = V := ⟨_, rfl⟩
      have hszw := hbelX.size
      have HVs : Hid (S + 1 < V) := by
        show _ < _
        obtain ⟨v, hb, _⟩ := HG.out.box
        have := lt_of_block hb
        omega
      have HGa := Lib.hid (HG.out.alloc HZ0.out (.cells #[.int .i64 dw, .int .i64 dr, .int .u32 dd] 48))
      have HVa : Hid ((wr.alloc (.cells #[.int .i64 dw, .int .i64 dr, .int .u32 dd] 48)).heap[V]? = some (.cells #[.int .i64 dw, .int .i64 dr, .int .u32 dd] 48 (0, 0))) := by show _ = _; rw [← hV]; exact alloc_new wr _
      clear hwf hszw hbelX hsz0 HG
      go_upto_region 6 with fail
      clear t0 t1 t2 hV
      generalize wr.alloc (.cells #[.int .i64 dw, .int .i64 dr, .int .u32 dd] 48) = w1 at *
      obtain ⟨z0, z1, z2⟩ := cells3p HVa.out
      obtain ⟨B1, hB1⟩ : ∃ B1, decide (part = dr) = B1 := ⟨_, rfl⟩
      have hq1 : (part == dr) = B1 := by rw [← hB1]; rfl
      unfold portG at HGe
      simp only at HGe
      rw [hB1] at HGe
      obtain ⟨B2, hB2⟩ : ∃ B2, bit dd part = B2 := ⟨_, rfl⟩
      rw [hB2] at HGe HIs
      clear hB1 hB2
      have HPut := Lib.hid (fun (op kk n : Int) (hkk : 0 ≤ kk ∧ kk ≤ 255) (W : World) (l : List Gr) (h : PG (S + 1) X l W) (hl : l.length ≤ 2000) => putg_any op kk n hkk h hl)
      cases B1 with
      | false =>
        go_wp2_with fail
        refine (HIs.out _).mono ?_
        rintro e w2 ⟨rfl, rfl⟩
        cases B2 with
        | false =>
          go_wp2_with fail
          refine ⟨⟨k + 1, by omega, by simp, ?_⟩, by simp [intOf]; omega⟩
          rw [HGe.out]
          simpa using HGa.out
        | true =>
          go_wp2_with fail
          refine (HPut.out 23 (k : Int) dw ⟨by omega, by omega⟩ _ _ HGa.out (by have := HLe.out; simp; omega)).mono ?_
          rintro e w3 ⟨rfl, hg3, hk3⟩
          have HG3 := Lib.hid hg3
          have HV3 := Lib.hid (hk3 V _ _ HVa.out (by decide) (by have := HVs.out; omega))
          clear hg3 hk3 z0 z1 z2
          obtain ⟨z0, z1, z2⟩ := cells3p HV3.out
          go_wp2_with fail
          refine (HPut.out 24 (k : Int) 65536 ⟨by omega, by omega⟩ _ _ HG3.out (by have := HLe.out; simp; omega)).mono ?_
          rintro e w4 ⟨rfl, hg4, hk4⟩
          have HG4 := Lib.hid hg4
          have HV4 := Lib.hid (hk4 V _ _ HV3.out (by decide) (by have := HVs.out; omega))
          clear hg4 hk4 z0 z1 z2
          obtain ⟨z0, z1, z2⟩ := cells3p HV4.out
          go_wp2_with fail
          refine ⟨⟨k + 1, by omega, by simp, ?_⟩, by simp [intOf]; omega⟩
          rw [HGe.out]
          simpa [rdG, wrG] using HG4.out
      | true =>
        go_wp2_with fail
        refine (HPut.out 23 (k : Int) dw ⟨by omega, by omega⟩ _ _ HGa.out (by have := HLe.out; simp; omega)).mono ?_
        rintro e w3 ⟨rfl, hg3, hk3⟩
        have HG3 := Lib.hid hg3
        have HV3 := Lib.hid (hk3 V _ _ HVa.out (by decide) (by have := HVs.out; omega))
        clear hg3 hk3 z0 z1 z2
        obtain ⟨z0, z1, z2⟩ := cells3p HV3.out
        go_wp2_with fail
        refine (HPut.out 24 (k : Int) 65536 ⟨by omega, by omega⟩ _ _ HG3.out (by have := HLe.out; simp; omega)).mono ?_
        rintro e w4 ⟨rfl, hg4, hk4⟩
        have HG4 := Lib.hid hg4
        have HV4 := Lib.hid (hk4 V _ _ HV3.out (by decide) (by have := HVs.out; omega))
        clear hg4 hk4 z0 z1 z2
        obtain ⟨z0, z1, z2⟩ := cells3p HV4.out
        go_wp2_with fail
        refine (HPut.out 25 (k : Int) dw ⟨by omega, by omega⟩ _ _ HG4.out (by have := HLe.out; simp; omega)).mono ?_
        rintro e w5 ⟨rfl, hg5, hk5⟩
        have HG5 := Lib.hid hg5
        have HV5 := Lib.hid (hk5 V _ _ HV4.out (by decide) (by have := HVs.out; omega))
        clear hg5 hk5 z0 z1 z2
        obtain ⟨z0, z1, z2⟩ := cells3p HV5.out
        go_wp2_with fail
        refine (HPut.out 26 (k : Int) 65536 ⟨by omega, by omega⟩ _ _ HG5.out (by have := HLe.out; simp; omega)).mono ?_
        rintro e w6 ⟨rfl, hg6, hk6⟩
        have HG6 := Lib.hid hg6
        have HV6 := Lib.hid (hk6 V _ _ HV5.out (by decide) (by have := HVs.out; omega))
        clear hg6 hk6 z0 z1 z2
        obtain ⟨z0, z1, z2⟩ := cells3p HV6.out
        go_wp2_with fail
        refine ⟨⟨k + 1, by omega, by simp, ?_⟩, by simp [intOf]; omega⟩
        rw [HGe.out]
        simpa [rdG, wrG] using HG6.out
    · obtain rfl : k = K := by omega
      have hd : decide ((k : Int) < (k : Int)) = false := decide_eq_false (by omega)
      have hC2 := ((HG.out.bel.block S (by have := HZ0.out; omega)).trans HX0.out)
      obtain ⟨y1, y2, y3, y4, y5, y6⟩ := cells14p hC2
      clear hC2 HPt
      obtain ⟨bf, hbf⟩ : ∃ bf, bit fr part = bf := ⟨_, rfl⟩
      rw [hbf] at HIn
      have HBf := Lib.hid hbf
      obtain ⟨G0, hG0⟩ : ∃ G0, portsG part c.po k = G0 := ⟨_, rfl⟩
      have HGl : Hid (G0.length ≤ 1024) := by show _ ≤ _; rw [← hG0]; exact Nat.le_trans (portsG_len _ _ _) (by omega)
      have HG0 := Lib.hid hG0
      rw [hG0] at HG
      have HPut := Lib.hid (fun (op kk n : Int) (hkk : 0 ≤ kk ∧ kk ≤ 255) (W : World) (l : List Gr) (h : PG (S + 1) X l W) (hl : l.length ≤ 2000) => putg_any op kk n hkk h hl)
      clear hbf hG0
      go_wp2_with fail
      refine (HIn.out _).mono ?_
      rintro e w2 ⟨rfl, rfl⟩
      cases bf with
      | false =>
        go_upto_region 20 with fail
        obtain ⟨bw, hbw⟩ : ∃ bw, decide (part = fw) = bw := ⟨_, rfl⟩
        have hqw : (part == fw) = bw := by rw [← hbw]; rfl
        have HBw := Lib.hid hbw
        clear hbw
        cases bw with
        | false =>
          obtain ⟨v, hvb, hvo⟩ := HG.out.box
          obtain ⟨av, cv, rfl, _, _⟩ := own_shape hvo
          have q0 := (show _ = some (Value.slice av _ cv) from cells_at hvb 0)
          have HO2 := Lib.hid hvo
          clear hvb hvo
          go_wp2_with fail
          go_ret
          refine ⟨_, rfl, ?_, HB0.out.trans (HG.out.bel.mono (by omega))⟩
          have e1 : insG part c = [] := by
            unfold insG
            rw [← HFr.out, HBf.out]
            rfl
          have e2 : outsG part c = [] := by
            unfold outsG
            rw [← HFw.out, HBw.out]
            rfl
          have e3 : portsG part c.po (min c.po.length 256) = G0 := by rw [HL.out, ← HK.out]; exact HG0.out
          unfold grantsL
          rw [e1, e2, e3]
          exact Goes.own_base (S := S + 1 + 1) (by simpa [GrO] using HO2.out) (by omega)
        | true =>
          go_wp2_with fail
          try rw [hqw]
          clear hqw
          go_loopw [81] (fun i wr => ∃ t : Nat, t ≤ O ∧ i = .int .i64 t ∧ PG (S + 1) X (G0 ++ sameG 22 t) wr) (fun i _ => O - (intOf i).toNat)
          case atStart => exact ⟨0, by omega, rfl, by simpa [sameG] using HG.out⟩
          case round =>
            obtain ⟨q, hqo, rfl, hpg3⟩ := hrel
            have HGo := Lib.hid hpg3
            clear hpg3 y1 y2 y3 y4 y5 y6
            by_cases hlt3 : q < O
            · have hd3 : decide ((q : Int) < (O : Int)) = true := decide_eq_true (by omega)
              go_wp2_with fail
              refine (HPut.out 22 (q : Int) 65536 ⟨by omega, by omega⟩ _ _ HGo.out (by have h1 := HGl.out; have h2 := sameG_len 22 q; simp only [List.length_append, sameG_len] at *; omega)).mono ?_
              rintro e w4 ⟨rfl, hg4, _⟩
              have HG4 := Lib.hid hg4
              clear hg4
              go_wp2_with fail
              refine ⟨⟨q + 1, by omega, by simp, ?_⟩, by simp [intOf]; omega⟩
              have := HG4.out
              rw [List.append_assoc] at this
              exact this
            · obtain rfl : q = O := by omega
              have hd3 : decide ((q : Int) < (q : Int)) = false := decide_eq_false (by omega)
              obtain ⟨v, hvb, hvo⟩ := HGo.out.box
              obtain ⟨av, cv, rfl, _, _⟩ := own_shape hvo
              have q0 := (show _ = some (Value.slice av _ cv) from cells_at hvb 0)
              have HO2 := Lib.hid hvo
              clear hvb hvo
              go_wp2_with fail
              go_ret
              refine ⟨_, rfl, ?_, HB0.out.trans (HGo.out.bel.mono (by omega))⟩
              have e1 : insG part c = [] := by
                unfold insG
                rw [← HFr.out, HBf.out]
                rfl
              have e2 : outsG part c = sameG 22 q := by
                unfold outsG
                rw [← HFw.out, HBw.out]
                rw [← HNs.out, ← HO.out, if_pos rfl]
              have e3 : portsG part c.po (min c.po.length 256) = G0 := by rw [HL.out, ← HK.out]; exact HG0.out
              unfold grantsL
              rw [e1, e2, e3]
              exact Goes.own_base (S := S + 1 + 1) (by simpa [GrO] using HO2.out) (by omega)
      | true =>
        go_wp2_with fail
        go_loopw [64] (fun i wr => ∃ j : Nat, (j : Int) ≤ max M 0 ∧ i = .int .i64 j ∧ PG (S + 1) X (G0 ++ sameG 21 j) wr) (fun i _ => M.toNat - (intOf i).toNat)
        case atStart => exact ⟨0, by omega, rfl, by simpa [sameG] using HG.out⟩
        case round =>
          obtain ⟨j, hj, rfl, hpg2⟩ := hrel
          have HGi := Lib.hid hpg2
          clear hpg2 y1 y2 y3 y4 y5 y6
          by_cases hlt2 : (j : Int) < M
          · have hd2 : decide ((j : Int) < M) = true := decide_eq_true (by omega)
            go_wp2_with fail
            refine (HPut.out 21 (j : Int) 65536 ⟨by omega, by omega⟩ _ _ HGi.out (by have h1 := HGl.out; simp only [List.length_append, sameG_len] at *; omega)).mono ?_
            rintro e w3 ⟨rfl, hg3, _⟩
            have HG3 := Lib.hid hg3
            clear hg3
            go_wp2_with fail
            refine ⟨⟨j + 1, by omega, by simp, ?_⟩, by simp [intOf]; omega⟩
            have := HG3.out
            rw [List.append_assoc] at this
            exact this
          · have hd2 : decide ((j : Int) < M) = false := decide_eq_false (by omega)
            have HJ : Hid (M.toNat = j) := by show _ = _; omega
            have hC3 := ((HGi.out.bel.block S (by have := HZ0.out; omega)).trans HX0.out)
            obtain ⟨y1, y2, y3, y4, y5, y6⟩ := cells14p hC3
            have HGl : Hid ((G0 ++ sameG 21 j).length ≤ 1280) := by show _ ≤ _; have := HGl.out; simp only [List.length_append, sameG_len] at *; omega
            clear hC3 hlt2
            go_upto_region 20 with fail
            obtain ⟨bw, hbw⟩ : ∃ bw, decide (part = fw) = bw := ⟨_, rfl⟩
            have hqw : (part == fw) = bw := by rw [← hbw]; rfl
            have HBw := Lib.hid hbw
            clear hbw
            cases bw with
            | false =>
              obtain ⟨v, hvb, hvo⟩ := HGi.out.box
              obtain ⟨av, cv, rfl, _, _⟩ := own_shape hvo
              have q0 := (show _ = some (Value.slice av _ cv) from cells_at hvb 0)
              have HO2 := Lib.hid hvo
              clear hvb hvo
              go_wp2_with fail
              go_ret
              refine ⟨_, rfl, ?_, HB0.out.trans (HGi.out.bel.mono (by omega))⟩
              have e1 : insG part c = sameG 21 j := by
                unfold insG
                rw [← HFr.out, HBf.out]
                rw [← HIns.out, ← HM.out, if_pos rfl, HJ.out]
              have e2 : outsG part c = [] := by
                unfold outsG
                rw [← HFw.out, HBw.out]
                rfl
              have e3 : portsG part c.po (min c.po.length 256) = G0 := by rw [HL.out, ← HK.out]; exact HG0.out
              unfold grantsL
              rw [e1, e2, e3]
              exact Goes.own_base (S := S + 1 + 1) (by simpa [GrO] using HO2.out) (by omega)
            | true =>
              go_wp2_with fail
              try rw [hqw]
              clear hqw
              go_loopw [81] (fun i wr => ∃ t : Nat, t ≤ O ∧ i = .int .i64 t ∧ PG (S + 1) X ((G0 ++ sameG 21 j) ++ sameG 22 t) wr) (fun i _ => O - (intOf i).toNat)
              case atStart => exact ⟨0, by omega, rfl, by simpa [sameG] using HGi.out⟩
              case round =>
                obtain ⟨q, hqo, rfl, hpg3⟩ := hrel
                have HGo := Lib.hid hpg3
                clear hpg3 y1 y2 y3 y4 y5 y6
                by_cases hlt3 : q < O
                · have hd3 : decide ((q : Int) < (O : Int)) = true := decide_eq_true (by omega)
                  go_wp2_with fail
                  refine (HPut.out 22 (q : Int) 65536 ⟨by omega, by omega⟩ _ _ HGo.out (by have h1 := HGl.out; have h2 := sameG_len 22 q; simp only [List.length_append, sameG_len] at *; omega)).mono ?_
                  rintro e w4 ⟨rfl, hg4, _⟩
                  have HG4 := Lib.hid hg4
                  clear hg4
                  go_wp2_with fail
                  refine ⟨⟨q + 1, by omega, by simp, ?_⟩, by simp [intOf]; omega⟩
                  have := HG4.out
                  rw [List.append_assoc] at this
                  exact this
                · obtain rfl : q = O := by omega
                  have hd3 : decide ((q : Int) < (q : Int)) = false := decide_eq_false (by omega)
                  obtain ⟨v, hvb, hvo⟩ := HGo.out.box
                  obtain ⟨av, cv, rfl, _, _⟩ := own_shape hvo
                  have q0 := (show _ = some (Value.slice av _ cv) from cells_at hvb 0)
                  have HO2 := Lib.hid hvo
                  clear hvb hvo
                  go_wp2_with fail
                  go_ret
                  refine ⟨_, rfl, ?_, HB0.out.trans (HGo.out.bel.mono (by omega))⟩
                  have e1 : insG part c = sameG 21 j := by
                    unfold insG
                    rw [← HFr.out, HBf.out]
                    rw [← HIns.out, ← HM.out, if_pos rfl, HJ.out]
                  have e2 : outsG part c = sameG 22 q := by
                    unfold outsG
                    rw [← HFw.out, HBw.out]
                    rw [← HNs.out, ← HO.out, if_pos rfl]
                  have e3 : portsG part c.po (min c.po.length 256) = G0 := by rw [HL.out, ← HK.out]; exact HG0.out
                  unfold grantsL
                  rw [e1, e2, e3]
                  exact Goes.own_base (S := S + 1 + 1) (by simpa [GrO] using HO2.out) (by omega)
end Ver
end Go.Proofs.YtjoiogdckbaeaaaDoor
namespace Go.Proofs.YtjoiogdckbaeaaaDoor
open Go.ChangeShapes Go.WideShapes Go.ChangeAt Go.RowKit
namespace Ver
open Isa Flw Hgt Cst
open Rights (Kept)
set_option linter.unusedVariables false
set_option linter.unusedSimpArgs false
/-- with one more bit -/
def noteS (s : Sm) (op : Int) (T : Nat) : Sm :=
  if rdO op = true then { s with r := s.r ||| T } else if wrO op = true then { s with w := s.w ||| T } else if inO op = true then { s with i := s.i ||| T } else if ouO op = true then { s with o := s.o ||| T } else s
structure Sm.wf (s : Sm) : Prop where
  r : s.r < 4294967296
  w : s.w < 4294967296
  i : s.i < 4294967296
  o : s.o < 4294967296
def NoteP (V : Nat) (s : Sm) (w : World) (e : Ending) (w' : World) : Prop := e = .returned (.tuple #[]) ∧ w'.heap[V]? = some (.cells (smC s) 37 (0, 0)) ∧ Kept (fun k => k = V) w w'
theorem bits_or (a b : Nat) (ha : a < 4294967296) (hb : b < 4294967296) : bits .or .u32 a b = ((a ||| b : Nat) : Int) := (bits32 a b ha hb).2.1
set_option maxHeartbeats 1600000 in
theorem note_any (i : Iv) (hi : i.wf) (hs : i.op = 21 ∨ i.op = 22 ∨ i.op = 23 ∨ i.op = 24 ∨ i.op = 25 ∨ i.op = 26 → i.a < 32) (V : Nat) (s : Sm) (hw : s.wf) (w : World) (h : w.heap[V]? = some (.cells (smC s) 37 (0, 0))) :
    Calls Tryd.prog 18 #[.pointer (some ⟨V, 0, none⟩), iv i] w (NoteP V (noteS s i.op (2 ^ i.a.toNat)) w) := by
  obtain ⟨op, a, b, c⟩ := i
  obtain ⟨j, rfl⟩ := Int.eq_ofNat_of_zero_le hi.a.1
  simp only [Int.toNat_natCast] at *
  have hj : j ≤ 255 := by have := hi.a.2; simp only at this; omega
  obtain ⟨T, hT⟩ : ∃ T : Nat, 2 ^ j % 4294967296 = T := ⟨_, rfl⟩
  have hTb : T < 4294967296 := by rw [← hT]; exact Nat.mod_lt _ (by omega)
  have hsh : ((2 : Int) ^ min j 32 % 4294967296) = (T : Int) := by
    have e : ((2 : Int) ^ min j 32) = ((2 ^ min j 32 : Nat) : Int) := by push_cast; rfl
    rw [e, ← hT]
    by_cases q : j < 32
    · rw [show min j 32 = j from by omega]; generalize 2 ^ j = Q at *; omega
    · obtain ⟨d, rfl⟩ : ∃ d, j = 32 + d := ⟨j - 32, by omega⟩
      rw [show min (32 + d) 32 = 32 from by omega, Nat.pow_add, Nat.mul_mod]
      have : (2 : Nat) ^ 32 = 4294967296 := by decide
      rw [this, Nat.mod_self, Nat.zero_mul, Nat.zero_mod]
      rfl
  have HR : Hid (noteS s op (2 ^ j) = noteS s op T) := by
    show _ = _
    by_cases q : j < 32
    · have : 2 ^ j = T := by
        rw [← hT]
        have : (2 : Nat) ^ j < 2 ^ 32 := Nat.pow_lt_pow_right (by omega) q
        exact (Nat.mod_eq_of_lt (by simpa using this)).symm
      rw [this]
    · unfold noteS rdO wrO inO ouO
      have n21 : op ≠ 21 := fun e => by have := hs (by simp [e]); omega
      have n22 : op ≠ 22 := fun e => by have := hs (by simp [e]); omega
      have n23 : op ≠ 23 := fun e => by have := hs (by simp [e]); omega
      have n24 : op ≠ 24 := fun e => by have := hs (by simp [e]); omega
      have n25 : op ≠ 25 := fun e => by have := hs (by simp [e]); omega
      have n26 : op ≠ 26 := fun e => by have := hs (by simp [e]); omega
      simp [n21, n22, n23, n24, n25, n26]
  rw [HR.out]
  have hlt := lt_of_block h
  obtain ⟨S, hS⟩ : ∃ S, w.heap.size = S := ⟨_, rfl⟩
  have HV : Hid ((w.alloc (.cells #[.int .u8 op, .int .u8 (j : Int), .int .u16 b, .int .u32 c] 55)).heap[V]? = some (.cells (smC s) 37 (0, 0))) := (Below.heap_alloc _ _ _ hlt).trans h
  have HI : Hid ((w.alloc (.cells #[.int .u8 op, .int .u8 (j : Int), .int .u16 b, .int .u32 c] 55)).heap[S]? = some (.cells #[.int .u8 op, .int .u8 (j : Int), .int .u16 b, .int .u32 c] 55 (0, 0))) := by show _ = _; rw [← hS]; exact alloc_new w _
  have HK : Hid (Kept (fun k => k = V) w (w.alloc (.cells #[.int .u8 op, .int .u8 (j : Int), .int .u16 b, .int .u32 c] 55))) := (Kept.refl _ w).alloc _
  obtain ⟨sh, sf, sr, sw, si, so⟩ := s
  have o1 := bits_or sr T hw.r hTb
  have o2 := bits_or sw T hw.w hTb
  have o3 := bits_or si T hw.i hTb
  have o4 := bits_or so T hw.o hTb
  clear hT hs hw hi HR h hlt
  unfold iv
  simp only
  go_enter Tryd.func18, Tryd.ntmps18
  go_upto_region 1 with fail
  clear hS
  generalize w.alloc (.cells #[.int .u8 op, .int .u8 (j : Int), .int .u16 b, .int .u32 c] 55) = X at *
  obtain ⟨x0, x1, x2, x3⟩ := cells4 HI.out
  unfold smC at HV
  simp only at HV
  obtain ⟨z0, z1, z2, z3, z4, z5⟩ := cells6 HV.out
  have f2 := fz_at HV.out 2
  have f3 := fz_at HV.out 3
  have f4 := fz_at HV.out 4
  have f5 := fz_at HV.out 5
  have e1 := set_own (k := 2) (.int .u32 ((sr ||| T : Nat) : Int)) HV.out
  have e2 := set_own (k := 3) (.int .u32 ((sw ||| T : Nat) : Int)) HV.out
  have e3 := set_own (k := 4) (.int .u32 ((si ||| T : Nat) : Int)) HV.out
  have e4 := set_own (k := 5) (.int .u32 ((so ||| T : Nat) : Int)) HV.out
  have K1 : ∀ (k : Nat) (v : Value), Kept (fun k => k = V) w (X.setCell ⟨V, k, none⟩ v) := fun k v => HK.out.trans (Goes.kept_set _ _ _ _ rfl)
  have E1 := Lib.hid e1
  have E2 := Lib.hid e2
  have E3 := Lib.hid e3
  have E4 := Lib.hid e4
  have HK1 := Lib.hid K1
  clear e1 e2 e3 e4 K1
  go_upto_region 2 with fail
  rw [hsh]
  clear hsh
  by_cases h23 : op = 23
  · subst h23
    go_wp2_with fail
    exact bodyPost_ret (results_none rfl _ _ _) rfl ⟨rfl, E1.out, HK1.out 2 _⟩
  have q23 : (op == 23) = false := by simpa using h23
  have HQ23 := Lib.hid h23
  clear h23
  by_cases h24 : op = 24
  · subst h24
    go_wp2_with fail
    exact bodyPost_ret (results_none rfl _ _ _) rfl ⟨rfl, E1.out, HK1.out 2 _⟩
  have q24 : (op == 24) = false := by simpa using h24
  have HQ24 := Lib.hid h24
  clear h24
  by_cases h25 : op = 25
  · subst h25
    go_wp2_with fail
    exact bodyPost_ret (results_none rfl _ _ _) rfl ⟨rfl, E2.out, HK1.out 3 _⟩
  have q25 : (op == 25) = false := by simpa using h25
  have HQ25 := Lib.hid h25
  clear h25
  by_cases h26 : op = 26
  · subst h26
    go_wp2_with fail
    exact bodyPost_ret (results_none rfl _ _ _) rfl ⟨rfl, E2.out, HK1.out 3 _⟩
  have q26 : (op == 26) = false := by simpa using h26
  have HQ26 := Lib.hid h26
  clear h26
  by_cases h21 : op = 21
  · subst h21
    go_wp2_with fail
    exact bodyPost_ret (results_none rfl _ _ _) rfl ⟨rfl, E3.out, HK1.out 4 _⟩
  have q21 : (op == 21) = false := by simpa using h21
  have HQ21 := Lib.hid h21
  clear h21
  by_cases h22 : op = 22
  · subst h22
    go_wp2_with fail
    exact bodyPost_ret (results_none rfl _ _ _) rfl ⟨rfl, E4.out, HK1.out 5 _⟩
  have q22 : (op == 22) = false := by simpa using h22
  have HQ22 := Lib.hid h22
  clear h22
  have HN : Hid (noteS ⟨sh, sf, sr, sw, si, so⟩ op T = ⟨sh, sf, sr, sw, si, so⟩) := by
    show _ = _
    unfold noteS rdO wrO inO ouO
    simp [HQ23.out, HQ24.out, HQ25.out, HQ26.out, HQ21.out, HQ22.out]

  clear HQ21 HQ22 HQ23 HQ24 HQ25 HQ26
  go_wp2_with fail
  exact bodyPost_ret (results_none rfl _ _ _) rfl ⟨rfl, by rw [HN.out]; exact HV.out, HK.out⟩
end Ver
end Go.Proofs.YtjoiogdckbaeaaaDoor
