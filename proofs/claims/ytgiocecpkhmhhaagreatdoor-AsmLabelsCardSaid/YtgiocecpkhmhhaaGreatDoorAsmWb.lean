/- The program's answers: a row of instructions that a closure fills; what bytes are read as. · The program's answers: what bytes are read as. -/
import Derived.Test.YtgiocecpkhmhhaaGreatDoorAsmW6
import Derived.Test.YtgiocecpkhmhhaaGreatDoorAsmW5
import Derived.Deep.RegionHeld3
namespace Go.Proofs.YtgiocecpkhmhhaaGreatDoor
open Go.ChangeShapes Go.WideShapes Go.ChangeAt Go.RowKit
namespace Asm
open Isa
set_option linter.unusedVariables false
set_option linter.unusedSimpArgs false
/-! ### A row that is filled one by one -/
def lay (f : Nat → Iv) (m k : Nat) : List Iv := (List.range k).map f ++ List.replicate (m - k) iv0
theorem lay_len (f : Nat → Iv) {m k : Nat} (h : k ≤ m) : (lay f m k).length = m := by unfold lay; simp; omega
theorem lay_set (f : Nat → Iv) {m k : Nat} (h : k < m) : (lay f m k).set k (f k) = lay f m (k + 1) := by
  unfold lay
  rw [List.set_append_right _ _ (by simp)]
  simp only [List.length_map, List.length_range, Nat.sub_self]
  rw [show m - k = (m - (k + 1)) + 1 from by omega, List.replicate_succ, List.set_cons_zero, List.range_succ, List.map_append, List.append_assoc]
  rfl
theorem lay_all (f : Nat → Iv) (m : Nat) : lay f m m = (List.range m).map f := by unfold lay; simp
theorem encs_len (L : List Iv) : (encs L).length = L.length * 4 := by
  unfold encs
  induction L with
  | nil => rfl
  | cons x L ih => rw [List.flatMap_cons, List.length_append, ih]; simp [encI]; omega
theorem encs_set : ∀ (L : List Iv) (k : Nat) (x : Iv), k < L.length →
    ((((encs L).set (k * 4) (.int .u8 x.op)).set (k * 4 + 1) (.int .u8 x.a)).set (k * 4 + 2) (.int .u16 x.b)).set (k * 4 + 3) (.int .u32 x.c) = encs (L.set k x)
  | y :: L, 0, x, _ => by simp [encs, encI]
  | y :: L, k + 1, x, h => by
    have ih := encs_set L k x (by simpa using h)
    have e : encs (y :: L) = .int .u8 y.op :: .int .u8 y.a :: .int .u16 y.b :: .int .u32 y.c :: encs L := by simp [encs, encI]
    have e2 : encs (y :: L.set k x) = .int .u8 y.op :: .int .u8 y.a :: .int .u16 y.b :: .int .u32 y.c :: encs (L.set k x) := by simp [encs, encI]
    rw [List.set_cons_succ, e2, e, ← ih, show (k + 1) * 4 = k * 4 + 1 + 1 + 1 + 1 from by omega, show k * 4 + 1 + 1 + 1 + 1 + 1 = (k * 4 + 1) + 1 + 1 + 1 + 1 from by omega, show k * 4 + 1 + 1 + 1 + 1 + 2 = (k * 4 + 2) + 1 + 1 + 1 + 1 from by omega, show k * 4 + 1 + 1 + 1 + 1 + 3 = (k * 4 + 3) + 1 + 1 + 1 + 1 from by omega]
    simp only [List.set_cons_succ]
/-- a box with a whole row of instructions -/
structure CBox (w : World) (Vc g m : Nat) (L : List Iv) : Prop where
  box : w.heap[Vc]? = some (.cells #[.slice (some ⟨g, 0, none⟩) m m] 25 (0, 0))
  row : w.heap[g]? = some (.cells (encs L).toArray 32 (0, 0))
  ne : Vc ≠ g
  len : L.length = m
theorem CBox.below {w w' : World} {Vc g m : Nat} {L : List Iv} (h : CBox w Vc g m L) {S : Nat} (hb : Below S w w') (hS : w.heap.size ≤ S) : CBox w' Vc g m L :=
  ⟨(hb.block _ (Nat.lt_of_lt_of_le (lt_of_block h.box) hS)).trans h.box, (hb.block _ (Nat.lt_of_lt_of_le (lt_of_block h.row) hS)).trans h.row, h.ne, h.len⟩
theorem CBox.load {w : World} {Vc g m : Nat} {L : List Iv} (h : CBox w Vc g m L) : w.cell? ⟨Vc, 0, none⟩ = some (.slice (some ⟨g, 0, none⟩) m m) := cells_at h.box 0
theorem CBox.at {w : World} {Vc g m : Nat} {L : List Iv} (h : CBox w Vc g m L) {k : Nat} (hk : k < m) (j : Nat) (hj : j < 4) : ∃ v, w.cell? ⟨g, k * 4 + j, none⟩ = some v := by
  have hl := encs_len L
  have hs : k * 4 + j < (encs L).toArray.size := by simp; rw [hl, h.len]; omega
  exact ⟨_, (cells_at h.row (k * 4 + j)).trans (Array.getElem?_eq_getElem hs)⟩
theorem CBox.free {w : World} {Vc g m : Nat} {L : List Iv} (h : CBox w Vc g m L) (j : Nat) : w.frozen? ⟨g, j, none⟩ = false := by simp [World.frozen?, h.row]
theorem heap_setCell_own (w : World) (g i : Nat) (cs : Array Value) (t : TypeId) (v : Value) (h : w.heap[g]? = some (.cells cs t (0, 0))) : (w.setCell ⟨g, i, none⟩ v).heap[g]? = some (.cells (cs.setIfInBounds i v) t (0, 0)) := by
  simp [World.setCell, Array.getElem?_modify, h]
theorem CBox.put {w : World} {Vc g m : Nat} {L : List Iv} (h : CBox w Vc g m L) {k : Nat} (hk : k < m) (x : Iv) :
    CBox ((((w.setCell ⟨g, k * 4, none⟩ (.int .u8 x.op)).setCell ⟨g, k * 4 + 1, none⟩ (.int .u8 x.a)).setCell ⟨g, k * 4 + 2, none⟩ (.int .u16 x.b)).setCell ⟨g, k * 4 + 3, none⟩ (.int .u32 x.c)) Vc g m (L.set k x) := by
  refine ⟨?_, ?_, h.ne, by rw [List.length_set]; exact h.len⟩
  · rw [Below.heap_setCell _ _ _ _ h.ne, Below.heap_setCell _ _ _ _ h.ne, Below.heap_setCell _ _ _ _ h.ne, Below.heap_setCell _ _ _ _ h.ne]
    exact h.box
  · rw [heap_setCell_own _ _ _ _ _ _ (heap_setCell_own _ _ _ _ _ _ (heap_setCell_own _ _ _ _ _ _ (heap_setCell_own _ _ _ _ _ _ h.row)))]
    have := encs_set L k x (by rw [h.len]; exact hk)
    rw [← this]
    simp only [List.setIfInBounds_toArray]
/-! ### Reading -/
def fRead (b : List Int) (k : Nat) : Iv := rdI (b.drop (8 * k))
set_option maxRecDepth 100000 in
set_option maxHeartbeats 3200000 in
theorem rstep_any (b : List Int) (a : Option Addr) (n c : Nat) (hc : n ≤ c) (hc2 : c ≤ 9223372036854775807) (h17 : n ≤ 131072) (base Vb Vc g m : Nat) (hg : base ≤ g) (hbg : Vb ≠ g) (w W : World) (hbw : base ≤ w.heap.size) (hT : Tabs w) (h : Row w a n b) (hW : Below w.heap.size w W) (hg2 : w.heap.size ≤ g)
    (hB : W.heap[Vb]? = some (.cells #[.slice a n c] 38 (0, 0))) (L : List Iv) (hC : CBox W Vc g m L) (k : Nat) (hk : k < m) (hm : n = 8 * m) :
    Calls Tryz.prog 43 #[.int .i64 (k : Int), .pointer (some ⟨Vb, 0, none⟩), .pointer (some ⟨Vc, 0, none⟩)] W fun e w' => e = .returned (.int .i64 (rdE (b.drop (8 * k)))) ∧ CBox w' Vc g m (L.set k (fRead b k)) ∧ Below w.heap.size w w' ∧ w'.heap[Vb]? = some (.cells #[.slice a n c] 38 (0, 0)) := by
  have hrow := h.below hW (Nat.le_refl _)
  obtain ⟨_, hbb, hr3⟩ := hrow
  obtain ⟨b0, off, rfl, hcell⟩ := hr3.resolve_left (by omega)
  have hrd := row_drop ⟨h.1, hbb, .inr ⟨b0, off, rfl, hcell⟩⟩ (8 * k) (by omega)
  have h8k : 8 * k = k * 8 := Nat.mul_comm _ _
  have hrd : Row W (some ⟨b0, off + k * 8, none⟩) (n - k * 8) (b.drop (8 * k)) := by rw [← h8k]; exact hrd
  have HR := Lib.hid (fun W' (hX : Below W.heap.size W W') => read_any (b.drop (8 * k)) (some ⟨b0, off + k * 8, none⟩) (n - k * 8) (c - k * 8) (by omega) (by omega) W' ((hT.below hW (Nat.le_refl _)).below hX (Nat.le_refl _)) (hrd.below hX (Nat.le_refl _)))
  have HF : Hid (fRead b k = rdI (b.drop (8 * k))) := rfl
  have w8 : IntKind.i64.wrap ((k : Int) * 8) = (k : Int) * 8 := by simp [IntKind.wrap, IntKind.bits, IntKind.signed]; omega
  have qc : ¬ c = k * 8 := by omega
  have qn : ((k : Int) * 8).toNat = k * 8 := by omega
  have q0 : (0 : Int) ≤ (k : Int) * 8 := by omega
  have q1 : (k : Int) * 8 ≤ (n : Int) := by omega
  have k0 : (0 : Int) ≤ k := by omega
  have k1 : (k : Int) < m := by omega
  have HC := Lib.hid hC
  have HW := Lib.hid hW
  have HB := Lib.hid hB
  have y1 := hC.load
  have y2 : W.cell? ⟨Vb, 0, none⟩ = some (.slice (some ⟨b0, off, none⟩) n c) := cells_at hB 0
  clear hr3 hcell hbb hrd h hT hC hW hB h8k hm hc h17
  generalize rdE (b.drop (8 * k)) = E at *
  generalize fRead b k = I at *
  have HI := Lib.hid HF.out.symm
  rw [HI.out] at HR
  clear HF HI
  obtain ⟨op, ia, ib, ic⟩ := I
  unfold iv at HR
  simp only at *
  go_enter Tryz.func43, Tryz.ntmps43
  go_wp2_with fail
  have HSk : Hid (∀ w', Below W.heap.size W w' → w'.cell? ⟨Vc, 0, none⟩ = some (.slice (some ⟨g, 0, none⟩) m m) ∧ w'.cell? ⟨Vb, 0, none⟩ = some (.slice (some ⟨b0, off, none⟩) n c)) := fun w' hb => ⟨(HC.out.below hb (Nat.le_refl _)).load, cells_at ((hb.block _ (lt_of_block HB.out)).trans HB.out) 0⟩
  have HSt : Hid (∀ (w' : World) j u, (w'.cell? ⟨Vc, 0, none⟩ = some (.slice (some ⟨g, 0, none⟩) m m) ∧ w'.cell? ⟨Vb, 0, none⟩ = some (.slice (some ⟨b0, off, none⟩) n c)) → (w'.setCell ⟨g, j, none⟩ u).cell? ⟨Vc, 0, none⟩ = some (.slice (some ⟨g, 0, none⟩) m m) ∧ (w'.setCell ⟨g, j, none⟩ u).cell? ⟨Vb, 0, none⟩ = some (.slice (some ⟨b0, off, none⟩) n c)) := fun w' j u h => by
    obtain ⟨h1, h2⟩ := h
    have b1 : (w'.setCell ⟨g, j, none⟩ u).heap[Vc]? = w'.heap[Vc]? := Below.heap_setCell _ _ _ _ HC.out.ne
    have b2 : (w'.setCell ⟨g, j, none⟩ u).heap[Vb]? = w'.heap[Vb]? := Below.heap_setCell _ _ _ _ hbg
    exact ⟨(World.cell?_of_block b1).trans h1, (World.cell?_of_block b2).trans h2⟩
  have HCa := Lib.hid (fun w' (hb : Below W.heap.size W w') => (HC.out.below hb (Nat.le_refl _)))
  have hk4 := Lib.hid hk
  clear hk
  go_region_held3 (fun w' => w'.cell? ⟨Vc, 0, none⟩ = some (.slice (some ⟨g, 0, none⟩) m m) ∧ w'.cell? ⟨Vb, 0, none⟩ = some (.slice (some ⟨b0, off, none⟩) n c)) (first | exact HSk.out _ (by assumption) | exact HSt.out _ _ _ (HSt.out _ _ _ (HSt.out _ _ _ (HSt.out _ _ _ (HSk.out _ (by assumption))))) | go_keep) (first
    | (go_at_call 44; refine (HR.out _ (by first | exact Below.refl _ _ | exact (Below.refl _ _).drew | go_grown)).mono ?_; rintro e w2 ⟨rfl, hb2⟩
       have hb3 : Below W.heap.size W w2 := (Below.refl W.heap.size W).drew.trans hb2
       have HC2 := HCa.out w2 hb3
       obtain ⟨u0, z0⟩ := HC2.at hk4.out 0 (by decide)
       obtain ⟨u1, z1⟩ := HC2.at hk4.out 1 (by decide)
       obtain ⟨u2, z2⟩ := HC2.at hk4.out 2 (by decide)
       obtain ⟨u3, z3⟩ := HC2.at hk4.out 3 (by decide)
       have f0 := HC2.free (k * 4)
       have f1 := HC2.free (k * 4 + 1)
       have f2 := HC2.free (k * 4 + 2)
       have f3 := HC2.free (k * 4 + 3)
       rw [Nat.add_zero] at z0
       have HC3 := Lib.hid HC2
       clear HC2))
  all_goals
    rename_i hK _
    refine hK _ _ ?_
    clear HSk HSt HCa
    have HB3 := Lib.hid hb3
    clear hb2 hb3 z0 z1 z2 z3 f0 f1 f2 f3 y1 y2
    go_wp2_with fail
    go_ret
    refine ⟨rfl, HC3.out.put hk4.out ⟨op, ia, ib, ic⟩, ((((HW.out.trans (HB3.out.mono HW.out.size)).setCell hg2 _).setCell hg2 _).setCell hg2 _).setCell hg2 _, ?_⟩
    rw [Below.heap_setCell _ _ _ _ hbg, Below.heap_setCell _ _ _ _ hbg, Below.heap_setCell _ _ _ _ hbg, Below.heap_setCell _ _ _ _ hbg]
    exact (HB3.out.block _ (lt_of_block HB.out)).trans HB.out
end Asm
end Go.Proofs.YtgiocecpkhmhhaaGreatDoor
namespace Go.Proofs.YtgiocecpkhmhhaaGreatDoor
open Go.ChangeShapes Go.WideShapes Go.ChangeAt Go.RowKit
namespace Asm
open Isa
set_option linter.unusedVariables false
set_option linter.unusedSimpArgs false
theorem made_cells (m k : Nat) (h : k = 4) : Go.madeCells (Value.agg #[.int .u8 0, .int .u8 0, .int .u16 0, .int .u32 0]).cells (m * k) = (encs (List.replicate m iv0)).toArray := by
  subst h
  have hlen : (encs (List.replicate m iv0)).length = m * 4 := by rw [encs_len, List.length_replicate]
  have key : ∀ (m i : Nat), i < m * 4 → (encs (List.replicate m iv0))[i]? = ([.int .u8 0, .int .u8 0, .int .u16 0, .int .u32 0] : List Value)[i % 4]? := by
    intro m
    induction m with
    | zero => intro i h; omega
    | succ m ih =>
      intro i h
      have e : encs (List.replicate (m + 1) iv0) = [.int .u8 0, .int .u8 0, .int .u16 0, .int .u32 0] ++ encs (List.replicate m iv0) := by
        rw [List.replicate_succ]; simp [encs, encI, iv0]
      rw [e]
      by_cases hi : i < 4
      · rw [List.getElem?_append_left (by simpa using hi), Nat.mod_eq_of_lt hi]
      · rw [List.getElem?_append_right (by simp; omega)]
        have := ih (i - 4) (by omega)
        rw [show (i - ([.int .u8 0, .int .u8 0, .int .u16 0, .int .u32 0] : List Value).length) = i - 4 from rfl, this]
        congr 1
        omega
  apply Array.ext'
  apply List.ext_getElem?
  intro i
  by_cases hi : i < m * 4
  · rw [key m i hi]
    have hi4 : i % 4 < 4 := Nat.mod_lt _ (by decide)
    have hc : (Value.agg #[.int .u8 0, .int .u8 0, .int .u16 0, .int .u32 0]).cells = #[.int .u8 0, .int .u8 0, .int .u16 0, .int .u32 0] := rfl
    rw [hc]
    have : i % 4 = 0 ∨ i % 4 = 1 ∨ i % 4 = 2 ∨ i % 4 = 3 := by omega
    rcases this with e | e | e | e <;> simp [Go.madeCells, hi, e]
  · rw [List.getElem?_eq_none (by rw [Array.length_toList, Go.size_madeCells]; omega), List.getElem?_eq_none (by rw [hlen]; omega)]
theorem make_code (w : World) (m : Nat) (hm : m ≤ 1000000) :
    (Instr.makeSlice 25 (.int .i64 (m : Int)) (.int .i64 (m : Int))).run Tryz.prog w = .ok (.slice (some ⟨w.heap.size, 0, none⟩) m m) (w.alloc (.cells (encs (List.replicate m iv0)).toArray 32)) := by
  obtain ⟨i, hi, hz, hs, hb⟩ := info_parts infoI
  have := run_make (P := Tryz.prog) w 25 32 i _ Tryz.underlying25 hi hz .i64 .i64 (m : Int) (m : Int) (by omega) (by omega) (by rw [hb]; omega) (by omega)
  rw [this, Int.toNat_natCast, made_cells m i.size hs]
theorem CBox.own {w : World} {Vc g m : Nat} {L : List Iv} (h : CBox w Vc g m L) {base : Nat} (hg : base ≤ g) (hm : m ≤ 1000000) : w.ownsRow base 32 4 (.slice (some ⟨g, 0, none⟩) m m) m (encs L) := by
  have hl := encs_len L
  rw [h.len] at hl
  refine ⟨hl, .inr ⟨g, m, (encs L).toArray, rfl, hg, h.row, Nat.le_refl _, by unfold maxLen; omega, by simpa using hl, ?_⟩⟩
  rw [← hl, List.take_length]
theorem enters_read : ∀ args w, (callFunc 43 args).run Tryz.prog w = .ok (.enter 43 args) w := enters_of Tryz.func43 (by kernel_rfl) rfl
set_option maxRecDepth 100000 in
set_option maxHeartbeats 3200000 in
theorem readL_any (b : List Int) (a : Option Addr) (n c : Nat) (hc : n ≤ c) (hc2 : c ≤ 9223372036854775807) (w : World) (hT : Tabs w) (h : Row w a n b) : Calls Tryz.prog 17 #[.slice a n c] w fun e w' =>
    ∃ v, e = .returned (.tuple #[v, .int .i64 (rdLN b : Nat), .int .i64 (rdLE b)]) ∧ w'.ownsRow w.heap.size 32 4 v (rdL b).length (encs (rdL b)) ∧ Below w.heap.size w w' := by
  have hln : b.length = n := h.1
  have hx0 := alloc_new w (.cells #[.slice a n c] 38)
  have HX0 := Lib.hid ((Below.refl w.heap.size w).alloc (Nat.le_refl _) (.cells #[.slice a n c] 38))
  have x0 := cells_at hx0 0
  by_cases h1 : 131072 < n
  · have HE : Hid (rdLE b = 3 ∧ rdLN b = 0 ∧ rdL b = []) := by
      show _ ∧ _
      refine ⟨?_, ?_, ?_⟩
      · unfold rdLE; rw [if_pos (by omega)]
      · unfold rdLN; rw [if_pos (by omega)]
      · unfold rdL; rw [if_pos (.inl (by omega))]
    have hd : decide ((131072 : Int) < (n : Int)) = true := decide_eq_true (by omega)
    go_enter Tryz.func17, Tryz.ntmps17
    go_wp2_with fail
    refine bodyPost_ret (v := .tuple #[.slice none 0 0, .int .i64 0, .int .i64 3]) (by simp [results, Tryz.f17, go_sem]) rfl ?_
    obtain ⟨e1, e2, e3⟩ := HE.out
    exact ⟨_, by rw [e1, e2]; rfl, by rw [e3]; exact World.ownsRow_nil _ _ _ _, HX0.out⟩
  have hd1 : decide ((131072 : Int) < (n : Int)) = false := decide_eq_false (by omega)
  by_cases h2 : n % 8 = 0
  case neg =>
    have HE : Hid (rdLE b = 40 ∧ rdLN b = 0 ∧ rdL b = []) := by
      show _ ∧ _
      refine ⟨?_, ?_, ?_⟩
      · unfold rdLE; rw [if_neg (by omega), if_pos (by omega)]
      · unfold rdLN; rw [if_neg (by omega), if_pos (by omega)]
      · unfold rdL; rw [if_pos (.inr (.inl (by omega)))]
    have ht : (n : Int).tmod 8 = ((n % 8 : Nat) : Int) := by rw [Int.tmod_eq_emod_of_nonneg (by omega)]; omega
    have hd2 : ((n : Int) % 8 != 0) = true := by simp; omega
    have hd3 : ((n : Int).tmod 8 != 0) = true := by rw [ht]; simp; omega
    go_enter Tryz.func17, Tryz.ntmps17
    go_wp2_with fail
    refine bodyPost_ret (v := .tuple #[.slice none 0 0, .int .i64 0, .int .i64 40]) (by simp [results, Tryz.f17, go_sem]) rfl ?_
    obtain ⟨e1, e2, e3⟩ := HE.out
    exact ⟨_, by rw [e1, e2]; rfl, by rw [e3]; exact World.ownsRow_nil _ _ _ _, HX0.out⟩
  obtain ⟨m, hm⟩ : ∃ m, m = n / 8 := ⟨_, rfl⟩
  have hnm : n = 8 * m := by omega
  have hd2 : ((n : Int) % 8 != 0) = false := by simp; omega
  have hd3 : ((n : Int).tmod 8 != 0) = false := by rw [Int.tmod_eq_emod_of_nonneg (by omega)]; simp; omega
  have hq1 : (n : Int) / 8 = (m : Int) := by omega
  have hq2 : (n : Int).tdiv 8 = (m : Int) := by rw [Int.tdiv_eq_ediv_of_nonneg (by omega)]; omega
  have hmk := make_code (w.alloc (.cells #[.slice a n c] 38)) m (by omega)
  rw [World.size_alloc] at hmk
  have hg0 := alloc_new (w.alloc (.cells #[.slice a n c] 38)) (.cells (encs (List.replicate m iv0)).toArray 32)
  rw [World.size_alloc] at hg0
  have HX1 := HX0.out.alloc HX0.out.size (.cells (encs (List.replicate m iv0)).toArray 32)
  have hx1 : ((w.alloc (.cells #[.slice a n c] 38)).alloc (.cells (encs (List.replicate m iv0)).toArray 32)).heap[w.heap.size]? = some (.cells #[.slice a n c] 38 (0, 0)) := (Below.heap_alloc _ _ _ (lt_of_block hx0)).trans hx0
  have hz1 : ((w.alloc (.cells #[.slice a n c] 38)).alloc (.cells (encs (List.replicate m iv0)).toArray 32)).heap.size = w.heap.size + 2 := by rw [World.size_alloc, World.size_alloc]
  generalize hW1 : (w.alloc (.cells #[.slice a n c] 38)).alloc (.cells (encs (List.replicate m iv0)).toArray 32) = W1 at *
  have hv := alloc_new W1 (.cells #[.slice (some ⟨w.heap.size + 1, 0, none⟩) m m] 25)
  have HX2 := Lib.hid (HX1.alloc HX1.size (.cells #[.slice (some ⟨w.heap.size + 1, 0, none⟩) m m] 25))
  have hx2 : (W1.alloc (.cells #[.slice (some ⟨w.heap.size + 1, 0, none⟩) m m] 25)).heap[w.heap.size]? = some (.cells #[.slice a n c] 38 (0, 0)) := (Below.heap_alloc _ _ _ (lt_of_block hx1)).trans hx1
  have hg2 : (W1.alloc (.cells #[.slice (some ⟨w.heap.size + 1, 0, none⟩) m m] 25)).heap[w.heap.size + 1]? = some (.cells (encs (List.replicate m iv0)).toArray 32 (0, 0)) := (Below.heap_alloc _ _ _ (lt_of_block hg0)).trans hg0
  have HCB : Hid (CBox (W1.alloc (.cells #[.slice (some ⟨w.heap.size + 1, 0, none⟩) m m] 25)) W1.heap.size (w.heap.size + 1) m (lay (fRead b) m 0)) := ⟨hv, by unfold lay; simpa using hg2, by omega, lay_len _ (by omega)⟩
  have HVb := Lib.hid hx2
  have HS : Hid (StepC 43 #[.pointer (some ⟨w.heap.size, 0, none⟩),   .pointer (some ⟨W1.heap.size, 0, none⟩)] m (fun k => rdE (b.drop (8 * k)))
      (fun k W => Below w.heap.size w W ∧ W.heap[w.heap.size]? = some (.cells #[.slice a n c] 38 (0, 0)) ∧ CBox W W1.heap.size (w.heap.size + 1) m (lay (fRead b) m k)) (fun _ W => Below w.heap.size w W)) := by
    intro k hk W hI
    obtain ⟨i1, i2, i3⟩ := hI
    refine (rstep_any b a n c hc hc2 (by omega) w.heap.size w.heap.size W1.heap.size (w.heap.size + 1) m (by omega) (by omega) w W (Nat.le_refl _) hT h i1 (by omega) i2 _ i3 k hk hnm).mono ?_
    rintro e w' ⟨rfl, j1, j2, j3⟩
    refine ⟨rfl, fun _ => ⟨j2, j3, ?_⟩, fun _ => j2⟩
    rw [← lay_set _ hk]
    exact j1
  have HG := Lib.hid (fun hn => rd_good (b := b) (by omega) (by omega) hn)
  have HBad := Lib.hid (fun k hk hn h => rd_bad (b := b) (k := k) (by omega) (by omega) hk hn h)
  have HLn := Lib.hid hln
  have HM := Lib.hid hm
  have HNM := Lib.hid hnm
  have HL8 := Lib.hid (fun k (hk : k < m) => rdE_long (l := b.drop (8 * k)) (by rw [List.length_drop]; omega))
  have hmm : m ≤ 1000000 := by omega
  have hz := Lib.hid hz1
  have hmk2 := Lib.hid hmk
  clear hv HX1 hx1 hx2 hg2 hg0 h1 h2 hln hm hnm h hT hz1
  go_enter Tryz.func17, Tryz.ntmps17
  go_wp2_with fail
  refine (first_any 43 _ enters_read m (by omega) _ _ _ HS.out _ ⟨HX2.out, HVb.out, HCB.out⟩).mono ?_
  intro e w2 hP
  clear hmk hW1 x0 hx0 HX0
  rcases hP with ⟨k, hk, hno, hne, rfl, hF⟩ | ⟨hall, rfl, hI1, hI2, hI3⟩
  · dsimp only at hno hne ⊢
    obtain ⟨e1, e2, e3⟩ := HBad.out k (by rw [HLn.out, ← HM.out]; exact hk) hno hne
    have hE : rdE (b.drop (8 * k)) = rdLE b := by
      rcases HL8.out k hk with q | q
      · exact absurd q hne
      · rw [q, e1]
    rw [hE] at hne ⊢
    have hb : (rdLE b != 0) = true := by simpa using hne
    have E2 := Lib.hid e2
    have E3 := Lib.hid e3
    clear hE e1 e2 e3 hno hne HS
    obtain ⟨E, hE⟩ : ∃ E, E = rdLE b := ⟨_, rfl⟩
    rw [← hE] at hb ⊢
    have HE := Lib.hid hE
    clear hE
    go_wp2_with fail
    refine bodyPost_ret (v := .tuple #[.slice none 0 0, .int .i64 (k : Int), .int .i64 E]) (by simp [results, Tryz.f17, go_sem]) rfl ?_
    exact ⟨_, by rw [E2.out, HE.out], by rw [E3.out]; exact World.ownsRow_nil _ _ _ _, hF⟩
  · dsimp only at hall ⊢
    obtain ⟨e1, e2, e3⟩ := HG.out (by rw [HLn.out, ← HM.out]; exact hall)
    have E1 := Lib.hid e1
    have E2 := Lib.hid e2
    have E3 : Hid (rdL b = lay (fRead b) m m) := by show _ = _; rw [e3, HLn.out, ← HM.out, lay_all]; rfl
    have HI1 := Lib.hid hI1
    have HI3 := Lib.hid hI3
    have y := hI3.load
    clear e1 e2 e3 hall hI1 hI2 hI3 HS
    go_wp2_with fail
    refine bodyPost_ret (v := .tuple #[.slice (some ⟨w.heap.size + 1, 0, none⟩) m m, .int .i64 0, .int .i64 0]) (by simp [results, Tryz.f17, go_sem]) rfl ?_
    refine ⟨_, by rw [E1.out, E2.out]; rfl, ?_, HI1.out⟩
    rw [E3.out, lay_len _ (Nat.le_refl _)]
    exact HI3.out.own (by omega) hmm
end Asm
end Go.Proofs.YtgiocecpkhmhhaaGreatDoor
