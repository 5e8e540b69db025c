/- Rows of numbers of 32 bits; what the program's From and Worst are to answer; small facts. -/
import Derived.Test.YtjoiogdckbaeaaaDoorCodeMay
import Derived.Test.YtjoiogdckbaeaaaDoorCodeOwn
import Derived.Test.YtjoiogdckbaeaaaDoorCostM
import Derived.Test.YtjoiogdckbaeaaaDoorFlowM
namespace Go.Proofs.YtjoiogdckbaeaaaDoor
open Go.ChangeShapes Go.WideShapes Go.ChangeAt Go.RowKit
namespace Cst
open Isa Flw
set_option linter.unusedVariables false
set_option linter.unusedSimpArgs false
def u32s (l : List Nat) : List Value := l.map fun (n : Nat) => .int .u32 (n : Int)
def URow (w : World) (o : Nat) (l : List Nat) : Prop := w.heap[o]? = some (.cells (u32s l).toArray 23 (0, 0))
theorem u32s_at {l : List Nat} {k : Nat} (hk : k < l.length) : (u32s l)[k]? = some (.int .u32 ((wf l k : Nat) : Int)) := by
  unfold u32s wf
  rw [List.getElem?_map, List.getD_eq_getElem?_getD, List.getElem?_eq_getElem hk]
  rfl
theorem URow.at {w : World} {o : Nat} {l : List Nat} (h : URow w o l) {k : Nat} (hk : k < l.length) : w.cell? ⟨o, k, none⟩ = some (.int .u32 ((wf l k : Nat) : Int)) := by
  rw [cell_of_row _ _ _ _ _ _ h, List.getElem?_toArray]
  exact u32s_at hk
theorem URow.free {w : World} {o : Nat} {l : List Nat} (h : URow w o l) (k : Nat) : w.frozen? ⟨o, k, none⟩ = false := by
  have h' : w.heap[o]? = some (.cells (u32s l).toArray 23 (0, 0)) := h
  simp [World.frozen?, h']
theorem URow.lt {w : World} {o : Nat} {l : List Nat} (h : URow w o l) : o < w.heap.size := (Array.getElem?_eq_some_iff.1 h).1
theorem URow.set {w : World} {o : Nat} {l : List Nat} (h : URow w o l) (k u : Nat) : URow (w.setCell ⟨o, k, none⟩ (.int .u32 (u : Int))) o (l.set k u) := by
  have hlt := h.lt
  have h' : w.heap[o] = .cells (u32s l).toArray 23 (0, 0) := by
    have h2 : w.heap[o]? = some (.cells (u32s l).toArray 23 (0, 0)) := h
    simpa [Array.getElem?_eq_getElem hlt] using h2
  show (w.heap.modify o _)[o]? = _
  rw [Array.getElem?_eq_getElem (by simpa using hlt), Array.getElem_modify_self, h']
  have e : (u32s l).toArray.setIfInBounds k (.int .u32 (u : Int)) = (u32s (l.set k u)).toArray := by
    rw [List.setIfInBounds_toArray]
    unfold u32s
    rw [List.map_set]
  show some (Obj.cells ((u32s l).toArray.setIfInBounds k (.int .u32 (u : Int))) 23 (0, 0)) = _
  rw [e]
theorem URow.below {w w' : World} {o : Nat} {l : List Nat} (h : URow w o l) {B : Nat} (hb : Below B w w') (hB : w.heap.size ≤ B) : URow w' o l := (hb.block o (Nat.lt_of_lt_of_le h.lt hB)).trans h
theorem urow_brow {w : World} {o o' : Nat} {l : List Nat} {B : List Bool} (h : URow w o l) (h' : BRow w o' B) : o' ≠ o := by
  intro e
  subst e
  have h1 : w.heap[o']? = some (.cells (u32s l).toArray 23 (0, 0)) := h
  have h2 : w.heap[o']? = some (.cells (bls B).toArray 4 (0, 0)) := h'
  rw [h1] at h2
  simp at h2
theorem infoU4 : (Tryd.prog.info? 23).map (fun i => (i.zero, i.size, i.bytes)) = some (some (.int .u32 0), 1, 4) := by kernel_rfl
theorem made_u32 (n k : Nat) (h : k = 1) : Go.madeCells (Value.int .u32 0).cells (n * k) = (u32s (List.replicate n 0)).toArray := by
  subst h
  apply Array.ext'
  simp [Go.madeCells, Value.cells, u32s]
  apply List.ext_getElem
  · simp
  · intro i h1 h2
    simp [show i % 1 = 0 from Nat.mod_one i]
theorem run_make_u32 (w : World) (n : Nat) (hn : n ≤ 1000000) :
    (Instr.makeSlice 26 (.int .i64 (n : Int)) (.int .i64 (n : Int))).run Tryd.prog w = .ok (.slice (some ⟨w.heap.size, 0, none⟩) n n) (w.alloc (.cells (u32s (List.replicate n 0)).toArray 23)) := by
  obtain ⟨i, hi, hz, hs, hb⟩ := info_parts infoU4
  have := run_make (P := Tryd.prog) w 26 23 i (.int .u32 0) Tryd.underlying26 hi hz .i64 .i64 (n : Int) (n : Int) (by omega) (by omega) (by rw [hb]; omega) (by omega)
  rw [this, Int.toNat_natCast, made_u32 n i.size hs]
/-- the sum of a block's numbers -/
def valU : Value → Nat
  | .int _ n => n.toNat
  | _ => 0
def usum : Option Obj → Nat
  | some (.cells cs _ _) => (cs.toList.map valU).sum
  | _ => 0
theorem usum_row {w : World} {o : Nat} {l : List Nat} (h : URow w o l) : usum (w.heap[o]?) = l.sum := by
  have h' : w.heap[o]? = some (.cells (u32s l).toArray 23 (0, 0)) := h
  rw [h']
  show (((u32s l).toArray).toList.map valU).sum = _
  rw [List.toList_toArray]
  clear h h'
  induction l with
  | nil => rfl
  | cons b r ih =>
    unfold u32s at ih ⊢
    simp only [List.map_cons, List.sum_cons]
    rw [ih]
    simp [valU]
theorem tup3 {a b : Nat} {c d : Int} {v : Value} (h : a = b ∧ c = d) : Ending.returned (.tuple #[v, .int .i64 (a : Nat), .int .i64 c]) = .returned (.tuple #[v, .int .i64 (b : Nat), .int .i64 d]) := by
  obtain ⟨rfl, rfl⟩ := h; rfl
/-- the answer, told -/
def fromP (l : List Iv) (w : World) (e : Ending) (w' : World) : Prop :=
  (∃ v, e = .returned (.tuple #[v, .int .i64 (frN l : Nat), .int .i64 (frE l)]) ∧ w'.ownsRow w.heap.size 23 1 v (frW l).length (u32s (frW l))) ∧ Below w.heap.size w w'
/-- cost.From, of any program -/
def FromC : Prop := ∀ (l : List Iv) (a : Option Addr) (n c : Nat) (w : World), Tabs w → n ≤ c → c ≤ 9223372036854775807 → IRow w a n l →
  Calls Tryd.prog 26 #[.slice a n c] w fun e w' => fromP l w e w'
/-- numbers of 32 bits, of the call's own -/
def UO (S g cap n : Nat) (l : List Nat) (w : World) : Prop := w.ownsRow S 23 1 (.slice (some ⟨g, 0, none⟩) n cap) n (u32s l)
theorem UO.len {S g cap n : Nat} {l : List Nat} {w : World} (h : UO S g cap n l w) : l.length = n := by have := h.1; unfold u32s at this; simpa using this
theorem UO.at {S g cap n : Nat} {l : List Nat} {w : World} (h : UO S g cap n l w) {k : Nat} (hk : k < n) : w.cell? ⟨g, k, none⟩ = some (.int .u32 ((wf l k : Nat) : Int)) := by
  rw [World.ownsRow.cellAt h k (by omega)]
  exact u32s_at (by rw [h.len]; exact hk)
theorem UO.below {S g cap n : Nat} {l : List Nat} {w w' : World} (h : UO S g cap n l w) {B : Nat} (hb : Below B w w') (hB : w.heap.size ≤ B) : UO S g cap n l w' := own_below h hb hB
theorem frW_at {l : List Iv} (h : frE l = 0) {k : Nat} (hk : k < l.length) : wf (frW l) k = if comeB l k = true then ws l k else 0 := by
  unfold frW wf
  rw [if_pos h, List.getD_eq_getElem?_getD, List.getElem?_map, List.getElem?_range hk]
  rfl
theorem not_free {l : List Iv} (hf : Fine l) (h : frE l ≠ 0) : frE l = 130 ∧ frN l = lpK l ∧ lpK l < l.length ∧ comeB l (lpK l) = true ∧ frW l = [] ∧ ¬ Free l := by
  have hz := (chk_of hf).1
  have hlt : lpK l < l.length := by
    rcases Nat.lt_or_ge (lpK l) l.length with q | q
    · exact q
    · exfalso
      apply h
      unfold frE
      rw [hz, if_neg (by simp), if_neg (by omega)]
  have hE : frE l = 130 := by unfold frE; rw [hz, if_neg (by simp), if_pos hlt]
  have hit := first_hit (p := lpB l) (n := l.length) hlt
  have hit2 : lpB l (lpK l) = true := hit
  unfold lpB at hit2
  simp only [Bool.and_eq_true] at hit2
  refine ⟨hE, ?_, hlt, hit2.1, ?_, fun q => ?_⟩
  · unfold frN; rw [hz, if_neg (by simp), if_pos hlt]
  · unfold frW; rw [hE]; rfl
  · have := q (lpK l) hlt hit2.1
    rw [hit2.2] at this
    cases this
theorem max_two (M x M2 : Nat) (h : M2 = max M x) (X : World) : (Builtin.max_ #[23, 23] 23 #[.int .u32 (M : Int), .int .u32 (x : Int)]).run Tryd.prog X = .ok (.int .u32 ((M2 : Nat) : Int)) X := by
  have h : (if (M : Int) < x then (x : Int) else M) = ((M2 : Nat) : Int) := by split <;> omega
  simp only [Builtin.max_, ← h]
  simp [Builtin.max2]
/-- a slice with this address and length is these numbers of 32 bits -/
def UR (w : World) (a : Option Addr) (n : Nat) (l : List Nat) : Prop := l.length = n ∧ (n = 0 ∨ ∃ b off, a = some ⟨b, off, none⟩ ∧ ∀ j, j < n → w.cell? ⟨b, off + j, none⟩ = some (.int .u32 ((l.getD j 0 : Nat) : Int)))
theorem UR.below {w w' : World} {a : Option Addr} {n : Nat} {l : List Nat} (h : UR w a n l) {B : Nat} (hb : Below B w w') (hB : w.heap.size ≤ B) : UR w' a n l := by
  obtain ⟨h1, h2⟩ := h
  refine ⟨h1, ?_⟩
  rcases h2 with h2 | ⟨b, off, rfl, hc⟩
  · exact .inl h2
  · exact .inr ⟨b, off, rfl, fun j hj => (World.cell?_of_block (hb.block b (Nat.lt_of_lt_of_le (World.block_lt_of_cell? _ _ (hc j hj)) hB))).trans (hc j hj)⟩
theorem UR.at {w : World} {a : Option Addr} {n : Nat} {l : List Nat} (h : UR w a n l) (k : Nat) (hk : k < n) : ∃ b off, a = some ⟨b, off, none⟩ ∧ w.cell? ⟨b, off + k, none⟩ = some (.int .u32 ((l.getD k 0 : Nat) : Int)) := by
  obtain ⟨b, off, rfl, hc⟩ := h.2.resolve_left (by omega)
  exact ⟨b, off, rfl, hc k hk⟩
theorem own_ur {w : World} {S : Nat} {v : Value} {l : List Nat} (h : w.ownsRow S 23 1 v l.length (u32s l)) : ∃ a c, v = .slice a l.length c ∧ l.length ≤ c ∧ c ≤ maxLen ∧ UR w a l.length l := by
  obtain ⟨a, c, rfl, h1, h2⟩ := own_shape h
  refine ⟨a, c, rfl, h1, h2, rfl, ?_⟩
  by_cases h0 : l.length = 0
  · exact .inl h0
  · right
    rcases h.2 with ⟨e, _⟩ | ⟨g, cap, cur, e, _⟩
    · injection e with e1 e2; exact absurd e2 h0
    · injection e with e1 e2 e3
      subst e1
      refine ⟨g, 0, rfl, fun j hj => ?_⟩
      have := World.ownsRow.cells h (g := g) rfl j (.int .u32 ((l.getD j 0 : Nat) : Int)) (u32s_at hj)
      rw [WideShapes.add_plain] at this
      exact this
theorem ulist_same {l m : List Nat} (h : l.length = m.length) (hs : ∀ t, t < l.length → l.getD t 0 = m.getD t 0) : l = m := by
  apply List.ext_getElem h
  intro i h1 h2
  have := hs i h1
  rwa [List.getD_eq_getElem?_getD, List.getD_eq_getElem?_getD, List.getElem?_eq_getElem h1, List.getElem?_eq_getElem h2] at this
/-- the worst of instruction 0; 0 beside an error -/
noncomputable def wz (l : List Iv) : Nat := if frE l = 0 then ws l 0 else 0
def WorstC : Prop := ∀ (l : List Iv) (a : Option Addr) (n c : Nat) (w : World), Tabs w → n ≤ c → c ≤ 9223372036854775807 → IRow w a n l →
  Calls Tryd.prog 11 #[.slice a n c] w fun e w' => e = .returned (.tuple #[.int .u32 (wz l : Nat), .int .i64 (frN l : Nat), .int .i64 (frE l)]) ∧ Below w.heap.size w w'
theorem encs_len : ∀ l : List Iv, (encs l).length = l.length * 4
  | [] => rfl
  | a :: r => by
    have := encs_len r
    unfold encs at this ⊢
    rw [List.flatMap_cons, List.length_append, this, List.length_cons]
    simp [encI]; omega
theorem lit_row (Y : World) (l : List Iv) (hw : ∀ i ∈ l, i.wf) (hm : l.length ≤ 100) : IRow (Y.alloc (.cells (encs l).toArray 55)) (some ⟨Y.heap.size, 0, none⟩) l.length l := by
  have h := World.ownsRow_lit (base := Y.heap.size) (size := 4) (e := 55) Y (encs l).toArray l.length (Nat.le_refl _) (by unfold maxLen; omega) (by rw [List.size_toArray, encs_len])
  rw [List.toList_toArray] at h
  obtain ⟨a, c, e, _, _, r⟩ := own_irow h hw
  injection e with e1 e2 e3
  rw [e1]
  exact r
theorem wf_all {l : List Iv} (h : l.all (fun i => decide (0 ≤ i.op ∧ i.op ≤ 255 ∧ 0 ≤ i.a ∧ i.a ≤ 255 ∧ 0 ≤ i.b ∧ i.b ≤ 65535 ∧ 0 ≤ i.c ∧ i.c ≤ 4294967295)) = true) : ∀ i ∈ l, i.wf := fun i hi => by
  rw [List.all_eq_true] at h
  have := h i hi
  simp only [decide_eq_true_eq] at this
  exact ⟨⟨this.1, this.2.1⟩, ⟨this.2.2.1, this.2.2.2.1⟩, ⟨this.2.2.2.2.1, this.2.2.2.2.2.1⟩, ⟨this.2.2.2.2.2.2.1, this.2.2.2.2.2.2.2⟩⟩
theorem ur_lit (Y : World) (l : List Nat) (hm : l.length ≤ 1000 := by decide) : UR (Y.alloc (.cells (u32s l).toArray 23)) (some ⟨Y.heap.size, 0, none⟩) l.length l := by
  have h := World.ownsRow_lit (base := Y.heap.size) (size := 1) (e := 23) Y (u32s l).toArray l.length (Nat.le_refl _) (by unfold maxLen; omega) (by unfold u32s; simp)
  rw [List.toList_toArray] at h
  obtain ⟨a, c, e, _, _, r⟩ := own_ur h
  injection e with e1 e2 e3
  rw [e1]
  exact r
end Cst
end Go.Proofs.YtjoiogdckbaeaaaDoor
