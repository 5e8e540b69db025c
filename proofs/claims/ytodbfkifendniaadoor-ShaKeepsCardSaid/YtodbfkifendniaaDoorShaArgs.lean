/- Arguments of the statements: slices of bytes that came in, their cuts, and as strings. -/
import Derived.Test.YtodbfkifendniaaDoorShaFrame
import Derived.Laws.BytesArg
import Derived.Laws.IdiomStrings
import Derived.Deep.RegionWith
namespace Go.Proofs.YtodbfkifendniaaDoor
open Go.ChangeShapes Go.WideShapes Go.ChangeAt Go.RowKit
namespace Sha
/-- what a walk is told of a slice of integers that came in -/
def IsRow (k : IntKind) (w : World) (a : Option Addr) (len cap : Nat) (zs : List Int) : Prop :=
  (a = none ∧ len = 0 ∧ cap = 0 ∧ zs = []) ∨
  ∃ x, a = some x ∧ len ≤ cap ∧ cap ≤ maxLen ∧ zs.length = cap ∧ (∀ i, i < zs.length → w.cell? (x.add i) = some (.int k (zs.getD i 0))) ∧ ∀ n ∈ zs, (Lit.int k n).wf = true
theorem IsRow.len {k : IntKind} {w : World} {a : Option Addr} {len cap : Nat} {zs : List Int} (h : IsRow k w a len cap zs) : len ≤ cap ∧ cap ≤ 9223372036854775807 := by
  rcases h with ⟨_, rfl, rfl, _⟩ | ⟨x, _, h1, h2, _⟩
  · omega
  · unfold maxLen at h2; omega
theorem IsRow.row {w : World} {a : Option Addr} {len cap : Nat} {zs : List Int} (h : IsRow .u8 w a len cap zs) : SRow (fun _ => False) w a len (zs.take len) := by
  rcases h with ⟨rfl, rfl, rfl, rfl⟩ | ⟨x, rfl, h1, h2, h3, h4, h5⟩
  · exact ⟨rfl, by simp, Or.inl rfl⟩
  · refine ⟨by simp; omega, fun z hz => ?_, ?_⟩
    · have := h5 z (List.mem_of_mem_take hz)
      simpa [Lit.wf, IntKind.min, IntKind.max, IntKind.signed, IntKind.bits] using this
    · by_cases h0 : len = 0
      · exact Or.inl h0
      · obtain ⟨b, off, spot⟩ := x
        have hspot : spot = none := by simpa [Addr.add] using World.cell?_spot (h4 0 (by omega))
        subst hspot
        refine Or.inr ⟨b, off, rfl, fun h => h, fun i hi => ?_⟩
        have := h4 i (by omega)
        have e : (zs.take len).getD i 0 = zs.getD i 0 := by simp [List.getD, hi]
        rw [e, ← Addr.add_mid b off i]
        exact this
theorem SRow.below {w w' : World} {a : Option Addr} {n : Nat} {l : List Int} (h : SRow (fun _ => False) w a n l) {B : Nat} (hb : Below B w w') (hB : w.heap.size ≤ B) : SRow (fun _ => False) w' a n l := h.kept (Kept.of_below (hb.mono hB))
theorem PRow.below {w w' : World} {a : Option Addr} {n : Nat} {ps : List (List Int)} (h : PRow w a n ps) {B : Nat} (hb : Below B w w') (hB : w.heap.size ≤ B) : PRow w' a n ps := by
  obtain ⟨h1, h2⟩ := h
  refine ⟨h1, ?_⟩
  rcases h2 with h2 | ⟨b, off, rfl, hc⟩
  · exact Or.inl h2
  · refine Or.inr ⟨b, off, rfl, fun i hi => ?_⟩
    obtain ⟨a', m, c, q1, q2, q3, q4⟩ := hc i hi
    refine ⟨a', m, c, ?_, q2, q3, q4.below hb hB⟩
    rw [hb.cell (p := ⟨b, off + i, none⟩) (Nat.lt_of_lt_of_le (World.block_lt_of_cell? _ _ q1) hB)]; exact q1
theorem head_of {p : Nat → Prop} {w : World} {a : Option Addr} {r c : Nat} {l : List Int} (h : SRow p w a r l) (m : Nat) (v : Int) (hv : v = m) (hm : m ≤ r) (hc : r ≤ c) :
    ∃ a', (∀ W : World, (Instr.slice 22 (.slice a r c) none (some (.int .i64 v)) none).run Tryd.prog W = .ok (.slice a' m c) W) ∧ SRow p w a' m (l.take m) := by
  subst hv
  have ht : Tryd.prog.underlying 22 = some (.slice (Tryd.prog.elem 22)) := by kernel_rfl
  refine ⟨if c = 0 then a else a.map (·.add (0 * 1)), fun W => ?_, ?_⟩
  · have hs : (sizeOf (Tryd.prog.elem 22)).run Tryd.prog W = .ok 1 W := by kernel_rfl
    rw [run_slice_h W 22 a r c ht .i64 (m : Int) (by omega) (by omega), hs]
    simp [Result.andThen, sliced]
  · obtain ⟨h1, h2, h3⟩ := h
    refine ⟨by simp; omega, fun z hz => h2 z (List.mem_of_mem_take hz), ?_⟩
    by_cases e : m = 0
    · exact Or.inl e
    · rcases h3 with h3 | ⟨b, off, rfl, hp, hc'⟩
      · omega
      · rw [if_neg (by omega)]
        refine Or.inr ⟨b, off, by simp [Addr.add], hp, fun i hi => ?_⟩
        rw [hc' i (by omega)]
        simp [List.getD, hi]
theorem row_string {w : World} {a : Option Addr} {n : Nat} (cap : Nat) {l : List Int} (h : SRow (fun _ => False) w a n l) :
    (convert 22 9 (.slice a n cap)).run Tryd.prog w = .ok (.string (strOfNums l)) w := by
  obtain ⟨h1, h2, h3⟩ := h
  rcases h3 with rfl | ⟨b, off, rfl, _, hc⟩
  · have hl : l = [] := List.eq_nil_of_length_eq_zero h1
    subst hl
    cases a with
    | none => rw [run_convert_bytes_nil w 22 5 Tryd.underlying22 Tryd.underlying5 0 cap 9 Tryd.underlying9]; rfl
    | some x =>
      rw [run_convert_bytes_string w 22 9 5 _ 0 cap Tryd.underlying22 Tryd.underlying5 Tryd.underlying9]
      have hl := run_loadCells_list (P := Tryd.prog) w x [] (fun j v hj => by simp at hj)
      rw [run_bytesToString w x 0 cap [] (by simpa using hl)]
      rfl
  · exact run_convert_bytes_arg w 22 5 Tryd.underlying22 Tryd.underlying5 b off n cap l h1 hc 9 Tryd.underlying9
theorem row_back (w : World) (l : List Int) (cap : Nat) (fr : Nat × Nat) (h : ∀ z ∈ l, 0 ≤ z ∧ z ≤ 255) :
    SRow (fun _ => False) (w.alloc (.cells (bytesRow (strOfNums l) cap) 5 fr)) (some ⟨w.heap.size, 0, none⟩) (strOfNums l).size l := by
  refine ⟨(strOfNums_size l).symm, h, Or.inr ⟨w.heap.size, 0, rfl, fun h => h, fun i hi => ?_⟩⟩
  rw [cell_of_row _ _ _ _ _ _ (heap_alloc_new w _)]
  rw [strOfNums_size] at hi
  rw [Nat.zero_add, bytesRow_at _ _ _ (by simpa [strOfNums] using hi)]
  have hz := h l[i] (List.getElem_mem _)
  simp [strOfNums, hi]
  omega
theorem str_take (l : List Int) (m : Nat) : (strOfNums l).extract 0 m = strOfNums (l.take m) := by
  apply ByteArray.ext
  rw [ByteArray.data_extract]
  apply Array.ext'
  simp [strOfNums, List.map_take]
/-- one part that lies where it lay, summed in a later world -/
theorem sumA {w X : World} {a : Option Addr} {m c : Nat} {l : List Int} (hR : Roots w) (hS : SRow (fun _ => False) w a m l) (h1 : m ≤ c) (h2 : c ≤ 9223372036854775807) (hl : m ≤ 20000) (hB : Below w.heap.size w X) :
    Calls Tryd.prog 11 #[.slice (some ⟨X.heap.size, 0, none⟩) 1 1] (X.alloc (.cells #[.slice a m c] 22)) fun e w' => e = .returned (.agg (ints .u8 (sum l))) ∧ Below w.heap.size w w' := by
  have hb : Below w.heap.size w (X.alloc (.cells #[.slice a m c] 22)) := hB.alloc hB.size _
  refine (sum_any [l] _ 1 1 _ (by omega) (by have := hS.1; simp; omega) (hR.below hb) (prow_one X a m c l 22 (0, 0) h1 h2 (hS.below hB (Nat.le_refl _)))).mono ?_
  rintro e w' ⟨rfl, hb'⟩
  exact ⟨by simp, hb.trans (hb'.mono hb.size)⟩
theorem sumB {w X : World} {a a' : Option Addr} {m c m' c' : Nat} {l l' t : List Int} (hR : Roots w) (hS : SRow (fun _ => False) w a m l) (hS' : SRow (fun _ => False) w a' m' l') (h1 : m ≤ c) (h2 : c ≤ 9223372036854775807) (h1' : m' ≤ c') (h2' : c' ≤ 9223372036854775807) (hl : m ≤ 20000) (hl' : m' ≤ 20000) (ht : l ++ l' = t) (hB : Below w.heap.size w X) :
    Calls Tryd.prog 11 #[.slice (some ⟨X.heap.size, 0, none⟩) 2 2] (X.alloc (.cells #[.slice a m c, .slice a' m' c'] 22)) fun e w' => e = .returned (.agg (ints .u8 (sum t))) ∧ Below w.heap.size w w' := by
  have hb : Below w.heap.size w (X.alloc (.cells #[.slice a m c, .slice a' m' c'] 22)) := hB.alloc hB.size _
  refine (sum_any [l, l'] _ 2 2 _ (by omega) (by have := hS.1; have := hS'.1; simp; omega) (hR.below hb) (prow_two X a a' m c m' c' l l' 22 (0, 0) h1 h2 h1' h2' (hS.below hB (Nat.le_refl _)) (hS'.below hB (Nat.le_refl _)))).mono ?_
  rintro e w' ⟨rfl, hb'⟩
  exact ⟨by rw [← ht]; simp, hb.trans (hb'.mono hb.size)⟩
theorem sumA_drew {w X : World} {a : Option Addr} {m c : Nat} {l : List Int} (hR : Roots w) (hS : SRow (fun _ => False) w a m l) (h1 : m ≤ c) (h2 : c ≤ 9223372036854775807) (hl : m ≤ 20000) (hB : Below w.heap.size w X) :
    Calls Tryd.prog 11 #[.slice (some ⟨X.heap.size, 0, none⟩) 1 1] (X.alloc (.cells #[.slice a m c] 22)).drew fun e w' => e = .returned (.agg (ints .u8 (sum l))) ∧ Below w.heap.size w w' := sumA (X := X.drew) hR hS h1 h2 hl hB.drew
theorem sumB_drew {w X : World} {a a' : Option Addr} {m c m' c' : Nat} {l l' t : List Int} (hR : Roots w) (hS : SRow (fun _ => False) w a m l) (hS' : SRow (fun _ => False) w a' m' l') (h1 : m ≤ c) (h2 : c ≤ 9223372036854775807) (h1' : m' ≤ c') (h2' : c' ≤ 9223372036854775807) (hl : m ≤ 20000) (hl' : m' ≤ 20000) (ht : l ++ l' = t) (hB : Below w.heap.size w X) :
    Calls Tryd.prog 11 #[.slice (some ⟨X.heap.size, 0, none⟩) 2 2] (X.alloc (.cells #[.slice a m c, .slice a' m' c'] 22)).drew fun e w' => e = .returned (.agg (ints .u8 (sum t))) ∧ Below w.heap.size w w' := sumB (X := X.drew) hR hS hS' h1 h2 h1' h2' hl hl' ht hB.drew

theorem eql_run (D : List Int) (w : World) (hD : D.length = 32) : (binOp .eql 25 (.agg (ints .u8 D)) (.agg (ints .u8 D))).run Tryd.prog w = .ok (.bool true) w := by
  rw [run_eql_struct, equal_self D hD w]; rfl
theorem wpList_eql {ops : Array Oper} {rest : List Oper} {o : Oper} {a : Act} {w : World} {Q : Exit → Act → World → Prop} (hgd : o.guard = none) (x y : Operand) (ho : o.op = .binOp .eql 25 x y 25)
    (D : List Int) (hD : D.length = 32) (hx : a.eval x = .agg (ints .u8 D)) (hy : a.eval y = .agg (ints .u8 D)) (h : wpList Tryd.prog ops Q rest (a.put o.dst (.bool true)) w) : wpList Tryd.prog ops Q (o :: rest) a w := by
  refine wpList_plain hgd fun K hK => ?_
  have hrun := eql_run D w hD
  have hg : (eqGuard .eql 25 x y (.agg (ints .u8 D)) (.agg (ints .u8 D))).run Tryd.prog w = .ok () w := run_eqGuard_agg w .eql 25 x y _ _ (by kernel_rfl)
  unfold Oper.wp
  simp [execOp, ho, hx, hy, hrun, hg, Result.andThen]
  exact hK _ _ h
end Sha
end Go.Proofs.YtodbfkifendniaaDoor
