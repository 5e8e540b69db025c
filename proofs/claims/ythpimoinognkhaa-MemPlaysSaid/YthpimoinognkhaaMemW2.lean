/- Places, words' bytes, new rows. -/
import Derived.Test.YthpimoinognkhaaMemKept
import Derived.Lib.SliceRun
import Derived.Laws.MakeOwn
import Derived.BigFrame
namespace Go.Proofs.Ythpimoinognkhaa
open Go.ChangeShapes Go.WideShapes Go.ChangeAt Go.RowKit
namespace Ram
set_option linter.unusedVariables false
set_option linter.unusedSimpArgs false
/-! ### span -/
/-- what span answers of a memory -/
def SpanP (L d a n : Nat) (w : World) (e : Ending) (w' : World) : Prop :=
  w' = w ∧ ∃ x m c, e = .returned (.tuple #[.slice x m c, .int .i64 (rangeE a n L)]) ∧ m ≤ c ∧ c ≤ 1000000 ∧ (if there a n L = true ∧ n ≠ 0 then m = n ∧ x = some ⟨d, a, none⟩ else m = 0 ∧ x = none ∧ c = 0)
theorem span_any {g d : Nat} {bs : List Int} {w : World} (h : Ram 57 w g d bs) (a n : Nat) (ha : a ≤ 4294967295) (hn : n ≤ 9223372036854775807) :
    Calls Try.prog 26 #[.pointer (some ⟨g, 0, none⟩), .int .u32 (a : Int), .int .u64 (n : Int)] w (SpanP bs.length d a n w) := by
  obtain ⟨h1, h2, h3, h4, ad, c, h5, h6, h7, h8⟩ := h
  have c0 : w.cell? ⟨g, 0, none⟩ = some (.slice ad bs.length c) := by rw [cell_of_row _ _ _ _ _ _ h5]; rfl
  have H8 := Lib.hid h8
  clear h1 h3 h4 h5 h8
  by_cases hn0 : n = 0
  · subst hn0
    have HE : Hid (rangeE a 0 bs.length = 0) := by show _ = _; simp [rangeE, there]
    clear c0 h2 h6 h7
    go_enter Try.func26, Try.ntmps26
    go_wp2_with fail
    refine bodyPost_ret (v := .tuple #[.slice none 0 0, .int .i64 0]) (by simp [results, Try.f26, go_sem]) rfl ?_
    exact ⟨rfl, none, 0, 0, by rw [HE.out], by omega, by omega, by simp⟩
  have HN := Lib.hid hn0
  have e0 : ((n : Int) == 0) = false := by simp; omega
  have w1 : IntKind.u64.wrap (a : Int) = a := by simp [IntKind.wrap, IntKind.bits, IntKind.signed]; omega
  have w2 : IntKind.u64.wrap ((a : Int) + n) = a + n := by simp [IntKind.wrap, IntKind.bits, IntKind.signed]; omega
  have w3 : IntKind.u64.wrap (bs.length : Int) = bs.length := by simp [IntKind.wrap, IntKind.bits, IntKind.signed]; omega
  have p1 : (0 : Int) ≤ a := by omega
  have p2 : (a : Int) ≤ a + n := by omega
  clear hn0
  by_cases hle : a + n ≤ bs.length
  · have HT : Hid (there a n bs.length = true) := by show _ = _; simp [there, hle]
    have HE : Hid (rangeE a n bs.length = 0) := by show _ = _; simp [rangeE, HT.out]
    have e1 : decide (((bs.length : Nat) : Int) < (a : Int) + n) = false := by simp; omega
    obtain ⟨hd, rfl, hb⟩ := H8.out.resolve_left (by rintro rfl; have := HN.out; simp at hle; omega)
    have hs : ∀ W, (sizeOf (Try.prog.elem 35)).run Try.prog W = .ok 1 W := fun W => by kernel_rfl
    have p3 : (a : Int) + n ≤ c := by omega
    have HH := Lib.hid (show a + n ≤ c by omega)
    have hca : ¬ c = a := by have := HN.out; omega
    clear hb hd H8
    generalize bs.length = L at *
    go_enter Try.func26, Try.ntmps26
    go_wp2_with fail
    refine bodyPost_ret (v := .tuple #[.slice (some ⟨d, a, none⟩) n (c - a), .int .i64 0]) (by simp [results, Try.f26, go_sem]) rfl ?_
    exact ⟨rfl, _, n, c - a, by rw [HE.out], by have := HH.out; omega, by omega, by rw [if_pos ⟨HT.out, HN.out⟩]; exact ⟨rfl, rfl⟩⟩
  · have HT : Hid (there a n bs.length = false) := by show _ = _; simp [there, hle]; exact HN.out
    have HE : Hid (rangeE a n bs.length = 5) := by show _ = _; simp [rangeE, HT.out]
    have e1 : decide (((bs.length : Nat) : Int) < (a : Int) + n) = true := by simp; omega
    clear H8
    generalize bs.length = L at *
    go_enter Try.func26, Try.ntmps26
    go_wp2_with fail
    refine bodyPost_ret (v := .tuple #[.slice none 0 0, .int .i64 5]) (by simp [results, Try.f26, go_sem]) rfl ?_
    exact ⟨rfl, none, 0, 0, by rw [HE.out], by omega, by omega, by simp [HT.out]⟩
theorem span_nil (a n : Nat) (w : World) : Calls Try.prog 26 #[.pointer none, .int .u32 (a : Int), .int .u64 (n : Int)] w fun e w' => e = .returned (.tuple #[.slice none 0 0, .int .i64 1]) ∧ w' = w := by
  go_enter Try.func26, Try.ntmps26
  go_wp2_with fail
  refine bodyPost_ret (v := .tuple #[.slice none 0 0, .int .i64 1]) (by simp [results, Try.f26, go_sem]) rfl ?_
  exact ⟨rfl, rfl⟩
theorem below_alloc (w : World) (o : Obj) : Below w.heap.size w (w.alloc o) := (Below.refl _ _).alloc (Nat.le_refl _) _
/-! ### told -/
/-- a new row with these bytes: a slice of the call's own -/
def Told (w : World) (B : Nat) (v : Value) (l : List Int) : Prop := (l = [] ∧ v = .slice none 0 0) ∨ (∃ k, l ≠ [] ∧ v = .slice (some ⟨k, 0, none⟩) l.length l.length ∧ B ≤ k ∧ w.heap[k]? = some (.cells (ints .u8 l) 5 (0, 0)))
theorem bytes_of {p : Nat → Prop} {w : World} {b off n : Nat} {l : List Int} (h : SRow p w (some ⟨b, off, none⟩) n l) : ∀ j v, (l.map (Value.int .u8))[j]? = some v → w.cell? ((⟨b, off, none⟩ : Addr).add j) = some v := by
  obtain ⟨h1, h2, h3⟩ := h
  intro j v hj
  have hj' : j < l.length := by have := (List.getElem?_eq_some_iff.1 hj).1; simpa using this
  obtain ⟨b', off', e, _, hc⟩ := h3.resolve_left (by omega)
  simp only [Option.some.injEq, Addr.mk.injEq] at e
  obtain ⟨rfl, rfl, _⟩ := e
  rw [Addr.add_mid b off j, hc j (by omega), ← hj]
  simp [List.getD, hj']
theorem uB : Try.prog.underlying 35 = some (.slice 5) := Try.underlying35
theorem sB : (Try.prog.info? 5).map (·.size) = some 1 := by kernel_rfl
/-- copy of a slice's head into the middle of a row -/
theorem run_copy_mid (w : World) (g o n dLen dCap cap m : Nat) (a : Option Addr) (l bl : List Int) (t ty : TypeId) {p : Nat → Prop} (hs : SRow p w a n l) (hg : w.heap[g]? = some (.cells (ints .u8 bl) t (0, 0))) (hm : Nat.min n dLen = m) (hd : o + m ≤ bl.length) (hp : 0 < m) :
    (Builtin.copy_ #[35, 35] ty #[.slice (some ⟨g, o, none⟩) dLen dCap, .slice a n cap]).run Try.prog w = .ok (goInt m) (w.setRow g (ints .u8 (put bl o (l.take m)))) := by
  have h1 := hs.1
  have m1 : m ≤ n := by rw [← hm]; exact Nat.min_le_left _ _
  obtain ⟨b, off, rfl, _, _⟩ := hs.2.2.resolve_left (by omega)
  have hb := bytes_of hs
  have hlen : (l.take m).length = m := by simp; omega
  have hrun := run_copy_row (P := Try.prog) w 35 35 ty 5 g o dLen dCap ⟨b, off, none⟩ n cap (ints .u8 bl) t ((l.take m).map (Value.int .u8)) uB sB hg (by rw [List.length_map, hlen, hm])
    (fun j v hj => by
      rw [List.map_take] at hj
      have hlt : j < m := by have := (List.getElem?_eq_some_iff.1 hj).1; simp at this; omega
      rw [List.getElem?_take_of_lt hlt] at hj
      exact hb j v hj) (by rw [ints_size, List.length_map, hlen]; exact hd) (ints_one _ _)
  rw [List.length_map, hlen] at hrun
  rw [hrun]
  congr 2
  unfold put ints
  rw [hlen]
  simp
/-- copy to, or of, nothing -/
theorem run_copy_none (w : World) (dCap n cap : Nat) (a : Option Addr) (ty : TypeId) :
    (Builtin.copy_ #[35, 35] ty #[.slice none 0 dCap, .slice a n cap]).run Try.prog w = .ok (goInt 0) w := by
  have hs := sB
  cases hq : Try.prog.info? 5 with
  | none => simp [hq] at hs
  | some i =>
    cases a with
    | none => simp [Builtin.copy_, run_underlying uB, Builtin.lenOf, Builtin.firstCells, sizeOf, typeInfo, hq, storeCells]
    | some x =>
      have hl := run_loadCells_list (P := Try.prog) w x [] (fun j v hj => by simp at hj)
      simp at hl
      simp [Builtin.copy_, run_underlying uB, Builtin.lenOf, Builtin.firstCells, sizeOf, typeInfo, hq, hl, storeCells]
/-- copy of nothing into a row -/
theorem run_copy_zero (w : World) (x : Addr) (dLen dCap cap : Nat) (ty : TypeId) :
    (Builtin.copy_ #[35, 35] ty #[.slice (some x) dLen dCap, .slice none 0 cap]).run Try.prog w = .ok (goInt 0) w := by
  have hs := sB
  cases hq : Try.prog.info? 5 with
  | none => simp [hq] at hs
  | some i => simp [Builtin.copy_, run_underlying uB, Builtin.lenOf, Builtin.firstCells, sizeOf, typeInfo, hq, storeCells]
theorem made_zeros (n k : Nat) (h : k = 1) : Go.madeCells (Value.int .u8 0).cells (n * k) = ints .u8 (List.replicate n 0) := by
  subst h
  apply Array.ext'
  simp [Go.madeCells, Value.cells, ints]
  apply List.ext_getElem
  · simp
  · intro i h1 h2
    simp [show i % 1 = 0 from Nat.mod_one i]
theorem infoByte : (Try.prog.info? 5).map (fun i => (i.zero, i.size, i.bytes)) = some (some (.int .u8 0), 1, 1) := by kernel_rfl
theorem run_make_zeros (w : World) (k : IntKind) (n : Nat) (hn : n ≤ 1000000) :
    (Instr.makeSlice 35 (.int k (n : Int)) (.int k (n : Int))).run Try.prog w = .ok (.slice (some ⟨w.heap.size, 0, none⟩) n n) (w.alloc (.cells (ints .u8 (List.replicate n 0)) 5)) := by
  obtain ⟨i, hi, hz, hs, hb⟩ := info_parts infoByte
  have := run_make (P := Try.prog) w 35 5 i (.int .u8 0) Try.underlying35 hi hz k k (n : Int) (n : Int) (by omega) (by omega) (by rw [hb]; omega) (by omega)
  rw [this, Int.toNat_natCast, made_zeros n i.size hs]
theorem told_any {p : Nat → Prop} {a : Option Addr} {n c : Nat} {l : List Int} (w : World) (h : SRow p w a n l) (hn : n ≤ 1000000) :
    Calls Try.prog 28 #[.slice a n c] w fun e w' => ∃ v, e = .returned v ∧ Told w' w.heap.size v l ∧ Below w.heap.size w w' := by
  have h1 := h.1
  by_cases h0 : n = 0
  · subst h0
    have HL : Hid (l = []) := List.eq_nil_of_length_eq_zero h1
    clear h h1 hn
    go_enter Try.func28, Try.ntmps28
    go_wp2_with fail
    refine bodyPost_ret (v := .slice none 0 0) (by simp [results, Try.f28, go_sem]) rfl ?_
    exact ⟨_, rfl, .inl ⟨HL.out, rfl⟩, Below.refl _ _⟩
  have e0 : ((n : Int) == 0) = false := by simp; omega
  have H0 := Lib.hid h0
  have H1 := Lib.hid h1
  have hmk := fun W => run_make_zeros W .i64 n hn
  have hcp : ∀ ty, (Builtin.copy_ #[35, 35] ty #[.slice (some ⟨w.heap.size, 0, none⟩) n n, .slice a n c]).run Try.prog (w.alloc (.cells (ints .u8 (List.replicate n 0)) 5)) = .ok (goInt n) ((w.alloc (.cells (ints .u8 (List.replicate n 0)) 5)).setRow w.heap.size (ints .u8 l)) := fun ty => by
    rw [run_copy_mid _ _ 0 n n n c n a l _ 5 ty (h.below (below_alloc _ _) (Nat.le_refl _)) (heap_alloc_new _ _) (Nat.min_self n) (by simp) (by omega), put_all _ _ (by simp; omega), List.take_of_length_le (by omega)]
  rw [World.setRow_alloc_new] at hcp
  have HL : Hid (Below w.heap.size w (w.alloc (.cells (ints .u8 l) 5))) := below_alloc _ _
  have HN := Lib.hid (heap_alloc_new w (.cells (ints .u8 l) 5))
  clear h h0 h1
  go_enter Try.func28, Try.ntmps28
  go_wp2_with (first | rw [hmk] | simp only [hcp])
  refine bodyPost_ret (v := .slice (some ⟨w.heap.size, 0, none⟩) n n) (by simp [results, Try.f28, go_sem]) rfl ?_
  exact ⟨_, rfl, .inr ⟨_, by rintro rfl; exact H0.out H1.out.symm, by rw [H1.out], Nat.le_refl _, HN.out⟩, HL.out⟩
end Ram
end Go.Proofs.Ythpimoinognkhaa
