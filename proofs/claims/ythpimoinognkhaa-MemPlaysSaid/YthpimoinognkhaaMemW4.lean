/- New, Size, Zero, Put, Get, Copy. -/
import Derived.Test.YthpimoinognkhaaMemW3
namespace Go.Proofs.Ythpimoinognkhaa
open Go.ChangeShapes Go.WideShapes Go.ChangeAt Go.RowKit
namespace Ram
set_option linter.unusedVariables false
set_option linter.unusedSimpArgs false
/-- a new memory's object -/
def NewP (T : TypeId) (w : World) (bs : List Int) (e : Ending) (w' : World) : Prop :=
  ∃ g d, e = .returned (.pointer (some ⟨g, 0, none⟩)) ∧ w.heap.size ≤ g ∧ w.heap.size ≤ d ∧ Ram T w' g d bs ∧ Below w.heap.size w w'
def NewP2 (T : TypeId) (w : World) (bs : List Int) (e : Ending) (w' : World) : Prop :=
  ∃ g d, e = .returned (.tuple #[.pointer (some ⟨g, 0, none⟩), .int .i64 0]) ∧ w.heap.size ≤ g ∧ w.heap.size ≤ d ∧ Ram T w' g d bs ∧ Below w.heap.size w w'
theorem ram_new (T : TypeId) (w : World) (n : Nat) (hn : n ≤ 262144) :
    Ram T ((w.alloc (.cells (ints .u8 (List.replicate n 0)) 5)).alloc (.cells #[.slice (some ⟨w.heap.size, 0, none⟩) n n] T)) (w.heap.size + 1) w.heap.size (List.replicate n 0) := by
  refine ⟨by intro z hz; rw [List.eq_of_mem_replicate hz]; omega, by simpa using hn, by simp, by simp; omega, some ⟨w.heap.size, 0, none⟩, n, ?_, by simp, by omega, .inr ⟨by omega, rfl, heap_alloc2_old _ _ _⟩⟩
  rw [List.length_replicate]
  exact heap_alloc2_new _ _ _
theorem new_any (n : Nat) (hn : n ≤ 262144) (w : World) : Calls Try.prog 8 #[.int .u32 (n : Int)] w (NewP2 57 w (List.replicate n 0)) := by
  have hmk := fun W => run_make_zeros W .u32 n (by omega)
  have e0 : decide ((262144 : Int) < (n : Int)) = false := by simp; omega
  have HR := Lib.hid (ram_new 57 w n hn)
  have HB : Hid (Below w.heap.size w ((w.alloc (.cells (ints .u8 (List.replicate n 0)) 5)).alloc (.cells #[.slice (some ⟨w.heap.size, 0, none⟩) n n] 57))) := ((Below.refl _ _).alloc (Nat.le_refl _) _).alloc (by simp) _
  generalize List.replicate n (0 : Int) = Z at *
  go_enter Try.func8, Try.ntmps8
  go_wp2_with (rw [hmk])
  refine bodyPost_ret (v := .tuple #[.pointer (some ⟨w.heap.size + 1, 0, none⟩), .int .i64 0]) (by simp [results, Try.f8, go_sem]) rfl ?_
  exact ⟨_, _, rfl, by omega, by omega, HR.out, HB.out⟩
theorem new_great (n : Int) (hn : 262144 < n ∧ n ≤ 4294967295) (w : World) : Calls Try.prog 8 #[.int .u32 n] w fun e w' => e = .returned (.tuple #[.pointer none, .int .i64 2]) ∧ w' = w := by
  have e0 : decide ((262144 : Int) < n) = true := by simp; omega
  go_enter Try.func8, Try.ntmps8
  go_wp2_with fail
  refine bodyPost_ret (v := .tuple #[.pointer none, .int .i64 2]) (by simp [results, Try.f8, go_sem]) rfl ⟨rfl, rfl⟩
theorem size_any {g d : Nat} {bs : List Int} {w : World} (h : Ram 57 w g d bs) : Calls Try.prog 10 #[.pointer (some ⟨g, 0, none⟩)] w fun e w' => e = .returned (.int .u32 (bs.length : Int)) ∧ w' = w := by
  obtain ⟨h1, h2, h3, h4, ad, c, h5, h6, h7, h8⟩ := h
  have c0 : w.cell? ⟨g, 0, none⟩ = some (.slice ad bs.length c) := by rw [cell_of_row _ _ _ _ _ _ h5]; rfl
  have w1 : IntKind.u32.wrap (bs.length : Int) = bs.length := by simp [IntKind.wrap, IntKind.bits, IntKind.signed]; omega
  clear h1 h3 h4 h5 h8
  generalize bs.length = L at *
  go_enter Try.func10, Try.ntmps10
  go_wp2_with fail
  go_ret
  exact ⟨rfl, rfl⟩
theorem size_nil (w : World) : Calls Try.prog 10 #[.pointer none] w fun e w' => e = .returned (.int .u32 0) ∧ w' = w := by
  go_enter Try.func10, Try.ntmps10
  go_wp2_with fail
  go_ret
  exact ⟨rfl, rfl⟩
/-- what was changed -/
def DoneP (T : TypeId) (g d : Nat) (bs : List Int) (err : Int) (w : World) (e : Ending) (w' : World) : Prop := e = .returned (.int .i64 err) ∧ Ram T w' g d bs ∧ Kept (· = d) w w'
/-- the place that span answers, as a row -/
theorem place_row {T : TypeId} {g d : Nat} {bs : List Int} {w : World} (h : Ram T w g d bs) {a n : Nat} (h0 : n ≠ 0) (hle : a + n ≤ bs.length) : SRow (fun _ => False) w (some ⟨d, a, none⟩) n (get bs a n) := by
  obtain ⟨h1, h2, h3, h4, ad, c, h5, h6, h7, h8⟩ := h
  obtain ⟨_, _, hd⟩ := h8.resolve_left (by rintro rfl; simp at hle; omega)
  refine ⟨get_len _ _ _ hle, get_by h1, .inr ⟨d, a, rfl, id, fun i hi => ?_⟩⟩
  rw [row_cell hd (a + i) (by omega), get_at _ _ _ _ hi]
theorem srow_none (p : Nat → Prop) (w : World) (a : Option Addr) : SRow p w a 0 [] := ⟨rfl, by simp, .inl rfl⟩
theorem run_clear_mid (w : World) (g o n c : Nat) (bl : List Int) (t ty : TypeId) (hg : w.heap[g]? = some (.cells (ints .u8 bl) t (0, 0))) (hn : 0 < n) (hfit : o + n ≤ bl.length) :
    (Builtin.clear_ #[35] ty #[.slice (some ⟨g, o, none⟩) n c]).run Try.prog w = .ok (.tuple #[]) (w.setRow g (ints .u8 (put bl o (List.replicate n 0)))) := by
  have hv : ∀ w, (zeroValue 5).run Try.prog w = .ok (.int .u8 0) w := fun w => by kernel_rfl
  have hzc : (Builtin.zeroCells (Value.int .u8 0).cells n).toList = (List.replicate n (0 : Int)).map (Value.int .u8) := by
    simp [Builtin.zeroCells, Value.cells]
    apply List.ext_getElem
    · simp
    · intro i h1 h2
      simp [show i % 1 = 0 from Nat.mod_one i]
  have hst := run_storeCells_at Try.prog g o t ((List.replicate n (0 : Int)).map (Value.int .u8)) 0 (ints .u8 bl) w hg (by rw [ints_size, List.length_map, List.length_replicate]; omega) (ints_one _ _)
  simp only [Nat.add_zero, List.length_map, List.length_replicate] at hst
  have fin : ((ints .u8 bl).toList.take o ++ (List.replicate n (0 : Int)).map (Value.int .u8) ++ (ints .u8 bl).toList.drop (o + n)).toArray = ints .u8 (put bl o (List.replicate n 0)) := by
    unfold put ints
    rw [List.length_replicate]
    simp
  rw [fin] at hst
  obtain ⟨m, rfl⟩ : ∃ m, n = m + 1 := ⟨n - 1, by omega⟩
  generalize (List.replicate (m + 1) (0 : Int)) = Z at *
  simp [Builtin.clear_, run_underlying uB, hv, hzc, hst]
theorem run_clear_none (w : World) (c : Nat) (ty : TypeId) : (Builtin.clear_ #[35] ty #[.slice none 0 c]).run Try.prog w = .ok (.tuple #[]) w := by
  simp [Builtin.clear_, run_underlying uB]
theorem rep_by (n : Nat) : ∀ z ∈ List.replicate n (0 : Int), 0 ≤ z ∧ z ≤ 255 := by intro z hz; rw [List.eq_of_mem_replicate hz]; omega
/-- the bytes' block, written -/
theorem Ram.write {T : TypeId} {g d : Nat} {bs bs' : List Int} {w : World} (h : Ram T w g d bs) (h0 : bs ≠ []) (hl : bs'.length = bs.length) (hby : ∀ z ∈ bs', 0 ≤ z ∧ z ≤ 255) : Ram T (w.setRow d (ints .u8 bs')) g d bs' := by
  obtain ⟨_, _, hd⟩ := h.2.2.2.2.choose_spec.choose_spec.2.2.2.resolve_left h0
  exact h.put h0 ((Kept.refl (· = d) _).setRow (.inl rfl) _) hl hby (setRow_heap _ _ _ _ _ _ hd)
theorem Ram.row {T : TypeId} {g d : Nat} {bs : List Int} {w : World} (h : Ram T w g d bs) (h0 : bs ≠ []) : w.heap[d]? = some (.cells (ints .u8 bs) 5 (0, 0)) :=
  (h.2.2.2.2.choose_spec.choose_spec.2.2.2.resolve_left h0).2.2
theorem there_le {a n L : Nat} (h : there a n L = true) (h0 : n ≠ 0) : a + n ≤ L := by unfold there at h; simp at h; omega
theorem span_some {g d : Nat} {bs : List Int} {w : World} (h : Ram 57 w g d bs) (a n : Nat) (ha : a ≤ 4294967295) (hn : n ≤ 9223372036854775807) (hc : there a n bs.length = true) (h0 : n ≠ 0) :
    Calls Try.prog 26 #[.pointer (some ⟨g, 0, none⟩), .int .u32 (a : Int), .int .u64 (n : Int)] w fun e w' => (∃ c, n ≤ c ∧ c ≤ 1000000 ∧ e = .returned (.tuple #[.slice (some ⟨d, a, none⟩) n c, .int .i64 0])) ∧ w' = w := by
  refine (span_any h a n ha hn).mono ?_
  rintro e w' ⟨rfl, x, m, c, rfl, hm, hc6, hif⟩
  rw [if_pos ⟨hc, h0⟩] at hif
  obtain ⟨rfl, rfl⟩ := hif
  have : rangeE a m bs.length = 0 := by unfold rangeE; rw [if_pos hc]
  rw [this]
  exact ⟨⟨c, hm, hc6, rfl⟩, rfl⟩
theorem span_out {g d : Nat} {bs : List Int} {w : World} (h : Ram 57 w g d bs) (a n : Nat) (ha : a ≤ 4294967295) (hn : n ≤ 9223372036854775807) (hc : ¬ (there a n bs.length = true ∧ n ≠ 0)) :
    Calls Try.prog 26 #[.pointer (some ⟨g, 0, none⟩), .int .u32 (a : Int), .int .u64 (n : Int)] w fun e w' => e = .returned (.tuple #[.slice none 0 0, .int .i64 (rangeE a n bs.length)]) ∧ w' = w := by
  refine (span_any h a n ha hn).mono ?_
  rintro e w' ⟨rfl, x, m, c, rfl, hm, hc6, hif⟩
  rw [if_neg hc] at hif
  obtain ⟨rfl, rfl, rfl⟩ := hif
  exact ⟨rfl, rfl⟩
theorem rangeE_ok {a n L : Nat} (h : there a n L = true) : rangeE a n L = 0 := by unfold rangeE; rw [if_pos h]
theorem zero_any {g d : Nat} {bs : List Int} {w : World} (h : Ram 57 w g d bs) (a n : Nat) (ha : a ≤ 4294967295) (hn : n ≤ 4294967295) :
    Calls Try.prog 11 #[.pointer (some ⟨g, 0, none⟩), .int .u32 (a : Int), .int .u32 (n : Int)] w (DoneP 57 g d (zeroM bs a n) (rangeE a n bs.length) w) := by
  have w2 : IntKind.u64.wrap (n : Int) = n := by simp [IntKind.wrap, IntKind.bits, IntKind.signed]; omega
  by_cases hc : there a n bs.length = true ∧ n ≠ 0
  · obtain ⟨hc1, hc2⟩ := hc
    have hs := span_some h a n ha (by omega) hc1 hc2
    have hle := there_le hc1 hc2
    have hne : bs ≠ [] := by rintro rfl; simp at hle; omega
    have HE : Hid (zeroM bs a n = put bs a (List.replicate n 0)) := by show _ = _; unfold zeroM; rw [if_pos hc1]
    have HR := Lib.hid (rangeE_ok hc1)
    have HW := Lib.hid (h.write (bs' := put bs a (List.replicate n 0)) hne (put_len _ _ _ (by simpa using hle)) (put_by h.1 (rep_by n)))
    have hcl := fun c ty => run_clear_mid w d a n c bs _ ty (h.row hne) (by omega) hle
    have HS := Lib.hid hs
    clear hs h hc1 hc2 hle hne
    go_enter Try.func11, Try.ntmps11
    go_wp2_with (go_at_call 26; refine HS.out.mono ?_; rintro e w1 ⟨⟨c, hn, hc, rfl⟩, rfl⟩)
    go_wp2_with (simp only [hcl])
    go_ret
    exact ⟨by rw [HR.out]; rfl, by rw [HE.out]; exact HW.out, (Kept.refl (· = d) _).setRow (.inl rfl) _⟩
  · have hs := span_out h a n ha (by omega) hc
    have HS := Lib.hid hs
    have hcl := fun c ty => run_clear_none w c ty
    have HE : Hid (zeroM bs a n = bs) := by
      show _ = _; unfold zeroM
      split
      · have : n = 0 := Decidable.byContradiction fun h0 => hc ⟨by assumption, h0⟩
        subst this
        simp [put_nil]
      · rfl
    have HH := Lib.hid h
    clear hs h hc
    go_enter Try.func11, Try.ntmps11
    go_wp2_with (first | (go_at_call 26; refine HS.out.mono ?_; rintro e w1 ⟨rfl, rfl⟩) | simp only [hcl])
    go_ret
    exact ⟨rfl, by rw [HE.out]; exact HH.out, Kept.refl _ _⟩
theorem zero_nil (a n : Nat) (w : World) (hn : n ≤ 4294967295) : Calls Try.prog 11 #[.pointer none, .int .u32 (a : Int), .int .u32 (n : Int)] w fun e w' => e = .returned (.int .i64 1) ∧ w' = w := by
  have w2 : IntKind.u64.wrap (n : Int) = n := by simp [IntKind.wrap, IntKind.bits, IntKind.signed]; omega
  have hcl := fun c ty => run_clear_none w c ty
  have HS := Lib.hid (span_nil a n w)
  go_enter Try.func11, Try.ntmps11
  go_wp2_with (first | (go_at_call 26; refine HS.out.mono ?_; rintro e w1 ⟨rfl, rfl⟩) | simp only [hcl])
  go_ret
  exact ⟨rfl, rfl⟩
theorem put_any {g d : Nat} {bs : List Int} {w : World} (h : Ram 57 w g d bs) (a n c : Nat) (ha : a ≤ 4294967295) (hn : n ≤ 9223372036854775807) {ab : Option Addr} {l : List Int} (hl : SRow (· = d) w ab n l) :
    Calls Try.prog 13 #[.pointer (some ⟨g, 0, none⟩), .int .u32 (a : Int), .slice ab n c] w (DoneP 57 g d (putM bs a l) (rangeE a n bs.length) w) := by
  have w2 : IntKind.u64.wrap (n : Int) = n := by simp [IntKind.wrap, IntKind.bits, IntKind.signed]; omega
  have hll := hl.1
  by_cases hc : there a n bs.length = true ∧ n ≠ 0
  · obtain ⟨hc1, hc2⟩ := hc
    have hs := span_some h a n ha (by omega) hc1 hc2
    have hle := there_le hc1 hc2
    have hne : bs ≠ [] := by rintro rfl; simp at hle; omega
    have HE : Hid (putM bs a l = put bs a l) := by show _ = _; unfold putM; rw [hll, if_pos hc1]
    have HR := Lib.hid (rangeE_ok hc1)
    have HW := Lib.hid (h.write (bs' := put bs a l) hne (put_len _ _ _ (by omega)) (put_by h.1 hl.2.1))
    have hcp := fun c' ty => run_copy_mid w d a n n c' c n ab l bs _ ty hl (h.row hne) (Nat.min_self n) hle (by omega)
    rw [List.take_of_length_le (by omega)] at hcp
    have HS := Lib.hid hs
    clear hs h hc1 hc2 hle hne hl
    go_enter Try.func13, Try.ntmps13
    go_wp2_with (go_at_call 26; refine HS.out.mono ?_; rintro e w1 ⟨⟨c', hn, hc, rfl⟩, rfl⟩)
    go_wp2_with (simp only [hcp])
    go_ret
    exact ⟨by rw [HR.out]; rfl, by rw [HE.out]; exact HW.out, (Kept.refl (· = d) _).setRow (.inl rfl) _⟩
  · have hs := span_out h a n ha (by omega) hc
    have HS := Lib.hid hs
    have hcp := fun ty => run_copy_none w 0 n c ab ty
    have HE : Hid (putM bs a l = bs) := by
      show _ = _; unfold putM
      split
      · have : n = 0 := Decidable.byContradiction fun h0 => hc ⟨by rw [← hll]; assumption, h0⟩
        have : l = [] := List.eq_nil_of_length_eq_zero (by omega)
        subst this
        simp [put_nil]
      · rfl
    have HH := Lib.hid h
    clear hs h hc hl
    go_enter Try.func13, Try.ntmps13
    go_wp2_with (first | (go_at_call 26; refine HS.out.mono ?_; rintro e w1 ⟨rfl, rfl⟩) | simp only [hcp])
    go_ret
    exact ⟨rfl, by rw [HE.out]; exact HH.out, Kept.refl _ _⟩
theorem put_nilm (a n c : Nat) (ab : Option Addr) (w : World) (hn : n ≤ 9223372036854775807) : Calls Try.prog 13 #[.pointer none, .int .u32 (a : Int), .slice ab n c] w fun e w' => e = .returned (.int .i64 1) ∧ w' = w := by
  have w2 : IntKind.u64.wrap (n : Int) = n := by simp [IntKind.wrap, IntKind.bits, IntKind.signed]; omega
  have hcp := fun ty => run_copy_none w 0 n c ab ty
  have HS := Lib.hid (span_nil a n w)
  go_enter Try.func13, Try.ntmps13
  go_wp2_with (first | (go_at_call 26; refine HS.out.mono ?_; rintro e w1 ⟨rfl, rfl⟩) | simp only [hcp])
  go_ret
  exact ⟨rfl, rfl⟩
/-- a new row, told, beside an error -/
def ToldP (l : List Int) (err : Int) (w : World) (e : Ending) (w' : World) : Prop := ∃ v, e = .returned (.tuple #[v, .int .i64 err]) ∧ Told w' w.heap.size v l ∧ Below w.heap.size w w'
theorem get_any {g d : Nat} {bs : List Int} {w : World} (h : Ram 57 w g d bs) (a n : Nat) (ha : a ≤ 4294967295) (hn : n ≤ 4294967295) :
    Calls Try.prog 15 #[.pointer (some ⟨g, 0, none⟩), .int .u32 (a : Int), .int .u32 (n : Int)] w (ToldP (getM bs a n) (rangeE a n bs.length) w) := by
  have w2 : IntKind.u64.wrap (n : Int) = n := by simp [IntKind.wrap, IntKind.bits, IntKind.signed]; omega
  by_cases hc : there a n bs.length = true ∧ n ≠ 0
  · obtain ⟨hc1, hc2⟩ := hc
    have HS := Lib.hid (span_some h a n ha (by omega) hc1 hc2)
    have hle := there_le hc1 hc2
    have HP := Lib.hid (place_row h hc2 hle)
    have HN : Hid (n ≤ 262144) := by have := h.2.1; show _ ≤ _; omega
    have HE : Hid (getM bs a n = get bs a n) := by show _ = _; unfold getM; rw [if_pos hc1]
    have HR := Lib.hid (rangeE_ok hc1)
    clear h hc1 hc2 hle
    go_enter Try.func15, Try.ntmps15
    go_wp2_with (go_at_call 26; refine HS.out.mono ?_; rintro e w1 ⟨⟨c', hn, hc, rfl⟩, rfl⟩)
    go_wp2_with (go_at_call 28; refine (told_any _ HP.out (by have := HN.out; omega)).mono ?_; rintro e w2 ⟨v, rfl, ht, hb⟩)
    refine bodyPost_ret (v := .tuple #[v, .int .i64 0]) (by simp [results, Try.f15, go_sem]) rfl ?_
    exact ⟨v, by rw [HR.out], by rw [HE.out]; exact ht, hb⟩
  · have HS := Lib.hid (span_out h a n ha (by omega) hc)
    have HE : Hid (getM bs a n = []) := by
      show _ = _; unfold getM
      split
      · have : n = 0 := Decidable.byContradiction fun h0 => hc ⟨by assumption, h0⟩
        subst this
        simp [get]
      · rfl
    clear h hc
    go_enter Try.func15, Try.ntmps15
    go_wp2_with (first | (go_at_call 26; refine HS.out.mono ?_; rintro e w1 ⟨rfl, rfl⟩) | (go_at_call 28; refine (told_any _ (srow_none (fun _ => False) _ none) (by omega)).mono ?_; rintro e w2 ⟨v, rfl, ht, hb⟩))
    refine bodyPost_ret (v := .tuple #[v, .int .i64 (rangeE a n bs.length)]) (by simp [results, Try.f15, go_sem]) rfl ?_
    exact ⟨v, rfl, by rw [HE.out]; exact ht, hb⟩
theorem get_nil (a n : Nat) (w : World) (hn : n ≤ 4294967295) : Calls Try.prog 15 #[.pointer none, .int .u32 (a : Int), .int .u32 (n : Int)] w (ToldP [] 1 w) := by
  have w2 : IntKind.u64.wrap (n : Int) = n := by simp [IntKind.wrap, IntKind.bits, IntKind.signed]; omega
  have HS := Lib.hid (span_nil a n w)
  go_enter Try.func15, Try.ntmps15
  go_wp2_with (first | (go_at_call 26; refine HS.out.mono ?_; rintro e w1 ⟨rfl, rfl⟩) | (go_at_call 28; refine (told_any _ (srow_none (fun _ => False) _ none) (by omega)).mono ?_; rintro e w2 ⟨v, rfl, ht, hb⟩))
  refine bodyPost_ret (v := .tuple #[v, .int .i64 1]) (by simp [results, Try.f15, go_sem]) rfl ?_
  exact ⟨v, rfl, ht, hb⟩
/-! ### Copy -/
theorem all_row {T : TypeId} {g d : Nat} {bs : List Int} {w : World} (h : Ram T w g d bs) : ∃ a c, w.cell? ⟨g, 0, none⟩ = some (.slice a bs.length c) ∧ SRow (fun _ => False) w a bs.length bs := by
  obtain ⟨h1, h2, h3, h4, a, c, h5, h6, h7, h8⟩ := h
  refine ⟨a, c, by rw [cell_of_row _ _ _ _ _ _ h5]; rfl, rfl, h1, ?_⟩
  rcases h8 with rfl | ⟨_, rfl, hd⟩
  · exact .inl rfl
  · exact .inr ⟨d, 0, rfl, id, fun i hi => by rw [Nat.zero_add]; exact row_cell hd i hi⟩
theorem told_ram {T : TypeId} {w w1 : World} {v : Value} {bs : List Int} (h : Told w1 w.heap.size v bs) (hb : Below w.heap.size w w1) (hby : ∀ z ∈ bs, 0 ≤ z ∧ z ≤ 255) (hl : bs.length ≤ 262144) : ∃ d, w.heap.size ≤ d ∧ Ram T (w1.alloc (.cells #[v] T)) w1.heap.size d bs := by
  have hs := hb.size
  rcases h with ⟨rfl, rfl⟩ | ⟨k, hne, rfl, hk, hc⟩
  · exact ⟨w1.heap.size, hs, by simp, by simp, by simp, by simp, none, 0, heap_alloc_new _ _, by simp, by omega, .inl rfl⟩
  · have hlt := lt_of_block hc
    refine ⟨k, hk, hby, hl, by simp, by simp; omega, some ⟨k, 0, none⟩, bs.length, heap_alloc_new _ _, by omega, by omega, .inr ⟨by omega, rfl, ?_⟩⟩
    rw [Below.heap_alloc _ _ _ hlt]; exact hc
theorem Told.slice {w : World} {B : Nat} {v : Value} {l : List Int} (h : Told w B v l) : ∃ a c, v = .slice a l.length c := by
  rcases h with ⟨rfl, rfl⟩ | ⟨k, _, rfl, _⟩
  · exact ⟨_, _, rfl⟩
  · exact ⟨_, _, rfl⟩
theorem copy_any {g d : Nat} {bs : List Int} {w : World} (h : Ram 57 w g d bs) : Calls Try.prog 23 #[.pointer (some ⟨g, 0, none⟩)] w (NewP 57 w bs) := by
  obtain ⟨a, c, c0, hr⟩ := all_row h
  have HR := Lib.hid hr
  have HL := Lib.hid h.2.1
  have HB := Lib.hid h.1
  clear hr h
  go_enter Try.func23, Try.ntmps23
  go_wp2_with (go_at_call 28; refine (told_any _ HR.out (by have := HL.out; omega)).mono ?_; rintro e w1 ⟨v, rfl, ht, hb⟩; obtain ⟨va, vc, rfl⟩ := ht.slice)
  obtain ⟨d', hd', hram⟩ := told_ram (T := 57) ht hb HB.out HL.out
  refine bodyPost_ret (v := .pointer (some ⟨w1.heap.size, 0, none⟩)) (by simp [results, Try.f23, go_sem]) rfl ?_
  exact ⟨_, d', rfl, hb.size, hd', hram, hb.alloc hb.size _⟩
theorem copy_nil (w : World) : Calls Try.prog 23 #[.pointer none] w fun e w' => e = .returned (.pointer none) ∧ w' = w := by
  go_enter Try.func23, Try.ntmps23
  go_wp2_with fail
  refine bodyPost_ret (v := .pointer none) (by simp [results, Try.f23, go_sem]) rfl ⟨rfl, rfl⟩
end Ram
end Go.Proofs.Ythpimoinognkhaa
