/- The document's memory: there, may, New, Put, Zero, Get. -/
import Derived.Test.YthpimoinognkhaaMemW5
namespace Go.Proofs.Ythpimoinognkhaa
open Go.ChangeShapes Go.WideShapes Go.ChangeAt Go.RowKit
namespace Ram
set_option linter.unusedVariables false
set_option linter.unusedSimpArgs false
theorem rnew_any (n : Nat) (hn : n ≤ 262144) (w : World) : Calls Try.prog 9 #[.int .u32 (n : Int)] w (NewP2 48 w (List.replicate n 0)) := by
  have hmk := fun W => run_make_zeros W .u32 n (by omega)
  have e0 : decide ((262144 : Int) < (n : Int)) = false := by simp; omega
  have HR := Lib.hid (ram_new 48 w n hn)
  have HB : Hid (Below w.heap.size w ((w.alloc (.cells (ints .u8 (List.replicate n 0)) 5)).alloc (.cells #[.slice (some ⟨w.heap.size, 0, none⟩) n n] 48))) := ((Below.refl _ _).alloc (Nat.le_refl _) _).alloc (by simp) _
  generalize List.replicate n (0 : Int) = Z at *
  go_enter Try.func9, Try.ntmps9
  go_wp2_with (rw [hmk])
  refine bodyPost_ret (v := .tuple #[.pointer (some ⟨w.heap.size + 1, 0, none⟩), .int .i64 0]) (by simp [results, Try.f9, go_sem]) rfl ?_
  exact ⟨_, _, rfl, by omega, by omega, HR.out, HB.out⟩
theorem rnew_great (n : Int) (hn : 262144 < n ∧ n ≤ 4294967295) (w : World) : Calls Try.prog 9 #[.int .u32 n] w fun e w' => e = .returned (.tuple #[.pointer none, .int .i64 2]) ∧ w' = w := by
  have e0 : decide ((262144 : Int) < n) = true := by simp; omega
  go_enter Try.func9, Try.ntmps9
  go_wp2_with fail
  refine bodyPost_ret (v := .tuple #[.pointer none, .int .i64 2]) (by simp [results, Try.f9, go_sem]) rfl ⟨rfl, rfl⟩
section
variable {p : Nat → Prop} {g d : Nat} {bs : List Int} {w : World} {ar : Option Addr} {nr cr : Nat} {l : List Rg}
theorem there_any (h : Ram 48 w g d bs) (a n : Nat) (ha : a ≤ 4294967295) (hn : n ≤ 9223372036854775807) :
    Calls Try.prog 27 #[.pointer (some ⟨g, 0, none⟩), .int .u64 (a : Int), .int .u64 (n : Int)] w fun e w' => e = .returned (.bool (there a n bs.length)) ∧ w' = w := by
  obtain ⟨h1, h2, h3, h4, ad, c, h5, h6, h7, h8⟩ := h
  have c0 : w.cell? ⟨g, 0, none⟩ = some (.slice ad bs.length c) := by rw [cell_of_row _ _ _ _ _ _ h5]; rfl
  have w3 : IntKind.u64.wrap (bs.length : Int) = bs.length := by simp [IntKind.wrap, IntKind.bits, IntKind.signed]; omega
  clear h1 h3 h4 h5 h8
  generalize bs.length = L at *
  by_cases hn0 : n = 0
  · subst hn0
    have HT : Hid (there a 0 L = true) := by show _ = _; simp [there]
    clear c0 w3
    go_enter Try.func27, Try.ntmps27
    go_wp2_with fail
    go_ret
    exact ⟨by rw [HT.out]; rfl, rfl⟩
  have HT : Hid (there a n L = decide ((a : Int) + n - 1 < L)) := by show _ = _; unfold there; rw [decide_eq_decide]; omega
  have e0 : ((n : Int) == 0) = false := by simp; omega
  have w1 : IntKind.u64.wrap ((a : Int) + n) = a + n := by simp [IntKind.wrap, IntKind.bits, IntKind.signed]; omega
  have w2 : IntKind.u64.wrap ((a : Int) + n - 1) = a + n - 1 := by simp [IntKind.wrap, IntKind.bits, IntKind.signed]; omega
  clear hn0
  go_enter Try.func27, Try.ntmps27
  go_wp2_with fail
  go_ret
  exact ⟨by rw [HT.out]; rfl, rfl⟩
theorem may_any (h : Ram 48 w g d bs) (hr : RRow p w ar nr l) (hnr : nr ≤ 1000000) (a n : Nat) (right : Int) (ha : a ≤ 4294967295) (hn : n ≤ 4294967295) (hri : 0 ≤ right ∧ right ≤ 255) :
    Calls Try.prog 31 #[.pointer (some ⟨g, 0, none⟩), .slice ar nr cr, .int .u32 (a : Int), .int .u32 (n : Int), .int .u8 right] w fun e w' => e = .returned (.bool (lets l a n right bs.length)) ∧ Below w.heap.size w w' := by
  have w1 : IntKind.u64.wrap (a : Int) = a := by simp [IntKind.wrap, IntKind.bits, IntKind.signed]; omega
  have w2 : IntKind.u64.wrap (n : Int) = n := by simp [IntKind.wrap, IntKind.bits, IntKind.signed]; omega
  have HF := Lib.hid (rfind_any (c := cr) hr hnr a n right (by omega) (by omega) hri)
  have HT := Lib.hid (fun W (hb : Below w.heap.size w W) => there_any (h.below hb (Nat.le_refl _)) a n ha (by omega))
  unfold FindP at HF
  have HL : Hid ((fnd l a n right).isSome = true → lets l a n right bs.length = there a n bs.length) := fun h => by
    unfold lets there
    rw [h, Bool.true_and, decide_eq_decide]
    have : n ≠ 0 := by rintro rfl; have := fnd_zero l (a : Int) right; rw [show ((0 : Nat) : Int) = 0 from rfl] at h; rw [this] at h; cases h
    omega
  have HN : Hid ((fnd l a n right).isSome = false → lets l a n right bs.length = false) := fun h => by unfold lets; rw [h]; rfl
  clear h hr
  generalize lets l a n right bs.length = Z at *
  generalize there a n bs.length = Y at *
  generalize fnd l a n right = o at *
  cases o with
  | some i =>
    obtain rfl := HL.out rfl
    clear HL HN
    go_enter Try.func31, Try.ntmps31
    go_wp2_with (first
      | (go_at_call 35; refine HF.out.mono ?_; rintro e w2 ⟨rfl, hb⟩)
      | (go_at_call 27; refine (HT.out w2 hb).mono ?_; rintro e w3 ⟨rfl, rfl⟩))
    go_ret
    exact ⟨rfl, hb⟩
  | none =>
    obtain rfl := HN.out rfl
    clear HL HN HT
    go_enter Try.func31, Try.ntmps31
    go_wp2_with (go_at_call 35; refine HF.out.mono ?_; rintro e w2 ⟨rfl, hb⟩)
    go_ret
    exact ⟨rfl, hb⟩
end
end Ram
end Go.Proofs.Ythpimoinognkhaa
