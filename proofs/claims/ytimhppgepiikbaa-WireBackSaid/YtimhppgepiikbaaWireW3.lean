/- A writer in memory: one number, and bytes. -/
import Derived.Test.YtimhppgepiikbaaWireW2
namespace Go.Proofs.Ytimhppgepiikbaa
open Go.ChangeShapes Go.WideShapes Go.ChangeAt Go.RowKit
namespace Wire
variable {gu : Option (Nat × Obj)}
set_option linter.unusedVariables false
theorem u8_any (B g : Nat) (w : World) (s : List Int × Int) (n : Int) (h0 : 0 ≤ n) (h1 : n ≤ 255) (hB : B ≤ w.heap.size) (h : WSt gu B g w s) :
    Calls Try.prog 25 #[.pointer (some ⟨g, 0, none⟩), .int .u8 n] w fun r w' => r = .returned (.tuple #[]) ∧ WSt gu B g w' (num s n 1) ∧ Below B w w' := by
  have HS := Lib.hid h
  clear h
  go_enter Try.func25, Try.ntmps25
  go_wp2_with fail
  refine (number_any B g w s n 1 h0 (by omega) (by omega) hB HS.out).mono ?_
  rintro r w1 ⟨rfl, h1, h2⟩
  go_wp2_with fail
  go_end0
  exact ⟨rfl, h1, h2⟩
theorem u16_any (B g : Nat) (w : World) (s : List Int × Int) (n : Int) (h0 : 0 ≤ n) (h1 : n ≤ 65535) (hB : B ≤ w.heap.size) (h : WSt gu B g w s) :
    Calls Try.prog 18 #[.pointer (some ⟨g, 0, none⟩), .int .u16 n] w fun r w' => r = .returned (.tuple #[]) ∧ WSt gu B g w' (num s n 2) ∧ Below B w w' := by
  have HS := Lib.hid h
  clear h
  go_enter Try.func18, Try.ntmps18
  go_wp2_with fail
  refine (number_any B g w s n 2 h0 (by omega) (by omega) hB HS.out).mono ?_
  rintro r w1 ⟨rfl, h1, h2⟩
  go_wp2_with fail
  go_end0
  exact ⟨rfl, h1, h2⟩
theorem u32_any (B g : Nat) (w : World) (s : List Int × Int) (n : Int) (h0 : 0 ≤ n) (h1 : n ≤ 4294967295) (hB : B ≤ w.heap.size) (h : WSt gu B g w s) :
    Calls Try.prog 39 #[.pointer (some ⟨g, 0, none⟩), .int .u32 n] w fun r w' => r = .returned (.tuple #[]) ∧ WSt gu B g w' (num s n 4) ∧ Below B w w' := by
  have HS := Lib.hid h
  clear h
  go_enter Try.func39, Try.ntmps39
  go_wp2_with fail
  refine (number_any B g w s n 4 h0 (by omega) (by omega) hB HS.out).mono ?_
  rintro r w1 ⟨rfl, h1, h2⟩
  go_wp2_with fail
  go_end0
  exact ⟨rfl, h1, h2⟩
theorem u64_any (B g : Nat) (w : World) (s : List Int × Int) (n : Int) (h0 : 0 ≤ n) (h1 : n ≤ 18446744073709551615) (hB : B ≤ w.heap.size) (h : WSt gu B g w s) :
    Calls Try.prog 46 #[.pointer (some ⟨g, 0, none⟩), .int .u64 n] w fun r w' => r = .returned (.tuple #[]) ∧ WSt gu B g w' (num s n 8) ∧ Below B w w' := by
  have HS := Lib.hid h
  clear h
  go_enter Try.func46, Try.ntmps46
  go_wp2_with fail
  refine (number_any B g w s n 8 h0 (by omega) (by omega) hB HS.out).mono ?_
  rintro r w1 ⟨rfl, h1, h2⟩
  go_wp2_with fail
  go_end0
  exact ⟨rfl, h1, h2⟩
theorem wrap32_eq (n : Int) : IntKind.u32.wrap n = n % 4294967296 := by simp [IntKind.wrap, IntKind.bits, IntKind.signed]
theorem wrap32_range (n : Int) : 0 ≤ IntKind.u32.wrap n ∧ IntKind.u32.wrap n ≤ 4294967295 := by simp [IntKind.wrap, IntKind.bits, IntKind.signed]; omega
theorem i32_any (B g : Nat) (w : World) (s : List Int × Int) (n : Int) (hB : B ≤ w.heap.size) (h : WSt gu B g w s) :
    Calls Try.prog 19 #[.pointer (some ⟨g, 0, none⟩), .int .i64 n] w fun r w' => r = .returned (.tuple #[]) ∧ WSt gu B g w' (i32 s n) ∧ Below B w w' := by
  have HS := Lib.hid h
  clear h
  by_cases ha : n < -2147483648
  · have hd : decide (n < -2147483648) = true := by simp; omega
    have HI : Hid (i32 s n = fail s 2) := by show _ = _; unfold i32; rw [if_pos (Or.inl ha)]
    clear ha
    go_enter Try.func19, Try.ntmps19
    go_wp2_with fail
    refine (fail_any B g w s 2 HS.out hB (by omega)).mono ?_
    rintro r w1 ⟨rfl, h1, h2⟩
    go_wp2_with fail
    refine bodyPost_ret (results_none rfl _ _ _) rfl ?_
    exact ⟨rfl, by rw [HI.out]; exact h1, h2⟩
  · have hd : decide (n < -2147483648) = false := by simp; omega
    by_cases hb : 2147483647 < n
    · have hd2 : decide (2147483647 < n) = true := by simp; omega
      have HI : Hid (i32 s n = fail s 2) := by show _ = _; unfold i32; rw [if_pos (Or.inr hb)]
      clear ha hb
      go_enter Try.func19, Try.ntmps19
      go_wp2_with fail
      refine (fail_any B g w s 2 HS.out hB (by omega)).mono ?_
      rintro r w1 ⟨rfl, h1, h2⟩
      go_wp2_with fail
      refine bodyPost_ret (results_none rfl _ _ _) rfl ?_
      exact ⟨rfl, by rw [HI.out]; exact h1, h2⟩
    · have hd2 : decide (2147483647 < n) = false := by simp; omega
      have HI : Hid (i32 s n = num s (IntKind.u32.wrap n) 4) := by show _ = _; unfold i32; rw [if_neg (by omega), wrap32_eq]
      have hr := wrap32_range n
      have HR := Lib.hid hr
      clear ha hb hr
      go_enter Try.func19, Try.ntmps19
      go_wp2_with fail
      refine (u32_any B g w s _ HR.out.1 HR.out.2 hB HS.out).mono ?_
      rintro r w1 ⟨rfl, h1, h2⟩
      go_wp2_with fail
      go_end0
      exact ⟨rfl, by rw [HI.out]; exact h1, h2⟩
theorem WSt.cells {B g : Nat} {w : World} {s : List Int × Int} (h : WSt gu B g w s) : ∃ v, w.heap[g]? = some (.cells #[v, .int .i64 s.2] 29 (0, 0)) := WAt.cells h
theorem put_bytes (B g : Nat) (w : World) (s : List Int × Int) (a : Option Addr) (n c : Nat) (b : List Int) (hB : B ≤ w.heap.size) (hn : n ≤ 9223372036854775807) (hr : SRow (fun k => B ≤ k) w a n b) (h : WSt gu B g w s) :
    Calls Try.prog 40 #[.pointer (some ⟨g, 0, none⟩), .slice a n c, .func (.func 25) #[] #[]] w fun r w' => r = .returned (.tuple #[]) ∧ WSt gu B g w' (nums s b) ∧ Below B w w' := by
  have HS := Lib.hid h
  have HR := Lib.hid hr
  clear h hr
  go_enter Try.func40, Try.ntmps40
  go_wp2_with fail
  go_loopw [10] (fun i wr => ∃ k : Nat, k ≤ n ∧ i = .int .i64 k ∧ WSt gu B g wr (nums s (b.take k)) ∧ Below B w wr) (fun i _ => n - (intOf i).toNat)
  case atStart => exact ⟨0, by omega, rfl, HS.out, Below.refl _ _⟩
  case round =>
    obtain ⟨k, hk, rfl, hw, hbel⟩ := hrel
    have HW := Lib.hid hw
    have HB := Lib.hid hbel
    clear hw hbel HS
    by_cases hlt : k < n
    · have k0 : (0 : Int) ≤ k := by omega
      have k1 : (k : Int) < n := by omega
      have hd : decide ((k : Int) < (n : Int)) = true := by simp; omega
      obtain ⟨hlen, hby, hrow⟩ := HR.out.kept (Kept.below HB.out)
      rcases hrow with hrow | ⟨bb, off, rfl, _, hc⟩
      · omega
      have hcell := hc k hlt
      have hz := hby (b.getD k 0) (by simp [show k < b.length from by omega])
      have HT : Hid (nums s (b.take (k + 1)) = num (nums s (b.take k)) (b.getD k 0) 1) := by
        show _ = _
        unfold nums
        rw [List.take_succ_eq_append_getElem (by omega), List.foldl_append]
        simp [show k < b.length from by omega]
      have HN : Hid (∀ j, ¬ (nums s (b.take k)).2 = 0 → nums s (b.take k ++ j) = nums s (b.take k)) := by
        intro j hj
        unfold nums
        rw [List.foldl_append]
        exact nums_err _ _ hj
      generalize b.getD k 0 = z at *
      obtain ⟨z0, z1⟩ := hz
      obtain ⟨v, hv⟩ := HW.out.cells
      have HV := Lib.hid hv
      have HL := Lib.hid hlen
      clear hc hby hlen hv
      generalize hS : nums s (b.take k) = S at *
      have HSt := Lib.hid hS
      clear hS
      obtain ⟨bl, e⟩ := S
      simp only at HV
      by_cases he : e = 0
      · have hde : decide (e = 0) = true := by simpa using he
        have HE := Lib.hid he
        clear he
        go_wp2_with fail
        refine (well_any g wr _ e HV.out).mono ?_
        rintro r w1 ⟨rfl, rfl⟩
        go_wp2_with fail
        refine (u8_any B g wr (bl, e) z z0 z1 (Nat.le_trans hB HB.out.size) HW.out).mono ?_
        rintro r w1 ⟨rfl, h1, h2⟩
        have H1 := Lib.hid h1
        have H2 := Lib.hid (HB.out.trans h2)
        clear h1 h2
        go_wp2_with fail
        go_roundw
        case rel => exact ⟨k + 1, by omega, by go_num, by rw [HT.out]; exact H1.out, H2.out⟩
        case measure => simp [intOf]; omega
      · have hde : decide (e = 0) = false := by simpa using he
        have HA : Hid (nums s b = (bl, e)) := by
          show _ = _
          have := HN.out (b.drop k) he
          rwa [List.take_append_drop] at this
        clear he
        go_wp2_with fail
        refine (well_any g wr _ e HV.out).mono ?_
        rintro r w1 ⟨rfl, rfl⟩
        go_wp2_with fail
        refine bodyPost_ret (results_none rfl _ _ _) rfl ?_
        exact ⟨rfl, by rw [HA.out]; exact HW.out, HB.out⟩
    · have hd : decide ((k : Int) < (n : Int)) = false := by simp; omega
      have HA : Hid (b.take k = b) := List.take_of_length_le (by have := HR.out.1; omega)
      go_wp2_with fail
      go_end0
      exact ⟨rfl, by have := HW.out; rwa [HA.out] at this, HB.out⟩
theorem bytes_any (B g : Nat) (w : World) (s : List Int × Int) (a : Option Addr) (n c : Nat) (b : List Int) (hB : B ≤ w.heap.size) (hn : n ≤ 9223372036854775807) (hr : SRow (fun k => B ≤ k) w a n b) (h : WSt gu B g w s) :
    Calls Try.prog 20 #[.pointer (some ⟨g, 0, none⟩), .slice a n c] w fun r w' => r = .returned (.tuple #[]) ∧ WSt gu B g w' (bytesS s b) ∧ Below B w w' := by
  have HS := Lib.hid h
  have HR := Lib.hid hr
  have hl := hr.1
  subst hl
  have hw := wrap32_range b.length
  have HW := Lib.hid hw
  clear h hr hw
  go_enter Try.func20, Try.ntmps20
  go_wp2_with fail
  refine (u32_any B g w s _ HW.out.1 HW.out.2 hB HS.out).mono ?_
  rintro r w1 ⟨rfl, h1, h2⟩
  have H1 := Lib.hid h1
  have H2 := Lib.hid h2
  clear h1 h2
  go_wp2_with fail
  refine (put_bytes B g w1 _ a _ c b (Nat.le_trans hB H2.out.size) hn (HR.out.kept (Kept.below H2.out)) H1.out).mono ?_
  rintro r w2 ⟨rfl, h1, h2⟩
  go_wp2_with fail
  go_end0
  exact ⟨rfl, by unfold bytesS; rw [← wrap32_eq]; exact h1, H2.out.trans h2⟩
end Wire
end Go.Proofs.Ytimhppgepiikbaa
