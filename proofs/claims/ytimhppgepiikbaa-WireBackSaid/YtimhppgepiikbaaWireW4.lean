/- A writer in memory: values, and lists of them. -/
import Derived.Test.YtimhppgepiikbaaWireW3
namespace Go.Proofs.Ytimhppgepiikbaa
open Go.ChangeShapes Go.WideShapes Go.ChangeAt Go.RowKit
namespace Wire
variable {gu : Option (Nat × Obj)}
set_option linter.unusedVariables false
/-- putAll puts this list of values, into whatever writer -/
def PutAllOK (gu : Option (Nat × Obj)) (B g : Nat) (f : F) : Prop := ∀ (w : World) (s : List Int × Int) (a : Option Addr) (n c : Nat), B ≤ w.heap.size → WSt gu B g w s → FRow (fun k => B ≤ k) w a n f → n ≤ c → c ≤ 9223372036854775807 →
  Calls Try.prog 50 #[.pointer (some ⟨g, 0, none⟩), .slice a n c, .func (.func 28) #[] #[]] w fun r w' => r = .returned (.tuple #[]) ∧ WSt gu B g w' (wF f s) ∧ Below B w w'
theorem put_any (B g : Nat) (f : F) (hf : PutAllOK gu B g f) (w : World) (s : List Int × Int) (a : Option Addr) (n c : Nat) (hB : B ≤ w.heap.size) (h : WSt gu B g w s) (hr : FRow (fun k => B ≤ k) w a n f) (hc : n ≤ c) (hm : c ≤ 9223372036854775807) :
    Calls Try.prog 47 #[.pointer (some ⟨g, 0, none⟩), .slice a n c, .func (.func 28) #[] #[]] w fun r w' => r = .returned (.tuple #[]) ∧ WSt gu B g w' (putS f s) ∧ Below B w w' := by
  have HS := Lib.hid h
  have HR := Lib.hid hr
  have HF := Lib.hid hf
  obtain rfl : f.len = n := hr.1
  clear h hr hf
  by_cases hbig : 65535 < f.len
  · have hd : decide ((65535 : Int) < (f.len : Int)) = true := by simp; omega
    have HI : Hid (putS f s = fail s 2) := by show _ = _; unfold putS; rw [if_pos hbig]
    clear hbig
    go_enter Try.func47, Try.ntmps47
    go_wp2_with fail
    refine (fail_any B g w s 2 HS.out hB (by omega)).mono ?_
    rintro r w1 ⟨rfl, h1, h2⟩
    go_wp2_with fail
    refine bodyPost_ret (results_none rfl _ _ _) rfl ?_
    exact ⟨rfl, by rw [HI.out]; exact h1, h2⟩
  · have hd : decide ((65535 : Int) < (f.len : Int)) = false := by simp; omega
    have HI : Hid (putS f s = wF f (num s f.len 2)) := by show _ = _; unfold putS; rw [if_neg hbig]
    have n0 : (0 : Int) ≤ f.len := by omega
    have n1 : (f.len : Int) ≤ 65535 := by omega
    have Hgo : Hid (∀ (w1 : World), Below B w w1 → WSt gu B g w1 (num s f.len 2) → Calls Try.prog 50 #[.pointer (some ⟨g, 0, none⟩), .slice a f.len c, .func (.func 28) #[] #[]] w1 fun r w' => r = .returned (.tuple #[]) ∧ WSt gu B g w' (wF f (num s f.len 2)) ∧ Below B w w') := by
      intro w1 hb hw
      refine (HF.out w1 _ a _ c (Nat.le_trans hB hb.size) hw (HR.out.kept (Kept.below hb)) hc hm).mono ?_
      rintro r w' ⟨h1, h2, h3⟩
      exact ⟨h1, h2, hb.trans h3⟩
    clear hbig
    generalize f.len = n at *
    by_cases h0 : n = 0
    · have hd0 : decide (0 < n) = false := by simp; omega
      clear h0
      go_enter Try.func47, Try.ntmps47
      go_wp2_with fail
      refine (u16_any B g w s n n0 n1 hB HS.out).mono ?_
      rintro r w1 ⟨rfl, h1, h2⟩
      have H1 := Lib.hid h1
      have H2 := Lib.hid h2
      clear h1 h2
      go_wp2_with fail
      refine (Hgo.out w1 H2.out H1.out).mono ?_
      rintro r w2 ⟨rfl, h1, h2⟩
      go_wp2_with fail
      go_end0
      exact ⟨rfl, by rw [HI.out]; exact h1, h2⟩
    · have hd0 : decide (0 < n) = true := by simp; omega
      clear h0
      have hq : ∀ W : World, (binOp .eql 59 (.func (.func 28) #[] #[]) .nilFunc).run Try.prog W = .ok (.bool false) W := fun _ => by kernel_rfl
      go_enter Try.func47, Try.ntmps47
      go_wp2_with fail
      refine (u16_any B g w s n n0 n1 hB HS.out).mono ?_
      rintro r w1 ⟨rfl, h1, h2⟩
      have H1 := Lib.hid h1
      have H2 := Lib.hid h2
      clear h1 h2
      go_wp2_with fail
      refine (Hgo.out w1 H2.out H1.out).mono ?_
      rintro r w2 ⟨rfl, h1, h2⟩
      go_wp2_with fail
      go_end0
      exact ⟨rfl, by rw [HI.out]; exact h1, h2⟩
/-- a value as it is handed on -/
def val (k n i : Int) (ba la : Option Addr) (bn bc ln lc : Nat) : Value := .agg #[.int .i64 k, .int .u64 n, .int .i64 i, .slice ba bn bc, .slice la ln lc]
theorem WSt.alloc {B g : Nat} {w : World} {s : List Int × Int} (h : WSt gu B g w s) (o : Obj) : WSt gu B g (w.alloc o) s := by
  obtain ⟨va, vn, vc, h1, h2, h3, h4⟩ := h
  exact ⟨va, vn, vc, (Below.heap_alloc _ _ _ (lt_of_block h1)).trans h1, h2, h3.alloc _, h4.1, h4.2.1, h4.2.2.1, fun u o e => ⟨(Below.heap_alloc _ _ _ (lt_of_block (h4.2.2.2 u o e).1)).trans (h4.2.2.2 u o e).1, (h4.2.2.2 u o e).2⟩⟩
theorem one_any (B g : Nat) (k n i : Int) (b : List Int) (sub : F) (hf : PutAllOK gu B g sub) (w : World) (s : List Int × Int) (ba la : Option Addr) (bn bc ln lc : Nat) (hB : B ≤ w.heap.size) (h : WSt gu B g w s)
    (hn : 0 ≤ n ∧ n ≤ 18446744073709551615) (hb : SRow (fun k => B ≤ k) w ba bn b) (hbc : bn ≤ bc) (hbm : bc ≤ 9223372036854775807) (hr : FRow (fun k => B ≤ k) w la ln sub) (hc : ln ≤ lc) (hm : lc ≤ 9223372036854775807) :
    Calls Try.prog 28 #[.pointer (some ⟨g, 0, none⟩), .agg #[.int .i64 k, .int .u64 n, .int .i64 i, .slice ba bn bc, .slice la ln lc]] w fun r w' => r = .returned (.tuple #[]) ∧ WSt gu B g w' (wV k n i b sub s) ∧ Below B w w' := by
  have hB0 : Below B w (w.alloc (.cells #[.int .i64 k, .int .u64 n, .int .i64 i, .slice ba bn bc, .slice la ln lc] 39)) := (Below.refl _ _).alloc hB _
  have hS0 : WSt gu B g (w.alloc (.cells #[.int .i64 k, .int .u64 n, .int .i64 i, .slice ba bn bc, .slice la ln lc] 39)) s := by
    obtain ⟨va, vn, vc, h1, h2, h3, h4⟩ := h
    exact ⟨va, vn, vc, (Below.heap_alloc _ _ _ (lt_of_block h1)).trans h1, h2, h3.alloc _, h4.1, h4.2.1, h4.2.2.1, fun u o e => ⟨(Below.heap_alloc _ _ _ (lt_of_block (h4.2.2.2 u o e).1)).trans (h4.2.2.2 u o e).1, (h4.2.2.2 u o e).2⟩⟩
  have HB0 := Lib.hid hB0
  have HS := Lib.hid hS0
  have HR := Lib.hid (hr.kept (Kept.below hB0))
  have HBy := Lib.hid (hb.kept (Kept.below hB0))
  have HF := Lib.hid hf
  have hBs : B ≤ (w.alloc (.cells #[.int .i64 k, .int .u64 n, .int .i64 i, .slice ba bn bc, .slice la ln lc] 39)).heap.size := Nat.le_trans hB hB0.size
  have HBs := Lib.hid hBs
  obtain ⟨n0, n1⟩ := hn
  clear hB0 hS0 hr hb hf h hBs
  by_cases h1 : k = 1
  · have d1 : (k == 1) = true := by simpa using h1
    have HK : Hid (wV k n i b sub s = num s (n % 256) 1) := by show _ = _; unfold wV; rw [if_pos h1]
    clear h1
    go_enter Try.func28, Try.ntmps28
    go_wp2_with fail
    refine (u8_any B g _ s (n % 256) (by omega) (by omega) HBs.out HS.out).mono ?_
    rintro r w1 ⟨rfl, h1, h2⟩
    go_wp2_with fail
    go_end0
    exact ⟨rfl, by rw [HK.out]; exact h1, HB0.out.trans h2⟩
  have d1 : (k == 1) = false := by simpa using h1
  by_cases h2 : k = 2
  · have d2 : (k == 2) = true := by simpa using h2
    have HK : Hid (wV k n i b sub s = num s (n % 65536) 2) := by show _ = _; unfold wV; rw [if_neg h1, if_pos h2]
    clear h1 h2
    go_enter Try.func28, Try.ntmps28
    go_wp2_with fail
    refine (u16_any B g _ s (n % 65536) (by omega) (by omega) HBs.out HS.out).mono ?_
    rintro r w1 ⟨rfl, h1, h2⟩
    go_wp2_with fail
    go_end0
    exact ⟨rfl, by rw [HK.out]; exact h1, HB0.out.trans h2⟩
  have d2 : (k == 2) = false := by simpa using h2
  by_cases h4 : k = 4
  · have d4 : (k == 4) = true := by simpa using h4
    have HK : Hid (wV k n i b sub s = num s (n % 4294967296) 4) := by show _ = _; unfold wV; rw [if_neg h1, if_neg h2, if_pos h4]
    clear h1 h2 h4
    go_enter Try.func28, Try.ntmps28
    go_wp2_with fail
    refine (u32_any B g _ s (n % 4294967296) (by omega) (by omega) HBs.out HS.out).mono ?_
    rintro r w1 ⟨rfl, h1, h2⟩
    go_wp2_with fail
    go_end0
    exact ⟨rfl, by rw [HK.out]; exact h1, HB0.out.trans h2⟩
  have d4 : (k == 4) = false := by simpa using h4
  by_cases h8 : k = 8
  · have d8 : (k == 8) = true := by simpa using h8
    have HK : Hid (wV k n i b sub s = num s n 8) := by show _ = _; unfold wV; rw [if_neg h1, if_neg h2, if_neg h4, if_pos h8]
    clear h1 h2 h4 h8
    go_enter Try.func28, Try.ntmps28
    go_wp2_with fail
    refine (u64_any B g _ s n n0 n1 HBs.out HS.out).mono ?_
    rintro r w1 ⟨rfl, h1, h2⟩
    go_wp2_with fail
    go_end0
    exact ⟨rfl, by rw [HK.out]; exact h1, HB0.out.trans h2⟩
  have d8 : (k == 8) = false := by simpa using h8
  by_cases h5 : k = 5
  · have d5 : (k == 5) = true := by simpa using h5
    have HK : Hid (wV k n i b sub s = i32 s i) := by show _ = _; unfold wV; rw [if_neg h1, if_neg h2, if_neg h4, if_neg h8, if_pos h5]
    clear h1 h2 h4 h8 h5
    go_enter Try.func28, Try.ntmps28
    go_wp2_with fail
    refine (i32_any B g _ s i HBs.out HS.out).mono ?_
    rintro r w1 ⟨rfl, h1, h2⟩
    go_wp2_with fail
    go_end0
    exact ⟨rfl, by rw [HK.out]; exact h1, HB0.out.trans h2⟩
  have d5 : (k == 5) = false := by simpa using h5
  by_cases h6 : k = 6
  · have d6 : (k == 6) = true := by simpa using h6
    have HK : Hid (wV k n i b sub s = bytesS s b) := by show _ = _; unfold wV; rw [if_neg h1, if_neg h2, if_neg h4, if_neg h8, if_neg h5, if_pos h6]
    clear h1 h2 h4 h8 h5 h6
    go_enter Try.func28, Try.ntmps28
    go_wp2_with fail
    refine (bytes_any B g _ s ba bn bc b HBs.out (by omega) HBy.out HS.out).mono ?_
    rintro r w1 ⟨rfl, h1, h2⟩
    go_wp2_with fail
    go_end0
    exact ⟨rfl, by rw [HK.out]; exact h1, HB0.out.trans h2⟩
  have d6 : (k == 6) = false := by simpa using h6
  by_cases h7 : k = 7
  · have d7 : (k == 7) = true := by simpa using h7
    have HK : Hid (wV k n i b sub s = putS sub s) := by show _ = _; unfold wV; rw [if_neg h1, if_neg h2, if_neg h4, if_neg h8, if_neg h5, if_neg h6, if_pos h7]; rfl
    clear h1 h2 h4 h8 h5 h6 h7
    go_enter Try.func28, Try.ntmps28
    go_wp2_with fail
    refine (put_any B g sub HF.out _ s la ln lc HBs.out HS.out HR.out hc hm).mono ?_
    rintro r w1 ⟨rfl, h1, h2⟩
    go_wp2_with fail
    go_end0
    exact ⟨rfl, by rw [HK.out]; exact h1, HB0.out.trans h2⟩
  have d7 : (k == 7) = false := by simpa using h7
  have HK : Hid (wV k n i b sub s = s) := by show _ = _; unfold wV; rw [if_neg h1, if_neg h2, if_neg h4, if_neg h8, if_neg h5, if_neg h6, if_neg h7]
  clear h1 h2 h4 h8 h5 h6 h7
  go_enter Try.func28, Try.ntmps28
  go_wp2_with fail
  go_end0
  exact ⟨rfl, by rw [HK.out]; exact HS.out, HB0.out⟩
end Wire
end Go.Proofs.Ytimhppgepiikbaa
