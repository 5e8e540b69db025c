/- Same: whether two tags are the same. -/
import Derived.Test.YtodbfkifendniaaDoorHmacW5
import Derived.Deep.QuietTactic
import Derived.BigQuiet
namespace Go.Proofs.YtodbfkifendniaaDoor
open Go.ChangeShapes Go.WideShapes Go.ChangeAt Go.RowKit
namespace Sha
theorem or_u8 (a b : Int) : bits .or .u8 a b = (((BitVec.ofInt 8 a) ||| (BitVec.ofInt 8 b)).toNat : Int) := by
  have e : bits .or .u8 a b = IntKind.u8.wrap ((BitVec.ofInt 8 a ||| BitVec.ofInt 8 b).toNat : Int) := rfl
  have := (BitVec.ofInt 8 a ||| BitVec.ofInt 8 b).isLt
  rw [e]
  generalize (BitVec.ofInt 8 a ||| BitVec.ofInt 8 b).toNat = x at *
  simp only [IntKind.wrap, IntKind.signed, IntKind.bits]
  simp
  omega
theorem xor_u8 (a b : Int) : bits .xor .u8 a b = (((BitVec.ofInt 8 a) ^^^ (BitVec.ofInt 8 b)).toNat : Int) := by
  have e : bits .xor .u8 a b = IntKind.u8.wrap ((BitVec.ofInt 8 a ^^^ BitVec.ofInt 8 b).toNat : Int) := rfl
  have := (BitVec.ofInt 8 a ^^^ BitVec.ofInt 8 b).isLt
  rw [e]
  generalize (BitVec.ofInt 8 a ^^^ BitVec.ofInt 8 b).toNat = x at *
  simp only [IntKind.wrap, IntKind.signed, IntKind.bits]
  simp
  omega
theorem nat_zero (x : BitVec 8) : (x.toNat : Int) = 0 ↔ x = 0#8 := by
  constructor
  · intro h
    apply BitVec.eq_of_toNat_eq
    simp
    omega
  · intro h; subst h; rfl
theorem byte_inj (a b : Int) (ha : 0 ≤ a ∧ a ≤ 255) (hb : 0 ≤ b ∧ b ≤ 255) (h : BitVec.ofInt 8 a = BitVec.ofInt 8 b) : a = b := by
  have h1 : (BitVec.ofInt 8 a).toNat = (BitVec.ofInt 8 b).toNat := by rw [h]
  simp only [BitVec.toNat_ofInt] at h1
  omega
theorem or_xor_zero (v x y : Int) (hv : 0 ≤ v ∧ v ≤ 255) (hx : 0 ≤ x ∧ x ≤ 255) (hy : 0 ≤ y ∧ y ≤ 255) : bits .or .u8 v (bits .xor .u8 x y) = 0 ↔ v = 0 ∧ x = y := by
  rw [or_u8, xor_u8, nat_zero]
  have e : BitVec.ofInt 8 (((BitVec.ofInt 8 x ^^^ BitVec.ofInt 8 y).toNat : Int)) = BitVec.ofInt 8 x ^^^ BitVec.ofInt 8 y := by
    apply BitVec.eq_of_toNat_eq
    rw [BitVec.toNat_ofInt]
    have := (BitVec.ofInt 8 x ^^^ BitVec.ofInt 8 y).isLt
    omega
  rw [e, BitVec.or_eq_zero_iff, BitVec.xor_eq_zero_iff]
  constructor
  · rintro ⟨h1, h2⟩
    exact ⟨byte_inj v 0 hv (by omega) h1, byte_inj x y hx hy h2⟩
  · rintro ⟨rfl, rfl⟩
    exact ⟨rfl, rfl⟩
theorem or_byte (a b : Int) : 0 ≤ bits .or .u8 a b ∧ bits .or .u8 a b ≤ 255 := by
  rw [or_u8]
  have := (BitVec.ofInt 8 a ||| BitVec.ofInt 8 b).isLt
  omega
theorem take_eq_next (d f : List Int) (k : Nat) (hd : k < d.length) (hf : k < f.length) : d.take (k + 1) = f.take (k + 1) ↔ d.take k = f.take k ∧ d.getD k 0 = f.getD k 0 := by
  rw [List.take_succ_eq_append_getElem hd, List.take_succ_eq_append_getElem hf]
  have h1 : d.getD k 0 = d[k] := by simp [List.getD, hd]
  have h2 : f.getD k 0 = f[k] := by simp [List.getD, hf]
  rw [h1, h2]
  constructor
  · intro h
    have := List.append_inj h (by simp; omega)
    exact ⟨this.1, by simpa using this.2⟩
  · rintro ⟨e1, e2⟩
    rw [e1, e2]

set_option maxRecDepth 100000 in
set_option maxHeartbeats 1000000 in
theorem same_any (d f : List Int) (w : World) (hd : d.length = 32) (hf : f.length = 32) (hdb : ∀ z ∈ d, 0 ≤ z ∧ z ≤ 255) (hfb : ∀ z ∈ f, 0 ≤ z ∧ z ≤ 255) :
    Calls Tryd.prog 15 #[.agg (ints .u8 d), .agg (ints .u8 f)] w fun e w' => e = .returned (.bool (decide (d = f))) ∧ Below w.heap.size w w' := by
  have HD := Lib.hid hd
  have HF := Lib.hid hf
  have HDb := Lib.hid hdb
  have HFb := Lib.hid hfb
  clear hd hf hdb hfb
  go_enter Tryd.func15, Tryd.ntmps15
  go_wp2_with fail
  have hr1 : IntRow ((w.alloc (.cells (ints .u8 d) 25)).alloc (.cells (ints .u8 f) 25)) w.heap.size .u8 d 25 := heap_alloc2_old _ _ _
  have hr2 : IntRow ((w.alloc (.cells (ints .u8 d) 25)).alloc (.cells (ints .u8 f) 25)) (w.heap.size + 1) .u8 f 25 := heap_alloc2_new _ _ _
  have hb : Below w.heap.size w ((w.alloc (.cells (ints .u8 d) 25)).alloc (.cells (ints .u8 f) 25)) := ((Below.refl _ _).alloc (Nat.le_refl _) _).alloc (by simp) _
  have HR1 := Lib.hid hr1
  have HR2 := Lib.hid hr2
  have HB := Lib.hid hb
  clear hr1 hr2 hb
  generalize (w.alloc (.cells (ints .u8 d) 25)).alloc (.cells (ints .u8 f) 25) = W at *
  go_loopw [5, 7] (fun v i wr => ∃ (k : Nat) (z : Int), k ≤ 32 ∧ i = .int .i64 k ∧ v = .int .u8 z ∧ 0 ≤ z ∧ z ≤ 255 ∧ (z = 0 ↔ d.take k = f.take k) ∧ IntRow wr w.heap.size .u8 d 25 ∧ IntRow wr (w.heap.size + 1) .u8 f 25 ∧ Below w.heap.size w wr) (fun _ i _ => 32 - (intOf i).toNat)
  case atStart => exact ⟨0, 0, by omega, rfl, rfl, by omega, by omega, by simp, HR1.out, HR2.out, HB.out⟩
  case round =>
    obtain ⟨k, z, hk, rfl, rfl, hz0, hz1, hiff, hr1, hr2, hb⟩ := hrel
    have HI := Lib.hid hiff
    have H1 := Lib.hid hr1
    have H2 := Lib.hid hr2
    have HBl := Lib.hid hb
    clear hiff hr1 hr2 hb HR1 HR2 HB
    by_cases hlt : k < 32
    · have k0 : (0 : Int) ≤ k := by omega
      have k1 : (k : Int) < 32 := by omega
      have hd : decide ((k : Int) < 32) = true := by simp; omega
      have c1 := H1.out.cell k (by rw [HD.out]; exact hlt)
      have c2 := H2.out.cell k (by rw [HF.out]; exact hlt)
      have hx : 0 ≤ d.getD k 0 ∧ d.getD k 0 ≤ 255 := HDb.out _ (by have := HD.out; simp [List.getD, show k < d.length from by omega])
      have hy : 0 ≤ f.getD k 0 ∧ f.getD k 0 ≤ 255 := HFb.out _ (by have := HF.out; simp [List.getD, show k < f.length from by omega])
      have hN : bits .or .u8 z (bits .xor .u8 (d.getD k 0) (f.getD k 0)) = 0 ↔ d.take (k + 1) = f.take (k + 1) := by
        rw [or_xor_zero z _ _ ⟨hz0, hz1⟩ hx hy, take_eq_next d f k (by rw [HD.out]; exact hlt) (by rw [HF.out]; exact hlt), HI.out]
      have hB := or_byte z (bits .xor .u8 (d.getD k 0) (f.getD k 0))
      have HN := Lib.hid hN
      have HBy := Lib.hid hB
      clear hN hB hx hy
      generalize d.getD k 0 = x at *
      generalize f.getD k 0 = y at *
      go_wp2_with fail
      go_quiet (fail)
      go_wp2_with fail
      go_roundw
      case rel => exact ⟨k + 1, _, by omega, by go_num, rfl, HBy.out.1, HBy.out.2, HN.out, H1.out, H2.out, ⟨HBl.out.1, HBl.out.2, HBl.out.3, HBl.out.4, HBl.out.5⟩⟩
      case measure => simp [intOf]; omega
    · have hd : decide ((k : Int) < 32) = false := by simp; omega
      have hi := HI.out
      rw [List.take_of_length_le (by rw [HD.out]; omega), List.take_of_length_le (by rw [HF.out]; omega)] at hi
      have he : (z == 0) = decide (d = f) := by rw [Bool.eq_iff_iff]; simp [hi]
      have HE := Lib.hid he
      clear hi he
      go_wp2_with fail
      go_ret
      exact ⟨by rw [HE.out]; rfl, HBl.out⟩
end Sha
end Go.Proofs.YtodbfkifendniaaDoor
