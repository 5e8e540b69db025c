/- Numbers of 32 bits as the model has them (integers), and as words. No program is named here. -/
import Derived.Test.YtfjjfddlnbaloaaCrcMath
import Derived.Laws.BitsAllLaws
namespace Go.Proofs.Ytfjjfddlnbaloaa
namespace Crc

/-- the word of a number -/
def V (n : Int) : W := BitVec.ofInt 32 n
/-- the number of a word -/
def U (r : W) : Int := (r.toNat : Int)

theorem U_lo (r : W) : 0 ≤ U r := by unfold U; omega
theorem U_hi (r : W) : U r < 4294967296 := by have := r.isLt; unfold U; omega
theorem V_U (r : W) : V (U r) = r := by unfold V U; simp
theorem U_V (n : Int) (h0 : 0 ≤ n) (h1 : n < 4294967296) : U (V n) = n := by
  obtain ⟨m, rfl⟩ := Int.eq_ofNat_of_zero_le h0
  unfold U V; rw [ofInt_u32 m (by omega)]
theorem U_inj {a b : W} (h : U a = U b) : a = b := by rw [← V_U a, h, V_U]
theorem xor_U (a b : Int) : bits .xor .u32 a b = U (V a ^^^ V b) := by
  show IntKind.u32.wrap ((BitVec.ofInt 32 a ^^^ BitVec.ofInt 32 b).toNat : Int) = _
  rw [IntKind.wrap_u32']
  have := (BitVec.ofInt 32 a ^^^ BitVec.ofInt 32 b).isLt
  unfold U V; omega
theorem and_U (a b : Int) : bits .and .u32 a b = U (V a &&& V b) := by
  show IntKind.u32.wrap ((BitVec.ofInt 32 a &&& BitVec.ofInt 32 b).toNat : Int) = _
  rw [IntKind.wrap_u32']
  have := (BitVec.ofInt 32 a &&& BitVec.ofInt 32 b).isLt
  unfold U V; omega
theorem V_toNat (n : Int) (h0 : 0 ≤ n) (h1 : n < 4294967296) : (V n).toNat = n.toNat := by
  have := U_V n h0 h1; unfold U at this; omega
theorem V_div (n : Int) (k : Nat) (h0 : 0 ≤ n) (h1 : n < 4294967296) : V (n / ((2 ^ k : Nat) : Int)) = V n >>> k := by
  obtain ⟨m, rfl⟩ := Int.eq_ofNat_of_zero_le h0
  apply BitVec.eq_of_toNat_eq
  have hd : (m : Int) / ((2 ^ k : Nat) : Int) = ((m / 2 ^ k : Nat) : Int) := by simp
  have hle : m / 2 ^ k ≤ m := Nat.div_le_self _ _
  rw [hd, BitVec.toNat_ushiftRight, V_toNat _ (by omega) h1, Nat.shiftRight_eq_div_pow, Int.toNat_natCast]
  generalize m / 2 ^ k = q at *
  rw [V_toNat _ (by omega) (by omega), Int.toNat_natCast]
theorem V_div2 (n : Int) (h0 : 0 ≤ n) (h1 : n < 4294967296) : V (n / 2) = V n >>> 1 := V_div n 1 h0 h1
theorem V_div16 (n : Int) (h0 : 0 ≤ n) (h1 : n < 4294967296) : V (n / 16) = V n >>> 4 := V_div n 4 h0 h1
theorem lsb_V (n : Int) (h0 : 0 ≤ n) (h1 : n < 4294967296) : (V n).getLsbD 0 = decide (n % 2 = 1) := by
  obtain ⟨m, rfl⟩ := Int.eq_ofNat_of_zero_le h0
  rw [BitVec.getLsbD, V_toNat _ (by omega) h1, Nat.testBit_zero]
  simp; omega
theorem and1_U (n : Int) (h0 : 0 ≤ n) (h1 : n < 4294967296) : bits .and .u32 n 1 = n % 2 := by
  obtain ⟨m, rfl⟩ := Int.eq_ofNat_of_zero_le h0
  have := u32_and_nat m 1 (by omega) (by omega)
  rw [show ((1 : Nat) : Int) = 1 from rfl] at this
  rw [this, Nat.and_one_is_mod]; omega
theorem and15_U (n : Int) (h0 : 0 ≤ n) (h1 : n < 4294967296) : bits .and .u32 n 15 = n % 16 := by
  obtain ⟨m, rfl⟩ := Int.eq_ofNat_of_zero_le h0
  have := u32_and_nat m 15 (by omega) (by omega)
  rw [show ((15 : Nat) : Int) = 15 from rfl] at this
  rw [this, show (15 : Nat) = 2 ^ 4 - 1 from rfl, Nat.and_two_pow_sub_one_eq_mod]; omega

/-- what 'shift' answers -/
theorem shift_yes (n : Int) (h0 : 0 ≤ n) (h1 : n < 4294967296) (h : (bits .and .u32 n 1 == 1) = true) : bits .xor .u32 (n / 2) 3988292384 = U (sh (V n)) := by
  rw [and1_U n h0 h1] at h
  rw [xor_U, V_div2 n h0 h1]
  unfold sh; rw [lsb_V n h0 h1]
  have : n % 2 = 1 := by simpa using h
  rw [decide_eq_true this]; rfl
theorem shift_no (n : Int) (h0 : 0 ≤ n) (h1 : n < 4294967296) (h : (bits .and .u32 n 1 == 1) = false) : n / 2 = U (sh (V n)) := by
  rw [and1_U n h0 h1] at h
  rw [← U_V (n / 2) (by omega) (by omega), V_div2 n h0 h1]
  unfold sh; rw [lsb_V n h0 h1]
  have : ¬ n % 2 = 1 := by simpa using h
  rw [decide_eq_false this]; simp

theorem bit_yes (n c : Int) (h0 : 0 ≤ n) (h1 : n < 4294967296) (c0 : 0 ≤ c) (c1 : c < 4294967296) (h : (n % 2 != c % 2) = true) : bits .xor .u32 (n / 2) 3988292384 = U (bit (V n) (V c)) := by
  rw [xor_U, V_div2 n h0 h1]
  have hne : n % 2 ≠ c % 2 := by simpa using h
  have hn := lsb_V n h0 h1
  have hc := lsb_V c c0 c1
  unfold bit
  rw [sh_xor, hc]; unfold sh; rw [hn]
  by_cases e : c % 2 = 1
  · have e' : ¬ n % 2 = 1 := by omega
    rw [decide_eq_true e, decide_eq_false e']; simp; rfl
  · have e' : n % 2 = 1 := by omega
    rw [decide_eq_false e, decide_eq_true e']; simp; rfl
theorem bit_no (n c : Int) (h0 : 0 ≤ n) (h1 : n < 4294967296) (c0 : 0 ≤ c) (c1 : c < 4294967296) (h : (n % 2 != c % 2) = false) : n / 2 = U (bit (V n) (V c)) := by
  rw [← U_V (n / 2) (by omega) (by omega), V_div2 n h0 h1]
  have hne : n % 2 = c % 2 := by simpa using h
  have hn := lsb_V n h0 h1
  have hc := lsb_V c c0 c1
  unfold bit
  rw [sh_xor, hc]; unfold sh; rw [hn]
  by_cases e : c % 2 = 1
  · have e' : n % 2 = 1 := by omega
    rw [decide_eq_true e, decide_eq_true e']; simp [BitVec.xor_assoc]
  · have e' : ¬ n % 2 = 1 := by omega
    rw [decide_eq_false e, decide_eq_false e']; simp
theorem byte_small (z : Int) (h0 : 0 ≤ z) (h1 : z ≤ 255) : BitVec.ofInt 32 z >>> 8 = 0#32 := by
  show V z >>> 8 = 0#32
  rw [← V_div z 8 h0 (by omega), show z / ((2 ^ 8 : Nat) : Int) = 0 from by omega]; rfl
theorem U_half (r : W) : U r / (2 : Int) = U (r >>> 1) := by
  have h0 := U_lo r
  have h1 := U_hi r
  rw [← U_V (U r / 2) (by omega) (by omega), V_div2 _ h0 h1, V_U]
theorem not_sub (r : W) : 4294967295 - U r = U (~~~ r) := by
  unfold U
  rw [BitVec.toNat_not]
  have := r.isLt
  omega
end Crc
end Go.Proofs.Ytfjjfddlnbaloaa
