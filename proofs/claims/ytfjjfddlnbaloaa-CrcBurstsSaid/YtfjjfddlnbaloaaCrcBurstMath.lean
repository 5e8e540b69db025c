/- Rows that are otherwise within 32 bits: what their remainders are. No program is named here. -/
import Derived.Test.YtfjjfddlnbaloaaCrcTurnMath
namespace Go.Proofs.Ytfjjfddlnbaloaa
namespace Crc

/-- the lowest k bits of a word, one behind the other -/
def low (t : W) : Nat → W
  | 0 => 0#32
  | k + 1 => low t k ^^^ (if t.getLsbD k then 1#32 <<< k else 0#32)

theorem low_bit (t : W) (i : Nat) (hi : i < 32) : ∀ k, (low t k).getLsbD i = (decide (i < k) && t.getLsbD i) := by
  intro k
  induction k with
  | zero => simp [low]
  | succ k ih =>
    simp only [low, BitVec.getLsbD_xor, ih]
    by_cases e : i = k
    · subst e
      cases h : t.getLsbD i <;> simp [hi]
    · have hz : (if t.getLsbD k then 1#32 <<< k else 0#32).getLsbD i = false := by
        split
        · rw [BitVec.getLsbD_shiftLeft]
          by_cases hik : i < k
          · simp [hik]
          · simp [hik]
            intro _
            omega
        · simp
      rw [hz]
      by_cases hik : i < k
      · simp [hik, show i < k + 1 from by omega]
      · simp [hik, show ¬ i < k + 1 from by omega]

theorem low_all (t : W) : low t 32 = t := by
  apply BitVec.eq_of_getLsbD_eq
  intro i hi
  rw [low_bit t i hi]; simp [hi]

/-- a bit that stands alone goes down -/
theorem shN_one (i : Nat) : i < 32 → shN i (1#32 <<< i) = 1#32 := by
  induction i with
  | zero => intro _; rfl
  | succ i ih =>
    intro h
    simp only [shN]
    have e : sh (1#32 <<< (i + 1)) = 1#32 <<< i := by
      rw [sh_even]
      · apply BitVec.eq_of_getLsbD_eq
        intro j hj
        simp only [BitVec.getLsbD_ushiftRight, BitVec.getLsbD_shiftLeft, BitVec.getLsbD_one]
        by_cases h1 : j = i
        · subst h1; simp [hj, Nat.add_comm 1 j, h]
        · by_cases h2 : j < i
          · simp [h2, show 1 + j < i + 1 from by omega]
          · have : ¬ 1 + j - (i + 1) = 0 := by omega
            have : ¬ j - i = 0 := by omega
            simp [*]
      · rw [BitVec.getLsbD_shiftLeft]; simp
    rw [e, ih (by omega)]

theorem shN_up (m i : Nat) (hi : i < 32) : shN (m + i) (1#32 <<< i) = shN m 1#32 := by
  rw [Nat.add_comm, shN_add, shN_one i hi]

/-- one bit of one byte is otherwise -/
theorem rem_flip (l : List Int) : ∀ (j q : Nat) (y : Int) (r : W), j < l.length → q < 8 → V y = V (l.getD j 0) ^^^ 1#32 <<< q →
    rem r (l.set j y) = rem r l ^^^ shN (8 * l.length - (8 * j + q)) 1#32 := by
  induction l with
  | nil => intro j q y r hj; simp at hj
  | cons z l ih =>
    intro j q y r hj hq hy
    cases j with
    | zero =>
      simp only [List.set_cons_zero, rem_cons]
      have e : byte r y = byte r z ^^^ shN 8 (1#32 <<< q) := by
        unfold byte
        rw [← shN_xor]
        congr 1
        rw [BitVec.xor_assoc]
        congr 1
      rw [e, rem_xor, ← shN_add]
      congr 1
      rw [show 8 + 8 * l.length = (8 * (z :: l).length - (8 * 0 + q)) + q from by simp; omega]
      exact shN_up _ q (by omega)
    | succ j =>
      simp only [List.set_cons_succ, rem_cons]
      rw [ih j q y (byte r z) (by simpa using hj) hq (by simpa using hy)]
      congr 2
      simp; omega

/-- the bit on place 'at + k' of the row is otherwise: what goes on with the lowest k bits of what is turned -/
theorem burst_next (l ys : List Int) (t : W) (at_ k j q : Nat) (y : Int) (hl : ys.length = l.length) (hk : k < 32) (hat : at_ + 32 ≤ 8 * l.length) (hp : 8 * j + q = at_ + k) (hq : q < 8)
    (hbit : t.getLsbD k = true) (hy : V y = V (ys.getD j 0) ^^^ 1#32 <<< q) (h : ∀ r, rem r ys = rem r l ^^^ shN (8 * l.length - at_) (low t k)) :
    ∀ r, rem r (ys.set j y) = rem r l ^^^ shN (8 * l.length - at_) (low t (k + 1)) := by
  intro r
  rw [rem_flip ys j q y r (by omega) hq hy, h r]
  simp only [low, hbit, if_true]
  rw [shN_xor, BitVec.xor_assoc]
  congr 2
  rw [hl, show 8 * l.length - at_ = (8 * l.length - (8 * j + q)) + k from by omega]
  exact (shN_up _ k hk).symm

theorem burst_skip (l ys : List Int) (t : W) (at_ k : Nat) (hbit : t.getLsbD k = false) (h : ∀ r, rem r ys = rem r l ^^^ shN (8 * l.length - at_) (low t k)) :
    ∀ r, rem r ys = rem r l ^^^ shN (8 * l.length - at_) (low t (k + 1)) := by
  intro r
  rw [h r]
  simp [low, hbit]

theorem burst_end (l ys : List Int) (t : W) (at_ : Nat) (ht : t ≠ 0#32) (h : ∀ r, rem r ys = rem r l ^^^ shN (8 * l.length - at_) (low t 32)) (r : W) : rem r ys ≠ rem r l := by
  intro e
  rw [h r, low_all] at e
  exact ht (shN_inj _ t (xor_cancel_iff _ _ e))
end Crc
end Go.Proofs.Ytfjjfddlnbaloaa
