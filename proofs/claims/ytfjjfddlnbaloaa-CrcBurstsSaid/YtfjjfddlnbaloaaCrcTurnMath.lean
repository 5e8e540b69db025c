/- Rows turned by one another, bit by bit: what their remainders are. No program is named here. -/
import Derived.Test.YtfjjfddlnbaloaaCrcWords
namespace Go.Proofs.Ytfjjfddlnbaloaa
namespace Crc

theorem xor8 (x y : Int) (hx : 0 ≤ x ∧ x ≤ 255) (hy : 0 ≤ y ∧ y ≤ 255) : (0 ≤ bits .xor .u8 x y ∧ bits .xor .u8 x y ≤ 255) ∧ V (bits .xor .u8 x y) = V x ^^^ V y := by
  obtain ⟨a, rfl⟩ := Int.eq_ofNat_of_zero_le hx.1
  obtain ⟨b, rfl⟩ := Int.eq_ofNat_of_zero_le hy.1
  rw [u8_xor_nat a b (by omega) (by omega)]
  have hlt : a ^^^ b < 2 ^ 8 := Nat.xor_lt_two_pow (by omega) (by omega)
  refine ⟨by omega, ?_⟩
  apply BitVec.eq_of_toNat_eq
  rw [BitVec.toNat_xor, V_toNat _ (by omega) (by omega), V_toNat _ (by omega) (by omega), V_toNat _ (by omega) (by omega)]
  simp

theorem rem_three (n : Nat) : ∀ (y a b c : List Int) (r s t : W), y.length = n → a.length = n → b.length = n → c.length = n →
    (∀ j, j < n → V (y.getD j 0) = V (a.getD j 0) ^^^ V (b.getD j 0) ^^^ V (c.getD j 0)) → rem (r ^^^ s ^^^ t) y = rem r a ^^^ rem s b ^^^ rem t c := by
  induction n with
  | zero =>
    intro y a b c r s t hy ha hb hc _
    rw [List.eq_nil_of_length_eq_zero hy, List.eq_nil_of_length_eq_zero ha, List.eq_nil_of_length_eq_zero hb, List.eq_nil_of_length_eq_zero hc]
    rfl
  | succ n ih =>
    intro y a b c r s t hy ha hb hc h
    match y, a, b, c, hy, ha, hb, hc with
    | y0 :: y, a0 :: a, b0 :: b, c0 :: c, hy, ha, hb, hc =>
      simp only [rem_cons]
      have h0 : V y0 = V a0 ^^^ V b0 ^^^ V c0 := by simpa using h 0 (by omega)
      have e : byte (r ^^^ s ^^^ t) y0 = byte r a0 ^^^ byte s b0 ^^^ byte t c0 := by
        unfold byte
        rw [← shN_xor, ← shN_xor]
        congr 1
        show r ^^^ s ^^^ t ^^^ V y0 = (r ^^^ V a0) ^^^ (s ^^^ V b0) ^^^ (t ^^^ V c0)
        rw [h0]
        apply BitVec.eq_of_getLsbD_eq
        intro i _
        simp only [BitVec.getLsbD_xor]
        cases r.getLsbD i <;> cases s.getLsbD i <;> cases t.getLsbD i <;> cases (V a0).getLsbD i <;> cases (V b0).getLsbD i <;> cases (V c0).getLsbD i <;> rfl
      rw [e]
      refine ih y a b c _ _ _ (by simpa using hy) (by simpa using ha) (by simpa using hb) (by simpa using hc) fun j hj => ?_
      simpa using h (j + 1) (by omega)

theorem turns (y a b c : List Int) (hy : y.length = a.length) (hb : b.length = a.length) (hc : c.length = a.length)
    (h : ∀ j, j < a.length → V (y.getD j 0) = V (a.getD j 0) ^^^ V (b.getD j 0) ^^^ V (c.getD j 0)) (x : W) :
    ~~~ (rem x y) = ~~~ (rem x a) ^^^ ~~~ (rem x b) ^^^ ~~~ (rem x c) := by
  have := rem_three a.length y a b c x x x hy rfl hb hc h
  rw [BitVec.xor_self, BitVec.zero_xor] at this
  rw [this]
  apply BitVec.eq_of_getLsbD_eq
  intro i hi
  simp only [BitVec.getLsbD_xor, BitVec.getLsbD_not, hi, decide_true, Bool.true_and]
  cases (rem x a).getLsbD i <;> cases (rem x b).getLsbD i <;> cases (rem x c).getLsbD i <;> rfl
end Crc
end Go.Proofs.Ytfjjfddlnbaloaa
