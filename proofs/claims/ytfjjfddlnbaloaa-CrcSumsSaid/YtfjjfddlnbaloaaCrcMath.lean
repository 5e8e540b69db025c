/- The plain mathematics of layer 1: the remainder as a fold over bytes, and that it is linear. No program is named here. -/
namespace Go.Proofs.Ytfjjfddlnbaloaa
namespace Crc

abbrev W := BitVec 32

/-- one bit goes through -/
def sh (r : W) : W := r >>> 1 ^^^ (if r.getLsbD 0 then 0xedb88320#32 else 0#32)

/-- n bits go through -/
def shN : Nat → W → W
  | 0, r => r
  | n + 1, r => shN n (sh r)

/-- a byte goes in -/
def byte (r : W) (z : Int) : W := shN 8 (r ^^^ BitVec.ofInt 32 z)

/-- the remainder behind bytes -/
def rem (r : W) (l : List Int) : W := l.foldl byte r

theorem sh_zero : sh 0#32 = 0#32 := by decide

theorem xor_both (x y m : W) : (x ^^^ m) ^^^ (y ^^^ m) = x ^^^ y := by
  rw [BitVec.xor_assoc, BitVec.xor_comm m, BitVec.xor_assoc, BitVec.xor_self, BitVec.xor_zero]

theorem sh_xor (a b : W) : sh (a ^^^ b) = sh a ^^^ sh b := by
  unfold sh
  rw [BitVec.ushiftRight_xor_distrib, BitVec.getLsbD_xor]
  cases a.getLsbD 0 <;> cases b.getLsbD 0 <;> simp
  · rw [BitVec.xor_assoc]
  · rw [BitVec.xor_assoc, BitVec.xor_assoc, BitVec.xor_comm (b >>> 1)]
  · rw [xor_both]

theorem shN_xor (n : Nat) : ∀ a b : W, shN n (a ^^^ b) = shN n a ^^^ shN n b := by
  induction n with
  | zero => intro a b; rfl
  | succ n ih => intro a b; simp only [shN]; rw [sh_xor, ih]

theorem shN_zero (n : Nat) : shN n 0#32 = 0#32 := by
  induction n with
  | zero => rfl
  | succ n ih => simp only [shN]; rw [sh_zero, ih]

theorem shN_add (m n : Nat) : ∀ r : W, shN (m + n) r = shN n (shN m r) := by
  induction m with
  | zero => intro r; simp [shN]
  | succ m ih => intro r; rw [Nat.succ_add]; simp only [shN]; exact ih _

theorem sh_even (r : W) (h : r.getLsbD 0 = false) : sh r = r >>> 1 := by
  unfold sh; rw [h]; simp

theorem sh_inj (r : W) (h : sh r = 0#32) : r = 0#32 := by
  unfold sh at h
  cases hb : r.getLsbD 0 with
  | true =>
    rw [hb] at h
    have := congrArg (fun x : W => x.getLsbD 31) h
    simp at this
  | false =>
    rw [hb] at h
    simp at h
    apply BitVec.eq_of_getLsbD_eq
    intro i hi
    cases i with
    | zero => simpa using hb
    | succ i =>
      have := congrArg (fun x : W => x.getLsbD i) h
      simp at this
      rw [Nat.add_comm] at this
      simpa using this

theorem shN_inj (n : Nat) : ∀ r : W, shN n r = 0#32 → r = 0#32 := by
  induction n with
  | zero => intro r h; exact h
  | succ n ih => intro r h; exact sh_inj r (ih _ h)

theorem xor_cancel_iff (a b : W) (h : a ^^^ b = a) : b = 0#32 := by
  have := congrArg (fun x => a ^^^ x) h
  simpa [← BitVec.xor_assoc] using this

theorem rem_nil (r : W) : rem r [] = r := rfl
theorem rem_cons (r : W) (z : Int) (l : List Int) : rem r (z :: l) = rem (byte r z) l := rfl
theorem rem_append (r : W) (l m : List Int) : rem r (l ++ m) = rem (rem r l) m := by simp [rem]
theorem rem_snoc (r : W) (l : List Int) (z : Int) : rem r (l ++ [z]) = byte (rem r l) z := by simp [rem]

/-- what stood ahead is carried through -/
theorem rem_xor (l : List Int) : ∀ a b : W, rem (a ^^^ b) l = rem a l ^^^ shN (8 * l.length) b := by
  induction l with
  | nil => intro a b; simp [rem, shN]
  | cons z l ih =>
    intro a b
    rw [rem_cons, rem_cons]
    have : byte (a ^^^ b) z = byte a z ^^^ shN 8 b := by
      unfold byte
      rw [← shN_xor]; congr 1
      rw [BitVec.xor_assoc, BitVec.xor_assoc, BitVec.xor_comm b]
    rw [this, ih, ← shN_add]
    simp [Nat.mul_add, Nat.add_comm]

end Crc
end Go.Proofs.Ytfjjfddlnbaloaa
namespace Go.Proofs.Ytfjjfddlnbaloaa
namespace Crc

/-- four bits go through: the upper ones move, the lower four turn what they turn -/
theorem shN_half (r : W) : shN 4 r = r >>> 4 ^^^ shN 4 (r &&& 15#32) := by
  have hsplit : r = (r &&& 0xfffffff0#32) ^^^ (r &&& 15#32) := by
    apply BitVec.eq_of_getLsbD_eq
    intro i hi
    rw [BitVec.getLsbD_xor, BitVec.getLsbD_and, BitVec.getLsbD_and]
    have : ((0xfffffff0#32).getLsbD i ^^ (15#32).getLsbD i) = true := by
      have h := hi
      revert i; decide
    cases r.getLsbD i <;> simp_all
  have hup : shN 4 (r &&& 0xfffffff0#32) = r >>> 4 := by
    simp only [shN]
    have h1 : sh (r &&& 0xfffffff0#32) = (r &&& 0xfffffff0#32) >>> 1 := sh_even _ (by rw [BitVec.getLsbD_and]; simp)
    have h2 : sh ((r &&& 0xfffffff0#32) >>> 1) = (r &&& 0xfffffff0#32) >>> 1 >>> 1 := sh_even _ (by rw [BitVec.getLsbD_ushiftRight, BitVec.getLsbD_and]; simp)
    have h3 : sh ((r &&& 0xfffffff0#32) >>> 1 >>> 1) = (r &&& 0xfffffff0#32) >>> 1 >>> 1 >>> 1 := sh_even _ (by rw [BitVec.getLsbD_ushiftRight, BitVec.getLsbD_ushiftRight, BitVec.getLsbD_and]; simp)
    have h4 : sh ((r &&& 0xfffffff0#32) >>> 1 >>> 1 >>> 1) = (r &&& 0xfffffff0#32) >>> 1 >>> 1 >>> 1 >>> 1 := sh_even _ (by rw [BitVec.getLsbD_ushiftRight, BitVec.getLsbD_ushiftRight, BitVec.getLsbD_ushiftRight, BitVec.getLsbD_and]; simp)
    rw [h1, h2, h3, h4]
    apply BitVec.eq_of_getLsbD_eq
    intro i hi
    simp only [BitVec.getLsbD_ushiftRight, BitVec.getLsbD_and]
    rw [show 1 + (1 + (1 + (1 + i))) = 4 + i from by omega]
    have : (0xfffffff0#32).getLsbD (4 + i) = decide (4 + i < 32) := by
      revert i; decide
    rw [this]
    by_cases h : 4 + i < 32
    · simp [h]
    · simp [h, BitVec.getLsbD_of_ge r (4 + i) (by omega)]
  conv => lhs; rw [hsplit]
  rw [shN_xor, hup]

theorem byte_halves (r : W) (z : Int) : byte r z =
    (let x := r ^^^ BitVec.ofInt 32 z
     let y := x >>> 4 ^^^ shN 4 (x &&& 15#32)
     y >>> 4 ^^^ shN 4 (y &&& 15#32)) := by
  show shN (4 + 4) (r ^^^ BitVec.ofInt 32 z) = _
  rw [shN_add, shN_half (r ^^^ _), shN_half (_ ^^^ _)]

end Crc
end Go.Proofs.Ytfjjfddlnbaloaa
namespace Go.Proofs.Ytfjjfddlnbaloaa
namespace Crc
/-- one bit of c, the lowest, goes in -/
def bit (r c : W) : W := sh (r ^^^ (if c.getLsbD 0 then 1#32 else 0#32))
/-- n bits of c go in, the lowest first -/
def bitN : Nat → W → W → W
  | 0, r, _ => r
  | n + 1, r, c => bitN n (bit r c) (c >>> 1)

theorem sh_bit (r c : W) : sh (r ^^^ c) = bit r c ^^^ c >>> 1 := by
  have hc : sh c = c >>> 1 ^^^ sh (if c.getLsbD 0 then 1#32 else 0#32) := by
    conv => lhs; unfold sh
    cases c.getLsbD 0 with
    | true => simp; decide
    | false => simp [sh_zero]
  unfold bit
  rw [sh_xor, sh_xor, hc, BitVec.xor_assoc, BitVec.xor_comm (c >>> 1)]

theorem shN_bits (n : Nat) : ∀ r c : W, shN n (r ^^^ c) = bitN n r c ^^^ c >>> n := by
  induction n with
  | zero => intro r c; simp [shN, bitN]
  | succ n ih =>
    intro r c
    simp only [shN, bitN]
    rw [sh_bit, ih, ← BitVec.shiftRight_add, Nat.add_comm 1 n]

theorem byte_bits (r : W) (z : Int) (h : BitVec.ofInt 32 z >>> 8 = 0#32) : byte r z = bitN 8 r (BitVec.ofInt 32 z) := by
  unfold byte
  rw [shN_bits, h, BitVec.xor_zero]
end Crc
end Go.Proofs.Ytfjjfddlnbaloaa
