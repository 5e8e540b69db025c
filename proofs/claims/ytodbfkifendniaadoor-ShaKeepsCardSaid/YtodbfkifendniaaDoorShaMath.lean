/- The plain mathematics of layer 2: words, a block's numbers, the rounds, the padded text, the sum. No program is named here. -/
import Derived.Laws.BitsAllLaws
namespace Go.Proofs.YtodbfkifendniaaDoor
namespace Sha

abbrev W := BitVec 32
/-- the word of a number -/
def V (n : Int) : W := BitVec.ofInt 32 n
/-- the number of a word -/
def U (r : W) : Int := (r.toNat : Int)

theorem U_lo (r : W) : 0 ≤ U r := by unfold U; omega
theorem U_hi (r : W) : U r < 4294967296 := by have := r.isLt; unfold U; omega
theorem V_U (r : W) : V (U r) = r := by unfold V U; simp
theorem U_V (n : Int) (h0 : 0 ≤ n) (h1 : n < 4294967296) : U (V n) = n := by
  obtain ⟨m, rfl⟩ := Int.eq_ofNat_of_zero_le h0
  unfold U V; rw [ofInt_u32 m (by omega)]
theorem U_inj {a b : W} (h : U a = U b) : a = b := by rw [← V_U a, h, V_U]
theorem xor_U (a b : Int) : bits .xor .u32 a b = U (V a ^^^ V b) := by
  show IntKind.u32.wrap ((BitVec.ofInt 32 a ^^^ BitVec.ofInt 32 b).toNat : Int) = _
  rw [IntKind.wrap_u32']
  have := (BitVec.ofInt 32 a ^^^ BitVec.ofInt 32 b).isLt
  unfold U V; omega
theorem and_U (a b : Int) : bits .and .u32 a b = U (V a &&& V b) := by
  show IntKind.u32.wrap ((BitVec.ofInt 32 a &&& BitVec.ofInt 32 b).toNat : Int) = _
  rw [IntKind.wrap_u32']
  have := (BitVec.ofInt 32 a &&& BitVec.ofInt 32 b).isLt
  unfold U V; omega
theorem or_U (a b : Int) : bits .or .u32 a b = U (V a ||| V b) := by
  show IntKind.u32.wrap ((BitVec.ofInt 32 a ||| BitVec.ofInt 32 b).toNat : Int) = _
  rw [IntKind.wrap_u32']
  have := (BitVec.ofInt 32 a ||| BitVec.ofInt 32 b).isLt
  unfold U V; omega
theorem V_toNat (n : Int) (h0 : 0 ≤ n) (h1 : n < 4294967296) : (V n).toNat = n.toNat := by
  have := U_V n h0 h1; unfold U at this; omega
theorem V_div (n : Int) (k : Nat) (h0 : 0 ≤ n) (h1 : n < 4294967296) : V (n / ((2 ^ k : Nat) : Int)) = V n >>> k := by
  obtain ⟨m, rfl⟩ := Int.eq_ofNat_of_zero_le h0
  apply BitVec.eq_of_toNat_eq
  have hd : (m : Int) / ((2 ^ k : Nat) : Int) = ((m / 2 ^ k : Nat) : Int) := by simp
  have hle : m / 2 ^ k ≤ m := Nat.div_le_self _ _
  rw [hd, BitVec.toNat_ushiftRight, V_toNat _ (by omega) h1, Nat.shiftRight_eq_div_pow, Int.toNat_natCast]
  generalize m / 2 ^ k = q at *
  rw [V_toNat _ (by omega) (by omega), Int.toNat_natCast]
theorem V_mod (n : Int) : V (n % 4294967296) = V n := by
  apply BitVec.eq_of_toInt_eq
  unfold V
  rw [BitVec.toInt_ofInt, BitVec.toInt_ofInt]
  exact Int.emod_bmod _ _
theorem V_add (a b : Int) : V (a + b) = V a + V b := by unfold V; exact BitVec.ofInt_add a b
theorem V_mul (a b : Int) : V (a * b) = V a * V b := by unfold V; exact BitVec.ofInt_mul a b
theorem V_pow (n : Int) (k : Nat) : V (n * ((2 ^ k : Nat) : Int)) = V n <<< k := by
  rw [V_mul, BitVec.shiftLeft_eq_mul_twoPow]
  congr 1
  unfold V
  apply BitVec.eq_of_toNat_eq
  rw [BitVec.ofInt_natCast, BitVec.toNat_ofNat, BitVec.toNat_twoPow]
theorem add_U (a b : Int) : (a + b) % 4294967296 = U (V a + V b) := by
  rw [← V_add, ← V_mod, U_V _ (by omega) (by omega)]
theorem not_U (a : W) : 4294967295 - U a = U (~~~ a) := by
  unfold U
  rw [BitVec.toNat_not]
  have := a.isLt
  omega

/-- turned round to the right by n bits -/
def rot (n : Nat) (x : W) : W := x >>> n ||| x <<< (32 - n)
theorem rot_or (x : Int) (n : Nat) (h0 : 0 ≤ x) (h1 : x < 4294967296) (p q : Int) (hp : p = ((2 ^ n : Nat) : Int)) (hq : q = ((2 ^ (32 - n) : Nat) : Int)) : bits .or .u32 (x / p) (x * q % 4294967296) = U (rot n (V x)) := by
  subst hp; subst hq
  rw [or_U, V_div x n h0 h1, V_mod, V_pow]; rfl
theorem rot_or' (x : Int) (n : Nat) (h0 : 0 ≤ x) (h1 : x < 4294967296) (p q : Int) (hp : p = ((2 ^ n : Nat) : Int)) (hq : q = ((2 ^ (32 - n) : Nat) : Int)) : bits .or .u32 (x * q % 4294967296) (x / p) = U (rot n (V x)) := by
  subst hp; subst hq
  rw [or_U, V_div x n h0 h1, V_mod, V_pow, BitVec.or_comm]; rfl

def s0 (x : W) : W := rot 7 x ^^^ rot 18 x ^^^ x >>> 3
def s1 (x : W) : W := rot 17 x ^^^ rot 19 x ^^^ x >>> 10
def S0 (x : W) : W := rot 2 x ^^^ rot 13 x ^^^ rot 22 x
def S1 (x : W) : W := rot 6 x ^^^ rot 11 x ^^^ rot 25 x
def ch (e f g : W) : W := (e &&& f) ^^^ (~~~ e &&& g)
def maj (a b c : W) : W := (a &&& b) ^^^ (a &&& c) ^^^ (b &&& c)

/-- the eight numbers -/
structure S where
  a : W
  b : W
  c : W
  d : W
  e : W
  f : W
  g : W
  h : W
deriving DecidableEq

def S.all (s : S) : List W := [s.a, s.b, s.c, s.d, s.e, s.f, s.g, s.h]
def stepU (s : S) (k w : W) : W := s.h + S1 s.e + ch s.e s.f s.g + k + w
def stepV (s : S) : W := S0 s.a + maj s.a s.b s.c
def step (s : S) (k w : W) : S := ⟨stepU s k w + stepV s, s.a, s.b, s.c, s.d + stepU s k w, s.e, s.f, s.g⟩
def S.add (s t : S) : S := ⟨s.a + t.a, s.b + t.b, s.c + t.c, s.d + t.d, s.e + t.e, s.f + t.f, s.g + t.g, s.h + t.h⟩

/-- K0 to K63 -/
def Ks : List Int := [1116352408, 1899447441, 3049323471, 3921009573, 961987163, 1508970993, 2453635748, 2870763221, 3624381080, 310598401, 607225278, 1426881987, 1925078388, 2162078206, 2614888103, 3248222580, 3835390401, 4022224774, 264347078, 604807628, 770255983, 1249150122, 1555081692, 1996064986, 2554220882, 2821834349, 2952996808, 3210313671, 3336571891, 3584528711, 113926993, 338241895, 666307205, 773529912, 1294757372, 1396182291, 1695183700, 1986661051, 2177026350, 2456956037, 2730485921, 2820302411, 3259730800, 3345764771, 3516065817, 3600352804, 4094571909, 275423344, 430227734, 506948616, 659060556, 883997877, 958139571, 1322822218, 1537002063, 1747873779, 1955562222, 2024104815, 2227730452, 2361852424, 2428436474, 2756734187, 3204031479, 3329325298]
theorem Ks_length : Ks.length = 64 := by decide
theorem Ks_range : ∀ z ∈ Ks, 0 ≤ z ∧ z < 4294967296 := by decide
def kAt (t : Nat) : W := V (Ks.getD t 0)
theorem U_kAt (t : Nat) (h : t < 64) : Ks.getD t 0 = U (kAt t) := by
  have hm : Ks.getD t 0 ∈ Ks := by
    rw [List.getD_eq_getElem?_getD, List.getElem?_eq_getElem (by rw [Ks_length]; exact h)]
    exact List.getElem_mem _
  have := Ks_range _ hm
  unfold kAt; rw [U_V _ this.1 this.2]

/-- a block's number t < 16: four bytes -/
def word (b : List Int) (t : Nat) : W := V (b.getD (4 * t) 0) <<< 24 ||| V (b.getD (4 * t + 1) 0) <<< 16 ||| V (b.getD (4 * t + 2) 0) <<< 8 ||| V (b.getD (4 * t + 3) 0)
/-- the first j of the four bytes -/
def part (b : List Int) (t : Nat) : Nat → W
  | 0 => 0#32
  | j + 1 => part b t j <<< 8 ||| V (b.getD (4 * t + j) 0)
theorem part_four (b : List Int) (t : Nat) : part b t 4 = word b t := by
  simp only [part, word, BitVec.shiftLeft_or_distrib, ← BitVec.shiftLeft_add, Nat.reduceAdd, Nat.add_zero]
  simp
/-- the number t behind those ahead -/
def next (b : List Int) (l : List W) (t : Nat) : W :=
  if t < 16 then word b t else s1 (l.getD (t - 2) 0#32) + l.getD (t - 7) 0#32 + s0 (l.getD (t - 15) 0#32) + l.getD (t - 16) 0#32
/-- the first k of a block's numbers -/
def sched (b : List Int) : Nat → List W
  | 0 => []
  | k + 1 => sched b k ++ [next b (sched b k) k]
theorem sched_length (b : List Int) (k : Nat) : (sched b k).length = k := by
  induction k with
  | zero => rfl
  | succ k ih => simp [sched, ih]
/-- the table of 64 numbers when k are there -/
def tab (b : List Int) (k : Nat) : List Int := (sched b k).map U ++ List.replicate (64 - k) 0
theorem tab_length (b : List Int) (k : Nat) (h : k ≤ 64) : (tab b k).length = 64 := by simp [tab, sched_length]; omega
theorem tab_set (b : List Int) (k : Nat) (h : k < 64) : (tab b k).set k (U (next b (sched b k) k)) = tab b (k + 1) := by
  unfold tab
  rw [List.set_append_right _ _ (by simp [sched_length])]
  rw [show (List.length (List.map U (sched b k))) = k from by simp [sched_length], Nat.sub_self]
  rw [show 64 - k = (64 - (k + 1)) + 1 from by omega, List.replicate_succ, List.set_cons_zero]
  simp [sched]
theorem tab_at (b : List Int) (k i : Nat) (h : i < k) : (tab b k).getD i 0 = U ((sched b k).getD i 0#32) := by
  have hl := sched_length b k
  have h1 : i < (sched b k).length := by omega
  unfold tab
  rw [List.getD_eq_getElem?_getD, List.getElem?_append_left (by simpa using h1), List.getElem?_map, List.getD_eq_getElem?_getD, List.getElem?_eq_getElem h1]
  rfl
theorem tab_zero_at (b : List Int) (k : Nat) (h : k < 64) : (tab b k).getD k 0 = 0 := by
  have hl := sched_length b k
  unfold tab
  rw [List.getD_eq_getElem?_getD, List.getElem?_append_right (by simp [hl]), List.length_map, hl, Nat.sub_self, show 64 - k = (64 - (k + 1)) + 1 from by omega, List.replicate_succ]
  rfl
theorem tab_set_zero (b : List Int) (k : Nat) (h : k < 64) : (tab b k).set k (U (part b k 0)) = tab b k := by
  have e := tab_zero_at b k h
  have hl := tab_length b k (by omega)
  apply List.ext_getElem?
  intro i
  rw [List.getElem?_set]
  by_cases hi : k = i
  · subst hi
    rw [if_pos rfl, if_pos (by omega)]
    rw [List.getD_eq_getElem?_getD] at e
    rw [List.getElem?_eq_getElem (by omega)] at e ⊢
    simp at e
    rw [e]; rfl
  · rw [if_neg hi]
/-- the rounds -/
def rounds (l : List W) (s : S) : Nat → S
  | 0 => s
  | k + 1 => step (rounds l s k) (kAt k) (l.getD k 0#32)
/-- a block is taken in -/
def block (s : S) (b : List Int) : S := s.add (rounds (sched b 64) s 64)
def H0 : S := ⟨1779033703#32, 3144134277#32, 1013904242#32, 2773480762#32, 1359893119#32, 2600822924#32, 528734635#32, 1541459225#32⟩
/-- the first n blocks of a text are taken in -/
def eat (s : S) (l : List Int) : Nat → S
  | 0 => s
  | n + 1 => block (eat s l n) ((l.drop (64 * n)).take 64)
/-- the k bytes of a number, the highest first -/
def be (k : Nat) (x : Nat) : List Int := (List.range k).map fun i => ((x / 256 ^ (k - 1 - i) % 256 : Nat) : Int)
theorem be_length (k x : Nat) : (be k x).length = k := by simp [be]
theorem be_byte (k x : Nat) : ∀ z ∈ be k x, 0 ≤ z ∧ z ≤ 255 := by
  intro z hz
  simp [be] at hz
  obtain ⟨i, _, rfl⟩ := hz
  omega
/-- how many bytes stand behind a text of n bytes ahead of its length -/
def fill (n : Nat) : Nat := 64 - (n + 8) % 64
/-- what stands behind a text of n bytes -/
def pad (n : Nat) : List Int := 128 :: List.replicate (fill n - 1) 0 ++ be 8 (8 * n)
theorem pad_length (n : Nat) : (pad n).length = fill n + 8 := by
  simp [pad, be_length, fill]; omega
theorem pad_byte (n : Nat) : ∀ z ∈ pad n, 0 ≤ z ∧ z ≤ 255 := by
  intro z hz
  simp [pad] at hz
  rcases hz with rfl | ⟨_, rfl⟩ | hz
  · omega
  · omega
  · exact be_byte _ _ _ hz
def digest (s : S) : List Int := s.all.flatMap fun x => be 4 x.toNat
/-- the sum of a text, 32 bytes -/
def sum (l : List Int) : List Int := digest (eat H0 (l ++ pad l.length) ((l.length + 8) / 64 + 1))
theorem padded_length (l : List Int) : (l ++ pad l.length).length = 64 * ((l.length + 8) / 64 + 1) := by
  rw [List.length_append, pad_length, fill]; omega

/-- blocks that are there are eaten the same, whatever stands behind -/
theorem eat_append (s : S) (l m : List Int) (n : Nat) (h : 64 * n ≤ l.length) : eat s (l ++ m) n = eat s l n := by
  induction n with
  | zero => rfl
  | succ n ih =>
    simp only [eat]
    rw [ih (by omega)]
    congr 1
    rw [List.drop_append_of_le_length (by omega), List.take_append_of_le_length (by simp; omega)]
end Sha
end Go.Proofs.YtodbfkifendniaaDoor
