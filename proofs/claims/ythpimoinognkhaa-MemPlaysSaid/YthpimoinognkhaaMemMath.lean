/- A memory in numbers: regions, what is found, bytes put and told, words. No program. -/
import Derived.Laws.BitsLemmas
import Derived.WalkSmall
namespace Go.Proofs.Ythpimoinognkhaa
namespace Ram
/-- a region: its base, its size, its rights, each within its bounds -/
structure Rg where
  b : Int
  s : Int
  r : Int
  h : (0 ≤ b ∧ b ≤ 4294967295) ∧ (0 ≤ s ∧ s ≤ 4294967295) ∧ (0 ≤ r ∧ r ≤ 255)
instance : Inhabited Rg := ⟨⟨0, 0, 0, by decide⟩⟩
/-- the number behind the last byte -/
def Rg.e (x : Rg) : Int := x.b + x.s
/-- does a region have all of these bytes, and all of these rights? -/
def fndP (at' size right : Int) (x : Rg) : Bool := decide (x.b ≤ at') && decide (at' + size ≤ x.e) && decide (bits .and .u8 x.r right = right)
def fnd (l : List Rg) (at' size right : Int) : Option Nat := if size = 0 then none else l.findIdx? (fndP at' size right)
def fi (o : Option Nat) : Int := match o with | some i => i | none => 0
theorem fnd_hit {l : List Rg} {at' size right : Int} {k : Nat} (h0 : size ≠ 0) (hk : k < l.length) (hp : fndP at' size right l[k]! = true) (hn : ∀ j, j < k → fndP at' size right l[j]! = false) : fnd l at' size right = some k := by
  unfold fnd
  rw [if_neg h0, List.findIdx?_eq_some_iff_getElem]
  refine ⟨hk, by rw [getElem!_pos l k hk] at hp; exact hp, fun j hj => ?_⟩
  have := hn j hj
  rw [getElem!_pos l j (by omega)] at this
  simpa using this
theorem fnd_miss {l : List Rg} {at' size right : Int} (hn : ∀ j, j < l.length → fndP at' size right l[j]! = false) : fnd l at' size right = none := by
  unfold fnd
  split
  · rfl
  · rw [List.findIdx?_eq_none_iff]
    intro x hx
    obtain ⟨j, hj, rfl⟩ := List.mem_iff_getElem.1 hx
    have := hn j hj
    rwa [getElem!_pos l j hj] at this
/-- what is found of more bytes is found of fewer -/
theorem fnd_fewer {l : List Rg} {a a' n n' r : Int} (h : (fnd l a n r).isSome = true) (h0 : 0 < n') (h1 : a ≤ a') (h2 : a' + n' ≤ a + n) : (fnd l a' n' r).isSome = true := by
  unfold fnd at *
  rw [if_neg (by omega)] at h ⊢
  rw [List.findIdx?_isSome, List.any_eq_true] at h ⊢
  obtain ⟨x, hx, hp⟩ := h
  refine ⟨x, hx, ?_⟩
  unfold fndP at *
  simp only [Bool.and_eq_true, decide_eq_true_eq] at *
  exact ⟨⟨by omega, by omega⟩, hp.2⟩
theorem fnd_zero (l : List Rg) (a r : Int) : fnd l a 0 r = none := by unfold fnd; rw [if_pos rfl]
/-! ### Words -/
/-- the number of these bytes, the lowest one first -/
def un : List Int → Int
  | [] => 0
  | z :: r => z + 256 * un r
/-- a number's lowest bytes -/
def low : Nat → Int → List Int
  | 0, _ => []
  | n + 1, x => x % 256 :: low n (x / 256)
theorem low_len (n : Nat) (x : Int) : (low n x).length = n := by
  induction n generalizing x with
  | zero => rfl
  | succ n ih => simp [low, ih]
theorem low_by (n : Nat) (x : Int) : ∀ z ∈ low n x, 0 ≤ z ∧ z ≤ 255 := by
  induction n generalizing x with
  | zero => simp [low]
  | succ n ih =>
    intro z hz
    simp only [low, List.mem_cons] at hz
    rcases hz with rfl | hz
    · omega
    · exact ih _ z hz
theorem low_take (n m : Nat) (x : Int) (h : n ≤ m) : (low m x).take n = low n x := by
  induction n generalizing x m with
  | zero => simp [low]
  | succ n ih =>
    obtain ⟨m, rfl⟩ : ∃ k, m = k + 1 := ⟨m - 1, by omega⟩
    simp only [low, List.take_succ_cons]
    rw [ih m _ (by omega)]
theorem low_at (n i : Nat) (x : Int) (h : i < n) : (low n x).getD i 0 = x / 256 ^ i % 256 := by
  induction n generalizing x i with
  | zero => omega
  | succ n ih =>
    cases i with
    | zero => simp [low]
    | succ i =>
      simp only [low, List.getD_cons_succ]
      rw [ih i _ (by omega), Int.pow_succ, Int.mul_comm, Int.ediv_ediv_of_nonneg (by omega)]
theorem un_low (n : Nat) (x : Int) (h : 0 ≤ x) : un (low n x) = x % 256 ^ n := by
  induction n generalizing x with
  | zero => simp [low, un]
  | succ n ih =>
    simp only [low, un]
    rw [ih _ (by omega), Int.pow_succ, Int.mul_comm (256 ^ n)]
    have hp : (0 : Int) < 256 ^ n := Int.pow_pos (by omega)
    generalize (256 : Int) ^ n = p at *
    have h1 := Int.emod_add_mul_ediv x 256
    have h2 := Int.emod_add_mul_ediv (x / 256) p
    have h3 := Int.emod_add_mul_ediv x (256 * p)
    rw [← Int.ediv_ediv_of_nonneg (by omega)] at h3
    have h4 : 256 * p * (x / 256 / p) = 256 * (p * (x / 256 / p)) := by rw [Int.mul_assoc]
    omega
theorem un_range : ∀ (l : List Int), (∀ z ∈ l, 0 ≤ z ∧ z ≤ 255) → 0 ≤ un l ∧ un l < 256 ^ l.length
  | [], _ => by simp [un]
  | z :: l, h => by
    have h1 := h z (by simp)
    have h2 := un_range l (fun x hx => h x (by simp [hx]))
    simp only [un, List.length_cons, Int.pow_succ]
    omega
theorem un_append (l m : List Int) : un (l ++ m) = un l + 256 ^ l.length * un m := by
  induction l with
  | nil => simp [un]
  | cons z l ih =>
    simp only [List.cons_append, un, ih, List.length_cons, Int.pow_succ]
    rw [Int.mul_add, Int.mul_comm (256 ^ l.length) 256, Int.mul_assoc, Int.add_assoc]
theorem un_zeros (n : Nat) : un (List.replicate n 0) = 0 := by
  induction n with
  | zero => rfl
  | succ n ih => simp [List.replicate_succ, un, ih]
theorem un_snoc (l : List Int) (z : Int) : un (l ++ [z]) = un l + z * 256 ^ l.length := by
  rw [un_append]; simp [un, Int.mul_comm]
/-! ### Bytes put and told -/
def get (bs : List Int) (a n : Nat) : List Int := (bs.drop a).take n
def put (bs : List Int) (a : Nat) (b : List Int) : List Int := bs.take a ++ b ++ bs.drop (a + b.length)
theorem put_len (bs : List Int) (a : Nat) (b : List Int) (h : a + b.length ≤ bs.length) : (put bs a b).length = bs.length := by
  unfold put; simp; omega
theorem put_nil (bs : List Int) (a : Nat) : put bs a [] = bs := by unfold put; simp
theorem get_len (bs : List Int) (a n : Nat) (h : a + n ≤ bs.length) : (get bs a n).length = n := by unfold get; simp; omega
theorem put_by {bs b : List Int} {a : Nat} (h : ∀ z ∈ bs, 0 ≤ z ∧ z ≤ 255) (hb : ∀ z ∈ b, 0 ≤ z ∧ z ≤ 255) : ∀ z ∈ put bs a b, 0 ≤ z ∧ z ≤ 255 := by
  intro z hz
  unfold put at hz
  simp only [List.mem_append] at hz
  rcases hz with (hz | hz) | hz
  · exact h z (List.mem_of_mem_take hz)
  · exact hb z hz
  · exact h z (List.mem_of_mem_drop hz)
theorem get_by {bs : List Int} {a n : Nat} (h : ∀ z ∈ bs, 0 ≤ z ∧ z ≤ 255) : ∀ z ∈ get bs a n, 0 ≤ z ∧ z ≤ 255 := fun z hz => h z (List.mem_of_mem_drop (List.mem_of_mem_take hz))
theorem get_at (bs : List Int) (a n i : Nat) (h : i < n) : (get bs a n).getD i 0 = bs.getD (a + i) 0 := by
  unfold get
  simp [List.getD, h]
theorem put_at (bs : List Int) (a : Nat) (b : List Int) (i : Nat) (h : a + b.length ≤ bs.length) : (put bs a b).getD i 0 = if a ≤ i ∧ i < a + b.length then b.getD (i - a) 0 else bs.getD i 0 := by
  unfold put
  simp only [List.getD, List.append_assoc]
  by_cases h1 : i < a
  · rw [if_neg (by omega), List.getElem?_append_left (by simp; omega), List.getElem?_take_of_lt h1]
  · rw [List.getElem?_append_right (by simp; omega)]
    have e : (List.take a bs).length = a := by simp; omega
    rw [e]
    by_cases h2 : i < a + b.length
    · rw [if_pos (by omega), List.getElem?_append_left (by omega)]
    · rw [if_neg (by omega), List.getElem?_append_right (by omega), List.getElem?_drop]
      congr 2; omega
theorem get_put (bs : List Int) (a : Nat) (b : List Int) (h : a + b.length ≤ bs.length) : get (put bs a b) a b.length = b := by
  unfold get put
  have e : (List.take a bs).length = a := by simp; omega
  rw [List.append_assoc, List.drop_append_of_le_length (by omega), List.drop_of_length_le (by omega), List.nil_append, List.take_append_of_le_length (by omega), List.take_of_length_le (by omega)]
theorem get_all (bs : List Int) : get bs 0 bs.length = bs := by unfold get; simp
theorem put_all (bs b : List Int) (h : b.length = bs.length) : put bs 0 b = b := by unfold put; simp [h]
/-- the steps of a store, byte by byte -/
theorem put_snoc (bs : List Int) (a : Nat) (b : List Int) (z : Int) (h : a + b.length < bs.length) : put bs a (b ++ [z]) = (put bs a b).set (a + b.length) z := by
  apply List.ext_getElem?
  intro i
  have hl : a + (b ++ [z]).length ≤ bs.length := by simp; omega
  have l1 : (put bs a (b ++ [z])).length = bs.length := put_len _ _ _ hl
  have l2 : (put bs a b).length = bs.length := put_len _ _ _ (by omega)
  by_cases hi : i < bs.length
  · have e1 := put_at bs a (b ++ [z]) i hl
    have e2 := put_at bs a b i (by omega)
    rw [List.getElem?_set]
    simp only [List.getD, List.length_append, List.length_singleton] at e1 e2
    rw [List.getElem?_eq_getElem (by omega)] at e1 e2 ⊢
    rw [List.getElem?_eq_getElem (by omega)]
    simp only [Option.getD_some] at e1 e2
    by_cases h3 : a + b.length = i
    · subst h3
      rw [if_pos rfl, if_pos (by omega), e1, if_pos (by omega)]
      simp
    · rw [if_neg h3, e1, e2]
      by_cases h4 : a ≤ i ∧ i < a + b.length
      · rw [if_pos (by omega), if_pos h4, List.getElem?_append_left (by omega)]
      · rw [if_neg (by omega), if_neg h4]
  · rw [List.getElem?_eq_none (by omega), List.getElem?_eq_none (by simp; omega)]
/-! ### What each call answers and leaves -/
def there (a n len : Nat) : Bool := decide (n = 0 ∨ a + n ≤ len)
def rangeE (a n len : Nat) : Int := if there a n len then 0 else 5
def zeroM (bs : List Int) (a n : Nat) : List Int := if there a n bs.length then put bs a (List.replicate n 0) else bs
def putM (bs : List Int) (a : Nat) (b : List Int) : List Int := if there a b.length bs.length then put bs a b else bs
def getM (bs : List Int) (a n : Nat) : List Int := if there a n bs.length then get bs a n else []
def lets (l : List Rg) (a n : Nat) (right : Int) (len : Nat) : Bool := (fnd l a n right).isSome && decide (a + n ≤ len)
def boundsE (l : List Rg) (a n : Nat) (right : Int) (len : Nat) : Int := if lets l a n right len then 0 else 60
def wordB (n : Nat) : Bool := decide (n = 1 ∨ n = 2 ∨ n = 4)
def wordE (l : List Rg) (a n : Nat) (right : Int) (len : Nat) : Int := if wordB n then boundsE l a n right len else 2
def loadM (bs : List Int) (l : List Rg) (a n : Nat) : Int := if wordB n && lets l a n 1 bs.length then un (get bs a n) else 0
def storeM (bs : List Int) (l : List Rg) (a n : Nat) (x : Int) : List Int := if wordB n && lets l a n 2 bs.length then put bs a (low n x) else bs
def fetchM (bs : List Int) (l : List Rg) (a : Nat) : List Int := if lets l a 8 4 bs.length then get bs a 8 else []
theorem lets_pos {l : List Rg} {a n : Nat} {r : Int} {len : Nat} (h : lets l a n r len = true) : 0 < n := by
  unfold lets fnd at h
  by_cases h0 : (n : Int) = 0
  · simp [h0] at h
  · omega
theorem lets_le {l : List Rg} {a n : Nat} {r : Int} {len : Nat} (h : lets l a n r len = true) : a + n ≤ len := by
  unfold lets at h; simp at h; exact h.2
theorem zeroM_len (bs : List Int) (a n : Nat) : (zeroM bs a n).length = bs.length := by
  unfold zeroM
  split
  · rename_i h
    unfold there at h
    by_cases h0 : n = 0
    · subst h0; simp [put_nil]
    · exact put_len _ _ _ (by simp at h ⊢; omega)
  · rfl
theorem putM_len (bs : List Int) (a : Nat) (b : List Int) : (putM bs a b).length = bs.length := by
  unfold putM
  split
  · rename_i h
    unfold there at h
    by_cases h0 : b = []
    · subst h0; simp [put_nil]
    · exact put_len _ _ _ (by simp at h ⊢; rcases h with h | h; exact absurd h h0; omega)
  · rfl
theorem storeM_len (bs : List Int) (l : List Rg) (a n : Nat) (x : Int) : (storeM bs l a n x).length = bs.length := by
  unfold storeM
  split
  · rename_i h
    simp only [Bool.and_eq_true] at h
    exact put_len _ _ _ (by rw [low_len]; exact lets_le h.2)
  · rfl
end Ram
end Go.Proofs.Ythpimoinognkhaa
