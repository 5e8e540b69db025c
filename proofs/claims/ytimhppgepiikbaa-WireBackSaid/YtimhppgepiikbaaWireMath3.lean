/- A writer's calls leave what the document writes: no program. -/
import Derived.Test.YtimhppgepiikbaaWireMath2
namespace Go.Proofs.Ytimhppgepiikbaa
namespace Wire
theorem le_mod : ∀ (s : Nat) (n : Int), le s (n % 256 ^ s) = le s n
  | 0, _ => rfl
  | s + 1, n => by
    have hp : (0 : Int) < 256 ^ s := Int.pow_pos (by omega)
    have e : n % 256 ^ (s + 1) % 256 = n % 256 := Int.emod_emod_of_dvd n ⟨256 ^ s, by rw [Int.pow_succ, Int.mul_comm]⟩
    have e2 : n % 256 ^ (s + 1) / 256 = n / 256 % 256 ^ s := by
      have h1 := Int.emod_add_mul_ediv n (256 ^ (s + 1))
      have h2 : n / 256 ^ (s + 1) = n / 256 / 256 ^ s := by rw [Int.pow_succ, Int.mul_comm, Int.ediv_ediv_of_nonneg (by omega)]
      have h3 := Int.emod_add_mul_ediv (n / 256) (256 ^ s)
      have h4 : n = n % 256 ^ (s + 1) + 256 * (256 ^ s * (n / 256 / 256 ^ s)) := by
        rw [← h2, ← Int.mul_assoc, Int.mul_comm 256, ← Int.pow_succ]; exact h1.symm
      have h5 : n / 256 = n % 256 ^ (s + 1) / 256 + 256 ^ s * (n / 256 / 256 ^ s) := by
        conv => lhs; rw [h4]
        rw [Int.add_mul_ediv_left _ _ (by omega)]
      omega
    show n % 256 ^ (s + 1) % 256 :: le s (n % 256 ^ (s + 1) / 256) = n % 256 :: le s (n / 256)
    rw [e, e2, le_mod s]
theorem le_neg (i : Int) : le 4 (i % 4294967296) = le 4 (if i < 0 then i + 4294967296 else i) := by
  have h := le_mod 4 i
  have h2 := le_mod 4 (i + 4294967296)
  rw [show (256 : Int) ^ 4 = 4294967296 from by decide] at h h2
  rw [h]
  split
  · rw [← h, ← h2, Int.add_emod_right]
  · rfl
theorem num_ok {l : List Int} {n : Int} {m : Nat} (h : ¬ 524288 < l.length + m) : num (l, 0) n m = (l ++ le m n, 0) := by
  unfold num; rw [if_pos rfl, if_neg h]
theorem num_over {l : List Int} {n : Int} {m : Nat} (h : 524288 < l.length + m) : num (l, 0) n m = ([], 3) := by
  unfold num; rw [if_pos rfl, if_pos h]
theorem nums_three (b : List Int) : nums ([], 3) b = ([], 3) := nums_err _ _ (by decide)
theorem le_one (z : Int) (h0 : 0 ≤ z) (h1 : z ≤ 255) : le 1 z = [z] := by simp [le]; omega
/-- bytes one by one: all of them, or too long -/
theorem nums_put : ∀ (b l : List Int), (∀ z ∈ b, 0 ≤ z ∧ z ≤ 255) → l.length ≤ 524288 → nums (l, 0) b = if 524288 < l.length + b.length then ([], 3) else (l ++ b, 0)
  | [], l, _, hl => by simp [nums]; omega
  | z :: b, l, hb, hl => by
    have hz := hb z (by simp)
    show nums (num (l, 0) z 1) b = _
    by_cases h : 524288 < l.length + 1
    · rw [num_over h, nums_three, if_pos (by simp; omega)]
    · rw [num_ok h, le_one z hz.1 hz.2, nums_put b (l ++ [z]) (fun x hx => hb x (by simp [hx])) (by simp; omega)]
      simp only [List.length_append, List.length_cons, List.length_nil, List.append_assoc, List.cons_append, List.nil_append, Nat.zero_add]
      by_cases h2 : 524288 < l.length + 1 + b.length
      · rw [if_pos h2, if_pos (by omega)]
      · rw [if_neg h2, if_neg (by omega)]
/-- every byte is one -/
def Bytes : F → Prop
  | .nil => True
  | .cons _ _ _ b sub next => (∀ z ∈ b, 0 ≤ z ∧ z ≤ 255) ∧ Bytes sub ∧ Bytes next
theorem len_mod (n : Nat) (h : n ≤ 4294967295) : (n : Int) % 4294967296 = n := by omega
theorem rF_fst : ∀ (f : F) (l : List Int), ¬ (rF f l).2 = 0 → (rF f l).1 = []
  | .nil, l, h => absurd rfl h
  | .cons k n i b sub next, l, h => by
    simp only [rF] at h ⊢
    split
    · rfl
    · split
      · rfl
      · rename_i h1 h2
        rw [if_neg h1, if_neg h2] at h
        split
        · rename_i h3
          rw [if_pos h3] at h
          split
          · rename_i h4; rw [if_pos h4] at h; exact rF_fst next _ h
          · rfl
        · rename_i h3; rw [if_neg h3] at h; exact rF_fst next _ h
theorem rF_len : ∀ (f : F) (l : List Int), l.length ≤ 524288 → (rF f l).1.length ≤ 524288
  | .nil, l, h => h
  | .cons k n i b sub next, l, h => by
    simp only [rF]
    split
    · simp
    · split
      · simp
      · rename_i h1 h2
        split
        · split
          · exact rF_len next _ (rF_len sub _ (by simp; omega))
          · simp
        · exact rF_len next _ (by simp; omega)
/-- WHAT A WRITER's CALLS LEAVE IS WHAT THE DOCUMENT WRITES -/
theorem wF_rF : ∀ (f : F) (l : List Int), Small f → Bytes f → l.length ≤ 524288 → wF f (l, 0) = rF f l
  | .nil, l, _, _, _ => rfl
  | .cons k n i b sub next, l, hs, hb, hl => by
    have three : wF next ([], 3) = ([], 3) := wF_err next _ (by decide)
    have two : wF next ([], 2) = ([], 2) := wF_err next _ (by decide)
    have step : ∀ (m : Nat) (x : Int), wV k n i b sub (l, 0) = num (l, 0) x m → ¬ bad k i sub → moreB k n i b sub = le m x → ¬ k = 7 → wF next (wV k n i b sub (l, 0)) = rF (.cons k n i b sub next) l := by
      intro m x h1 h2 h3 h4
      rw [h1]
      by_cases ho : 524288 < l.length + m
      · rw [num_over ho, three, rF_over h2 h3 (by rw [le_length]; exact ho)]
      · rw [num_ok ho, rF_step h2 h3 (by rw [le_length]; exact ho) h4]
        exact wF_rF next _ hs.2.2 hb.2.2 (by simp [le_length]; omega)
    have nb : ¬ k = 5 → ¬ k = 7 → ¬ bad k i sub := fun h5 h7 h => by rcases h with ⟨h, _⟩ | ⟨h, _⟩ <;> contradiction
    have l1 := le_mod 1 n
    have l2 := le_mod 2 n
    have l4 := le_mod 4 n
    rw [show (256 : Int) ^ 1 = 256 from by decide] at l1
    rw [show (256 : Int) ^ 2 = 65536 from by decide] at l2
    rw [show (256 : Int) ^ 4 = 4294967296 from by decide] at l4
    rw [wF_cons]
    by_cases h1 : k = 1
    · subst h1; exact step 1 (n % 256) rfl (nb (by decide) (by decide)) l1.symm (by decide)
    by_cases h2 : k = 2
    · subst h2; exact step 2 (n % 65536) rfl (nb (by decide) (by decide)) l2.symm (by decide)
    by_cases h4 : k = 4
    · subst h4; exact step 4 (n % 4294967296) rfl (nb (by decide) (by decide)) l4.symm (by decide)
    by_cases h8 : k = 8
    · subst h8; exact step 8 n rfl (nb (by decide) (by decide)) rfl (by decide)
    by_cases h5 : k = 5
    · subst h5
      by_cases hi : i < -2147483648 ∨ 2147483647 < i
      · have e : wV 5 n i b sub (l, 0) = ([], 2) := by show i32 (l, 0) i = _; unfold i32; rw [if_pos hi]; rfl
        rw [e, two, rF_bad (Or.inl ⟨rfl, hi⟩)]
      · have e : wV 5 n i b sub (l, 0) = num (l, 0) (i % 4294967296) 4 := by show i32 (l, 0) i = _; unfold i32; rw [if_neg hi]
        exact step 4 (i % 4294967296) e (fun h => by rcases h with ⟨_, h⟩ | ⟨h, _⟩; exact hi h; cases h) (le_neg i).symm (by decide)
    by_cases h6 : k = 6
    · subst h6
      have e : wV 6 n i b sub (l, 0) = bytesS (l, 0) b := rfl
      have hm : moreB 6 n i b sub = le 4 b.length ++ b := rfl
      have hn := nb (by decide) (by decide)
      rw [e]
      unfold bytesS
      rw [len_mod _ (by have := hs.1; omega)]
      by_cases ho : 524288 < l.length + 4
      · rw [num_over ho, nums_three, three, rF_over hn hm (by simp [le_length]; omega)]
      · rw [num_ok ho, nums_put b _ hb.1 (by simp [le_length]; omega)]
        by_cases ho2 : 524288 < l.length + (4 + b.length)
        · rw [if_pos (by simp [le_length]; omega), three, rF_over hn hm (by simp [le_length]; omega)]
        · rw [if_neg (by simp [le_length]; omega), rF_step hn hm (by simp [le_length]; omega) (by decide), List.append_assoc]
          exact wF_rF next _ hs.2.2 hb.2.2 (by simp [le_length]; omega)
    by_cases h7 : k = 7
    · subst h7
      have e : wV 7 n i b sub (l, 0) = putS sub (l, 0) := rfl
      have hm : moreB 7 n i b sub = le 2 sub.len := rfl
      rw [e]
      unfold putS
      by_cases hbig : 65535 < sub.len
      · rw [if_pos hbig, rF_bad (Or.inr ⟨rfl, hbig⟩)]
        exact two
      · have hn : ¬ bad 7 i sub := fun h => by rcases h with ⟨h, _⟩ | ⟨_, h⟩; cases h; exact hbig h
        rw [if_neg hbig]
        by_cases ho : 524288 < l.length + 2
        · rw [num_over ho, wF_err sub _ (by decide), three, rF_over hn hm (by rw [le_length]; exact ho)]
        · have ho' : ¬ 524288 < l.length + (le 2 (sub.len : Int)).length := by rw [le_length]; exact ho
          have hl2 : (l ++ le 2 (sub.len : Int)).length ≤ 524288 := by simp [le_length]; omega
          rw [num_ok ho, wF_rF sub _ hs.2.1 hb.2.1 hl2]
          by_cases he : (rF sub (l ++ le 2 (sub.len : Int))).2 = 0
          · rw [rF_list hn hm ho' he]
            have e2 : rF sub (l ++ le 2 (sub.len : Int)) = ((rF sub (l ++ le 2 (sub.len : Int))).1, 0) := by rw [← he]
            rw [e2]
            exact wF_rF next _ hs.2.2 hb.2.2 (rF_len sub _ hl2)
          · rw [rF_list_err hn hm ho' he, wF_err next _ he]
            rw [← rF_fst sub _ he]
    · have e : wV k n i b sub (l, 0) = (l, 0) := by unfold wV; rw [if_neg h1, if_neg h2, if_neg h4, if_neg h8, if_neg h5, if_neg h6, if_neg h7]
      have hm : moreB k n i b sub = [] := by unfold moreB; rw [if_neg h1, if_neg h2, if_neg h4, if_neg h8, if_neg h5, if_neg h6, if_neg h7]
      rw [e, rF_step (nb h5 h7) hm (by simp; omega) h7, List.append_nil]
      exact wF_rF next l hs.2.2 hb.2.2 hl
end Wire
end Go.Proofs.Ytimhppgepiikbaa
