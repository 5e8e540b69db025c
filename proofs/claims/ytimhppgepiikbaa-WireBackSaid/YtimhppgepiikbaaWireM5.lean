/- What was written is read as it was; of a byte less there is too few. -/
import Derived.Test.YtimhppgepiikbaaWireL6
namespace Go.Proofs.Ytimhppgepiikbaa
open Go.ChangeShapes Go.WideShapes Go.ChangeAt Go.RowKit
namespace Wire
set_option linter.unusedVariables false
/-- the bytes of values, one behind the other -/
def enc : F → List Int
  | .nil => []
  | .cons k n i b sub next => (moreB k n i b sub ++ (if k = 7 then enc sub else [])) ++ enc next
def encV (k n i : Int) (b : List Int) (sub : F) : List Int := moreB k n i b sub ++ (if k = 7 then enc sub else [])
/-- nothing that may not be written is there -/
def Good : F → Prop
  | .nil => True
  | .cons k n i b sub next => ¬ bad k i sub ∧ Good next ∧ (k = 7 → Good sub)
theorem rF_enc : ∀ (f : F) (l : List Int), (rF f l).2 = 0 → (rF f l).1 = l ++ enc f ∧ Good f
  | .nil, l, _ => by simp [rF, enc, Good]
  | .cons k n i b sub next, l, h => by
    by_cases hb : bad k i sub
    · rw [rF_bad hb] at h; cases h
    · by_cases ho : 524288 < l.length + (moreB k n i b sub).length
      · rw [rF_over hb rfl ho] at h; cases h
      · by_cases h7 : k = 7
        · subst h7
          by_cases he : (rF sub (l ++ moreB 7 n i b sub)).2 = 0
          · rw [rF_list hb rfl ho he] at h ⊢
            obtain ⟨e1, g1⟩ := rF_enc sub _ he
            obtain ⟨e2, g2⟩ := rF_enc next _ h
            refine ⟨?_, hb, g2, fun _ => g1⟩
            rw [e2, e1]
            simp [enc]
          · rw [rF_list_err hb rfl ho he] at h; exact absurd h he
        · rw [rF_step hb rfl ho h7] at h ⊢
          obtain ⟨e2, g2⟩ := rF_enc next _ h
          refine ⟨?_, hb, g2, fun h => absurd h h7⟩
          rw [e2]
          simp [enc, h7]
theorem un_le : ∀ (m : Nat) (x : Int), un (le m x) = x % 256 ^ m
  | 0, x => by simp [un, le]
  | m + 1, x => by
    simp only [le, un, un_le m]
    have hp : (0 : Int) < 256 ^ m := Int.pow_pos (by omega)
    rw [Int.pow_succ, Int.mul_comm (256 ^ m)]
    have h1 := Int.emod_add_mul_ediv x 256
    have h2 := Int.emod_add_mul_ediv (x / 256) (256 ^ m)
    have h3 := Int.emod_add_mul_ediv x (256 * 256 ^ m)
    have h4 : x / (256 * 256 ^ m) = x / 256 / 256 ^ m := (Int.ediv_ediv_of_nonneg (by omega)).symm
    rw [h4, Int.mul_assoc] at h3
    generalize 256 ^ m * (x / 256 / 256 ^ m) = Q at *
    omega
theorem num_read {D R : List Int} {p m : Nat} {x : Int} (hm : 0 < m) (h : D.drop p = le m x ++ R) : RS.num ⟨D, p, 0⟩ m = (x % 256 ^ m, ⟨D, p + m, 0⟩) := by
  have hl : p + m ≤ D.length := by
    have := congrArg List.length h
    simp only [List.length_drop, List.length_append, le_length] at this
    omega
  simp only [RS.num, if_true]
  rw [if_neg (by omega), h]
  congr 1
  rw [← un_le]
  congr 1
  have := le_length m x
  rw [List.take_append_of_le_length (by omega), List.take_of_length_le (by omega)]
theorem drop_more {D A R : List Int} {p : Nat} (h : D.drop p = A ++ R) : D.drop (p + A.length) = R := by
  rw [← List.drop_drop, h]
  simp
theorem sg_back (i : Int) (h0 : -2147483648 ≤ i) (h1 : i ≤ 2147483647) : sg ((if i < 0 then i + 4294967296 else i) % 4294967296) = i := by
  unfold sg
  split <;> split <;> omega
theorem count_read {D R : List Int} {p m : Nat} {x : Int} (hm : 0 < m) (h : D.drop p = le m x ++ R) (h0 : 0 ≤ x) (h1 : x < 256 ^ m) (h2 : x ≤ 1048576) : RS.count ⟨D, p, 0⟩ 1048576 m = (x, ⟨D, p + m, 0⟩) := by
  have e := num_read hm h
  rw [Int.emod_eq_of_lt h0 h1] at e
  unfold RS.count
  rw [e]
  rw [if_neg (by simp only; omega), if_pos rfl]
theorem flat_back {D R : List Int} {p : Nat} {k n i : Int} {b : List Int} (hf : FlatV k n i b .nil) (hn : 0 ≤ n ∧ n ≤ 18446744073709551615) (hbad : ¬ bad k i .nil) (hl : b.length ≤ 200000) (h : D.drop p = moreB k n i b .nil ++ R) :
    rdFlat k 1048576 ⟨D, p, 0⟩ = ⟨n, i, b, ⟨D, p + (moreB k n i b .nil).length, 0⟩⟩ := by
  obtain ⟨_, hf⟩ := hf
  rcases hf with ⟨rfl, h1, rfl, rfl⟩ | ⟨rfl, h1, rfl, rfl⟩ | ⟨rfl, h1, rfl, rfl⟩ | ⟨rfl, rfl, rfl⟩ | ⟨rfl, rfl, rfl⟩ | ⟨rfl, rfl, rfl⟩
  · have e := num_read (m := 1) (x := n) (by omega) h
    rw [show (256 : Int) ^ 1 = 256 from by decide, Int.emod_eq_of_lt hn.1 h1] at e
    show (⟨(RS.num ⟨D, p, 0⟩ 1).1, 0, [], (RS.num ⟨D, p, 0⟩ 1).2⟩ : RV) = _
    rw [e]; rfl
  · have e := num_read (m := 2) (x := n) (by omega) h
    rw [show (256 : Int) ^ 2 = 65536 from by decide, Int.emod_eq_of_lt hn.1 h1] at e
    show (⟨(RS.num ⟨D, p, 0⟩ 2).1, 0, [], (RS.num ⟨D, p, 0⟩ 2).2⟩ : RV) = _
    rw [e]; rfl
  · have e := num_read (m := 4) (x := n) (by omega) h
    rw [show (256 : Int) ^ 4 = 4294967296 from by decide, Int.emod_eq_of_lt hn.1 h1] at e
    show (⟨(RS.num ⟨D, p, 0⟩ 4).1, 0, [], (RS.num ⟨D, p, 0⟩ 4).2⟩ : RV) = _
    rw [e]; rfl
  · have e := num_read (m := 8) (x := n) (by omega) h
    rw [show (256 : Int) ^ 8 = 18446744073709551616 from by decide, Int.emod_eq_of_lt hn.1 (by omega)] at e
    show (⟨(RS.num ⟨D, p, 0⟩ 8).1, 0, [], (RS.num ⟨D, p, 0⟩ 8).2⟩ : RV) = _
    rw [e]; rfl
  · have e := num_read (m := 4) (x := if i < 0 then i + 4294967296 else i) (by omega) h
    rw [show (256 : Int) ^ 4 = 4294967296 from by decide] at e
    have hi : -2147483648 ≤ i ∧ i ≤ 2147483647 := by
      constructor
      · apply Int.le_of_not_gt; intro hh; exact hbad (Or.inl ⟨rfl, Or.inl hh⟩)
      · apply Int.le_of_not_gt; intro hh; exact hbad (Or.inl ⟨rfl, Or.inr hh⟩)
    show (⟨0, sg (RS.num ⟨D, p, 0⟩ 4).1, [], (RS.num ⟨D, p, 0⟩ 4).2⟩ : RV) = _
    rw [e]
    simp only [sg_back i hi.1 hi.2]
    rfl
  · have h' : D.drop p = le 4 (b.length : Int) ++ (b ++ R) := by rw [h]; show (le 4 (b.length : Int) ++ b) ++ R = _; simp
    have e := count_read (m := 4) (by omega) h' (by omega) (by rw [show (256 : Int) ^ 4 = 4294967296 from by decide]; omega) (by omega)
    have hd := drop_more h'
    rw [le_length] at hd
    have hlen : p + 4 + b.length ≤ D.length := by
      have := congrArg List.length h'
      simp only [List.length_drop, List.length_append, le_length] at this
      omega
    show (⟨0, 0, (RS.bytes ⟨D, p, 0⟩ 1048576).1, (RS.bytes ⟨D, p, 0⟩ 1048576).2⟩ : RV) = _
    unfold RS.bytes
    rw [e]
    simp only [if_true, Int.toNat_natCast]
    rw [if_neg (by push_cast; omega), hd]
    have : (moreB 6 0 0 b .nil).length = 4 + b.length := by show (le 4 (b.length : Int) ++ b).length = _; simp [le_length]
    rw [this]
    simp [Nat.add_assoc]
/-- numbers are numbers of their kind -/
def Nums : F → Prop
  | .nil => True
  | .cons _ n _ _ sub next => (0 ≤ n ∧ n ≤ 18446744073709551615) ∧ Nums sub ∧ Nums next
theorem many_back : ∀ (f : F) (D R : List Int) (p : Nat) (K : Int), Flat f → AllK K f → Nums f → Good f → Small f → D.drop p = enc f ++ R → rdMany K 1048576 f.len ⟨D, p, 0⟩ = (f, ⟨D, p + (enc f).length, 0⟩)
  | .nil, D, R, p, K, _, _, _, _, _, _ => rfl
  | .cons k n i b sub next, D, R, p, K, hf, ha, hn, hg, hs, h => by
    obtain ⟨rfl, ha⟩ := ha
    have hsub : sub = .nil := hf.1.1
    subst hsub
    have hk7 : ¬ k = 7 := by
      intro e; subst e
      obtain ⟨_, h⟩ := hf.1
      rcases h with ⟨h, _⟩ | ⟨h, _⟩ | ⟨h, _⟩ | ⟨h, _⟩ | ⟨h, _⟩ | ⟨h, _⟩ <;> cases h
    have h' : D.drop p = moreB k n i b .nil ++ (enc next ++ R) := by rw [h]; simp [enc, hk7]
    have e := flat_back hf.1 hn.1 hg.1 hs.1 h'
    have e2 := many_back next D R (p + (moreB k n i b .nil).length) k hf.2 ha hn.2.2 hg.2.1 hs.2.2 (drop_more h')
    show rdMany k 1048576 (next.len + 1) _ = _
    simp only [rdMany]
    rw [e]
    simp only [if_true]
    rw [e2]
    simp [enc, hk7, Nat.add_assoc]
def kindE : F → Int × Int
  | .nil => (1, 0)
  | .cons k _ _ _ _ _ => (k, 1048576)
theorem list_back (sub : F) (D R : List Int) (p : Nat) (K : Int) (hf : Flat sub) (ha : AllK K sub) (hn : Nums sub) (hg : Good sub) (hs : Small sub) (hl : sub.len ≤ 65535) (h : D.drop p = le 2 sub.len ++ (enc sub ++ R)) :
    rdList (kindE sub).1 (kindE sub).2 1048576 ⟨D, p, 0⟩ = (sub, ⟨D, p + (2 + (enc sub).length), 0⟩) := by
  have e := count_read (m := 2) (by omega) h (by omega) (by rw [show (256 : Int) ^ 2 = 65536 from by decide]; omega) (by omega)
  have hd := drop_more h
  rw [le_length] at hd
  unfold rdList
  rw [e]
  simp only [Int.toNat_natCast]
  cases sub with
  | nil => rfl
  | cons k n i b sub next =>
    have hk : k = K := ha.1
    subst hk
    show rdMany k 1048576 _ _ = _
    rw [many_back _ D R (p + 2) k hf ha hn hg hs hd]
    simp [Nat.add_assoc]
/-- the state that a value's reading leaves -/
def rdVs (k : Int) (sub : F) (s : RS) : RS := if k = 7 then (rdList (kindE sub).1 (kindE sub).2 1048576 s).2 else (rdFlat k 1048576 s).s
theorem vs_back {D R : List Int} {p : Nat} {k n i : Int} {b : List Int} {sub : F} (hp : PlainV k n i b sub) (hn : (0 ≤ n ∧ n ≤ 18446744073709551615) ∧ Nums sub) (hbad : ¬ bad k i sub) (hg : k = 7 → Good sub) (hl : b.length ≤ 200000) (hs : Small sub) (h : D.drop p = encV k n i b sub ++ R) :
    rdVs k sub ⟨D, p, 0⟩ = ⟨D, p + (encV k n i b sub).length, 0⟩ := by
  unfold rdVs
  rcases hp with hp | ⟨rfl, rfl, rfl, rfl, hf, K, ha⟩
  · have hsub : sub = .nil := hp.1
    subst hsub
    have hk7 : ¬ k = 7 := by
      intro e; subst e
      obtain ⟨_, h⟩ := hp
      rcases h with ⟨h, _⟩ | ⟨h, _⟩ | ⟨h, _⟩ | ⟨h, _⟩ | ⟨h, _⟩ | ⟨h, _⟩ <;> cases h
    have e0 : encV k n i b .nil = moreB k n i b .nil := by simp [encV, hk7]
    rw [if_neg hk7, flat_back hp hn.1 hbad hl (by rw [h, e0]), e0]
  · have hl2 : sub.len ≤ 65535 := by
      apply Nat.le_of_not_lt; intro hh; exact hbad (Or.inr ⟨rfl, hh⟩)
    have e0 : encV 7 0 0 [] sub = le 2 sub.len ++ enc sub := rfl
    rw [if_pos rfl, list_back sub D R p K hf ha hn.2 (hg rfl) hs hl2 (by rw [h, e0]; simp), e0]
    simp [le_length]
end Wire
end Go.Proofs.Ytimhppgepiikbaa
