/- Where a program goes, in numbers: what comes behind which instruction, what is come to, the order, the first error. No program. -/
import Derived.Test.YtcmbkoghhhhmcaaDoorIsaMath
namespace Go.Proofs.YtcmbkoghhhhmcaaDoor
/-- no instruction -/
def Isa.iz : Isa.Iv := ⟨0, 0, 0, 0⟩
namespace Flw
open Isa
set_option linter.unusedVariables false
set_option linter.unusedSimpArgs false
/-! ### The least number of which something holds -/
def fst (p : Nat → Bool) : Nat → Nat → Nat
  | 0, k => k
  | n + 1, k => if p k then k else fst p n (k + 1)
def first (p : Nat → Bool) (n : Nat) : Nat := fst p n 0
theorem fst_none (p : Nat → Bool) : ∀ (n k : Nat), (∀ t, k ≤ t → t < k + n → p t = false) → fst p n k = k + n
  | 0, k, _ => rfl
  | n + 1, k, h => by
    unfold fst
    rw [if_neg (by rw [h k (by omega) (by omega)]; simp), fst_none p n (k + 1) fun t h1 h2 => h t (by omega) (by omega)]
    omega
theorem fst_at (p : Nat → Bool) : ∀ (n k j : Nat), j < n → (∀ t, k ≤ t → t < k + j → p t = false) → p (k + j) = true → fst p n k = k + j
  | 0, _, _, h, _, _ => by omega
  | n + 1, k, j, hj, hn, h => by
    unfold fst
    cases j with
    | zero => rw [if_pos (by simpa using h)]; rfl
    | succ j =>
      rw [if_neg (by rw [hn k (by omega) (by omega)]; simp), fst_at p n (k + 1) j (by omega) (fun t h1 h2 => hn t (by omega) (by omega)) (by rw [← h]; congr 1; omega)]
      omega
theorem fst_le (p : Nat → Bool) : ∀ (n k : Nat), fst p n k ≤ k + n
  | 0, k => Nat.le_refl _
  | n + 1, k => by
    unfold fst
    split
    · omega
    · have := fst_le p n (k + 1); omega
theorem fst_ge (p : Nat → Bool) : ∀ (n k : Nat), k ≤ fst p n k
  | 0, k => Nat.le_refl _
  | n + 1, k => by
    unfold fst
    split
    · omega
    · have := fst_ge p n (k + 1); omega
theorem fst_hit (p : Nat → Bool) : ∀ (n k : Nat), fst p n k < k + n → p (fst p n k) = true
  | 0, k, h => by unfold fst at h; omega
  | n + 1, k, h => by
    unfold fst at h ⊢
    split
    · assumption
    · rename_i hp
      rw [if_neg hp] at h
      exact fst_hit p n (k + 1) (by omega)
theorem fst_miss (p : Nat → Bool) : ∀ (n k t : Nat), k ≤ t → t < fst p n k → p t = false
  | 0, k, t, h1, h2 => by unfold fst at h2; omega
  | n + 1, k, t, h1, h2 => by
    unfold fst at h2
    split at h2
    · omega
    · rename_i hp
      by_cases e : t = k
      · subst e; simpa using hp
      · exact fst_miss p n (k + 1) t (by omega) h2
theorem first_at {p : Nat → Bool} {n k : Nat} (hk : k < n) (hn : ∀ t, t < k → p t = false) (h : p k = true) : first p n = k := by
  have := fst_at p n 0 k hk (fun t _ h2 => hn t (by omega)) (by rw [Nat.zero_add]; exact h)
  unfold first; omega
theorem first_none {p : Nat → Bool} {n : Nat} (hn : ∀ t, t < n → p t = false) : first p n = n := by
  have := fst_none p n 0 fun t _ h2 => hn t (by omega)
  unfold first; omega
theorem first_le (p : Nat → Bool) (n : Nat) : first p n ≤ n := by have := fst_le p n 0; unfold first; omega
theorem first_hit {p : Nat → Bool} {n : Nat} (h : first p n < n) : p (first p n) = true := fst_hit p n 0 (by unfold first at h; omega)
theorem first_miss {p : Nat → Bool} {n t : Nat} (h : t < first p n) : p t = false := fst_miss p n 0 t (by omega) h
theorem first_congr {p q : Nat → Bool} {n : Nat} (h : ∀ t, t < n → p t = q t) : first p n = first q n := by
  by_cases hq : first q n < n
  · exact first_at hq (fun t ht => by rw [h t (by omega)]; exact first_miss ht) (by rw [h _ hq]; exact first_hit hq)
  · have e : first q n = n := by have := first_le q n; omega
    rw [e]
    exact first_none fun t ht => by rw [h t ht]; exact first_miss (n := n) (by omega)
/-! ### What comes behind -/
def behI (i : Iv) (n : Nat) : List Nat :=
  if i.op = 27 then [] else if i.op = 19 then [i.c.toNat] else if i.op = 20 then (if i.c = ((n + 1 : Nat) : Int) then [n + 1] else [n + 1, i.c.toNat]) else [n + 1]
def behL (l : List Iv) (n : Nat) : List Nat := behI (l.getD n iz) n
/-! ### What is amiss first -/
def badA (l : List Iv) (k : Nat) : Bool := !mayI (l.getD k iz)
def badB (l : List Iv) (k : Nat) : Bool := ((l.getD k iz).op == 19 || (l.getD k iz).op == 20) && decide ((l.length : Int) ≤ (l.getD k iz).c)
def chkA (l : List Iv) : Nat := first (badA l) l.length
def chkB (l : List Iv) : Nat := first (badB l) l.length
def lastBad (l : List Iv) : Bool := !((l.getD (l.length - 1) iz).op == 19) && !((l.getD (l.length - 1) iz).op == 27)
def chkE (l : List Iv) : Int := if 16384 < l.length then 3 else if chkA l < l.length then 90 else if chkB l < l.length then 110 else if l.length = 0 then 111 else if lastBad l then 111 else 0
def chkN (l : List Iv) : Nat := if 16384 < l.length then 0 else if chkA l < l.length then chkA l else if chkB l < l.length then chkB l else if l.length = 0 then 0 else if lastBad l then l.length - 1 else 0
/-- a program that may be -/
structure Fine (l : List Iv) : Prop where
  most : l.length ≤ 16384
  some : 0 < l.length
  may : ∀ k, k < l.length → mayI (l.getD k iz) = true
  to : ∀ k, k < l.length → (l.getD k iz).op = 19 ∨ (l.getD k iz).op = 20 → (l.getD k iz).c < (l.length : Int)
  last : (l.getD (l.length - 1) iz).op = 19 ∨ (l.getD (l.length - 1) iz).op = 27
theorem fine_of {l : List Iv} (h : chkE l = 0) : Fine l := by
  unfold chkE at h
  split at h
  · exact absurd h (by decide)
  · split at h
    · exact absurd h (by decide)
    · split at h
      · exact absurd h (by decide)
      · split at h
        · exact absurd h (by decide)
        · split at h
          · exact absurd h (by decide)
          · rename_i h1 h2 h3 h4 h5
            refine ⟨by omega, by omega, fun k hk => ?_, fun k hk ho => ?_, ?_⟩
            · have := first_miss (p := badA l) (n := l.length) (t := k) (by unfold chkA at h2; omega)
              simpa [badA] using this
            · have := first_miss (p := badB l) (n := l.length) (t := k) (by unfold chkB at h3; omega)
              unfold badB at this
              have e : ((l.getD k iz).op == 19 || (l.getD k iz).op == 20) = true := by simpa using ho
              rw [e] at this
              simpa using this
            · unfold lastBad at h5
              by_cases e : (l.getD (l.length - 1) iz).op = 19
              · exact .inl e
              · right
                have e' : ((l.getD (l.length - 1) iz).op == 19) = false := by simpa using e
                rw [e'] at h5
                simpa using h5
theorem chk_of {l : List Iv} (h : Fine l) : chkE l = 0 ∧ chkN l = 0 := by
  have hA : chkA l = l.length := first_none fun t ht => by unfold badA; rw [h.may t ht]; rfl
  have hB : chkB l = l.length := first_none fun t ht => by
    unfold badB
    cases e : ((l.getD t iz).op == 19 || (l.getD t iz).op == 20) with
    | false => rfl
    | true =>
      have := h.to t ht (by simpa using e)
      simp only [Bool.true_and, decide_eq_false_iff_not]
      omega
  have hl : lastBad l = false := by
    unfold lastBad
    rcases h.last with e | e <;> rw [e] <;> simp
  have := h.some
  have := h.most
  unfold chkE chkN
  rw [hA, hB, hl]
  simp only [show ¬ 16384 < l.length from by omega, Nat.lt_irrefl, if_false, show ¬ l.length = 0 from by omega, Bool.false_eq_true, and_self]
theorem chk_long {l : List Iv} (h : 16384 < l.length) : chkE l = 3 ∧ chkN l = 0 := by
  unfold chkE chkN
  rw [if_pos h, if_pos h]
  exact ⟨rfl, rfl⟩
theorem chk_a {l : List Iv} {k : Nat} (h0 : ¬ 16384 < l.length) (hk : k < l.length) (hn : ∀ t, t < k → badA l t = false) (h : badA l k = true) : chkE l = 90 ∧ chkN l = k := by
  have e : chkA l = k := first_at hk hn h
  unfold chkE chkN
  rw [if_neg h0, if_neg h0, e, if_pos hk, if_pos hk]
  exact ⟨rfl, rfl⟩
theorem chk_b {l : List Iv} {k : Nat} (h0 : ¬ 16384 < l.length) (hA : ∀ t, t < l.length → badA l t = false) (hk : k < l.length) (hn : ∀ t, t < k → badB l t = false) (h : badB l k = true) : chkE l = 110 ∧ chkN l = k := by
  have e1 : chkA l = l.length := first_none hA
  have e : chkB l = k := first_at hk hn h
  unfold chkE chkN
  rw [if_neg h0, if_neg h0, e1, e, if_neg (Nat.lt_irrefl _), if_neg (Nat.lt_irrefl _), if_pos hk, if_pos hk]
  exact ⟨rfl, rfl⟩
theorem chk_c {l : List Iv} (h0 : ¬ 16384 < l.length) (hA : ∀ t, t < l.length → badA l t = false) (hB : ∀ t, t < l.length → badB l t = false) :
    chkE l = (if l.length = 0 then 111 else if lastBad l then 111 else 0) ∧ chkN l = (if l.length = 0 then 0 else if lastBad l then l.length - 1 else 0) := by
  have e1 : chkA l = l.length := first_none hA
  have e : chkB l = l.length := first_none hB
  unfold chkE chkN
  rw [if_neg h0, if_neg h0, e1, e, if_neg (Nat.lt_irrefl _), if_neg (Nat.lt_irrefl _), if_neg (Nat.lt_irrefl _), if_neg (Nat.lt_irrefl _)]
  exact ⟨rfl, rfl⟩
theorem beh_lt {l : List Iv} (h : Fine l) (hw : ∀ i ∈ l, i.wf) {n m : Nat} (hn : n < l.length) (hm : m ∈ behL l n) : m < l.length := by
  have hi : (l.getD n iz).wf := hw _ (by rw [List.getD_eq_getElem?_getD, List.getElem?_eq_getElem hn]; simp)
  have hlast := h.last
  have hto := h.to n hn
  have next : (l.getD n iz).op ≠ 27 → (l.getD n iz).op ≠ 19 → n + 1 < l.length := fun h1 h2 => by
    by_cases e : n = l.length - 1
    · rw [← e] at hlast
      rcases hlast with e | e
      · exact absurd e h2
      · exact absurd e h1
    · omega
  have hc := hi.c
  unfold behL behI at hm
  generalize l.getD n iz = x at *
  split at hm
  · simp at hm
  · rename_i h27
    split at hm
    · rename_i h19
      have := hto (.inl h19)
      simp at hm
      omega
    · rename_i h19
      have hnx := next h27 h19
      split at hm
      · rename_i h20
        have := hto (.inr h20)
        split at hm
        · simp at hm; omega
        · simp at hm; omega
      · simp at hm; omega
theorem beh_len (l : List Iv) (n : Nat) : (behL l n).length ≤ 2 := by
  unfold behL behI
  split
  · simp
  · split
    · simp
    · split
      · split <;> simp
      · simp
/-! ### What is come to -/
inductive Come (l : List Iv) : Nat → Prop
  | zero : Come l 0
  | step {n m : Nat} : Come l n → m ∈ behL l n → Come l m
theorem come_lt {l : List Iv} (h : Fine l) (hw : ∀ i ∈ l, i.wf) {n : Nat} (hc : Come l n) : n < l.length := by
  induction hc with
  | zero => exact h.some
  | step _ hm ih => exact beh_lt h hw ih hm
open Classical in
noncomputable def comeB (l : List Iv) (n : Nat) : Bool := decide (Come l n)
theorem comeB_iff {l : List Iv} {n : Nat} : comeB l n = true ↔ Come l n := by unfold comeB; simp
noncomputable def comeL (l : List Iv) : List Bool := if chkE l = 0 then (List.range l.length).map (comeB l) else []
/-- numbers that are closed, have 0, and nothing but what is come to, are what is come to -/
theorem come_is {l : List Iv} (h : Fine l) (hw : ∀ i ∈ l, i.wf) (p : Nat → Bool) (h0 : p 0 = true) (hin : ∀ n, n < l.length → p n = true → Come l n) (hcl : ∀ n, n < l.length → p n = true → ∀ m ∈ behL l n, p m = true) :
    ∀ n, n < l.length → p n = comeB l n := by
  have key : ∀ n, Come l n → p n = true := fun n hc => by
    induction hc with
    | zero => exact h0
    | step hc hm ih => exact hcl _ (come_lt h hw hc) ih _ hm
  intro n hn
  cases e : p n with
  | true => exact (comeB_iff.2 (hin n hn e)).symm
  | false =>
    cases e2 : comeB l n with
    | false => rfl
    | true => rw [key n (comeB_iff.1 e2)] at e; cases e
/-- what is come to otherwise than by being first comes behind one that is -/
theorem come_back {l : List Iv} {n : Nat} (hc : Come l n) (hn : n ≠ 0) : ∃ m, Come l m ∧ n ∈ behL l m := by
  cases hc with
  | zero => exact absurd rfl hn
  | step hc hm => exact ⟨_, hc, hm⟩
/-! ### The order -/
/-- does somebody untold stand ahead of n? -/
noncomputable def waitB (l : List Iv) (T : List Nat) (n : Nat) : Bool := (List.range l.length).any fun p => comeB l p && !T.contains p && (behL l p).contains n
noncomputable def cand (l : List Iv) (T : List Nat) (n : Nat) : Bool := comeB l n && !T.contains n && !waitB l T n
noncomputable def allT (l : List Iv) (T : List Nat) : Bool := (List.range l.length).all fun p => !comeB l p || T.contains p
noncomputable def ordGo (l : List Iv) : Nat → List Nat → List Nat × Bool
  | 0, T => ([], false)
  | f + 1, T => if allT l T then (T, true) else if first (cand l T) l.length < l.length then ordGo l f (T ++ [first (cand l T) l.length]) else ([], false)
noncomputable def ordA (l : List Iv) : List Nat × Bool := if chkE l = 0 then ordGo l (l.length + 1) [] else ([], false)
theorem waitB_false {l : List Iv} {T : List Nat} {n : Nat} : waitB l T n = false ↔ ∀ p, p < l.length → comeB l p = true → n ∈ behL l p → p ∈ T := by
  unfold waitB
  rw [List.any_eq_false]
  constructor
  · intro h p hp hc hm
    have := h p (List.mem_range.2 hp)
    rw [hc] at this
    simp [hm] at this
    exact this
  · intro h p hp
    rw [List.mem_range] at hp
    cases hc : comeB l p with
    | false => simp
    | true =>
      simp only [Bool.true_and, Bool.not_eq_true, Bool.and_eq_false_iff]
      by_cases hm : n ∈ behL l p
      · left
        simpa using h p hp hc hm
      · right
        simpa using hm
theorem allT_true {l : List Iv} {T : List Nat} : allT l T = true ↔ ∀ p, p < l.length → comeB l p = true → p ∈ T := by
  unfold allT
  rw [List.all_eq_true]
  constructor
  · intro h p hp hc
    have := h p (List.mem_range.2 hp)
    rw [hc] at this
    simpa using this
  · intro h p hp
    rw [List.mem_range] at hp
    cases hc : comeB l p with
    | false => rfl
    | true => simpa using h p hp hc
/-- what stands while the order is told -/
structure Told (l : List Iv) (T : List Nat) : Prop where
  lt : ∀ n ∈ T, n < l.length
  come : ∀ n ∈ T, comeB l n = true
  nodup : T.Nodup
  edge : ∀ (i j n m : Nat), T[i]? = some n → T[j]? = some m → m ∈ behL l n → i < j
  pre : ∀ (j m : Nat), T[j]? = some m → ∀ p, p < l.length → comeB l p = true → m ∈ behL l p → ∃ i, i < j ∧ T[i]? = some p
theorem told_nil (l : List Iv) : Told l [] := ⟨by simp, by simp, List.nodup_nil, by simp, by simp⟩
theorem told_add {l : List Iv} {T : List Nat} (h : Told l T) {n : Nat} (hn : n < l.length) (hc : cand l T n = true) : Told l (T ++ [n]) := by
  unfold cand at hc
  simp only [Bool.and_eq_true, Bool.not_eq_true'] at hc
  obtain ⟨⟨hco, hnt⟩, hw⟩ := hc
  have hnt' : n ∉ T := by simpa using hnt
  have hw' := waitB_false.1 hw
  have pre : ∀ (j m : Nat), (T ++ [n])[j]? = some m → ∀ p, p < l.length → comeB l p = true → m ∈ behL l p → ∃ i, i < j ∧ (T ++ [n])[i]? = some p := by
    intro j m hj p hp hcp hm
    rcases Nat.lt_or_ge j T.length with hlt | hge
    · rw [List.getElem?_append_left hlt] at hj
      obtain ⟨i, hi, e⟩ := h.pre j m hj p hp hcp hm
      exact ⟨i, hi, by rw [List.getElem?_append_left (by omega)]; exact e⟩
    · rw [List.getElem?_append_right hge] at hj
      have hj0 : j - T.length = 0 := by
        rcases Nat.eq_zero_or_pos (j - T.length) with e | e
        · exact e
        · rw [List.getElem?_eq_none (by simp; omega)] at hj; cases hj
      rw [hj0] at hj
      simp at hj
      subst hj
      obtain ⟨i, hi, e⟩ := List.getElem_of_mem (hw' p hp hcp hm)
      refine ⟨i, by omega, ?_⟩
      rw [List.getElem?_append_left hi, List.getElem?_eq_getElem hi, e]
  have nd : (T ++ [n]).Nodup := by
    rw [List.nodup_append]
    refine ⟨h.nodup, by simp, ?_⟩
    intro a ha b hb
    simp at hb
    subst hb
    intro e
    subst e
    exact hnt' ha
  refine ⟨?_, ?_, nd, ?_, pre⟩
  · intro m hm
    rcases List.mem_append.1 hm with hm | hm
    · exact h.lt m hm
    · simp at hm; omega
  · intro m hm
    rcases List.mem_append.1 hm with hm | hm
    · exact h.come m hm
    · simp at hm; rw [hm]; exact hco
  · intro i j p m hi hj hm
    have hp : p ∈ T ++ [n] := List.mem_of_getElem? hi
    have hpl : p < l.length := by
      rcases List.mem_append.1 hp with q | q
      · exact h.lt p q
      · simp at q; omega
    have hpc : comeB l p = true := by
      rcases List.mem_append.1 hp with q | q
      · exact h.come p q
      · simp at q; rw [q]; exact hco
    obtain ⟨i', hi', e⟩ := pre j m hj p hpl hpc hm
    have : i = i' := (List.getElem?_inj (by have := List.getElem?_eq_some_iff.1 hi; exact this.1) nd).1 (hi.trans e.symm)
    omega
theorem len_nodup : ∀ (N : Nat) (T : List Nat), T.Nodup → (∀ n ∈ T, n < N) → T.length ≤ N
  | 0, T, _, h => by
    cases T with
    | nil => simp
    | cons a r => have := h a (by simp); omega
  | N + 1, T, hn, h => by
    have := len_nodup N (T.erase N) (hn.erase N) fun n hm => by
      have h1 := h n (List.mem_of_mem_erase hm)
      have h2 : n ≠ N := (hn.mem_erase_iff.1 hm).1
      omega
    rw [List.length_erase] at this
    split at this <;> omega
theorem told_len {l : List Iv} {T : List Nat} (h : Told l T) : T.length ≤ l.length := len_nodup _ _ h.nodup h.lt
theorem ordGo_told {l : List Iv} : ∀ (f : Nat) (T : List Nat), Told l T → (ordGo l f T).2 = true → Told l (ordGo l f T).1 ∧ allT l (ordGo l f T).1 = true
  | 0, T, _, h => by unfold ordGo at h; cases h
  | f + 1, T, ht, h => by
    unfold ordGo at h ⊢
    split at h
    · rename_i ha
      rw [if_pos ha]
      exact ⟨ht, ha⟩
    · rename_i ha
      rw [if_neg ha]
      split at h
      · rename_i hb
        rw [if_pos hb]
        exact ordGo_told f _ (told_add ht hb (first_hit hb)) h
      · cases h
theorem ordGo_no {l : List Iv} : ∀ (f : Nat) (T : List Nat), (ordGo l f T).2 = false → (ordGo l f T).1 = []
  | 0, T, _ => by unfold ordGo; rfl
  | f + 1, T, h => by
    unfold ordGo at h ⊢
    split at h
    · cases h
    · rename_i ha
      rw [if_neg ha]
      split at h
      · rename_i hb
        rw [if_pos hb]
        exact ordGo_no f _ h
      · rename_i hb
        rw [if_neg hb]
theorem ord_told {l : List Iv} (h : (ordA l).2 = true) : Told l (ordA l).1 ∧ allT l (ordA l).1 = true := by
  unfold ordA at h ⊢
  split at h
  · rename_i he
    rw [if_pos he]
    exact ordGo_told _ _ (told_nil l) h
  · cases h
theorem ord_no {l : List Iv} (h : (ordA l).2 = false) : (ordA l).1 = [] := by
  unfold ordA at h ⊢
  split at h
  · rename_i he
    rw [if_pos he]
    exact ordGo_no _ _ h
  · rename_i he
    rw [if_neg he]
/-- the first one told is 0 -/
theorem ord_zero {l : List Iv} {T : List Nat} (hf : Fine l) (hw : ∀ i ∈ l, i.wf) (h : Told l T) (ha : allT l T = true) : T[0]? = some 0 := by
  have h0 : 0 ∈ T := allT_true.1 ha 0 hf.some (comeB_iff.2 .zero)
  obtain ⟨i, hi, e⟩ := List.getElem_of_mem h0
  have hT : 0 < T.length := by omega
  have hx : T[0]? = some T[0] := List.getElem?_eq_getElem hT
  by_cases hz : T[0] = 0
  · rw [hx, hz]
  · obtain ⟨m, hm, hb⟩ := come_back (comeB_iff.1 (h.come T[0] (List.getElem_mem _))) hz
    obtain ⟨j, hj, _⟩ := h.pre 0 T[0] hx m (come_lt hf hw hm) (comeB_iff.2 hm) hb
    omega
/-- programs that go the same ways have the same order -/
theorem ordGo_congr {l k : List Iv} (hl : l.length = k.length) (hc : ∀ n, comeB l n = comeB k n) (hb : ∀ n, comeB l n = true → behL l n = behL k n) : ∀ (f : Nat) (T : List Nat), ordGo l f T = ordGo k f T := by
  have hwt : ∀ T n, waitB l T n = waitB k T n := fun T n => by
    unfold waitB
    rw [hl]
    congr 1
    funext p
    rw [hc p]
    cases e : comeB k p with
    | false => rfl
    | true => rw [hb p (by rw [hc p]; exact e)]
  have hcd : ∀ T, cand l T = cand k T := fun T => by
    funext n
    unfold cand
    rw [hc n, hwt T n]
  have hat : ∀ T, allT l T = allT k T := fun T => by
    unfold allT
    rw [hl]
    congr 1
    funext p
    rw [hc p]
  intro f
  induction f with
  | zero => intro T; rfl
  | succ f ih =>
    intro T
    unfold ordGo
    rw [hat T, hcd T, hl]
    split
    · rfl
    · split
      · exact ih _
      · rfl
/-! ### A program with an instruction changed that is not come to -/
def yld : Iv := ⟨27, 0, 0, 0⟩
theorem set_getD (l : List Iv) (n k : Nat) (x : Iv) (hk : k < l.length) : (l.set n x).getD k iz = if n = k then x else l.getD k iz := by
  rw [List.getD_eq_getElem?_getD, List.getElem?_set, List.getD_eq_getElem?_getD]
  split
  · rename_i e
    subst e
    rw [if_pos hk]; rfl
  · rfl
theorem fine_set {l : List Iv} (h : Fine l) (n : Nat) : Fine (l.set n yld) := by
  have hl : (l.set n yld).length = l.length := List.length_set
  refine ⟨by rw [hl]; exact h.most, by rw [hl]; exact h.some, fun k hk => ?_, fun k hk ho => ?_, ?_⟩
  · rw [hl] at hk
    rw [set_getD l n k yld hk]
    split
    · decide
    · exact h.may k hk
  · rw [hl] at hk ⊢
    rw [set_getD l n k yld hk] at ho ⊢
    split
    · rename_i e
      rw [if_pos e] at ho
      simp [yld] at ho
    · rename_i e
      rw [if_neg e] at ho
      exact h.to k hk ho
  · rw [hl, set_getD l n _ yld (by have := h.some; omega)]
    split
    · right; rfl
    · exact h.last
theorem wf_set {l : List Iv} (hw : ∀ i ∈ l, i.wf) (n : Nat) : ∀ i ∈ l.set n yld, i.wf := by
  intro i hi
  rcases List.mem_or_eq_of_mem_set hi with h | h
  · exact hw i h
  · rw [h]; exact ⟨by decide, by decide, by decide, by decide⟩
theorem beh_set {l : List Iv} {n k : Nat} (hk : k < l.length) (h : n ≠ k) : behL (l.set n yld) k = behL l k := by
  unfold behL
  rw [set_getD l n k yld hk, if_neg h]
theorem come_set {l : List Iv} (hf : Fine l) (hw : ∀ i ∈ l, i.wf) {n : Nat} (hn : comeB l n = false) : ∀ k, comeB (l.set n yld) k = comeB l k := by
  have ne : ∀ k, Come l k → n ≠ k := fun k hk e => by
    subst e
    rw [comeB_iff.2 hk] at hn
    cases hn
  have h1 : ∀ k, Come l k → Come (l.set n yld) k := fun k hk => by
    induction hk with
    | zero => exact .zero
    | step hc hm ih => exact .step ih (by rw [beh_set (come_lt hf hw hc) (ne _ hc)]; exact hm)
  have h2 : ∀ k, Come (l.set n yld) k → Come l k := fun k hk => by
    induction hk with
    | zero => exact .zero
    | step hc hm ih => exact .step ih (by rw [beh_set (come_lt hf hw ih) (ne _ ih)] at hm; exact hm)
  intro k
  cases e : comeB l k with
  | true => exact comeB_iff.2 (h1 k (comeB_iff.1 e))
  | false =>
    cases e2 : comeB (l.set n yld) k with
    | false => rfl
    | true => rw [comeB_iff.2 (h2 k (comeB_iff.1 e2))] at e; cases e
theorem comeL_set {l : List Iv} (hf : Fine l) (hw : ∀ i ∈ l, i.wf) {n : Nat} (hn : comeB l n = false) : comeL (l.set n yld) = comeL l := by
  unfold comeL
  rw [(chk_of hf).1, (chk_of (fine_set hf n)).1, if_pos rfl, if_pos rfl, List.length_set]
  exact List.map_congr_left fun k _ => come_set hf hw hn k
theorem ordA_set {l : List Iv} (hf : Fine l) (hw : ∀ i ∈ l, i.wf) {n : Nat} (hn : comeB l n = false) : ordA (l.set n yld) = ordA l := by
  unfold ordA
  rw [(chk_of hf).1, (chk_of (fine_set hf n)).1, if_pos rfl, if_pos rfl, List.length_set]
  exact ordGo_congr List.length_set (come_set hf hw hn) (fun k hk => by
    rw [come_set hf hw hn k] at hk
    exact beh_set (come_lt hf hw (comeB_iff.1 hk)) (fun e => by subst e; rw [hk] at hn; cases hn)) _ _
end Flw
end Go.Proofs.YtcmbkoghhhhmcaaDoor
