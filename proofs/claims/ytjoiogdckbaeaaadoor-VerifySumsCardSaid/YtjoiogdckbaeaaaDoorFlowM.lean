/- Where a program goes, in numbers: what comes behind which instruction, what is come to, the order, the first error. No program. · What is come to, found round by round: what stands in each round. No program. · The order, told round by round: what stands in each round. No program. · What is come to, with a list of those that are still to be looked behind: what stands. No program. · How many stand ahead of each instruction, and the order by a falling list of those that may be next. No program. · The chapter's small programs: what is told of them, reckoned. No program. -/
import Derived.Test.YtjoiogdckbaeaaaDoorIsaMath
namespace Go.Proofs.YtjoiogdckbaeaaaDoor
/-- no instruction -/
def Isa.iz : Isa.Iv := ⟨0, 0, 0, 0⟩
namespace Flw
open Isa
set_option linter.unusedVariables false
set_option linter.unusedSimpArgs false
/-! ### The least number of which something holds -/
def fst (p : Nat → Bool) : Nat → Nat → Nat
  | 0, k => k
  | n + 1, k => if p k then k else fst p n (k + 1)
def first (p : Nat → Bool) (n : Nat) : Nat := fst p n 0
theorem fst_none (p : Nat → Bool) : ∀ (n k : Nat), (∀ t, k ≤ t → t < k + n → p t = false) → fst p n k = k + n
  | 0, k, _ => rfl
  | n + 1, k, h => by
    unfold fst
    rw [if_neg (by rw [h k (by omega) (by omega)]; simp), fst_none p n (k + 1) fun t h1 h2 => h t (by omega) (by omega)]
    omega
theorem fst_at (p : Nat → Bool) : ∀ (n k j : Nat), j < n → (∀ t, k ≤ t → t < k + j → p t = false) → p (k + j) = true → fst p n k = k + j
  | 0, _, _, h, _, _ => by omega
  | n + 1, k, j, hj, hn, h => by
    unfold fst
    cases j with
    | zero => rw [if_pos (by simpa using h)]; rfl
    | succ j =>
      rw [if_neg (by rw [hn k (by omega) (by omega)]; simp), fst_at p n (k + 1) j (by omega) (fun t h1 h2 => hn t (by omega) (by omega)) (by rw [← h]; congr 1; omega)]
      omega
theorem fst_le (p : Nat → Bool) : ∀ (n k : Nat), fst p n k ≤ k + n
  | 0, k => Nat.le_refl _
  | n + 1, k => by
    unfold fst
    split
    · omega
    · have := fst_le p n (k + 1); omega
theorem fst_ge (p : Nat → Bool) : ∀ (n k : Nat), k ≤ fst p n k
  | 0, k => Nat.le_refl _
  | n + 1, k => by
    unfold fst
    split
    · omega
    · have := fst_ge p n (k + 1); omega
theorem fst_hit (p : Nat → Bool) : ∀ (n k : Nat), fst p n k < k + n → p (fst p n k) = true
  | 0, k, h => by unfold fst at h; omega
  | n + 1, k, h => by
    unfold fst at h ⊢
    split
    · assumption
    · rename_i hp
      rw [if_neg hp] at h
      exact fst_hit p n (k + 1) (by omega)
theorem fst_miss (p : Nat → Bool) : ∀ (n k t : Nat), k ≤ t → t < fst p n k → p t = false
  | 0, k, t, h1, h2 => by unfold fst at h2; omega
  | n + 1, k, t, h1, h2 => by
    unfold fst at h2
    split at h2
    · omega
    · rename_i hp
      by_cases e : t = k
      · subst e; simpa using hp
      · exact fst_miss p n (k + 1) t (by omega) h2
theorem first_at {p : Nat → Bool} {n k : Nat} (hk : k < n) (hn : ∀ t, t < k → p t = false) (h : p k = true) : first p n = k := by
  have := fst_at p n 0 k hk (fun t _ h2 => hn t (by omega)) (by rw [Nat.zero_add]; exact h)
  unfold first; omega
theorem first_none {p : Nat → Bool} {n : Nat} (hn : ∀ t, t < n → p t = false) : first p n = n := by
  have := fst_none p n 0 fun t _ h2 => hn t (by omega)
  unfold first; omega
theorem first_le (p : Nat → Bool) (n : Nat) : first p n ≤ n := by have := fst_le p n 0; unfold first; omega
theorem first_hit {p : Nat → Bool} {n : Nat} (h : first p n < n) : p (first p n) = true := fst_hit p n 0 (by unfold first at h; omega)
theorem first_miss {p : Nat → Bool} {n t : Nat} (h : t < first p n) : p t = false := fst_miss p n 0 t (by omega) h
theorem first_congr {p q : Nat → Bool} {n : Nat} (h : ∀ t, t < n → p t = q t) : first p n = first q n := by
  by_cases hq : first q n < n
  · exact first_at hq (fun t ht => by rw [h t (by omega)]; exact first_miss ht) (by rw [h _ hq]; exact first_hit hq)
  · have e : first q n = n := by have := first_le q n; omega
    rw [e]
    exact first_none fun t ht => by rw [h t ht]; exact first_miss (n := n) (by omega)
/-! ### What comes behind -/
def behI (i : Iv) (n : Nat) : List Nat :=
  if i.op = 27 then [] else if i.op = 19 then [i.c.toNat] else if i.op = 20 then (if i.c = ((n + 1 : Nat) : Int) then [n + 1] else [n + 1, i.c.toNat]) else [n + 1]
def behL (l : List Iv) (n : Nat) : List Nat := behI (l.getD n iz) n
/-! ### What is amiss first -/
def badA (l : List Iv) (k : Nat) : Bool := !mayI (l.getD k iz)
def badB (l : List Iv) (k : Nat) : Bool := ((l.getD k iz).op == 19 || (l.getD k iz).op == 20) && decide ((l.length : Int) ≤ (l.getD k iz).c)
def chkA (l : List Iv) : Nat := first (badA l) l.length
def chkB (l : List Iv) : Nat := first (badB l) l.length
def lastBad (l : List Iv) : Bool := !((l.getD (l.length - 1) iz).op == 19) && !((l.getD (l.length - 1) iz).op == 27)
def chkE (l : List Iv) : Int := if 16384 < l.length then 3 else if chkA l < l.length then 90 else if chkB l < l.length then 110 else if l.length = 0 then 111 else if lastBad l then 111 else 0
def chkN (l : List Iv) : Nat := if 16384 < l.length then 0 else if chkA l < l.length then chkA l else if chkB l < l.length then chkB l else if l.length = 0 then 0 else if lastBad l then l.length - 1 else 0
/-- a program that may be -/
structure Fine (l : List Iv) : Prop where
  most : l.length ≤ 16384
  some : 0 < l.length
  may : ∀ k, k < l.length → mayI (l.getD k iz) = true
  to : ∀ k, k < l.length → (l.getD k iz).op = 19 ∨ (l.getD k iz).op = 20 → (l.getD k iz).c < (l.length : Int)
  last : (l.getD (l.length - 1) iz).op = 19 ∨ (l.getD (l.length - 1) iz).op = 27
theorem fine_of {l : List Iv} (h : chkE l = 0) : Fine l := by
  unfold chkE at h
  split at h
  · exact absurd h (by decide)
  · split at h
    · exact absurd h (by decide)
    · split at h
      · exact absurd h (by decide)
      · split at h
        · exact absurd h (by decide)
        · split at h
          · exact absurd h (by decide)
          · rename_i h1 h2 h3 h4 h5
            refine ⟨by omega, by omega, fun k hk => ?_, fun k hk ho => ?_, ?_⟩
            · have := first_miss (p := badA l) (n := l.length) (t := k) (by unfold chkA at h2; omega)
              simpa [badA] using this
            · have := first_miss (p := badB l) (n := l.length) (t := k) (by unfold chkB at h3; omega)
              unfold badB at this
              have e : ((l.getD k iz).op == 19 || (l.getD k iz).op == 20) = true := by simpa using ho
              rw [e] at this
              simpa using this
            · unfold lastBad at h5
              by_cases e : (l.getD (l.length - 1) iz).op = 19
              · exact .inl e
              · right
                have e' : ((l.getD (l.length - 1) iz).op == 19) = false := by simpa using e
                rw [e'] at h5
                simpa using h5
theorem chk_of {l : List Iv} (h : Fine l) : chkE l = 0 ∧ chkN l = 0 := by
  have hA : chkA l = l.length := first_none fun t ht => by unfold badA; rw [h.may t ht]; rfl
  have hB : chkB l = l.length := first_none fun t ht => by
    unfold badB
    cases e : ((l.getD t iz).op == 19 || (l.getD t iz).op == 20) with
    | false => rfl
    | true =>
      have := h.to t ht (by simpa using e)
      simp only [Bool.true_and, decide_eq_false_iff_not]
      omega
  have hl : lastBad l = false := by
    unfold lastBad
    rcases h.last with e | e <;> rw [e] <;> simp
  have := h.some
  have := h.most
  unfold chkE chkN
  rw [hA, hB, hl]
  simp only [show ¬ 16384 < l.length from by omega, Nat.lt_irrefl, if_false, show ¬ l.length = 0 from by omega, Bool.false_eq_true, and_self]
theorem chk_long {l : List Iv} (h : 16384 < l.length) : chkE l = 3 ∧ chkN l = 0 := by
  unfold chkE chkN
  rw [if_pos h, if_pos h]
  exact ⟨rfl, rfl⟩
theorem chk_a {l : List Iv} {k : Nat} (h0 : ¬ 16384 < l.length) (hk : k < l.length) (hn : ∀ t, t < k → badA l t = false) (h : badA l k = true) : chkE l = 90 ∧ chkN l = k := by
  have e : chkA l = k := first_at hk hn h
  unfold chkE chkN
  rw [if_neg h0, if_neg h0, e, if_pos hk, if_pos hk]
  exact ⟨rfl, rfl⟩
theorem chk_b {l : List Iv} {k : Nat} (h0 : ¬ 16384 < l.length) (hA : ∀ t, t < l.length → badA l t = false) (hk : k < l.length) (hn : ∀ t, t < k → badB l t = false) (h : badB l k = true) : chkE l = 110 ∧ chkN l = k := by
  have e1 : chkA l = l.length := first_none hA
  have e : chkB l = k := first_at hk hn h
  unfold chkE chkN
  rw [if_neg h0, if_neg h0, e1, e, if_neg (Nat.lt_irrefl _), if_neg (Nat.lt_irrefl _), if_pos hk, if_pos hk]
  exact ⟨rfl, rfl⟩
theorem chk_c {l : List Iv} (h0 : ¬ 16384 < l.length) (hA : ∀ t, t < l.length → badA l t = false) (hB : ∀ t, t < l.length → badB l t = false) :
    chkE l = (if l.length = 0 then 111 else if lastBad l then 111 else 0) ∧ chkN l = (if l.length = 0 then 0 else if lastBad l then l.length - 1 else 0) := by
  have e1 : chkA l = l.length := first_none hA
  have e : chkB l = l.length := first_none hB
  unfold chkE chkN
  rw [if_neg h0, if_neg h0, e1, e, if_neg (Nat.lt_irrefl _), if_neg (Nat.lt_irrefl _), if_neg (Nat.lt_irrefl _), if_neg (Nat.lt_irrefl _)]
  exact ⟨rfl, rfl⟩
theorem beh_lt {l : List Iv} (h : Fine l) (hw : ∀ i ∈ l, i.wf) {n m : Nat} (hn : n < l.length) (hm : m ∈ behL l n) : m < l.length := by
  have hi : (l.getD n iz).wf := hw _ (by rw [List.getD_eq_getElem?_getD, List.getElem?_eq_getElem hn]; simp)
  have hlast := h.last
  have hto := h.to n hn
  have next : (l.getD n iz).op ≠ 27 → (l.getD n iz).op ≠ 19 → n + 1 < l.length := fun h1 h2 => by
    by_cases e : n = l.length - 1
    · rw [← e] at hlast
      rcases hlast with e | e
      · exact absurd e h2
      · exact absurd e h1
    · omega
  have hc := hi.c
  unfold behL behI at hm
  generalize l.getD n iz = x at *
  split at hm
  · simp at hm
  · rename_i h27
    split at hm
    · rename_i h19
      have := hto (.inl h19)
      simp at hm
      omega
    · rename_i h19
      have hnx := next h27 h19
      split at hm
      · rename_i h20
        have := hto (.inr h20)
        split at hm
        · simp at hm; omega
        · simp at hm; omega
      · simp at hm; omega
theorem beh_len (l : List Iv) (n : Nat) : (behL l n).length ≤ 2 := by
  unfold behL behI
  split
  · simp
  · split
    · simp
    · split
      · split <;> simp
      · simp
/-! ### What is come to -/
inductive Come (l : List Iv) : Nat → Prop
  | zero : Come l 0
  | step {n m : Nat} : Come l n → m ∈ behL l n → Come l m
theorem come_lt {l : List Iv} (h : Fine l) (hw : ∀ i ∈ l, i.wf) {n : Nat} (hc : Come l n) : n < l.length := by
  induction hc with
  | zero => exact h.some
  | step _ hm ih => exact beh_lt h hw ih hm
open Classical in
noncomputable def comeB (l : List Iv) (n : Nat) : Bool := decide (Come l n)
theorem comeB_iff {l : List Iv} {n : Nat} : comeB l n = true ↔ Come l n := by unfold comeB; simp
noncomputable def comeL (l : List Iv) : List Bool := if chkE l = 0 then (List.range l.length).map (comeB l) else []
/-- numbers that are closed, have 0, and nothing but what is come to, are what is come to -/
theorem come_is {l : List Iv} (h : Fine l) (hw : ∀ i ∈ l, i.wf) (p : Nat → Bool) (h0 : p 0 = true) (hin : ∀ n, n < l.length → p n = true → Come l n) (hcl : ∀ n, n < l.length → p n = true → ∀ m ∈ behL l n, p m = true) :
    ∀ n, n < l.length → p n = comeB l n := by
  have key : ∀ n, Come l n → p n = true := fun n hc => by
    induction hc with
    | zero => exact h0
    | step hc hm ih => exact hcl _ (come_lt h hw hc) ih _ hm
  intro n hn
  cases e : p n with
  | true => exact (comeB_iff.2 (hin n hn e)).symm
  | false =>
    cases e2 : comeB l n with
    | false => rfl
    | true => rw [key n (comeB_iff.1 e2)] at e; cases e
/-- what is come to otherwise than by being first comes behind one that is -/
theorem come_back {l : List Iv} {n : Nat} (hc : Come l n) (hn : n ≠ 0) : ∃ m, Come l m ∧ n ∈ behL l m := by
  cases hc with
  | zero => exact absurd rfl hn
  | step hc hm => exact ⟨_, hc, hm⟩
/-! ### The order -/
/-- does somebody untold stand ahead of n? -/
noncomputable def waitB (l : List Iv) (T : List Nat) (n : Nat) : Bool := (List.range l.length).any fun p => comeB l p && !T.contains p && (behL l p).contains n
noncomputable def cand (l : List Iv) (T : List Nat) (n : Nat) : Bool := comeB l n && !T.contains n && !waitB l T n
noncomputable def allT (l : List Iv) (T : List Nat) : Bool := (List.range l.length).all fun p => !comeB l p || T.contains p
noncomputable def ordGo (l : List Iv) : Nat → List Nat → List Nat × Bool
  | 0, T => ([], false)
  | f + 1, T => if allT l T then (T, true) else if first (cand l T) l.length < l.length then ordGo l f (T ++ [first (cand l T) l.length]) else ([], false)
noncomputable def ordA (l : List Iv) : List Nat × Bool := if chkE l = 0 then ordGo l (l.length + 1) [] else ([], false)
theorem waitB_false {l : List Iv} {T : List Nat} {n : Nat} : waitB l T n = false ↔ ∀ p, p < l.length → comeB l p = true → n ∈ behL l p → p ∈ T := by
  unfold waitB
  rw [List.any_eq_false]
  constructor
  · intro h p hp hc hm
    have := h p (List.mem_range.2 hp)
    rw [hc] at this
    simp [hm] at this
    exact this
  · intro h p hp
    rw [List.mem_range] at hp
    cases hc : comeB l p with
    | false => simp
    | true =>
      simp only [Bool.true_and, Bool.not_eq_true, Bool.and_eq_false_iff]
      by_cases hm : n ∈ behL l p
      · left
        simpa using h p hp hc hm
      · right
        simpa using hm
theorem allT_true {l : List Iv} {T : List Nat} : allT l T = true ↔ ∀ p, p < l.length → comeB l p = true → p ∈ T := by
  unfold allT
  rw [List.all_eq_true]
  constructor
  · intro h p hp hc
    have := h p (List.mem_range.2 hp)
    rw [hc] at this
    simpa using this
  · intro h p hp
    rw [List.mem_range] at hp
    cases hc : comeB l p with
    | false => rfl
    | true => simpa using h p hp hc
/-- what stands while the order is told -/
structure Told (l : List Iv) (T : List Nat) : Prop where
  lt : ∀ n ∈ T, n < l.length
  come : ∀ n ∈ T, comeB l n = true
  nodup : T.Nodup
  edge : ∀ (i j n m : Nat), T[i]? = some n → T[j]? = some m → m ∈ behL l n → i < j
  pre : ∀ (j m : Nat), T[j]? = some m → ∀ p, p < l.length → comeB l p = true → m ∈ behL l p → ∃ i, i < j ∧ T[i]? = some p
theorem told_nil (l : List Iv) : Told l [] := ⟨by simp, by simp, List.nodup_nil, by simp, by simp⟩
theorem told_add {l : List Iv} {T : List Nat} (h : Told l T) {n : Nat} (hn : n < l.length) (hc : cand l T n = true) : Told l (T ++ [n]) := by
  unfold cand at hc
  simp only [Bool.and_eq_true, Bool.not_eq_true'] at hc
  obtain ⟨⟨hco, hnt⟩, hw⟩ := hc
  have hnt' : n ∉ T := by simpa using hnt
  have hw' := waitB_false.1 hw
  have pre : ∀ (j m : Nat), (T ++ [n])[j]? = some m → ∀ p, p < l.length → comeB l p = true → m ∈ behL l p → ∃ i, i < j ∧ (T ++ [n])[i]? = some p := by
    intro j m hj p hp hcp hm
    rcases Nat.lt_or_ge j T.length with hlt | hge
    · rw [List.getElem?_append_left hlt] at hj
      obtain ⟨i, hi, e⟩ := h.pre j m hj p hp hcp hm
      exact ⟨i, hi, by rw [List.getElem?_append_left (by omega)]; exact e⟩
    · rw [List.getElem?_append_right hge] at hj
      have hj0 : j - T.length = 0 := by
        rcases Nat.eq_zero_or_pos (j - T.length) with e | e
        · exact e
        · rw [List.getElem?_eq_none (by simp; omega)] at hj; cases hj
      rw [hj0] at hj
      simp at hj
      subst hj
      obtain ⟨i, hi, e⟩ := List.getElem_of_mem (hw' p hp hcp hm)
      refine ⟨i, by omega, ?_⟩
      rw [List.getElem?_append_left hi, List.getElem?_eq_getElem hi, e]
  have nd : (T ++ [n]).Nodup := by
    rw [List.nodup_append]
    refine ⟨h.nodup, by simp, ?_⟩
    intro a ha b hb
    simp at hb
    subst hb
    intro e
    subst e
    exact hnt' ha
  refine ⟨?_, ?_, nd, ?_, pre⟩
  · intro m hm
    rcases List.mem_append.1 hm with hm | hm
    · exact h.lt m hm
    · simp at hm; omega
  · intro m hm
    rcases List.mem_append.1 hm with hm | hm
    · exact h.come m hm
    · simp at hm; rw [hm]; exact hco
  · intro i j p m hi hj hm
    have hp : p ∈ T ++ [n] := List.mem_of_getElem? hi
    have hpl : p < l.length := by
      rcases List.mem_append.1 hp with q | q
      · exact h.lt p q
      · simp at q; omega
    have hpc : comeB l p = true := by
      rcases List.mem_append.1 hp with q | q
      · exact h.come p q
      · simp at q; rw [q]; exact hco
    obtain ⟨i', hi', e⟩ := pre j m hj p hpl hpc hm
    have : i = i' := (List.getElem?_inj (by have := List.getElem?_eq_some_iff.1 hi; exact this.1) nd).1 (hi.trans e.symm)
    omega
theorem len_nodup : ∀ (N : Nat) (T : List Nat), T.Nodup → (∀ n ∈ T, n < N) → T.length ≤ N
  | 0, T, _, h => by
    cases T with
    | nil => simp
    | cons a r => have := h a (by simp); omega
  | N + 1, T, hn, h => by
    have := len_nodup N (T.erase N) (hn.erase N) fun n hm => by
      have h1 := h n (List.mem_of_mem_erase hm)
      have h2 : n ≠ N := (hn.mem_erase_iff.1 hm).1
      omega
    rw [List.length_erase] at this
    split at this <;> omega
theorem told_len {l : List Iv} {T : List Nat} (h : Told l T) : T.length ≤ l.length := len_nodup _ _ h.nodup h.lt
theorem ordGo_told {l : List Iv} : ∀ (f : Nat) (T : List Nat), Told l T → (ordGo l f T).2 = true → Told l (ordGo l f T).1 ∧ allT l (ordGo l f T).1 = true
  | 0, T, _, h => by unfold ordGo at h; cases h
  | f + 1, T, ht, h => by
    unfold ordGo at h ⊢
    split at h
    · rename_i ha
      rw [if_pos ha]
      exact ⟨ht, ha⟩
    · rename_i ha
      rw [if_neg ha]
      split at h
      · rename_i hb
        rw [if_pos hb]
        exact ordGo_told f _ (told_add ht hb (first_hit hb)) h
      · cases h
theorem ordGo_no {l : List Iv} : ∀ (f : Nat) (T : List Nat), (ordGo l f T).2 = false → (ordGo l f T).1 = []
  | 0, T, _ => by unfold ordGo; rfl
  | f + 1, T, h => by
    unfold ordGo at h ⊢
    split at h
    · cases h
    · rename_i ha
      rw [if_neg ha]
      split at h
      · rename_i hb
        rw [if_pos hb]
        exact ordGo_no f _ h
      · rename_i hb
        rw [if_neg hb]
theorem ord_told {l : List Iv} (h : (ordA l).2 = true) : Told l (ordA l).1 ∧ allT l (ordA l).1 = true := by
  unfold ordA at h ⊢
  split at h
  · rename_i he
    rw [if_pos he]
    exact ordGo_told _ _ (told_nil l) h
  · cases h
theorem ord_no {l : List Iv} (h : (ordA l).2 = false) : (ordA l).1 = [] := by
  unfold ordA at h ⊢
  split at h
  · rename_i he
    rw [if_pos he]
    exact ordGo_no _ _ h
  · rename_i he
    rw [if_neg he]
/-- the first one told is 0 -/
theorem ord_zero {l : List Iv} {T : List Nat} (hf : Fine l) (hw : ∀ i ∈ l, i.wf) (h : Told l T) (ha : allT l T = true) : T[0]? = some 0 := by
  have h0 : 0 ∈ T := allT_true.1 ha 0 hf.some (comeB_iff.2 .zero)
  obtain ⟨i, hi, e⟩ := List.getElem_of_mem h0
  have hT : 0 < T.length := by omega
  have hx : T[0]? = some T[0] := List.getElem?_eq_getElem hT
  by_cases hz : T[0] = 0
  · rw [hx, hz]
  · obtain ⟨m, hm, hb⟩ := come_back (comeB_iff.1 (h.come T[0] (List.getElem_mem _))) hz
    obtain ⟨j, hj, _⟩ := h.pre 0 T[0] hx m (come_lt hf hw hm) (comeB_iff.2 hm) hb
    omega
/-- programs that go the same ways have the same order -/
theorem ordGo_congr {l k : List Iv} (hl : l.length = k.length) (hc : ∀ n, comeB l n = comeB k n) (hb : ∀ n, comeB l n = true → behL l n = behL k n) : ∀ (f : Nat) (T : List Nat), ordGo l f T = ordGo k f T := by
  have hwt : ∀ T n, waitB l T n = waitB k T n := fun T n => by
    unfold waitB
    rw [hl]
    congr 1
    funext p
    rw [hc p]
    cases e : comeB k p with
    | false => rfl
    | true => rw [hb p (by rw [hc p]; exact e)]
  have hcd : ∀ T, cand l T = cand k T := fun T => by
    funext n
    unfold cand
    rw [hc n, hwt T n]
  have hat : ∀ T, allT l T = allT k T := fun T => by
    unfold allT
    rw [hl]
    congr 1
    funext p
    rw [hc p]
  intro f
  induction f with
  | zero => intro T; rfl
  | succ f ih =>
    intro T
    unfold ordGo
    rw [hat T, hcd T, hl]
    split
    · rfl
    · split
      · exact ih _
      · rfl
/-! ### A program with an instruction changed that is not come to -/
def yld : Iv := ⟨27, 0, 0, 0⟩
theorem set_getD (l : List Iv) (n k : Nat) (x : Iv) (hk : k < l.length) : (l.set n x).getD k iz = if n = k then x else l.getD k iz := by
  rw [List.getD_eq_getElem?_getD, List.getElem?_set, List.getD_eq_getElem?_getD]
  split
  · rename_i e
    subst e
    rw [if_pos hk]; rfl
  · rfl
theorem fine_set {l : List Iv} (h : Fine l) (n : Nat) : Fine (l.set n yld) := by
  have hl : (l.set n yld).length = l.length := List.length_set
  refine ⟨by rw [hl]; exact h.most, by rw [hl]; exact h.some, fun k hk => ?_, fun k hk ho => ?_, ?_⟩
  · rw [hl] at hk
    rw [set_getD l n k yld hk]
    split
    · decide
    · exact h.may k hk
  · rw [hl] at hk ⊢
    rw [set_getD l n k yld hk] at ho ⊢
    split
    · rename_i e
      rw [if_pos e] at ho
      simp [yld] at ho
    · rename_i e
      rw [if_neg e] at ho
      exact h.to k hk ho
  · rw [hl, set_getD l n _ yld (by have := h.some; omega)]
    split
    · right; rfl
    · exact h.last
theorem wf_set {l : List Iv} (hw : ∀ i ∈ l, i.wf) (n : Nat) : ∀ i ∈ l.set n yld, i.wf := by
  intro i hi
  rcases List.mem_or_eq_of_mem_set hi with h | h
  · exact hw i h
  · rw [h]; exact ⟨by decide, by decide, by decide, by decide⟩
theorem beh_set {l : List Iv} {n k : Nat} (hk : k < l.length) (h : n ≠ k) : behL (l.set n yld) k = behL l k := by
  unfold behL
  rw [set_getD l n k yld hk, if_neg h]
theorem come_set {l : List Iv} (hf : Fine l) (hw : ∀ i ∈ l, i.wf) {n : Nat} (hn : comeB l n = false) : ∀ k, comeB (l.set n yld) k = comeB l k := by
  have ne : ∀ k, Come l k → n ≠ k := fun k hk e => by
    subst e
    rw [comeB_iff.2 hk] at hn
    cases hn
  have h1 : ∀ k, Come l k → Come (l.set n yld) k := fun k hk => by
    induction hk with
    | zero => exact .zero
    | step hc hm ih => exact .step ih (by rw [beh_set (come_lt hf hw hc) (ne _ hc)]; exact hm)
  have h2 : ∀ k, Come (l.set n yld) k → Come l k := fun k hk => by
    induction hk with
    | zero => exact .zero
    | step hc hm ih => exact .step ih (by rw [beh_set (come_lt hf hw ih) (ne _ ih)] at hm; exact hm)
  intro k
  cases e : comeB l k with
  | true => exact comeB_iff.2 (h1 k (comeB_iff.1 e))
  | false =>
    cases e2 : comeB (l.set n yld) k with
    | false => rfl
    | true => rw [comeB_iff.2 (h2 k (comeB_iff.1 e2))] at e; cases e
theorem comeL_set {l : List Iv} (hf : Fine l) (hw : ∀ i ∈ l, i.wf) {n : Nat} (hn : comeB l n = false) : comeL (l.set n yld) = comeL l := by
  unfold comeL
  rw [(chk_of hf).1, (chk_of (fine_set hf n)).1, if_pos rfl, if_pos rfl, List.length_set]
  exact List.map_congr_left fun k _ => come_set hf hw hn k
theorem ordA_set {l : List Iv} (hf : Fine l) (hw : ∀ i ∈ l, i.wf) {n : Nat} (hn : comeB l n = false) : ordA (l.set n yld) = ordA l := by
  unfold ordA
  rw [(chk_of hf).1, (chk_of (fine_set hf n)).1, if_pos rfl, if_pos rfl, List.length_set]
  exact ordGo_congr List.length_set (come_set hf hw hn) (fun k hk => by
    rw [come_set hf hw hn k] at hk
    exact beh_set (come_lt hf hw (comeB_iff.1 hk)) (fun e => by subst e; rw [hk] at hn; cases hn)) _ _
end Flw
end Go.Proofs.YtjoiogdckbaeaaaDoor
namespace Go.Proofs.YtjoiogdckbaeaaaDoor
namespace Flw
open Isa
set_option linter.unusedVariables false
set_option linter.unusedSimpArgs false
def fcount : List Bool → Nat
  | [] => 0
  | b :: r => (if b then 0 else 1) + fcount r
theorem fcount_set : ∀ (B : List Bool) (k : Nat), k < B.length → fcount (B.set k true) + (if B.getD k false then 0 else 1) = fcount B
  | [], k, h => by simp at h
  | b :: r, 0, _ => by simp [fcount]; omega
  | b :: r, k + 1, h => by
    have := fcount_set r k (by simpa using h)
    simp only [List.set_cons_succ, fcount, List.getD_cons_succ]
    omega
theorem getD_set {B : List Bool} {k : Nat} (hk : k < B.length) (j : Nat) : (B.set k true).getD j false = if k = j then true else B.getD j false := by
  rw [List.getD_eq_getElem?_getD, List.getElem?_set, List.getD_eq_getElem?_getD]
  split
  · rfl
  · rfl
theorem set_same : ∀ (B : List Bool) (k : Nat), B.getD k false = true → B.set k true = B
  | [], k, h => by simp at h
  | b :: r, 0, h => by simp at h; subst h; rfl
  | b :: r, k + 1, h => by
    rw [List.set_cons_succ, set_same r k (by simpa using h)]
/-- what stands between two instructions of a round that began with B0 -/
structure Mid (l : List Iv) (B0 B : List Bool) (n k : Nat) (mb : Bool) : Prop where
  len : B.length = n
  mono : ∀ j, B0.getD j false = true → B.getD j false = true
  sound : ∀ j, B.getD j false = true → Come l j
  quiet : mb = false → B = B0 ∧ ∀ t, t < k → B0.getD t false = true → ∀ m ∈ behL l t, B0.getD m false = true
  moved : mb = true → fcount B < fcount B0
/-- and in the middle of instruction t -/
structure Inn (l : List Iv) (B0 B : List Bool) (n t j : Nat) (mb : Bool) : Prop where
  len : B.length = n
  mono : ∀ j, B0.getD j false = true → B.getD j false = true
  sound : ∀ j, B.getD j false = true → Come l j
  quiet : mb = false → B = B0 ∧ (∀ t', t' < t → B0.getD t' false = true → ∀ m ∈ behL l t', B0.getD m false = true) ∧ ∀ i, i < j → B0.getD ((behL l t).getD i 0) false = true
  moved : mb = true → fcount B < fcount B0
theorem Mid.start {l : List Iv} {B : List Bool} {n : Nat} (h : B.length = n) (hs : ∀ j, B.getD j false = true → Come l j) : Mid l B B n 0 false :=
  ⟨h, fun _ h => h, hs, fun _ => ⟨rfl, fun t ht => by omega⟩, fun h => by cases h⟩
theorem Mid.inn {l : List Iv} {B0 B : List Bool} {n t : Nat} {mb : Bool} (h : Mid l B0 B n t mb) : Inn l B0 B n t 0 mb :=
  ⟨h.len, h.mono, h.sound, fun e => ⟨(h.quiet e).1, (h.quiet e).2, fun i hi => by omega⟩, h.moved⟩
theorem Inn.step {l : List Iv} {B0 B : List Bool} {n t j : Nat} {mb : Bool} (h : Inn l B0 B n t j mb) (hj : j < (behL l t).length) (hm : (behL l t).getD j 0 < n) (ht : B.getD t false = true) :
    Inn l B0 (B.set ((behL l t).getD j 0) true) n t (j + 1) (mb || !B.getD ((behL l t).getD j 0) false) := by
  have hmem : (behL l t).getD j 0 ∈ behL l t := by
    rw [List.getD_eq_getElem?_getD, List.getElem?_eq_getElem hj]; simp
  have hml : (behL l t).getD j 0 < B.length := by rw [h.len]; exact hm
  refine ⟨by rw [List.length_set]; exact h.len, fun i hi => ?_, fun i hi => ?_, fun e => ?_, fun e => ?_⟩
  · rw [getD_set hml]
    split
    · rfl
    · exact h.mono i hi
  · rw [getD_set hml] at hi
    split at hi
    · rename_i e
      rw [← e]
      exact .step (h.sound t ht) hmem
    · exact h.sound i hi
  · simp only [Bool.or_eq_false_iff, Bool.not_eq_false'] at e
    obtain ⟨e1, e2⟩ := e
    obtain ⟨q1, q2, q3⟩ := h.quiet e1
    refine ⟨by rw [set_same _ _ e2]; exact q1, q2, fun i hi => ?_⟩
    by_cases e : i = j
    · rw [e, ← q1]; exact e2
    · exact q3 i (by omega)
  · have hc := fcount_set B _ hml
    cases mb with
    | true =>
      have := h.moved rfl
      omega
    | false =>
      obtain ⟨q1, _, _⟩ := h.quiet rfl
      simp only [Bool.false_or, Bool.not_eq_true'] at e
      rw [e] at hc
      rw [← q1]
      simp only [Bool.false_eq_true, if_false] at hc
      omega
theorem Inn.done {l : List Iv} {B0 B : List Bool} {n t j : Nat} {mb : Bool} (h : Inn l B0 B n t j mb) (he : (behL l t).length ≤ j ∨ B.getD t false = false) : Mid l B0 B n (t + 1) mb := by
  refine ⟨h.len, h.mono, h.sound, fun e => ?_, h.moved⟩
  obtain ⟨q1, q2, q3⟩ := h.quiet e
  refine ⟨q1, fun t' ht' hb m hm => ?_⟩
  by_cases e : t' = t
  · subst e
    rcases he with he | he
    · obtain ⟨i, hi, rfl⟩ := List.getElem_of_mem hm
      have := q3 i (by omega)
      have e2 : (behL l t').getD i 0 = (behL l t')[i] := by rw [List.getD_eq_getElem?_getD, List.getElem?_eq_getElem hi]; rfl
      rwa [e2] at this
    · rw [q1] at he
      rw [hb] at he
      cases he
  · exact q2 t' (by omega) hb m hm
theorem Mid.come {l : List Iv} (hf : Fine l) (hw : ∀ i ∈ l, i.wf) {B0 B : List Bool} {n : Nat} (h : Mid l B0 B n n false) (hn : l.length = n) (h0 : B0.getD 0 false = true) : B0 = (List.range n).map (comeB l) := by
  obtain ⟨q1, q2⟩ := h.quiet rfl
  subst q1
  have key := come_is hf hw (fun k => B.getD k false) h0 (fun k _ hk => h.sound k hk) (fun k hk hb m hm => q2 k (by omega) hb m hm)
  apply List.ext_getElem
  · simp [h.len]
  · intro i h1 h2
    have := key i (by rw [hn, ← h.len]; exact h1)
    simp only [List.getElem_map, List.getElem_range]
    rw [← this, List.getD_eq_getElem?_getD, List.getElem?_eq_getElem h1]
    rfl
end Flw
end Go.Proofs.YtjoiogdckbaeaaaDoor
namespace Go.Proofs.YtjoiogdckbaeaaaDoor
namespace Flw
open Isa
set_option linter.unusedVariables false
set_option linter.unusedSimpArgs false
theorem map_at {n k : Nat} (f : Nat → Bool) (hk : k < n) : ((List.range n).map f).getD k false = f k := by
  rw [List.getD_eq_getElem?_getD, List.getElem?_map, List.getElem?_range hk]
  rfl
/-- which numbers are told -/
def tB (n : Nat) (T : List Nat) : List Bool := (List.range n).map fun k => T.contains k
theorem tB_len (n : Nat) (T : List Nat) : (tB n T).length = n := by simp [tB]
theorem tB_at {n k : Nat} (T : List Nat) (hk : k < n) : (tB n T).getD k false = T.contains k := map_at _ hk
theorem tB_nil (n : Nat) : tB n [] = List.replicate n false := by
  apply List.ext_getElem
  · simp [tB]
  · intro i h1 h2
    simp [tB]
theorem tB_add {n k : Nat} (T : List Nat) : (tB n T).set k true = tB n (T ++ [k]) := by
  apply List.ext_getElem
  · simp [tB]
  · intro i h1 h2
    rw [List.getElem_set]
    simp only [tB, List.getElem_map, List.getElem_range]
    split
    · rename_i e; subst e; simp
    · rename_i e
      rw [Bool.eq_iff_iff]
      simp
      intro h; exact absurd h.symm e
/-- who has to wait, as far as t -/
structure Wt (l : List Iv) (T : List Nat) (W : List Bool) (n t : Nat) : Prop where
  len : W.length = n
  is : ∀ x, x < n → (W.getD x false = true ↔ ∃ p, p < t ∧ comeB l p = true ∧ p ∉ T ∧ x ∈ behL l p)
theorem Wt.start (l : List Iv) (T : List Nat) (n : Nat) : Wt l T (List.replicate n false) n 0 := by
  refine ⟨List.length_replicate, fun x hx => ?_⟩
  rw [List.getD_eq_getElem?_getD, List.getElem?_replicate, if_pos hx]
  constructor
  · intro h; cases h
  · rintro ⟨p, hp, _⟩; omega
theorem Wt.skip {l : List Iv} {T : List Nat} {W : List Bool} {n t : Nat} (h : Wt l T W n t) (hs : comeB l t = false ∨ t ∈ T) : Wt l T W n (t + 1) := by
  refine ⟨h.len, fun x hx => (h.is x hx).trans ?_⟩
  constructor
  · rintro ⟨p, hp, r⟩; exact ⟨p, by omega, r⟩
  · rintro ⟨p, hp, h1, h2, h3⟩
    by_cases e : p = t
    · subst e
      rcases hs with hs | hs
      · rw [hs] at h1; cases h1
      · exact absurd hs h2
    · exact ⟨p, by omega, h1, h2, h3⟩
structure Wi (W0 W : List Bool) (n : Nat) (nx : List Nat) (j : Nat) : Prop where
  len : W.length = n
  is : ∀ x, x < n → (W.getD x false = true ↔ W0.getD x false = true ∨ ∃ i, i < j ∧ nx.getD i 0 = x)
theorem Wi.start {W : List Bool} {n : Nat} (h : W.length = n) (nx : List Nat) : Wi W W n nx 0 := by
  refine ⟨h, fun x hx => ⟨.inl, fun h => ?_⟩⟩
  rcases h with h | ⟨i, hi, _⟩
  · exact h
  · omega
theorem Wi.step {W0 W : List Bool} {n : Nat} {nx : List Nat} {j : Nat} (h : Wi W0 W n nx j) (hm : nx.getD j 0 < n) : Wi W0 (W.set (nx.getD j 0) true) n nx (j + 1) := by
  refine ⟨by rw [List.length_set]; exact h.len, fun x hx => ?_⟩
  rw [getD_set (by rw [h.len]; exact hm)]
  constructor
  · intro q
    split at q
    · rename_i e; exact .inr ⟨j, by omega, e⟩
    · rcases (h.is x hx).1 q with q | ⟨i, hi, e⟩
      · exact .inl q
      · exact .inr ⟨i, by omega, e⟩
  · intro q
    split
    · rfl
    · rename_i ne
      refine (h.is x hx).2 ?_
      rcases q with q | ⟨i, hi, e⟩
      · exact .inl q
      · by_cases e2 : i = j
        · rw [e2] at e; exact absurd e ne
        · exact .inr ⟨i, by omega, e⟩
theorem Wi.done {l : List Iv} {T : List Nat} {W0 W : List Bool} {n t : Nat} (h0 : Wt l T W0 n t) (h : Wi W0 W n (behL l t) (behL l t).length) (hc : comeB l t = true) (hn : t ∉ T) : Wt l T W n (t + 1) := by
  refine ⟨h.len, fun x hx => (h.is x hx).trans ?_⟩
  rw [h0.is x hx]
  constructor
  · rintro (⟨p, hp, r⟩ | ⟨i, hi, e⟩)
    · exact ⟨p, by omega, r⟩
    · refine ⟨t, by omega, hc, hn, ?_⟩
      rw [← e, List.getD_eq_getElem?_getD, List.getElem?_eq_getElem hi]
      simp
  · rintro ⟨p, hp, h1, h2, h3⟩
    by_cases e : p = t
    · subst e
      obtain ⟨i, hi, e⟩ := List.getElem_of_mem h3
      exact .inr ⟨i, hi, by rw [List.getD_eq_getElem?_getD, List.getElem?_eq_getElem hi]; exact e⟩
    · exact .inl ⟨p, by omega, h1, h2, h3⟩
theorem Wt.wait {l : List Iv} {T : List Nat} {W : List Bool} {n : Nat} (h : Wt l T W n n) (hn : l.length = n) (x : Nat) (hx : x < n) : W.getD x false = waitB l T x := by
  rw [Bool.eq_iff_iff, h.is x hx]
  constructor
  · rintro ⟨p, hp, h1, h2, h3⟩
    cases e : waitB l T x with
    | true => rfl
    | false => exact absurd (waitB_false.1 e p (by omega) h1 h3) h2
  · intro q
    unfold waitB at q
    rw [List.any_eq_true] at q
    obtain ⟨p, hp, q⟩ := q
    rw [List.mem_range, hn] at hp
    simp only [Bool.and_eq_true, Bool.not_eq_true', List.contains_eq_mem, decide_eq_true_eq, decide_eq_false_iff_not] at q
    exact ⟨p, hp, q.1.1, q.1.2, q.2⟩
/-- how many are left, as far as t -/
def Lf (l : List Iv) (T : List Nat) (t lf : Nat) : Prop := lf ≤ t ∧ ((lf = 0 ∧ ∀ p, p < t → comeB l p = true → p ∈ T) ∨ (0 < lf ∧ ∃ p, p < t ∧ comeB l p = true ∧ p ∉ T))
theorem Lf.start (l : List Iv) (T : List Nat) : Lf l T 0 0 := ⟨by omega, .inl ⟨rfl, fun p hp => by omega⟩⟩
theorem Lf.skip {l : List Iv} {T : List Nat} {t lf : Nat} (h : Lf l T t lf) (hs : comeB l t = false ∨ t ∈ T) : Lf l T (t + 1) lf := by
  refine ⟨by have := h.1; omega, ?_⟩
  rcases h.2 with ⟨e, h2⟩ | ⟨e, p, hp, r⟩
  · refine .inl ⟨e, fun p hp hc => ?_⟩
    by_cases q : p = t
    · subst q
      rcases hs with hs | hs
      · rw [hs] at hc; cases hc
      · exact hs
    · exact h2 p (by omega) hc
  · exact .inr ⟨e, p, by omega, r⟩
theorem Lf.one {l : List Iv} {T : List Nat} {t lf : Nat} (h : Lf l T t lf) (hc : comeB l t = true) (hn : t ∉ T) : Lf l T (t + 1) (lf + 1) :=
  ⟨by have := h.1; omega, .inr ⟨by omega, t, by omega, hc, hn⟩⟩
theorem Lf.all {l : List Iv} {T : List Nat} (h : Lf l T l.length 0) : allT l T = true := by
  rcases h.2 with ⟨_, h2⟩ | ⟨e, _⟩
  · exact allT_true.2 h2
  · omega
theorem Lf.some {l : List Iv} {T : List Nat} {lf : Nat} (h : Lf l T l.length lf) (h0 : 0 < lf) : allT l T = false := by
  rcases h.2 with ⟨e, _⟩ | ⟨_, p, hp, hc, hn⟩
  · omega
  · cases e : allT l T with
    | false => rfl
    | true => exact absurd (allT_true.1 e p hp hc) hn
theorem ordGo_all {l : List Iv} {T : List Nat} {f : Nat} (hf : 0 < f) (ha : allT l T = true) : ordGo l f T = (T, true) := by
  obtain ⟨g, rfl⟩ : ∃ g, f = g + 1 := ⟨f - 1, by omega⟩
  unfold ordGo
  rw [if_pos ha]
theorem ordGo_none {l : List Iv} {T : List Nat} {f : Nat} (hf : 0 < f) (ha : allT l T = false) (hn : ∀ t, t < l.length → cand l T t = false) : ordGo l f T = ([], false) := by
  obtain ⟨g, rfl⟩ : ∃ g, f = g + 1 := ⟨f - 1, by omega⟩
  unfold ordGo
  rw [ha, if_neg (by simp), first_none hn, if_neg (Nat.lt_irrefl _)]
theorem ordGo_next {l : List Iv} {T : List Nat} {f k : Nat} (ha : allT l T = false) (hk : k < l.length) (hn : ∀ t, t < k → cand l T t = false) (h : cand l T k = true) : ordGo l (f + 1) T = ordGo l f (T ++ [k]) := by
  have e : first (cand l T) l.length = k := first_at hk hn h
  show (if allT l T then _ else _) = _
  rw [ha, if_neg (by simp), e, if_pos hk]
/-- what stands between two rounds -/
structure Od (l : List Iv) (n : Nat) (T : List Nat) : Prop where
  told : Told l T
  go : ordGo l (n + 1 - T.length) T = ordA l
theorem Od.start {l : List Iv} (hf : Fine l) : Od l l.length [] := by
  refine ⟨told_nil l, ?_⟩
  unfold ordA
  rw [(chk_of hf).1, if_pos rfl]
  rfl
theorem Od.all {l : List Iv} {T : List Nat} (h : Od l l.length T) (ha : allT l T = true) : ordA l = (T, true) := by
  rw [← h.go]
  have := told_len h.told
  exact ordGo_all (by omega) ha
theorem Od.none {l : List Iv} {T : List Nat} (h : Od l l.length T) (ha : allT l T = false) (hn : ∀ t, t < l.length → cand l T t = false) : ordA l = ([], false) := by
  rw [← h.go]
  have := told_len h.told
  exact ordGo_none (by omega) ha hn
theorem Od.next {l : List Iv} {T : List Nat} (h : Od l l.length T) (ha : allT l T = false) {k : Nat} (hk : k < l.length) (hn : ∀ t, t < k → cand l T t = false) (hc : cand l T k = true) : Od l l.length (T ++ [k]) := by
  refine ⟨told_add h.told hk hc, ?_⟩
  rw [← h.go]
  have := told_len h.told
  have e : l.length + 1 - T.length = (l.length - T.length) + 1 := by omega
  rw [e, ordGo_next ha hk hn hc, List.length_append, List.length_singleton]
  congr 1
  omega
end Flw
end Go.Proofs.YtjoiogdckbaeaaaDoor
namespace Go.Proofs.YtjoiogdckbaeaaaDoor
namespace Flw
open Isa
set_option linter.unusedVariables false
set_option linter.unusedSimpArgs false
theorem snoc_cases {α : Type} (l : List α) : l = [] ∨ ∃ r k, l = r ++ [k] := by
  rcases List.eq_nil_or_concat l with h | ⟨r, k, h⟩
  · exact .inl h
  · exact .inr ⟨r, k, by rw [h, List.concat_eq_append]⟩
theorem fcount_le : ∀ (B : List Bool), fcount B ≤ B.length
  | [] => Nat.le_refl _
  | b :: r => by
    have := fcount_le r
    unfold fcount
    rw [List.length_cons]
    split <;> omega
/-- between two rounds: op: those that are still to be looked behind -/
structure Wk (l : List Iv) (n : Nat) (B : List Bool) (op : List Nat) : Prop where
  len : B.length = n
  zero : B.getD 0 false = true
  sound : ∀ j, B.getD j false = true → Come l j
  on : ∀ k ∈ op, B.getD k false = true
  closed : ∀ k, k < n → B.getD k false = true → k ∈ op ∨ ∀ m ∈ behL l k, B.getD m false = true
/-- while one looks behind k: those of pre are marked -/
structure Wj (l : List Iv) (n : Nat) (B : List Bool) (op : List Nat) (k : Nat) (pre : List Nat) : Prop where
  len : B.length = n
  zero : B.getD 0 false = true
  sound : ∀ j, B.getD j false = true → Come l j
  on : ∀ k ∈ op, B.getD k false = true
  here : B.getD k false = true
  done : ∀ m ∈ pre, B.getD m false = true
  closed : ∀ t, t < n → B.getD t false = true → t = k ∨ t ∈ op ∨ ∀ m ∈ behL l t, B.getD m false = true
theorem getD_lt {B : List Bool} {k : Nat} (h : B.getD k false = true) : k < B.length := by
  rcases Nat.lt_or_ge k B.length with q | q
  · exact q
  · rw [List.getD_eq_getElem?_getD, List.getElem?_eq_none q] at h; cases h
theorem Wk.start {l : List Iv} (hf : Fine l) : Wk l l.length ((List.replicate l.length false).set 0 true) [0] := by
  have hs := hf.some
  have hl : (List.replicate l.length false).length = l.length := List.length_replicate
  have hz : ((List.replicate l.length false).set 0 true).getD 0 false = true := by rw [getD_set (by rw [hl]; exact hs), if_pos rfl]
  refine ⟨by rw [List.length_set]; exact hl, hz, fun j hj => ?_, fun k hk => ?_, fun k hk hB => ?_⟩
  · rw [getD_set (by rw [hl]; exact hs)] at hj
    split at hj
    · rename_i e; rw [← e]; exact .zero
    · rw [List.getD_eq_getElem?_getD, List.getElem?_replicate] at hj
      split at hj <;> simp at hj
  · simp at hk; rw [hk]; exact hz
  · rw [getD_set (by rw [hl]; exact hs)] at hB
    split at hB
    · rename_i e; left; rw [← e]; simp
    · rw [List.getD_eq_getElem?_getD, List.getElem?_replicate] at hB
      split at hB <;> simp at hB
theorem Wk.pop {l : List Iv} {n : Nat} {B : List Bool} {op : List Nat} {k : Nat} (h : Wk l n B (op ++ [k])) : Wj l n B op k [] :=
  ⟨h.len, h.zero, h.sound, fun j hj => h.on j (by simp [hj]), h.on k (by simp), by simp, fun t ht hB => by
    rcases h.closed t ht hB with q | q
    · rcases List.mem_append.1 q with q | q
      · exact .inr (.inl q)
      · simp at q; exact .inl q
    · exact .inr (.inr q)⟩
theorem Wj.seen {l : List Iv} {n : Nat} {B : List Bool} {op : List Nat} {k : Nat} {pre : List Nat} (h : Wj l n B op k pre) {x : Nat} (hx : B.getD x false = true) : Wj l n B op k (pre ++ [x]) :=
  ⟨h.len, h.zero, h.sound, h.on, h.here, fun m hm => by
    rcases List.mem_append.1 hm with q | q
    · exact h.done m q
    · simp at q; rw [q]; exact hx, h.closed⟩
theorem Wj.mark {l : List Iv} {n : Nat} {B : List Bool} {op : List Nat} {k : Nat} {pre : List Nat} (h : Wj l n B op k pre) {x : Nat} (hx : x < n) (hm : x ∈ behL l k) : Wj l n (B.set x true) (op ++ [x]) k (pre ++ [x]) := by
  have hxl : x < B.length := by rw [h.len]; exact hx
  have up : ∀ j, B.getD j false = true → (B.set x true).getD j false = true := fun j hj => by
    rw [getD_set hxl]
    split
    · rfl
    · exact hj
  have at_ : (B.set x true).getD x false = true := by rw [getD_set hxl, if_pos rfl]
  refine ⟨by rw [List.length_set]; exact h.len, up 0 h.zero, fun j hj => ?_, fun j hj => ?_, up k h.here, fun m hm' => ?_, fun t ht hB => ?_⟩
  · rw [getD_set hxl] at hj
    split at hj
    · rename_i e; rw [← e]; exact .step (h.sound k h.here) hm
    · exact h.sound j hj
  · rcases List.mem_append.1 hj with q | q
    · exact up j (h.on j q)
    · simp at q; rw [q]; exact at_
  · rcases List.mem_append.1 hm' with q | q
    · exact up m (h.done m q)
    · simp at q; rw [q]; exact at_
  · rw [getD_set hxl] at hB
    split at hB
    · rename_i e; right; left; rw [← e]; simp
    · rcases h.closed t ht hB with q | q | q
      · exact .inl q
      · exact .inr (.inl (by simp [q]))
      · exact .inr (.inr fun m hm' => up m (q m hm'))
theorem Wj.fin {l : List Iv} {n : Nat} {B : List Bool} {op : List Nat} {k : Nat} (h : Wj l n B op k (behL l k)) : Wk l n B op :=
  ⟨h.len, h.zero, h.sound, h.on, fun t ht hB => by
    rcases h.closed t ht hB with q | q | q
    · subst q; exact .inr h.done
    · exact .inl q
    · exact .inr q⟩
theorem Wk.come {l : List Iv} (hf : Fine l) (hw : ∀ i ∈ l, i.wf) {B : List Bool} (h : Wk l l.length B []) : B = (List.range l.length).map (comeB l) := by
  have key := come_is hf hw (fun k => B.getD k false) h.zero (fun k _ hk => h.sound k hk) (fun k hk hb m hm => by
    rcases h.closed k hk hb with q | q
    · simp at q
    · exact q m hm)
  apply List.ext_getElem
  · simp [h.len]
  · intro i h1 h2
    have := key i (by rw [← h.len]; exact h1)
    simp only [List.getElem_map, List.getElem_range]
    rw [← this, List.getD_eq_getElem?_getD, List.getElem?_eq_getElem h1]
    rfl
end Flw
end Go.Proofs.YtjoiogdckbaeaaaDoor
namespace Go.Proofs.YtjoiogdckbaeaaaDoor
namespace Flw
open Isa
set_option linter.unusedVariables false
set_option linter.unusedSimpArgs false
theorem beh_nodup (l : List Iv) (n : Nat) : (behL l n).Nodup := by
  unfold behL behI
  generalize l.getD n iz = i
  split
  · simp
  · split
    · simp
    · split
      · split
        · simp
        · rename_i h
          simp
          intro e
          omega
      · simp
theorem prefix_new {pre : List Nat} {x : Nat} {L : List Nat} (h : pre ++ [x] <+: L) (hn : L.Nodup) : x ∉ pre := by
  have := (h.sublist.nodup hn)
  rw [List.nodup_append] at this
  intro hm
  exact this.2.2 x hm x (by simp) rfl
/-! ### Lists of numbers, given by a function -/
def fnL (m : Nat) (f : Nat → Int) : List Int := (List.range m).map f
theorem fnL_len (m : Nat) (f : Nat → Int) : (fnL m f).length = m := by simp [fnL]
theorem fnL_at {m x : Nat} (f : Nat → Int) (hx : x < m) : (fnL m f).getD x 0 = f x := by
  unfold fnL
  rw [List.getD_eq_getElem?_getD, List.getElem?_map, List.getElem?_range hx]
  rfl
theorem fnL_set {m x : Nat} (f : Nat → Int) (u : Int) : (fnL m f).set x u = fnL m fun y => if y = x then u else f y := by
  apply List.ext_getElem
  · simp [fnL]
  · intro i h1 h2
    rw [List.getElem_set]
    simp only [fnL, List.getElem_map, List.getElem_range]
    split
    · rename_i e; rw [if_pos e.symm]
    · rename_i e; rw [if_neg (fun q => e q.symm)]
theorem fnL_congr {m : Nat} {f g : Nat → Int} (h : ∀ x, x < m → f x = g x) : fnL m f = fnL m g := List.map_congr_left fun x hx => h x (by simpa using hx)
theorem fnL_zero (m : Nat) : fnL m (fun _ => 0) = List.replicate m 0 := by
  apply List.ext_getElem
  · simp [fnL]
  · intro i h1 h2
    simp [fnL]
/-! ### How many are ahead -/
def cn (l : List Iv) (Cm : List Bool) (t x : Nat) : Nat := (List.range t).countP fun p => Cm.getD p false && (behL l p).contains x
theorem cn_zero (l : List Iv) (Cm : List Bool) (x : Nat) : cn l Cm 0 x = 0 := rfl
theorem cn_succ (l : List Iv) (Cm : List Bool) (t x : Nat) : cn l Cm (t + 1) x = cn l Cm t x + (if (Cm.getD t false && (behL l t).contains x) = true then 1 else 0) := by
  unfold cn
  rw [List.range_succ, List.countP_append, List.countP_singleton]
theorem cn_le (l : List Iv) (Cm : List Bool) (t x : Nat) : cn l Cm t x ≤ t := by
  unfold cn
  have := List.countP_le_length (p := fun p => Cm.getD p false && (behL l p).contains x) (l := List.range t)
  rwa [List.length_range] at this
/-- while one goes over those behind t -/
def cm (l : List Iv) (Cm : List Bool) (t : Nat) (pre : List Nat) (x : Nat) : Int := (cn l Cm t x : Nat) + (if pre.contains x = true then 1 else 0)
theorem cm_nil (l : List Iv) (Cm : List Bool) (t : Nat) : cm l Cm t [] = fun x => ((cn l Cm t x : Nat) : Int) := by
  funext x
  simp [cm]
theorem cm_step {l : List Iv} {Cm : List Bool} {t : Nat} {pre : List Nat} {x : Nat} (hx : x ∉ pre) (m : Nat) : (fnL m (cm l Cm t pre)).set x (cm l Cm t pre x + 1) = fnL m (cm l Cm t (pre ++ [x])) := by
  rw [fnL_set]
  refine fnL_congr fun y _ => ?_
  unfold cm
  by_cases e : y = x
  · subst e
    have h1 : pre.contains y = false := by simpa using hx
    have h2 : (pre ++ [y]).contains y = true := by simp
    rw [if_pos rfl, h1, h2]
    simp
  · rw [if_neg e]
    have h2 : (pre ++ [x]).contains y = pre.contains y := by
      rw [Bool.eq_iff_iff]
      simp [e]
    rw [h2]
theorem cm_fin {l : List Iv} {Cm : List Bool} {t : Nat} (h : Cm.getD t false = true) : cm l Cm t (behL l t) = fun x => ((cn l Cm (t + 1) x : Nat) : Int) := by
  funext x
  rw [cn_succ, h]
  unfold cm
  cases (behL l t).contains x <;> simp
theorem cn_skip {l : List Iv} {Cm : List Bool} {t : Nat} (h : Cm.getD t false = false) (x : Nat) : cn l Cm (t + 1) x = cn l Cm t x := by
  rw [cn_succ, h]
  simp
/-! ### How many that are not told are ahead -/
noncomputable def wc (l : List Iv) (T : List Nat) (x : Nat) : Nat := (List.range l.length).countP fun p => comeB l p && !T.contains p && (behL l p).contains x
theorem wc_wait (l : List Iv) (T : List Nat) (x : Nat) : waitB l T x = decide (0 < wc l T x) := by
  unfold waitB wc
  rw [Bool.eq_iff_iff, List.any_eq_true, decide_eq_true_eq, List.countP_pos_iff]
theorem wc_le (l : List Iv) (T : List Nat) (x : Nat) : wc l T x ≤ l.length := by
  unfold wc
  have := List.countP_le_length (p := fun p => comeB l p && !T.contains p && (behL l p).contains x) (l := List.range l.length)
  rwa [List.length_range] at this
theorem wc_start {l : List Iv} (h : chkE l = 0) (x : Nat) : cn l (comeL l) l.length x = wc l [] x := by
  unfold cn wc
  apply List.countP_congr
  intro p hp
  have hp' : p < l.length := by simpa using hp
  have : (comeL l).getD p false = comeB l p := by
    unfold comeL
    rw [if_pos h]
    exact map_at _ hp'
  rw [this]
  simp
theorem countP_one (f g : Nat → Bool) (k : Nat) (h : ∀ p, p ≠ k → f p = g p) (hg : g k = false) : ∀ n, (List.range n).countP f = (List.range n).countP g + (if k < n ∧ f k = true then 1 else 0)
  | 0 => by simp
  | n + 1 => by
    rw [List.range_succ, List.countP_append, List.countP_append, List.countP_singleton, List.countP_singleton, countP_one f g k h hg n]
    by_cases e : n = k
    · subst e
      rw [if_neg (by omega : ¬ (n < n ∧ f n = true)), hg]
      cases f n <;> simp
    · rw [h n e]
      have : (k < n + 1 ∧ f k = true) ↔ (k < n ∧ f k = true) := ⟨fun q => ⟨by omega, q.2⟩, fun q => ⟨by omega, q.2⟩⟩
      simp only [this]
      omega
theorem wc_add {l : List Iv} {T : List Nat} {k : Nat} (hk : k < l.length) (hc : comeB l k = true) (hT : k ∉ T) (x : Nat) : wc l T x = wc l (T ++ [k]) x + (if (behL l k).contains x = true then 1 else 0) := by
  unfold wc
  have h1 : ∀ p, p ≠ k → (comeB l p && !T.contains p && (behL l p).contains x) = (comeB l p && !(T ++ [k]).contains p && (behL l p).contains x) := fun p hp => by
    have : (T ++ [k]).contains p = T.contains p := by
      rw [Bool.eq_iff_iff]
      simp [hp]
    rw [this]
  have h2 : (comeB l k && !(T ++ [k]).contains k && (behL l k).contains x) = false := by simp
  have e : (comeB l k && !T.contains k && (behL l k).contains x) = (behL l k).contains x := by
    have : T.contains k = false := by simpa using hT
    rw [hc, this]
    simp
  rw [countP_one (fun p => comeB l p && !T.contains p && (behL l p).contains x) (fun p => comeB l p && !(T ++ [k]).contains p && (behL l p).contains x) k h1 h2 l.length]
  simp only [e, hk, true_and]
/-- while one goes over those behind k -/
noncomputable def wm (l : List Iv) (T : List Nat) (pre : List Nat) (x : Nat) : Int := (wc l T x : Nat) - (if pre.contains x = true then 1 else 0)
theorem wm_nil (l : List Iv) (T : List Nat) : wm l T [] = fun x => ((wc l T x : Nat) : Int) := by
  funext x
  simp [wm]
theorem wm_here {l : List Iv} {T pre : List Nat} {x : Nat} (hx : x ∉ pre) : wm l T pre x = ((wc l T x : Nat) : Int) := by
  unfold wm
  have : pre.contains x = false := by simpa using hx
  rw [this]
  simp
theorem wm_step {l : List Iv} {T pre : List Nat} {x : Nat} (hx : x ∉ pre) (m : Nat) : (fnL m (wm l T pre)).set x (((wc l T x : Nat) : Int) - 1) = fnL m (wm l T (pre ++ [x])) := by
  rw [fnL_set]
  refine fnL_congr fun y _ => ?_
  unfold wm
  by_cases e : y = x
  · subst e
    have h2 : (pre ++ [y]).contains y = true := by simp
    rw [if_pos rfl, h2]
    simp
  · rw [if_neg e]
    have h2 : (pre ++ [x]).contains y = pre.contains y := by
      rw [Bool.eq_iff_iff]
      simp [e]
    rw [h2]
theorem wm_fin {l : List Iv} {T : List Nat} {k : Nat} (hk : k < l.length) (hc : comeB l k = true) (hT : k ∉ T) : wm l T (behL l k) = fun x => ((wc l (T ++ [k]) x : Nat) : Int) := by
  funext x
  unfold wm
  rw [wc_add hk hc hT x]
  cases (behL l k).contains x <;> simp
/-! ### Who may be next -/
/-- R: who may be next, the least one last -/
structure Rdy (l : List Iv) (T R : List Nat) : Prop where
  fal : R.Pairwise (fun a b => b < a)
  is : ∀ m, m ∈ R ↔ m < l.length ∧ cand l T m = true
theorem cand_iff {l : List Iv} {T : List Nat} {m : Nat} : cand l T m = true ↔ comeB l m = true ∧ m ∉ T ∧ wc l T m = 0 := by
  unfold cand
  rw [wc_wait]
  simp
  constructor
  · rintro ⟨⟨h1, h2⟩, h3⟩; exact ⟨h1, h2, by omega⟩
  · rintro ⟨h1, h2, h3⟩; exact ⟨⟨h1, h2⟩, by omega⟩
/-- at first -/
theorem Rdy.start {l : List Iv} (hf : Fine l) (hw : ∀ i ∈ l, i.wf) : Rdy l [] (if wc l [] 0 = 0 then [0] else []) := by
  have key : ∀ m, m < l.length ∧ cand l [] m = true ↔ m = 0 ∧ wc l [] 0 = 0 := fun m => by
    rw [cand_iff]
    constructor
    · rintro ⟨h1, h2, _, h3⟩
      have e : m = 0 := by
        by_cases q : m = 0
        · exact q
        · exfalso
          obtain ⟨p, hp, hb⟩ := come_back (comeB_iff.1 h2) q
          have hw0 : waitB l [] m = false := by rw [wc_wait, h3]; rfl
          have := waitB_false.1 hw0 p (come_lt hf hw hp) (comeB_iff.2 hp) hb
          simp at this
      subst e
      exact ⟨rfl, h3⟩
    · rintro ⟨rfl, h⟩
      exact ⟨hf.some, comeB_iff.2 .zero, by simp, h⟩
  split
  · rename_i h
    exact ⟨by simp, fun m => by rw [key]; simp [h]⟩
  · rename_i h
    exact ⟨by simp, fun m => by rw [key]; simp [h]⟩
/-- while one goes over those behind k, which has been told -/
structure Rdm (l : List Iv) (T rest : List Nat) (pre R : List Nat) : Prop where
  fal : R.Pairwise (fun a b => b < a)
  is : ∀ m, m ∈ R ↔ m ∈ rest ∨ (m ∈ pre ∧ wc l T m = 1)
theorem snoc_least {R : List Nat} {k : Nat} (h : (R ++ [k]).Pairwise (fun a b => b < a)) : ∀ m ∈ R, k < m := by
  rw [List.pairwise_append] at h
  exact fun m hm => h.2.2 m hm k (by simp)
theorem Rdy.pop {l : List Iv} {T rest : List Nat} {k : Nat} (h : Rdy l T (rest ++ [k])) : k < l.length ∧ cand l T k = true ∧ (∀ t, t < k → cand l T t = false) ∧ Rdm l T rest [] rest := by
  have hk := (h.is k).1 (by simp)
  have hl := snoc_least h.fal
  refine ⟨hk.1, hk.2, fun t ht => ?_, (List.pairwise_append.1 h.fal).1, fun m => by simp⟩
  cases e : cand l T t with
  | false => rfl
  | true =>
    have := (h.is t).2 ⟨by omega, e⟩
    rcases List.mem_append.1 this with q | q
    · have := hl t q; omega
    · simp at q; omega
/-- one behind k is not there yet -/
theorem Rdm.new {l : List Iv} {T rest pre R : List Nat} {k x : Nat} (h : Rdy l T (rest ++ [k])) (hm : Rdm l T rest pre R) (hk : k < l.length) (hc : cand l T k = true) (hx : x ∈ behL l k) (hp : x ∉ pre) : x ∉ R ∧ 1 ≤ wc l T x := by
  obtain ⟨c1, c2, c3⟩ := cand_iff.1 hc
  have hw : 1 ≤ wc l T x := by
    rw [wc_add hk c1 c2 x]
    have : (behL l k).contains x = true := by simpa using hx
    rw [this]
    simp
  refine ⟨fun q => ?_, hw⟩
  rcases (hm.is x).1 q with q | q
  · have := ((h.is x).1 (by simp [q])).2
    have := (cand_iff.1 this).2.2
    omega
  · exact hp q.1
theorem Rdm.stay {l : List Iv} {T rest pre R : List Nat} {x : Nat} (hm : Rdm l T rest pre R) (hw : wc l T x ≠ 1) : Rdm l T rest (pre ++ [x]) R :=
  ⟨hm.fal, fun m => by
    rw [hm.is m]
    constructor
    · rintro (q | q)
      · exact .inl q
      · exact .inr ⟨by simp [q.1], q.2⟩
    · rintro (q | q)
      · exact .inl q
      · refine .inr ⟨?_, q.2⟩
        rcases List.mem_append.1 q.1 with r | r
        · exact r
        · simp at r; rw [r] at q; exact absurd q.2 hw⟩
theorem Rdm.add {l : List Iv} {T rest pre R R' : List Nat} {x : Nat} (hm : Rdm l T rest pre R) (hw : wc l T x = 1) (hf : R'.Pairwise (fun a b => b < a)) (hR : ∀ m, m ∈ R' ↔ m = x ∨ m ∈ R) : Rdm l T rest (pre ++ [x]) R' :=
  ⟨hf, fun m => by
    rw [hR m, hm.is m]
    constructor
    · rintro (q | q | q)
      · subst q; exact .inr ⟨by simp, hw⟩
      · exact .inl q
      · exact .inr ⟨by simp [q.1], q.2⟩
    · rintro (q | q)
      · exact .inr (.inl q)
      · rcases List.mem_append.1 q.1 with r | r
        · exact .inr (.inr ⟨r, q.2⟩)
        · simp at r; exact .inl r⟩
theorem Rdm.fin {l : List Iv} (hf : Fine l) (hw : ∀ i ∈ l, i.wf) {T rest R : List Nat} {k : Nat} (h : Rdy l T (rest ++ [k])) (ht : Told l T) (hm : Rdm l T rest (behL l k) R) (hk : k < l.length) (hc : cand l T k = true) : Rdy l (T ++ [k]) R := by
  obtain ⟨c1, c2, c3⟩ := cand_iff.1 hc
  refine ⟨hm.fal, fun m => ?_⟩
  rw [hm.is m, cand_iff]
  have hadd := wc_add hk c1 c2 m
  constructor
  · rintro (q | ⟨q1, q2⟩)
    · obtain ⟨a1, a2⟩ := (h.is m).1 (by simp [q])
      obtain ⟨b1, b2, b3⟩ := cand_iff.1 a2
      have := snoc_least h.fal m q
      refine ⟨a1, b1, ?_, by omega⟩
      simp only [List.mem_append, List.mem_singleton, not_or]
      exact ⟨b2, by omega⟩
    · have hcm : comeB l m = true := comeB_iff.2 (.step (comeB_iff.1 c1) q1)
      have hin : (behL l k).contains m = true := by simpa using q1
      rw [hin, if_pos rfl] at hadd
      refine ⟨come_lt hf hw (comeB_iff.1 hcm), hcm, ?_, by omega⟩
      simp only [List.mem_append, List.mem_singleton, not_or]
      refine ⟨fun hmT => ?_, fun e => ?_⟩
      · obtain ⟨j, hj, e⟩ := List.getElem_of_mem hmT
        obtain ⟨i, _, hi⟩ := ht.pre j m (by rw [List.getElem?_eq_getElem hj, e]) k hk c1 q1
        exact c2 (List.mem_of_getElem? hi)
      · subst e; omega
  · rintro ⟨a1, b1, b2, b3⟩
    simp only [List.mem_append, List.mem_singleton, not_or] at b2
    by_cases q : m ∈ behL l k
    · have hin : (behL l k).contains m = true := by simpa using q
      rw [hin, if_pos rfl] at hadd
      exact .inr ⟨q, by omega⟩
    · have hin : (behL l k).contains m = false := by simpa using q
      rw [hin] at hadd
      simp at hadd
      have := (h.is m).2 ⟨a1, cand_iff.2 ⟨b1, b2.1, by omega⟩⟩
      rcases List.mem_append.1 this with r | r
      · exact .inl r
      · simp at r; exact absurd r b2.2
theorem Rdm.lt {l : List Iv} {T rest pre R : List Nat} {k : Nat} (h : Rdy l T (rest ++ [k])) (hm : Rdm l T rest pre R) (hp : ∀ x ∈ pre, x < l.length) : ∀ m ∈ R, m < l.length := fun m hq => by
  rcases (hm.is m).1 hq with q | q
  · exact ((h.is m).1 (by simp [q])).1
  · exact hp m q.1
theorem fal_nodup {R : List Nat} (h : R.Pairwise (fun a b => b < a)) : R.Nodup := h.imp fun q e => by omega
theorem fal_len {R : List Nat} {N : Nat} (h : R.Pairwise (fun a b => b < a)) (hb : ∀ m ∈ R, m < N) : R.length ≤ N := len_nodup N R (fal_nodup h) hb
/-- when nobody may be next -/
theorem Rdy.out {l : List Iv} {T : List Nat} (h : Rdy l T []) : ∀ t, t < l.length → cand l T t = false := fun t ht => by
  cases e : cand l T t with
  | false => rfl
  | true => have := (h.is t).2 ⟨ht, e⟩; simp at this
/-- all have been told just if nobody waits -/
theorem Rdy.all {l : List Iv} {T : List Nat} (h : Rdy l T []) (h0 : ∀ x, x < l.length → wc l T x = 0) : allT l T = true := by
  refine allT_true.2 fun p hp hc => ?_
  by_cases q : p ∈ T
  · exact q
  · have := (h.is p).2 ⟨hp, cand_iff.2 ⟨hc, q, h0 p hp⟩⟩
    simp at this
theorem wc_left {l : List Iv} {T : List Nat} {x : Nat} (h : 0 < wc l T x) : allT l T = false := by
  cases e : allT l T with
  | false => rfl
  | true =>
    unfold wc at h
    rw [List.countP_pos_iff] at h
    obtain ⟨p, hp, hq⟩ := h
    have hp' : p < l.length := by simpa using hp
    simp at hq
    exact absurd (allT_true.1 e p hp' hq.1.1) hq.1.2
end Flw
end Go.Proofs.YtjoiogdckbaeaaaDoor
namespace Go.Proofs.YtjoiogdckbaeaaaDoor
namespace Flw
open Isa
set_option linter.unusedVariables false
set_option linter.unusedSimpArgs false
/-! ### The order, reckoned with what is come to given -/
def waitP (p : Nat → Bool) (l : List Iv) (T : List Nat) (n : Nat) : Bool := (List.range l.length).any fun q => p q && !T.contains q && (behL l q).contains n
def candP (p : Nat → Bool) (l : List Iv) (T : List Nat) (n : Nat) : Bool := p n && !T.contains n && !waitP p l T n
def allP (p : Nat → Bool) (l : List Iv) (T : List Nat) : Bool := (List.range l.length).all fun q => !p q || T.contains q
def ordP (p : Nat → Bool) (l : List Iv) : Nat → List Nat → List Nat × Bool
  | 0, T => ([], false)
  | f + 1, T => if allP p l T then (T, true) else if first (candP p l T) l.length < l.length then ordP p l f (T ++ [first (candP p l T) l.length]) else ([], false)
theorem any_congr {α : Type} {f g : α → Bool} : ∀ {l : List α}, (∀ x ∈ l, f x = g x) → l.any f = l.any g
  | [], _ => rfl
  | a :: r, h => by rw [List.any_cons, List.any_cons, h a (by simp), any_congr fun x hx => h x (by simp [hx])]
theorem all_congr {α : Type} {f g : α → Bool} : ∀ {l : List α}, (∀ x ∈ l, f x = g x) → l.all f = l.all g
  | [], _ => rfl
  | a :: r, h => by rw [List.all_cons, List.all_cons, h a (by simp), all_congr fun x hx => h x (by simp [hx])]
theorem ordP_is {p : Nat → Bool} {l : List Iv} (h : ∀ n, n < l.length → p n = comeB l n) : ∀ (f : Nat) (T : List Nat), ordGo l f T = ordP p l f T
  | 0, T => rfl
  | f + 1, T => by
    have h1 : allT l T = allP p l T := all_congr fun q hq => by rw [h q (List.mem_range.1 hq)]
    have h2 : ∀ n, waitB l T n = waitP p l T n := fun n => any_congr fun q hq => by rw [h q (List.mem_range.1 hq)]
    have h3 : first (cand l T) l.length = first (candP p l T) l.length := first_congr fun t ht => by unfold cand candP; rw [h2, h t ht]
    unfold ordGo ordP
    rw [h1, h3]
    split
    · rfl
    · split
      · exact ordP_is h f _
      · rfl
/-- three programs -/
def kA : List Iv := [⟨20, 0, 0, 2⟩, ⟨27, 0, 0, 0⟩, ⟨27, 0, 0, 0⟩]
def kB : List Iv := [⟨20, 0, 0, 1⟩, ⟨19, 0, 0, 0⟩]
def kC : List Iv := [⟨19, 0, 0, 3⟩, ⟨2, 0, 0, 0⟩, ⟨19, 0, 0, 0⟩, ⟨27, 0, 0, 0⟩]
theorem wf_all {l : List Iv} (h : l.all (fun i => decide (0 ≤ i.op ∧ i.op ≤ 255 ∧ 0 ≤ i.a ∧ i.a ≤ 255 ∧ 0 ≤ i.b ∧ i.b ≤ 65535 ∧ 0 ≤ i.c ∧ i.c ≤ 4294967295)) = true) : ∀ i ∈ l, i.wf := fun i hi => by
  rw [List.all_eq_true] at h
  have := h i hi
  simp only [decide_eq_true_eq] at this
  exact ⟨⟨this.1, this.2.1⟩, ⟨this.2.2.1, this.2.2.2.1⟩, ⟨this.2.2.2.2.1, this.2.2.2.2.2.1⟩, ⟨this.2.2.2.2.2.2.1, this.2.2.2.2.2.2.2⟩⟩
theorem chkA0 : chkE kA = 0 := by decide +kernel
theorem chkB0 : chkE kB = 0 := by decide +kernel
theorem chkC0 : chkE kC = 0 := by decide +kernel
theorem comeA : ∀ n, n < kA.length → (fun _ => true) n = comeB kA n :=
  come_is (fine_of chkA0) (wf_all (by decide +kernel)) (fun _ => true) rfl (fun n hn _ => by
    have h1 : Come kA 1 := .step .zero (by decide +kernel)
    have h2 : Come kA 2 := .step .zero (by decide +kernel)
    match n, hn with
    | 0, _ => exact .zero
    | 1, _ => exact h1
    | 2, _ => exact h2) (fun _ _ _ _ _ => rfl)
theorem comeBB : ∀ n, n < kB.length → (fun _ => true) n = comeB kB n :=
  come_is (fine_of chkB0) (wf_all (by decide +kernel)) (fun _ => true) rfl (fun n hn _ => by
    have h1 : Come kB 1 := .step .zero (by decide +kernel)
    match n, hn with
    | 0, _ => exact .zero
    | 1, _ => exact h1) (fun _ _ _ _ _ => rfl)
theorem comeC : ∀ n, n < kC.length → (fun n => n == 0 || n == 3) n = comeB kC n :=
  come_is (fine_of chkC0) (wf_all (by decide +kernel)) (fun n => n == 0 || n == 3) rfl (fun n hn hp => by
    have h3 : Come kC 3 := .step .zero (by decide +kernel)
    simp only [Bool.or_eq_true, beq_iff_eq] at hp
    rcases hp with rfl | rfl
    · exact .zero
    · exact h3) (fun n hn hp m hm => by
    simp only [Bool.or_eq_true, beq_iff_eq] at hp
    rcases hp with rfl | rfl
    · have e : behL kC 0 = [3] := by decide +kernel
      rw [e] at hm; simp at hm; subst hm; rfl
    · have e : behL kC 3 = [] := by decide +kernel
      rw [e] at hm; simp at hm)
theorem ordA_A : ordA kA = ([0, 1, 2], true) := by
  unfold ordA
  rw [if_pos chkA0, ordP_is comeA]
  decide +kernel
theorem ordA_B : (ordA kB).2 = false := by
  unfold ordA
  rw [if_pos chkB0, ordP_is comeBB]
  decide +kernel
theorem ordA_C : ordA kC = ([0, 3], true) := by
  unfold ordA
  rw [if_pos chkC0, ordP_is comeC]
  decide +kernel
/-- what comes behind, of any program -/
def behA (l : List Iv) (k : Int) : List Nat := if chkE l = 0 ∧ 0 ≤ k ∧ k < l.length then behL l k.toNat else []
theorem behA_A : behA kA 0 = [1, 2] := by decide +kernel
theorem behA_B : behA kB 0 = [1] := by decide +kernel
theorem behA_C : behA kC 0 = [3] := by decide +kernel
theorem chk1 : chkE [⟨1, 0, 0, 1⟩] = 111 ∧ chkN [⟨1, 0, 0, 1⟩] = 0 := by decide +kernel
theorem chk2 : chkE [⟨19, 0, 0, 1⟩] = 110 ∧ chkN [⟨19, 0, 0, 1⟩] = 0 := by decide +kernel
theorem chk3 : chkE [] = 111 ∧ chkN [] = 0 := by decide +kernel
theorem behA_in {l : List Iv} (h : chkE l = 0) {k : Nat} (hk : k < l.length) : behA l (k : Int) = behL l k := by
  unfold behA
  rw [if_pos ⟨h, by omega, by omega⟩]
  rfl
theorem behA_out {l : List Iv} {k : Int} (h : chkE l ≠ 0 ∨ k < 0 ∨ l.length ≤ k) : behA l k = [] := by
  unfold behA
  rw [if_neg (by omega)]
end Flw
end Go.Proofs.YtjoiogdckbaeaaaDoor
