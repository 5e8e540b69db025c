/- How many instructions at most, in numbers: who comes to whom, loops, the worst of each. No program. · Who comes to whom, found round by round. No program. · The worst, found round by round. No program. · The way of the worst, in numbers. No program. · The chapter's small programs: their worst and their ways, reckoned. No program. -/
import Derived.Test.YtjoiogdckbaeaaaDoorFlowM
namespace Go.Proofs.YtjoiogdckbaeaaaDoor
namespace Cst
open Isa Flw
set_option linter.unusedVariables false
set_option linter.unusedSimpArgs false
/-- from n one comes to m, by a step or more -/
inductive To (l : List Iv) : Nat → Nat → Prop
  | one {n m : Nat} : m ∈ behL l n → To l n m
  | more {n m k : Nat} : To l n m → k ∈ behL l m → To l n k
theorem To.ahead {l : List Iv} {n m k : Nat} (h : m ∈ behL l n) (h2 : To l m k) : To l n k := by
  induction h2 with
  | one hk => exact .more (.one h) hk
  | more _ hk ih => exact .more ih hk
theorem To.trans {l : List Iv} {n m k : Nat} (h : To l n m) (h2 : To l m k) : To l n k := by
  induction h2 with
  | one hk => exact .more h hk
  | more _ hk ih => exact .more ih hk
theorem To.lt {l : List Iv} (hf : Fine l) (hw : ∀ i ∈ l, i.wf) {n m : Nat} (hn : n < l.length) (h : To l n m) : m < l.length := by
  induction h with
  | one hm => exact beh_lt hf hw hn hm
  | more _ hk ih => exact beh_lt hf hw ih hk
theorem To.come {l : List Iv} {n m : Nat} (hn : Come l n) (h : To l n m) : Come l m := by
  induction h with
  | one hm => exact .step hn hm
  | more _ hk ih => exact .step ih hk
open Classical in
noncomputable def toB (l : List Iv) (n m : Nat) : Bool := decide (To l n m)
theorem toB_iff {l : List Iv} {n m : Nat} : toB l n m = true ↔ To l n m := by unfold toB; simp
/-- does one come to it again? -/
noncomputable def agB (l : List Iv) (n : Nat) : Bool := toB l n n
/-- a program without a loop -/
def Free (l : List Iv) : Prop := ∀ n, n < l.length → comeB l n = true → agB l n = false
noncomputable def lpB (l : List Iv) (n : Nat) : Bool := comeB l n && agB l n
noncomputable def lpK (l : List Iv) : Nat := first (lpB l) l.length
noncomputable def rank (l : List Iv) (n : Nat) : Nat := ((List.range l.length).filter (toB l n)).length
theorem rank_le (l : List Iv) (n : Nat) : rank l n ≤ l.length := by
  have := List.length_filter_le (toB l n) (List.range l.length)
  simpa [rank] using this
theorem filter_lt {p q : Nat → Bool} : ∀ (r : List Nat), (∀ x ∈ r, p x = true → q x = true) → (∃ x ∈ r, q x = true ∧ p x = false) → (r.filter p).length < (r.filter q).length
  | [], _, h => by obtain ⟨x, hx, _⟩ := h; simp at hx
  | a :: r, h, hx => by
    have hle : (r.filter p).length ≤ (r.filter q).length := by
      have : ∀ (r : List Nat), (∀ x ∈ r, p x = true → q x = true) → (r.filter p).length ≤ (r.filter q).length := by
        intro r
        induction r with
        | nil => intro _; simp
        | cons b t ih =>
          intro hb
          have i := ih fun x hx => hb x (by simp [hx])
          rw [List.filter_cons, List.filter_cons]
          split
          · rename_i e
            rw [if_pos (hb b (by simp) e)]
            simp; exact i
          · split
            · simp; omega
            · exact i
      exact this r fun x hx => h x (by simp [hx])
    rw [List.filter_cons, List.filter_cons]
    obtain ⟨x, hx, h1, h2⟩ := hx
    rcases List.mem_cons.1 hx with rfl | hx
    · rw [if_neg (by rw [h2]; simp), if_pos h1]
      simp; omega
    · have i := filter_lt r (fun x hx => h x (by simp [hx])) ⟨x, hx, h1, h2⟩
      split
      · rename_i e
        rw [if_pos (h a (by simp) e)]
        simp; exact i
      · split
        · simp; omega
        · exact i
theorem rank_down {l : List Iv} (hf : Fine l) (hw : ∀ i ∈ l, i.wf) (hfr : Free l) {n m : Nat} (hn : Come l n) (hm : m ∈ behL l n) : rank l m < rank l n := by
  have hml := beh_lt hf hw (come_lt hf hw hn) hm
  refine filter_lt _ (fun x _ hx => toB_iff.2 (To.ahead hm (toB_iff.1 hx))) ⟨m, List.mem_range.2 hml, toB_iff.2 (.one hm), ?_⟩
  exact hfr m hml (comeB_iff.2 (.step hn hm))
/-! ### The worst -/
/-- the greatest of these -/
def maxL (f : Nat → Nat) : List Nat → Nat
  | [] => 0
  | m :: r => max (f m) (maxL f r)
theorem maxL_congr {f g : Nat → Nat} : ∀ {ms : List Nat}, (∀ m ∈ ms, f m = g m) → maxL f ms = maxL g ms
  | [], _ => rfl
  | m :: r, h => by unfold maxL; rw [h m (by simp), maxL_congr fun x hx => h x (by simp [hx])]
theorem maxL_ge {f : Nat → Nat} : ∀ {ms : List Nat} {m : Nat}, m ∈ ms → f m ≤ maxL f ms
  | a :: r, m, h => by
    unfold maxL
    rcases List.mem_cons.1 h with rfl | h
    · omega
    · have := maxL_ge (f := f) h; omega
theorem maxL_le {f : Nat → Nat} {B : Nat} : ∀ {ms : List Nat}, (∀ m ∈ ms, f m ≤ B) → maxL f ms ≤ B
  | [], _ => Nat.zero_le _
  | a :: r, h => by
    unfold maxL
    have := maxL_le (f := f) (B := B) (ms := r) fun x hx => h x (by simp [hx])
    have := h a (by simp)
    omega
theorem maxL_at {f : Nat → Nat} : ∀ {ms : List Nat}, ms ≠ [] → ∃ m ∈ ms, maxL f ms = f m
  | [a], _ => ⟨a, by simp, by unfold maxL; unfold maxL; omega⟩
  | a :: b :: r, _ => by
    obtain ⟨m, hm, e⟩ := maxL_at (f := f) (ms := b :: r) (by simp)
    unfold maxL
    by_cases q : maxL f (b :: r) ≤ f a
    · exact ⟨a, by simp, by omega⟩
    · exact ⟨m, by simp only [List.mem_cons] at hm ⊢; exact .inr hm, by omega⟩
def wsF (l : List Iv) : Nat → Nat → Nat
  | 0, _ => 0
  | f + 1, n => 1 + maxL (wsF l f) (behL l n)
/-- the worst of n -/
def ws (l : List Iv) (n : Nat) : Nat := wsF l (l.length + 1) n
theorem wsF_more {l : List Iv} (hf : Fine l) (hw : ∀ i ∈ l, i.wf) (hfr : Free l) : ∀ (f n : Nat), Come l n → rank l n < f → wsF l f n = wsF l (f + 1) n
  | 0, n, _, h => by omega
  | f + 1, n, hc, h => by
    show 1 + maxL (wsF l f) (behL l n) = 1 + maxL (wsF l (f + 1)) (behL l n)
    rw [maxL_congr fun m hm => wsF_more hf hw hfr f m (.step hc hm) (by have := rank_down hf hw hfr hc hm; omega)]
theorem wsF_all {l : List Iv} (hf : Fine l) (hw : ∀ i ∈ l, i.wf) (hfr : Free l) {n : Nat} (hc : Come l n) : ∀ d, wsF l (rank l n + 1 + d) n = wsF l (rank l n + 1) n
  | 0 => rfl
  | d + 1 => by
    rw [← wsF_all hf hw hfr hc d]
    exact (wsF_more hf hw hfr (rank l n + 1 + d) n hc (by omega)).symm
theorem ws_eq {l : List Iv} (hf : Fine l) (hw : ∀ i ∈ l, i.wf) (hfr : Free l) {n : Nat} (hc : Come l n) : ws l n = 1 + maxL (ws l) (behL l n) := by
  show 1 + maxL (wsF l l.length) (behL l n) = _
  congr 1
  refine maxL_congr fun m hm => ?_
  have hd := rank_down hf hw hfr hc hm
  have hr := rank_le l n
  exact wsF_more hf hw hfr l.length m (.step hc hm) (by omega)
theorem wsF_le {l : List Iv} (hf : Fine l) (hw : ∀ i ∈ l, i.wf) (hfr : Free l) : ∀ (f n : Nat), Come l n → wsF l f n ≤ rank l n + 1
  | 0, n, _ => by unfold wsF; omega
  | f + 1, n, hc => by
    show 1 + maxL (wsF l f) (behL l n) ≤ _
    have : maxL (wsF l f) (behL l n) ≤ rank l n := maxL_le fun m hm => by
      have := wsF_le hf hw hfr f m (.step hc hm)
      have := rank_down hf hw hfr hc hm
      omega
    omega
theorem ws_le {l : List Iv} (hf : Fine l) (hw : ∀ i ∈ l, i.wf) (hfr : Free l) {n : Nat} (hc : Come l n) : ws l n ≤ l.length + 1 := by
  have := wsF_le hf hw hfr (l.length + 1) n hc
  have := rank_le l n
  unfold ws; omega
theorem ws_pos (l : List Iv) (n : Nat) : 0 < ws l n := by show 0 < 1 + _; omega
/-- numbers that are each one more than the greatest behind are the worst -/
theorem ws_is {l : List Iv} (hf : Fine l) (hw : ∀ i ∈ l, i.wf) (hfr : Free l) (W : Nat → Nat) (h : ∀ n, Come l n → W n = 1 + maxL W (behL l n)) : ∀ n, Come l n → W n = ws l n := by
  have key : ∀ r n, rank l n < r → Come l n → W n = ws l n := by
    intro r
    induction r with
    | zero => intro n h; omega
    | succ r ih =>
      intro n hr hc
      rw [h n hc, ws_eq hf hw hfr hc]
      congr 1
      exact maxL_congr fun m hm => ih m (by have := rank_down hf hw hfr hc hm; omega) (.step hc hm)
  intro n hc
  exact key (rank l n + 1) n (by omega) hc
/-! ### What From tells -/
noncomputable def frE (l : List Iv) : Int := if chkE l ≠ 0 then chkE l else if lpK l < l.length then 130 else 0
noncomputable def frN (l : List Iv) : Nat := if chkE l ≠ 0 then chkN l else if lpK l < l.length then lpK l else 0
noncomputable def frW (l : List Iv) : List Nat := if frE l = 0 then (List.range l.length).map (fun n => if comeB l n then ws l n else 0) else []
theorem fr_free {l : List Iv} (h : frE l = 0) : Fine l ∧ Free l := by
  unfold frE at h
  split at h
  · rename_i q; exact absurd h q
  · rename_i q
    split at h
    · exact absurd h (by decide)
    · rename_i q2
      refine ⟨fine_of (by simpa using q), fun n hn hc => ?_⟩
      have := first_miss (p := lpB l) (n := l.length) (t := n) (by unfold lpK at q2; omega)
      unfold lpB at this
      rw [hc] at this
      simpa using this
theorem fr_of {l : List Iv} (hf : Fine l) (hfr : Free l) : frE l = 0 ∧ frN l = 0 := by
  have e : lpK l = l.length := first_none fun n hn => by
    unfold lpB
    cases hc : comeB l n with
    | false => rfl
    | true => rw [hfr n hn hc]; rfl
  have hz := (chk_of hf).1
  unfold frE frN
  rw [hz, e, if_neg (by simp), if_neg (Nat.lt_irrefl _), if_neg (by simp), if_neg (Nat.lt_irrefl _)]
  exact ⟨rfl, rfl⟩
/-! ### There is an order just where there is no loop -/
theorem order_free {l : List Iv} (hf : Fine l) (hw : ∀ i ∈ l, i.wf) (h : (ordA l).2 = true) : Free l := by
  obtain ⟨ht, ha⟩ := ord_told h
  intro n hn hc
  cases e : agB l n with
  | false => rfl
  | true =>
    have key : ∀ m, To l n m → ∀ i, (ordA l).1[i]? = some n → ∀ j, (ordA l).1[j]? = some m → i < j := fun m hm => by
      induction hm with
      | one hm => intro i hi j hj; exact ht.edge i j _ _ hi hj hm
      | @more m k hnm hk ih =>
        intro i hi j hj
        have hcm : Come l m := To.come (comeB_iff.1 hc) hnm
        have hmem := allT_true.1 ha m (come_lt hf hw hcm) (comeB_iff.2 hcm)
        obtain ⟨t, ht', et⟩ := List.getElem_of_mem hmem
        have e1 : (ordA l).1[t]? = some m := by rw [List.getElem?_eq_getElem ht', et]
        have := ih i hi t e1
        have := ht.edge t j _ _ e1 hj hk
        omega
    have hmem := allT_true.1 ha n hn hc
    obtain ⟨t, ht', et⟩ := List.getElem_of_mem hmem
    have e1 : (ordA l).1[t]? = some n := by rw [List.getElem?_eq_getElem ht', et]
    have := key n (toB_iff.1 e) t e1 t e1
    omega
theorem ordGo_free {l : List Iv} (hf : Fine l) (hw : ∀ i ∈ l, i.wf) (hfr : Free l) : ∀ (f : Nat) (T : List Nat), Flw.Told l T → l.length < f + T.length → (ordGo l f T).2 = true
  | 0, T, ht, h => by have := told_len ht; omega
  | f + 1, T, ht, h => by
    unfold ordGo
    split
    · rfl
    · rename_i hna
      have hex : ∃ n, n < l.length ∧ cand l T n = true := by
        have h1 : ∃ n, n < l.length ∧ comeB l n = true ∧ n ∉ T := by
          apply Classical.byContradiction
          intro hno
          apply hna
          exact allT_true.2 fun p hp hc => Classical.byContradiction fun hp2 => hno ⟨p, hp, hc, hp2⟩
        have key : ∀ r n, n < l.length → comeB l n = true → n ∉ T → l.length < rank l n + r → ∃ n, n < l.length ∧ cand l T n = true := by
          intro r
          induction r with
          | zero => intro n _ _ _ h; have := rank_le l n; omega
          | succ r ih =>
            intro n hn hc hnt hr
            cases hwt : waitB l T n with
            | false => exact ⟨n, hn, by unfold cand; rw [hc, hwt]; simpa using hnt⟩
            | true =>
              have : ¬ ∀ p, p < l.length → comeB l p = true → n ∈ behL l p → p ∈ T := fun q => by
                rw [waitB_false.2 q] at hwt; cases hwt
              obtain ⟨p, hp, hpc, hpn, hpt⟩ : ∃ p, p < l.length ∧ comeB l p = true ∧ n ∈ behL l p ∧ p ∉ T := by
                apply Classical.byContradiction
                intro hno
                exact this fun p hp hpc hpn => Classical.byContradiction fun hpt => hno ⟨p, hp, hpc, hpn, hpt⟩
              have := rank_down hf hw hfr (comeB_iff.1 hpc) hpn
              exact ih p hp hpc hpt (by omega)
        obtain ⟨n, hn, hc, hnt⟩ := h1
        exact key (l.length + 1) n hn hc hnt (by omega)
      obtain ⟨n, hn, hc⟩ := hex
      have hlt : first (cand l T) l.length < l.length := by
        rcases Nat.lt_or_ge (first (cand l T) l.length) l.length with q | q
        · exact q
        · have := first_miss (p := cand l T) (n := l.length) (t := n) (by omega)
          rw [hc] at this; cases this
      rw [if_pos hlt]
      exact ordGo_free hf hw hfr f _ (told_add ht hlt (first_hit hlt)) (by rw [List.length_append, List.length_singleton]; omega)
theorem free_order {l : List Iv} (hf : Fine l) (hw : ∀ i ∈ l, i.wf) (hfr : Free l) : (ordA l).2 = true := by
  unfold ordA
  rw [if_pos (chk_of hf).1]
  exact ordGo_free hf hw hfr _ _ (told_nil l) (by simp)
end Cst
end Go.Proofs.YtjoiogdckbaeaaaDoor
namespace Go.Proofs.YtjoiogdckbaeaaaDoor
namespace Cst
open Isa Flw
set_option linter.unusedVariables false
set_option linter.unusedSimpArgs false
/-- what stands between two instructions of a round that began with B0 -/
structure MidP (P : Nat → Prop) (l : List Iv) (B0 B : List Bool) (n k : Nat) (mb : Bool) : Prop where
  len : B.length = n
  mono : ∀ j, B0.getD j false = true → B.getD j false = true
  sound : ∀ j, B.getD j false = true → P j
  quiet : mb = false → B = B0 ∧ ∀ t, t < k → B0.getD t false = true → ∀ m ∈ behL l t, B0.getD m false = true
  moved : mb = true → fcount B < fcount B0
/-- and in the middle of instruction t -/
structure InnP (P : Nat → Prop) (l : List Iv) (B0 B : List Bool) (n t j : Nat) (mb : Bool) : Prop where
  len : B.length = n
  mono : ∀ j, B0.getD j false = true → B.getD j false = true
  sound : ∀ j, B.getD j false = true → P j
  quiet : mb = false → B = B0 ∧ (∀ t', t' < t → B0.getD t' false = true → ∀ m ∈ behL l t', B0.getD m false = true) ∧ ∀ i, i < j → B0.getD ((behL l t).getD i 0) false = true
  moved : mb = true → fcount B < fcount B0
theorem MidP.start {P : Nat → Prop} {l : List Iv} {B : List Bool} {n : Nat} (h : B.length = n) (hs : ∀ j, B.getD j false = true → P j) : MidP P l B B n 0 false :=
  ⟨h, fun _ h => h, hs, fun _ => ⟨rfl, fun t ht => by omega⟩, fun h => by cases h⟩
theorem MidP.inn {P : Nat → Prop} {l : List Iv} {B0 B : List Bool} {n t : Nat} {mb : Bool} (h : MidP P l B0 B n t mb) : InnP P l B0 B n t 0 mb :=
  ⟨h.len, h.mono, h.sound, fun e => ⟨(h.quiet e).1, (h.quiet e).2, fun i hi => by omega⟩, h.moved⟩
theorem InnP.step {P : Nat → Prop} {l : List Iv} {B0 B : List Bool} {n t j : Nat} {mb : Bool} (h : InnP P l B0 B n t j mb) (hj : j < (behL l t).length) (hm : (behL l t).getD j 0 < n) (ht : B.getD t false = true) (hcl : P t → P ((behL l t).getD j 0)) :
    InnP P l B0 (B.set ((behL l t).getD j 0) true) n t (j + 1) (mb || !B.getD ((behL l t).getD j 0) false) := by
  have hmem : (behL l t).getD j 0 ∈ behL l t := by
    rw [List.getD_eq_getElem?_getD, List.getElem?_eq_getElem hj]; simp
  have hml : (behL l t).getD j 0 < B.length := by rw [h.len]; exact hm
  refine ⟨by rw [List.length_set]; exact h.len, fun i hi => ?_, fun i hi => ?_, fun e => ?_, fun e => ?_⟩
  · rw [getD_set hml]
    split
    · rfl
    · exact h.mono i hi
  · rw [getD_set hml] at hi
    split at hi
    · rename_i e
      rw [← e]
      exact hcl (h.sound t ht)
    · exact h.sound i hi
  · simp only [Bool.or_eq_false_iff, Bool.not_eq_false'] at e
    obtain ⟨e1, e2⟩ := e
    obtain ⟨q1, q2, q3⟩ := h.quiet e1
    refine ⟨by rw [set_same _ _ e2]; exact q1, q2, fun i hi => ?_⟩
    by_cases e : i = j
    · rw [e, ← q1]; exact e2
    · exact q3 i (by omega)
  · have hc := fcount_set B _ hml
    cases mb with
    | true =>
      have := h.moved rfl
      omega
    | false =>
      obtain ⟨q1, _, _⟩ := h.quiet rfl
      simp only [Bool.false_or, Bool.not_eq_true'] at e
      rw [e] at hc
      rw [← q1]
      simp only [Bool.false_eq_true, if_false] at hc
      omega
theorem InnP.done {P : Nat → Prop} {l : List Iv} {B0 B : List Bool} {n t j : Nat} {mb : Bool} (h : InnP P l B0 B n t j mb) (he : (behL l t).length ≤ j ∨ B.getD t false = false) : MidP P l B0 B n (t + 1) mb := by
  refine ⟨h.len, h.mono, h.sound, fun e => ?_, h.moved⟩
  obtain ⟨q1, q2, q3⟩ := h.quiet e
  refine ⟨q1, fun t' ht' hb m hm => ?_⟩
  by_cases e : t' = t
  · subst e
    rcases he with he | he
    · obtain ⟨i, hi, rfl⟩ := List.getElem_of_mem hm
      have := q3 i (by omega)
      have e2 : (behL l t').getD i 0 = (behL l t')[i] := by rw [List.getD_eq_getElem?_getD, List.getElem?_eq_getElem hi]; rfl
      rwa [e2] at this
    · rw [q1] at he
      rw [hb] at he
      cases he
  · exact q2 t' (by omega) hb m hm
/-- the bools of those that n comes to, once they are closed -/
theorem MidP.to {l : List Iv} {B0 B : List Bool} {n s : Nat} (h : MidP (To l s) l B0 B n n false) (hs : ∀ m ∈ behL l s, B0.getD m false = true) (hlt : ∀ m, To l s m → m < n) : B0.getD s false = agB l s := by
  obtain ⟨q1, q2⟩ := h.quiet rfl
  subst q1
  have key : ∀ m, To l s m → B.getD m false = true := fun m hm => by
    induction hm with
    | one hm => exact hs _ hm
    | more hnm hk ih => exact q2 _ (hlt _ hnm) ih _ hk
  cases e : B.getD s false with
  | true => exact (toB_iff.2 (h.sound s e)).symm
  | false =>
    cases e2 : agB l s with
    | false => rfl
    | true => rw [key s (toB_iff.1 e2)] at e; cases e
/-- the bools set one by one -/
structure Set1 (nx : List Nat) (B : List Bool) (n j : Nat) : Prop where
  len : B.length = n
  is : ∀ x, x < n → (B.getD x false = true ↔ ∃ i, i < j ∧ nx.getD i 0 = x)
theorem Set1.start (nx : List Nat) (n : Nat) : Set1 nx (List.replicate n false) n 0 := by
  refine ⟨List.length_replicate, fun x hx => ?_⟩
  rw [List.getD_eq_getElem?_getD, List.getElem?_replicate, if_pos hx]
  constructor
  · intro h; cases h
  · rintro ⟨i, hi, _⟩; omega
theorem Set1.step {nx : List Nat} {B : List Bool} {n j : Nat} (h : Set1 nx B n j) (hm : nx.getD j 0 < n) : Set1 nx (B.set (nx.getD j 0) true) n (j + 1) := by
  refine ⟨by rw [List.length_set]; exact h.len, fun x hx => ?_⟩
  rw [getD_set (by rw [h.len]; exact hm)]
  constructor
  · intro q
    split at q
    · rename_i e; exact ⟨j, by omega, e⟩
    · obtain ⟨i, hi, e⟩ := (h.is x hx).1 q
      exact ⟨i, by omega, e⟩
  · rintro ⟨i, hi, e⟩
    split
    · rfl
    · rename_i ne
      refine (h.is x hx).2 ⟨i, ?_, e⟩
      by_cases e2 : i = j
      · rw [e2] at e; exact absurd e ne
      · omega
end Cst
end Go.Proofs.YtjoiogdckbaeaaaDoor
namespace Go.Proofs.YtjoiogdckbaeaaaDoor
namespace Cst
open Isa Flw
set_option linter.unusedVariables false
set_option linter.unusedSimpArgs false
def wf (W : List Nat) (n : Nat) : Nat := W.getD n 0
theorem wf_set {W : List Nat} {k v : Nat} (hk : k < W.length) (j : Nat) : wf (W.set k v) j = if k = j then v else wf W j := by
  unfold wf
  rw [List.getD_eq_getElem?_getD, List.getElem?_set, List.getD_eq_getElem?_getD]
  split
  · rfl
  · rfl
theorem maxL_mono {f g : Nat → Nat} (h : ∀ m, f m ≤ g m) : ∀ ms, maxL f ms ≤ maxL g ms
  | [] => Nat.le_refl _
  | m :: r => by
    unfold maxL
    have := maxL_mono h r
    have := h m
    omega
theorem maxL_mono' {f g : Nat → Nat} : ∀ {ms : List Nat}, (∀ m ∈ ms, f m ≤ g m) → maxL f ms ≤ maxL g ms
  | [], _ => Nat.le_refl _
  | m :: r, h => by
    unfold maxL
    have := maxL_mono' (f := f) (g := g) (ms := r) fun x hx => h x (by simp [hx])
    have := h m (by simp)
    omega
theorem maxL_app (f : Nat → Nat) (m : Nat) : ∀ ms, maxL f (ms ++ [m]) = max (maxL f ms) (f m)
  | [] => by show max (f m) 0 = max 0 (f m); omega
  | a :: r => by
    rw [List.cons_append]
    unfold maxL
    rw [maxL_app f m r]
    omega
theorem maxL_take (f : Nat → Nat) {ms : List Nat} {j : Nat} (hj : j < ms.length) : maxL f (ms.take (j + 1)) = max (maxL f (ms.take j)) (f (ms.getD j 0)) := by
  rw [List.take_add_one, List.getElem?_eq_getElem hj, Option.toList_some, maxL_app, List.getD_eq_getElem?_getD, List.getElem?_eq_getElem hj]
  rfl
theorem sum_set : ∀ (W : List Nat) (k v : Nat), k < W.length → (W.set k v).sum + wf W k = W.sum + v
  | [], k, v, h => by simp at h
  | a :: r, 0, v, _ => by simp [wf]; omega
  | a :: r, k + 1, v, h => by
    have := sum_set r k v (by simpa using h)
    simp only [List.set_cons_succ, List.sum_cons, wf, List.getD_cons_succ] at this ⊢
    omega
theorem sum_le {B : Nat} : ∀ (W : List Nat), (∀ n, n < W.length → wf W n ≤ B) → W.sum ≤ W.length * B
  | [], _ => by simp
  | a :: r, h => by
    have h0 := h 0 (by simp)
    have := sum_le (B := B) r fun n hn => by have := h (n + 1) (by simpa using hn); simpa [wf] using this
    simp only [wf, List.getD_cons_zero] at h0
    rw [List.sum_cons, List.length_cons, Nat.succ_mul]
    omega
/-- what stands in the numbers, always -/
structure Pre (l : List Iv) (W : List Nat) : Prop where
  len : W.length = l.length
  up : ∀ n, Come l n → wf W n ≤ 1 + maxL (wf W) (behL l n)
  le : ∀ n, Come l n → wf W n ≤ ws l n
  no : ∀ n, n < l.length → comeB l n = false → wf W n = 0
theorem rep_zero (n k : Nat) : wf (List.replicate n 0) k = 0 := by
  unfold wf
  rw [List.getD_eq_getElem?_getD, List.getElem?_replicate]
  split <;> rfl
theorem Pre.start (l : List Iv) : Pre l (List.replicate l.length 0) :=
  ⟨List.length_replicate, fun n _ => by rw [rep_zero]; omega, fun n _ => by rw [rep_zero]; omega, fun n _ _ => rep_zero _ _⟩
theorem Pre.ge {l : List Iv} {W : List Nat} (h : Pre l W) {t : Nat} (ht : t < l.length) (hc : Come l t) : ∀ j, wf W j ≤ wf (W.set t (1 + maxL (wf W) (behL l t))) j := fun j => by
  rw [wf_set (by rw [h.len]; exact ht)]
  split
  · rename_i e; subst e; exact h.up t hc
  · exact Nat.le_refl _
theorem Pre.set {l : List Iv} (hf : Fine l) (hw : ∀ i ∈ l, i.wf) (hfr : Free l) {W : List Nat} (h : Pre l W) {t : Nat} (ht : t < l.length) (hc : Come l t) : Pre l (W.set t (1 + maxL (wf W) (behL l t))) := by
  have hge := h.ge ht hc
  have hs : ∀ j, wf (W.set t (1 + maxL (wf W) (behL l t))) j = if t = j then 1 + maxL (wf W) (behL l t) else wf W j := fun j => wf_set (by rw [h.len]; exact ht) j
  refine ⟨by rw [List.length_set]; exact h.len, fun n hn => ?_, fun n hn => ?_, fun n hn q => ?_⟩
  · have hm := maxL_mono hge (behL l n)
    rw [hs n]
    split
    · rename_i e; subst e; omega
    · have := h.up n hn; omega
  · rw [hs n]
    split
    · rename_i e; subst e
      rw [ws_eq hf hw hfr hn]
      have := maxL_mono' (f := wf W) (g := ws l) (ms := behL l t) fun m hm => h.le m (.step hn hm)
      omega
    · exact h.le n hn
  · rw [hs n]
    split
    · rename_i e; subst e; rw [comeB_iff.2 hc] at q; cases q
    · exact h.no n hn q
/-- what stands between two instructions of a round that began with W0 -/
structure Rnd (l : List Iv) (W0 W : List Nat) (t : Nat) (mb : Bool) : Prop where
  pre : Pre l W
  quiet : mb = false → W = W0 ∧ ∀ s, s < t → comeB l s = true → wf W0 s = 1 + maxL (wf W0) (behL l s)
  moved : mb = true → W0.sum < W.sum
  grow : W0.sum ≤ W.sum
theorem Rnd.start {l : List Iv} {W : List Nat} (h : Pre l W) : Rnd l W W 0 false := ⟨h, fun _ => ⟨rfl, fun s hs => by omega⟩, (fun e => by cases e), Nat.le_refl _⟩
theorem Rnd.skip {l : List Iv} {W0 W : List Nat} {t : Nat} {mb : Bool} (h : Rnd l W0 W t mb) (hc : comeB l t = false) : Rnd l W0 W (t + 1) mb := by
  refine ⟨h.pre, fun e => ?_, h.moved, h.grow⟩
  obtain ⟨q1, q2⟩ := h.quiet e
  refine ⟨q1, fun s hs hcs => ?_⟩
  by_cases e : s = t
  · subst e; rw [hc] at hcs; cases hcs
  · exact q2 s (by omega) hcs
theorem Rnd.step {l : List Iv} (hf : Fine l) (hw : ∀ i ∈ l, i.wf) (hfr : Free l) {W0 W : List Nat} {t : Nat} {mb : Bool} (h : Rnd l W0 W t mb) (ht : t < l.length) (hc : comeB l t = true) :
    Rnd l W0 (W.set t (1 + maxL (wf W) (behL l t))) (t + 1) (mb || (1 + maxL (wf W) (behL l t) != wf W t)) := by
  have hct := comeB_iff.1 hc
  have hu := h.pre.up t hct
  have hsum := sum_set W t (1 + maxL (wf W) (behL l t)) (by rw [h.pre.len]; exact ht)
  refine ⟨h.pre.set hf hw hfr ht hct, fun e => ?_, fun e => ?_, ?_⟩
  · simp only [Bool.or_eq_false_iff, bne_eq_false_iff_eq] at e
    obtain ⟨e1, e2⟩ := e
    obtain ⟨q1, q2⟩ := h.quiet e1
    have hself : W.set t (1 + maxL (wf W) (behL l t)) = W := by
      rw [e2]
      apply List.ext_getElem
      · simp
      · intro i h1 h2
        rw [List.getElem_set]
        split
        · rename_i e; subst e
          unfold wf
          rw [List.getD_eq_getElem?_getD, List.getElem?_eq_getElem h2]; rfl
        · rfl
    rw [hself]
    refine ⟨q1, fun s hs hcs => ?_⟩
    by_cases e : s = t
    · subst e; rw [← q1]; exact e2.symm
    · exact q2 s (by omega) hcs
  · have := h.grow
    cases mb with
    | true => have := h.moved rfl; omega
    | false =>
      simp only [Bool.false_or, bne_iff_ne, ne_eq] at e
      omega
  · have := h.grow; omega
theorem Rnd.done {l : List Iv} (hf : Fine l) (hw : ∀ i ∈ l, i.wf) (hfr : Free l) {W0 W : List Nat} (h : Rnd l W0 W l.length false) : W0 = frW l := by
  obtain ⟨q1, q2⟩ := h.quiet rfl
  subst q1
  have hk := ws_is hf hw hfr (wf W) fun n hn => q2 n (come_lt hf hw hn) (comeB_iff.2 hn)
  unfold frW
  rw [if_pos (fr_of hf hfr).1]
  apply List.ext_getElem
  · simp [h.pre.len]
  · intro i h1 h2
    have hi : i < l.length := by rw [← h.pre.len]; exact h1
    have e : W[i] = wf W i := by unfold wf; rw [List.getD_eq_getElem?_getD, List.getElem?_eq_getElem h1]; rfl
    simp only [List.getElem_map, List.getElem_range]
    rw [e]
    cases hc : comeB l i with
    | true => rw [if_pos rfl]; exact hk i (comeB_iff.1 hc)
    | false => rw [if_neg (by simp)]; exact h.pre.no i hi hc
theorem Pre.small {l : List Iv} (hf : Fine l) (hw : ∀ i ∈ l, i.wf) (hfr : Free l) {W : List Nat} (h : Pre l W) : ∀ n, n < l.length → wf W n ≤ l.length + 1 := fun n hn => by
  cases hc : comeB l n with
  | true => have := h.le n (comeB_iff.1 hc); have := ws_le hf hw hfr (comeB_iff.1 hc); omega
  | false => rw [h.no n hn hc]; omega
theorem Pre.sum {l : List Iv} (hf : Fine l) (hw : ∀ i ∈ l, i.wf) (hfr : Free l) {W : List Nat} (h : Pre l W) : W.sum ≤ l.length * (l.length + 1) := by
  have := sum_le (B := l.length + 1) W fun n hn => h.small hf hw hfr n (by rw [← h.len]; exact hn)
  rwa [h.len] at this
theorem lp_none {l : List Iv} (h : ∀ t, t < l.length → lpB l t = false) : Free l := fun n hn hc => by
  have := h n hn
  unfold lpB at this
  rw [hc] at this
  simpa using this
theorem fr_loop {l : List Iv} (hf : Fine l) {k : Nat} (hk : k < l.length) (hn : ∀ t, t < k → lpB l t = false) (h : lpB l k = true) : frE l = 130 ∧ frN l = k ∧ frW l = [] := by
  have e : lpK l = k := first_at hk hn h
  have hE : frE l = 130 := by
    unfold frE
    rw [(chk_of hf).1, if_neg (by simp), e, if_pos hk]
  refine ⟨hE, ?_, ?_⟩
  · unfold frN
    rw [(chk_of hf).1, if_neg (by simp), e, if_pos hk]
  · unfold frW
    rw [hE]; rfl
theorem fr_bad {l : List Iv} (h : chkE l ≠ 0) : frE l = chkE l ∧ frN l = chkN l ∧ frW l = [] := by
  have hE : frE l = chkE l := by unfold frE; rw [if_pos h]
  refine ⟨hE, by unfold frN; rw [if_pos h], ?_⟩
  unfold frW
  rw [hE, if_neg h]
end Cst
end Go.Proofs.YtjoiogdckbaeaaaDoor
namespace Go.Proofs.YtjoiogdckbaeaaaDoor
namespace Cst
open Isa Flw
set_option linter.unusedVariables false
set_option linter.unusedSimpArgs false
/-- the first one behind n that has the greatest worst -/
def bst (l : List Iv) (n : Nat) : Nat := ((behL l n).find? (fun m => decide (ws l m = maxL (ws l) (behL l n)))).getD 0
def pthGo (l : List Iv) : Nat → Nat → List Nat
  | 0, _ => []
  | f + 1, n => n :: pthGo l f (bst l n)
/-- from n on, always the first one of the greatest worst -/
noncomputable def pth (l : List Iv) : List Nat := if frE l = 0 then pthGo l (ws l 0) 0 else []
theorem pthGo_len (l : List Iv) : ∀ f n, (pthGo l f n).length = f
  | 0, _ => rfl
  | f + 1, n => by unfold pthGo; rw [List.length_cons, pthGo_len l f]
theorem bst_mem {l : List Iv} {n : Nat} (h : behL l n ≠ []) : bst l n ∈ behL l n ∧ ws l (bst l n) = maxL (ws l) (behL l n) := by
  obtain ⟨m, hm, e⟩ := maxL_at (f := ws l) h
  unfold bst
  cases hf : (behL l n).find? (fun m => decide (ws l m = maxL (ws l) (behL l n))) with
  | none =>
    have := List.find?_eq_none.1 hf m hm
    simp [e] at this
  | some k =>
    refine ⟨List.mem_of_find?_eq_some hf, ?_⟩
    have := List.find?_some hf
    simpa using this
/-- the first one behind n is taken, or it has a lesser worst -/
theorem bst_head {l : List Iv} {n : Nat} (h : behL l n ≠ []) : (behL l n).getD 0 0 = bst l n ∨ ws l ((behL l n).getD 0 0) < ws l (bst l n) := by
  have hb := (bst_mem h).2
  rw [hb]
  cases hl : behL l n with
  | nil => exact absurd hl h
  | cons a r =>
    show a = bst l n ∨ ws l a < _
    by_cases q : ws l a = maxL (ws l) (a :: r)
    · left
      unfold bst
      rw [hl, List.find?_cons_of_pos (by simpa using q)]
      rfl
    · right
      have := maxL_ge (f := ws l) (ms := a :: r) (m := a) (by simp)
      omega
/-- what stands at place i of the way -/
structure PAt (l : List Iv) (p : List Nat) (i : Nat) : Prop where
  come : Come l (p.getD i 0)
  left : ws l (p.getD i 0) + i = p.length
  last : i + 1 = p.length → behL l (p.getD i 0) = []
  more : i + 1 < p.length → behL l (p.getD i 0) ≠ [] ∧ p.getD (i + 1) 0 ∈ behL l (p.getD i 0) ∧ ws l (p.getD (i + 1) 0) = maxL (ws l) (behL l (p.getD i 0)) ∧
    ((behL l (p.getD i 0)).getD 0 0 = p.getD (i + 1) 0 ∨ ws l ((behL l (p.getD i 0)).getD 0 0) < ws l (p.getD (i + 1) 0))
theorem maxL_pos {f : Nat → Nat} {ms : List Nat} (h : ∀ m, 0 < f m) (hne : ms ≠ []) : 0 < maxL f ms := by
  obtain ⟨m, _, e⟩ := maxL_at (f := f) hne
  rw [e]; exact h m
theorem pthGo_at {l : List Iv} (hf : Fine l) (hw : ∀ i ∈ l, i.wf) (hfr : Free l) : ∀ (f n : Nat), Come l n → ws l n = f → ∀ i, i < f →
    Come l ((pthGo l f n).getD i 0) ∧ ws l ((pthGo l f n).getD i 0) + i = f ∧ (i + 1 < f → (pthGo l f n).getD (i + 1) 0 = bst l ((pthGo l f n).getD i 0))
  | 0, n, _, _ => fun i hi => by omega
  | f + 1, n, hc, e => fun i hi => by
    have hq := ws_eq hf hw hfr hc
    cases i with
    | zero =>
      refine ⟨by unfold pthGo; exact hc, by unfold pthGo; simpa using e, fun h => ?_⟩
      unfold pthGo
      show (pthGo l f (bst l n)).getD 0 0 = bst l n
      cases f with
      | zero => omega
      | succ f => unfold pthGo; rfl
    | succ i =>
      have hne : behL l n ≠ [] := fun q => by rw [q] at hq; unfold maxL at hq; omega
      obtain ⟨b1, b2⟩ := bst_mem hne
      have ih := pthGo_at hf hw hfr f (bst l n) (.step hc b1) (by omega) i (by omega)
      unfold pthGo
      show Come l ((pthGo l f (bst l n)).getD i 0) ∧ ws l ((pthGo l f (bst l n)).getD i 0) + (i + 1) = f + 1 ∧ (i + 1 + 1 < f + 1 → (pthGo l f (bst l n)).getD (i + 1) 0 = bst l ((pthGo l f (bst l n)).getD i 0))
      exact ⟨ih.1, by omega, fun h => ih.2.2 (by omega)⟩
theorem pth_at {l : List Iv} (hw : ∀ i ∈ l, i.wf) (h : frE l = 0) : (pth l).length = ws l 0 ∧ (pth l).getD 0 0 = 0 ∧ ∀ i, i < (pth l).length → PAt l (pth l) i := by
  obtain ⟨hf, hfr⟩ := fr_free h
  have e : pth l = pthGo l (ws l 0) 0 := by unfold pth; rw [if_pos h]
  have hl : (pth l).length = ws l 0 := by rw [e, pthGo_len]
  have h0 := ws_pos l 0
  refine ⟨hl, ?_, fun i hi => ?_⟩
  · rw [e]
    cases hq : ws l 0 with
    | zero => omega
    | succ f => unfold pthGo; rfl
  · rw [hl] at hi
    obtain ⟨h1, h2, h3⟩ := pthGo_at hf hw hfr (ws l 0) 0 .zero rfl i hi
    rw [← e] at h1 h2 h3
    have hq := ws_eq hf hw hfr h1
    refine ⟨h1, by rw [hl]; exact h2, fun q => ?_, fun q => ?_⟩
    · apply Classical.byContradiction
      intro hne
      have := maxL_pos (ws_pos l) hne
      omega
    · have hne : behL l ((pth l).getD i 0) ≠ [] := fun z => by rw [z] at hq; unfold maxL at hq; omega
      rw [h3 (by omega)]
      exact ⟨hne, (bst_mem hne).1, (bst_mem hne).2, bst_head hne⟩
theorem pth_err {l : List Iv} (h : frE l ≠ 0) : pth l = [] := by unfold pth; rw [if_neg h]
end Cst
end Go.Proofs.YtjoiogdckbaeaaaDoor
namespace Go.Proofs.YtjoiogdckbaeaaaDoor
namespace Cst
open Isa Flw
set_option linter.unusedVariables false
set_option linter.unusedSimpArgs false
def cA : List Iv := [⟨1, 0, 0, 0⟩, ⟨20, 0, 0, 4⟩, ⟨2, 0, 0, 0⟩, ⟨27, 0, 0, 0⟩, ⟨27, 0, 0, 0⟩]
def cB : List Iv := [⟨20, 0, 0, 1⟩, ⟨19, 0, 0, 0⟩]
def cC : List Iv := [⟨27, 0, 0, 0⟩, ⟨19, 0, 0, 1⟩]
def cD : List Iv := [⟨27, 0, 0, 0⟩]
/-- ways that only go ahead are in no loop -/
theorem free_ahead {l : List Iv} (h : ∀ n, Come l n → ∀ m ∈ behL l n, n < m) : Free l := by
  intro n hn hc
  have key : ∀ m, To l n m → n < m := fun m hm => by
    induction hm with
    | one hm => exact h n (comeB_iff.1 hc) _ hm
    | more hnm hk ih =>
      have := h _ (To.come (comeB_iff.1 hc) hnm) _ hk
      omega
  cases e : agB l n with
  | false => rfl
  | true => have := key n (toB_iff.1 e); omega
theorem wf_allc {l : List Iv} (h : l.all (fun i => decide (0 ≤ i.op ∧ i.op ≤ 255 ∧ 0 ≤ i.a ∧ i.a ≤ 255 ∧ 0 ≤ i.b ∧ i.b ≤ 65535 ∧ 0 ≤ i.c ∧ i.c ≤ 4294967295)) = true) : ∀ i ∈ l, i.wf := fun i hi => by
  rw [List.all_eq_true] at h
  have := h i hi
  simp only [decide_eq_true_eq] at this
  exact ⟨⟨this.1, this.2.1⟩, ⟨this.2.2.1, this.2.2.2.1⟩, ⟨this.2.2.2.2.1, this.2.2.2.2.2.1⟩, ⟨this.2.2.2.2.2.2.1, this.2.2.2.2.2.2.2⟩⟩
theorem wf_cA : ∀ i ∈ cA, i.wf := wf_allc (by decide +kernel)
theorem wf_cB : ∀ i ∈ cB, i.wf := wf_allc (by decide +kernel)
theorem wf_cC : ∀ i ∈ cC, i.wf := wf_allc (by decide +kernel)
theorem wf_cD : ∀ i ∈ cD, i.wf := wf_allc (by decide +kernel)
theorem fine_cA : Fine cA := fine_of (by decide +kernel)
theorem fine_cB : Fine cB := fine_of (by decide +kernel)
theorem fine_cC : Fine cC := fine_of (by decide +kernel)
theorem fine_cD : Fine cD := fine_of (by decide +kernel)
theorem come_cA : ∀ n, n < cA.length → (fun _ => true) n = comeB cA n :=
  come_is fine_cA wf_cA (fun _ => true) rfl (fun n hn _ => by
    have h1 : Come cA 1 := .step .zero (by decide +kernel)
    have h2 : Come cA 2 := .step h1 (by decide +kernel)
    have h3 : Come cA 3 := .step h2 (by decide +kernel)
    have h4 : Come cA 4 := .step h1 (by decide +kernel)
    match n, hn with
    | 0, _ => exact .zero
    | 1, _ => exact h1
    | 2, _ => exact h2
    | 3, _ => exact h3
    | 4, _ => exact h4) (fun _ _ _ _ _ => rfl)
theorem come_cC : ∀ n, n < cC.length → (fun n => n == 0) n = comeB cC n :=
  come_is fine_cC wf_cC (fun n => n == 0) rfl (fun n hn hp => by
    simp only [beq_iff_eq] at hp
    subst hp
    exact .zero) (fun n hn hp m hm => by
    simp only [beq_iff_eq] at hp
    subst hp
    have e : behL cC 0 = [] := by decide +kernel
    rw [e] at hm; simp at hm)
theorem free_cA : Free cA := free_ahead fun n hc m hm => by
  have hn := come_lt fine_cA wf_cA hc
  have key : ∀ n, n < 5 → ∀ m ∈ behL cA n, n < m := by decide +kernel
  exact key n hn m hm
theorem free_cC : Free cC := free_ahead fun n hc m hm => by
  have hn := come_lt fine_cC wf_cC hc
  have h0 := come_cC n hn
  rw [comeB_iff.2 hc] at h0
  have h1 : n = 0 := by simpa using h0
  subst h1
  have e : behL cC 0 = [] := by decide +kernel
  rw [e] at hm; simp at hm
theorem free_cD : Free cD := free_ahead fun n hc m hm => by
  have hn := come_lt fine_cD wf_cD hc
  have key : ∀ n, n < 1 → ∀ m ∈ behL cD n, n < m := by decide +kernel
  exact key n hn m hm
theorem fr_cA : frE cA = 0 ∧ frN cA = 0 := fr_of fine_cA free_cA
theorem fr_cC : frE cC = 0 ∧ frN cC = 0 := fr_of fine_cC free_cC
theorem fr_cD : frE cD = 0 ∧ frN cD = 0 := fr_of fine_cD free_cD
theorem frW_of {l : List Iv} (h : frE l = 0) (p : Nat → Bool) (hp : ∀ n, n < l.length → p n = comeB l n) : frW l = (List.range l.length).map (fun n => if p n = true then ws l n else 0) := by
  unfold frW
  rw [if_pos h]
  refine List.map_congr_left fun n hn => ?_
  rw [hp n (List.mem_range.1 hn)]
theorem frW_cA : frW cA = [4, 3, 2, 1, 1] := (frW_of fr_cA.1 _ come_cA).trans (by decide +kernel)
theorem frW_cC : frW cC = [1, 0] := (frW_of fr_cC.1 _ come_cC).trans (by decide +kernel)
theorem pth_cA : pth cA = [0, 1, 2, 3] := by
  unfold pth
  rw [if_pos fr_cA.1]
  decide +kernel
theorem ws_cD : ws cD 0 = 1 := by decide +kernel
theorem fr_cB : frE cB = 130 ∧ frN cB = 0 ∧ frW cB = [] := by
  have h1 : To cB 0 1 := .one (by decide +kernel)
  have h0 : To cB 0 0 := .more h1 (by decide +kernel)
  have hl : lpB cB 0 = true := by
    unfold lpB agB
    rw [comeB_iff.2 .zero, toB_iff.2 h0]; rfl
  have hk : lpK cB = 0 := by
    unfold lpK
    rcases Nat.eq_zero_or_pos (first (lpB cB) cB.length) with e | e
    · exact e
    · have := first_miss (p := lpB cB) (n := cB.length) e
      rw [hl] at this; cases this
  have hE : frE cB = 130 := by
    unfold frE
    rw [(chk_of fine_cB).1, hk]
    decide
  refine ⟨hE, ?_, ?_⟩
  · unfold frN
    rw [(chk_of fine_cB).1, hk]
    decide
  · unfold frW
    rw [hE]; rfl
end Cst
end Go.Proofs.YtjoiogdckbaeaaaDoor
