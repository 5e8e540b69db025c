/- How many words stand at each instruction, in numbers: the heights, told step by step; the most words. No program. · The most words; the heights with room for more or fewer. No program. · The chapter's small programs: their heights, reckoned. No program. · The heights, told with a list of those that wait: what that list holds, step by step. No program. -/
import Derived.Test.YtjoiogdckbaeaaaDoorFlowM
namespace Go.Proofs.YtjoiogdckbaeaaaDoor
namespace Hgt
open Isa Flw
set_option linter.unusedVariables false
set_option linter.unusedSimpArgs false
def tkL (l : List Iv) (n : Nat) : Int := takesI (l.getD n iz).op
def gvL (l : List Iv) (n : Nat) : Int := givesI (l.getD n iz).op
theorem takesI_in (op : Int) : 0 ≤ takesI op ∧ takesI op ≤ 2 := by
  have h : ∀ x ∈ takesL, 0 ≤ x ∧ x ≤ 2 := by decide
  unfold takesI
  rw [List.getD_eq_getElem?_getD]
  cases e : takesL[op.toNat]? with
  | none => simp
  | some x => exact h x (List.mem_of_getElem? e)
theorem givesI_in (op : Int) : 0 ≤ givesI op ∧ givesI op ≤ 2 := by
  have h : ∀ x ∈ givesL, 0 ≤ x ∧ x ≤ 2 := by decide
  unfold givesI
  rw [List.getD_eq_getElem?_getD]
  cases e : givesL[op.toNat]? with
  | none => simp
  | some x => exact h x (List.mem_of_getElem? e)
/-- as many words at each of these, in order; the first where another height was told -/
def push (h : Int) : List Nat → List Int → List Int × Option Nat
  | [], H => (H, none)
  | m :: r, H => if 0 ≤ H.getD m 0 ∧ H.getD m 0 ≠ h then (H, some m) else push h r (H.set m h)
def nextB (H : List Int) (D : List Bool) (n : Nat) : Bool := decide (0 ≤ H.getD n 0) && !D.getD n false
def nextN (l : List Iv) (H : List Int) (D : List Bool) : Nat := first (nextB H D) l.length
def htGo (l : List Iv) (most : Int) : Nat → List Int → List Bool → List Int × Nat × Int
  | 0, _, _ => ([], 0, 0)
  | f + 1, H, D =>
    let n := nextN l H D
    if n = l.length then (H, 0, 0)
    else if H.getD n 0 - tkL l n < 0 then ([], n, 121)
    else if most < H.getD n 0 - tkL l n + gvL l n then ([], n, 122)
    else match push (H.getD n 0 - tkL l n + gvL l n) (behL l n) H with
      | (_, some m) => ([], m, 120)
      | (H', none) => htGo l most f H' (D.set n true)
def H0 (l : List Iv) : List Int := (List.replicate l.length (-1)).set 0 0
def D0 (l : List Iv) : List Bool := List.replicate l.length false
def htA (l : List Iv) (most : Int) : List Int × Nat × Int :=
  if most < 0 ∨ 64 < most then ([], 0, 5) else if chkE l ≠ 0 then ([], chkN l, chkE l) else htGo l most (l.length + 1) (H0 l) (D0 l)
theorem fcount_rep : ∀ n, fcount (List.replicate n false) = n
  | 0 => rfl
  | n + 1 => by rw [List.replicate_succ]; simp [fcount, fcount_rep n]; omega
theorem push_len {h : Int} : ∀ (ms : List Nat) (H : List Int), (push h ms H).1.length = H.length
  | [], H => rfl
  | m :: r, H => by
    unfold push
    split
    · rfl
    · rw [push_len r]; exact List.length_set
theorem getDI_set {H : List Int} {k : Nat} {v : Int} (hk : k < H.length) (j : Nat) : (H.set k v).getD j 0 = if k = j then v else H.getD j 0 := by
  rw [List.getD_eq_getElem?_getD, List.getElem?_set, List.getD_eq_getElem?_getD]
  split
  · rfl
  · rfl
/-- what one step leaves -/
theorem push_ok {h : Int} (hh : 0 ≤ h) : ∀ (ms : List Nat) (H : List Int), (∀ m ∈ ms, m < H.length) → (push h ms H).2 = none →
    (∀ m ∈ ms, (push h ms H).1.getD m 0 = h) ∧ (∀ j, 0 ≤ H.getD j 0 → (push h ms H).1.getD j 0 = H.getD j 0) ∧ (∀ j, j ∉ ms → (push h ms H).1.getD j 0 = H.getD j 0)
  | [], H, _, _ => ⟨by simp, fun _ _ => rfl, fun _ _ => rfl⟩
  | m :: r, H, hm, he => by
    unfold push at he ⊢
    split at he
    · cases he
    · rename_i hc
      rw [if_neg hc]
      have hml := hm m (by simp)
      obtain ⟨i1, i2, i3⟩ := push_ok hh r (H.set m h) (fun x hx => by rw [List.length_set]; exact hm x (by simp [hx])) he
      have e : ∀ j, 0 ≤ H.getD j 0 → (H.set m h).getD j 0 = H.getD j 0 := fun j hj => by
        rw [getDI_set hml]
        split
        · rename_i e
          subst e
          by_cases q : H.getD m 0 = h
          · exact q.symm
          · exact absurd ⟨hj, q⟩ hc
        · rfl
      refine ⟨fun x hx => ?_, fun j hj => ?_, fun j hj => ?_⟩
      · rcases List.mem_cons.1 hx with rfl | hx
        · rw [i2 x (by rw [getDI_set hml, if_pos rfl]; exact hh), getDI_set hml, if_pos rfl]
        · exact i1 x hx
      · rw [i2 j (by rw [e j hj]; exact hj), e j hj]
      · rw [i3 j (fun q => hj (by simp [q])), getDI_set hml, if_neg (fun q => hj (by simp [q]))]
/-! ### What is told of a program without an error -/
/-- the heights, one with another -/
structure Well (l : List Iv) (most : Int) (H : List Int) : Prop where
  len : H.length = l.length
  zero : H.getD 0 0 = 0
  come : ∀ n, n < l.length → (0 ≤ H.getD n 0 ↔ comeB l n = true)
  low : ∀ n, n < l.length → -1 ≤ H.getD n 0
  under : ∀ n, n < l.length → 0 ≤ H.getD n 0 → tkL l n ≤ H.getD n 0
  over : ∀ n, n < l.length → 0 ≤ H.getD n 0 → H.getD n 0 - tkL l n + gvL l n ≤ most
  next : ∀ n, n < l.length → 0 ≤ H.getD n 0 → ∀ m ∈ behL l n, H.getD m 0 = H.getD n 0 - tkL l n + gvL l n
/-- what stands between two steps -/
structure Mid (l : List Iv) (most : Int) (H : List Int) (D : List Bool) : Prop where
  len : H.length = l.length
  dlen : D.length = l.length
  zero : H.getD 0 0 = 0
  come : ∀ n, n < l.length → 0 ≤ H.getD n 0 → Come l n
  low : ∀ n, n < l.length → -1 ≤ H.getD n 0
  had : ∀ n, n < l.length → D.getD n false = true → 0 ≤ H.getD n 0
  under : ∀ n, n < l.length → D.getD n false = true → tkL l n ≤ H.getD n 0
  over : ∀ n, n < l.length → D.getD n false = true → H.getD n 0 - tkL l n + gvL l n ≤ most
  next : ∀ n, n < l.length → D.getD n false = true → ∀ m ∈ behL l n, H.getD m 0 = H.getD n 0 - tkL l n + gvL l n
theorem mid_start {l : List Iv} {most : Int} (hf : Fine l) : Mid l most (H0 l) (D0 l) := by
  have hl := hf.some
  have e : ∀ n, n < l.length → (H0 l).getD n 0 = if 0 = n then 0 else -1 := fun n hn => by
    unfold H0
    rw [getDI_set (by simpa using hl), List.getD_eq_getElem?_getD, List.getElem?_replicate, if_pos hn]
    rfl
  have d : ∀ n, n < l.length → (D0 l).getD n false = false := fun n hn => by
    unfold D0
    rw [List.getD_eq_getElem?_getD, List.getElem?_replicate, if_pos hn]
    rfl
  refine ⟨by simp [H0], by simp [D0], by rw [e 0 hl, if_pos rfl], fun n hn h => ?_, fun n hn => ?_, fun n hn h => ?_, fun n hn h => ?_, fun n hn h => ?_, fun n hn h => ?_⟩
  · rw [e n hn] at h
    split at h
    · rename_i q; rw [← q]; exact .zero
    · omega
  · rw [e n hn]; split <;> omega
  all_goals rw [d n hn] at h; cases h
theorem next_hit {l : List Iv} {H : List Int} {D : List Bool} (h : nextN l H D ≠ l.length) : nextN l H D < l.length ∧ 0 ≤ H.getD (nextN l H D) 0 ∧ D.getD (nextN l H D) false = false := by
  have hl : nextN l H D < l.length := by have := first_le (nextB H D) l.length; unfold nextN at h ⊢; omega
  have := first_hit (p := nextB H D) (n := l.length) hl
  unfold nextB at this
  simp only [Bool.and_eq_true, decide_eq_true_eq, Bool.not_eq_true'] at this
  exact ⟨hl, this.1, this.2⟩
theorem mid_step {l : List Iv} {most : Int} (hf : Fine l) (hw : ∀ i ∈ l, i.wf) {H : List Int} {D : List Bool} (h : Mid l most H D) {n : Nat} (hn : n < l.length) (h0 : 0 ≤ H.getD n 0) (hd : D.getD n false = false)
    (hu : ¬ H.getD n 0 - tkL l n < 0) (hg : 0 ≤ gvL l n) (ho : ¬ most < H.getD n 0 - tkL l n + gvL l n) (he : (push (H.getD n 0 - tkL l n + gvL l n) (behL l n) H).2 = none) :
    Mid l most (push (H.getD n 0 - tkL l n + gvL l n) (behL l n) H).1 (D.set n true) ∧ ∀ j, 0 ≤ H.getD j 0 → (push (H.getD n 0 - tkL l n + gvL l n) (behL l n) H).1.getD j 0 = H.getD j 0 := by
  have hb : ∀ m ∈ behL l n, m < H.length := fun m hm => by rw [h.len]; exact beh_lt hf hw hn hm
  obtain ⟨p1, p2, p3⟩ := push_ok (h := H.getD n 0 - tkL l n + gvL l n) (by omega) (behL l n) H hb he
  have hcn := h.come n hn h0
  have dset : ∀ j, (D.set n true).getD j false = if n = j then true else D.getD j false := fun j => getD_set (by rw [h.dlen]; exact hn) j
  refine ⟨⟨by rw [push_len]; exact h.len, by rw [List.length_set]; exact h.dlen, by rw [p2 0 (by rw [h.zero]; exact Int.le_refl _)]; exact h.zero, fun j hj q => ?_, fun j hj => ?_, fun j hj q => ?_, fun j hj q => ?_, fun j hj q => ?_, fun j hj q => ?_⟩, p2⟩
  · by_cases hm : j ∈ behL l n
    · exact .step hcn hm
    · rw [p3 j hm] at q; exact h.come j hj q
  · by_cases hm : j ∈ behL l n
    · rw [p1 j hm]; omega
    · rw [p3 j hm]; exact h.low j hj
  · rw [dset] at q
    by_cases e : n = j
    · subst e; rw [p2 n h0]; exact h0
    · rw [if_neg e] at q
      rw [p2 j (h.had j hj q)]; exact h.had j hj q
  · rw [dset] at q
    by_cases e : n = j
    · subst e; rw [p2 n h0]; omega
    · rw [if_neg e] at q
      rw [p2 j (h.had j hj q)]; exact h.under j hj q
  · rw [dset] at q
    by_cases e : n = j
    · subst e; rw [p2 n h0]; omega
    · rw [if_neg e] at q
      rw [p2 j (h.had j hj q)]; exact h.over j hj q
  · rw [dset] at q
    intro m hm
    by_cases e : n = j
    · subst e; rw [p2 n h0]; exact p1 m hm
    · rw [if_neg e] at q
      have hnx := h.next j hj q m hm
      have hund := h.under j hj q
      have hgj : 0 ≤ gvL l j := (givesI_in _).1
      rw [p2 j (h.had j hj q), p2 m (by rw [hnx]; omega)]
      exact hnx
theorem mid_all {l : List Iv} {most : Int} {H : List Int} {D : List Bool} (h : Mid l most H D) (he : nextN l H D = l.length) : ∀ n, n < l.length → 0 ≤ H.getD n 0 → D.getD n false = true := by
  intro n hn h0
  have := first_miss (p := nextB H D) (n := l.length) (t := n) (by unfold nextN at he; omega)
  unfold nextB at this
  rw [decide_eq_true h0] at this
  simpa using this
theorem mid_well {l : List Iv} {most : Int} (hf : Fine l) (hw : ∀ i ∈ l, i.wf) {H : List Int} {D : List Bool} (h : Mid l most H D) (he : nextN l H D = l.length) : Well l most H := by
  have ha := mid_all h he
  have key : ∀ n, Come l n → 0 ≤ H.getD n 0 := fun n hc => by
    induction hc with
    | zero => rw [h.zero]; exact Int.le_refl _
    | @step n m hc hm ih =>
      have hn := come_lt hf hw hc
      have hd := ha _ hn ih
      rw [h.next _ hn hd _ hm]
      have := h.under _ hn hd
      have hg : 0 ≤ gvL l n := (givesI_in _).1
      omega
  refine ⟨h.len, h.zero, fun n hn => ⟨fun q => comeB_iff.2 (h.come n hn q), fun q => key n (comeB_iff.1 q)⟩, h.low, fun n hn q => h.under n hn (ha n hn q), fun n hn q => h.over n hn (ha n hn q), fun n hn q => h.next n hn (ha n hn q)⟩
theorem fcount_down {D : List Bool} {n : Nat} (hn : n < D.length) (hd : D.getD n false = false) : fcount (D.set n true) + 1 = fcount D := by
  have := fcount_set D n hn
  rw [hd] at this
  simpa using this
theorem htGo_succ (l : List Iv) (most : Int) (f : Nat) (H : List Int) (D : List Bool) : htGo l most (f + 1) H D =
    if nextN l H D = l.length then (H, 0, 0)
    else if H.getD (nextN l H D) 0 - tkL l (nextN l H D) < 0 then ([], nextN l H D, 121)
    else if most < H.getD (nextN l H D) 0 - tkL l (nextN l H D) + gvL l (nextN l H D) then ([], nextN l H D, 122)
    else match push (H.getD (nextN l H D) 0 - tkL l (nextN l H D) + gvL l (nextN l H D)) (behL l (nextN l H D)) H with
      | (_, some m) => ([], m, 120)
      | (H', none) => htGo l most f H' (D.set (nextN l H D) true) := rfl
/-- one step of the run, taken apart -/
theorem go_cases {l : List Iv} {most : Int} {f : Nat} {H : List Int} {D : List Bool} (h : (htGo l most (f + 1) H D).2.2 = 0) :
    (nextN l H D = l.length ∧ htGo l most (f + 1) H D = (H, 0, 0)) ∨
    (nextN l H D ≠ l.length ∧ ¬ H.getD (nextN l H D) 0 - tkL l (nextN l H D) < 0 ∧ ¬ most < H.getD (nextN l H D) 0 - tkL l (nextN l H D) + gvL l (nextN l H D) ∧
      (push (H.getD (nextN l H D) 0 - tkL l (nextN l H D) + gvL l (nextN l H D)) (behL l (nextN l H D)) H).2 = none ∧
      htGo l most (f + 1) H D = htGo l most f (push (H.getD (nextN l H D) 0 - tkL l (nextN l H D) + gvL l (nextN l H D)) (behL l (nextN l H D)) H).1 (D.set (nextN l H D) true)) := by
  rw [htGo_succ] at h ⊢
  split at h
  · rename_i e
    exact .inl ⟨e, by rw [if_pos e]⟩
  · rename_i e
    rw [if_neg e]
    split at h
    · simp at h
    · rename_i e2
      rw [if_neg e2]
      split at h
      · simp at h
      · rename_i e3
        rw [if_neg e3]
        cases hp : push (H.getD (nextN l H D) 0 - tkL l (nextN l H D) + gvL l (nextN l H D)) (behL l (nextN l H D)) H with
        | mk H' o =>
          rw [hp] at h
          cases o with
          | some m => simp at h
          | none => exact .inr ⟨e, e2, e3, rfl, rfl⟩
theorem go_well {l : List Iv} {most : Int} (hf : Fine l) (hw : ∀ i ∈ l, i.wf) : ∀ (f : Nat) (H : List Int) (D : List Bool), Mid l most H D → fcount D < f → (htGo l most f H D).2.2 = 0 →
    Well l most (htGo l most f H D).1 ∧ (htGo l most f H D).2.1 = 0 ∧ ∀ j, 0 ≤ H.getD j 0 → (htGo l most f H D).1.getD j 0 = H.getD j 0
  | 0, H, D, _, h, _ => by omega
  | f + 1, H, D, h, hfc, he => by
    rcases go_cases he with ⟨e1, e2⟩ | ⟨e1, e2, e3, e4, e5⟩
    · rw [e2]
      exact ⟨mid_well hf hw h e1, rfl, fun _ _ => rfl⟩
    · obtain ⟨hn, h0, hd⟩ := next_hit e1
      obtain ⟨m1, m2⟩ := mid_step hf hw h hn h0 hd e2 (givesI_in _).1 e3 e4
      have hc := fcount_down (by rw [h.dlen]; exact hn) hd
      rw [e5] at he ⊢
      obtain ⟨r1, r2, r3⟩ := go_well hf hw f _ _ m1 (by omega) he
      exact ⟨r1, r2, fun j hj => (r3 j (by rw [m2 j hj]; exact hj)).trans (m2 j hj)⟩
theorem go_same {l : List Iv} {most most' : Int} (hf : Fine l) (hw : ∀ i ∈ l, i.wf) : ∀ (f : Nat) (H : List Int) (D : List Bool), Mid l most H D → fcount D < f → (htGo l most f H D).2.2 = 0 →
    (∀ n, n < l.length → 0 ≤ (htGo l most f H D).1.getD n 0 → (htGo l most f H D).1.getD n 0 - tkL l n + gvL l n ≤ most') → htGo l most' f H D = htGo l most f H D
  | 0, H, D, _, h, _, _ => by omega
  | f + 1, H, D, h, hfc, he, hb => by
    have hk := (go_well hf hw (f + 1) H D h hfc he).2.2
    rcases go_cases he with ⟨e1, e2⟩ | ⟨e1, e2, e3, e4, e5⟩
    · rw [e2]
      rw [htGo_succ, if_pos e1]
    · obtain ⟨hn, h0, hd⟩ := next_hit e1
      obtain ⟨m1, m2⟩ := mid_step hf hw h hn h0 hd e2 (givesI_in _).1 e3 e4
      have hc := fcount_down (by rw [h.dlen]; exact hn) hd
      have hq := hb _ hn (by rw [hk _ h0]; exact h0)
      rw [hk _ h0] at hq
      rw [e5] at he hb ⊢
      rw [← go_same hf hw f _ _ m1 (by omega) he hb]
      rw [htGo_succ, if_neg e1, if_neg e2, if_neg (by omega)]
      cases hp : push (H.getD (nextN l H D) 0 - tkL l (nextN l H D) + gvL l (nextN l H D)) (behL l (nextN l H D)) H with
      | mk H' o =>
        rw [hp] at e4
        simp only at e4
        subst e4
        rfl
theorem go_less {l : List Iv} {most most' : Int} (hf : Fine l) (hw : ∀ i ∈ l, i.wf) : ∀ (f : Nat) (H : List Int) (D : List Bool), Mid l most H D → fcount D < f → (htGo l most f H D).2.2 = 0 →
    (∀ n, n < l.length → D.getD n false = true → H.getD n 0 - tkL l n + gvL l n ≤ most') →
    (∃ n, n < l.length ∧ 0 ≤ (htGo l most f H D).1.getD n 0 ∧ most' < (htGo l most f H D).1.getD n 0 - tkL l n + gvL l n) → (htGo l most' f H D).2.2 = 122
  | 0, H, D, _, h, _, _, _ => by omega
  | f + 1, H, D, h, hfc, he, hb, hx => by
    rcases go_cases he with ⟨e1, e2⟩ | ⟨e1, e2, e3, e4, e5⟩
    · rw [e2] at hx
      obtain ⟨n, hn, h0, hm⟩ := hx
      have := hb n hn (mid_all h e1 n hn h0)
      simp only at hm
      omega
    · obtain ⟨hn, h0, hd⟩ := next_hit e1
      obtain ⟨m1, m2⟩ := mid_step hf hw h hn h0 hd e2 (givesI_in _).1 e3 e4
      have hc := fcount_down (by rw [h.dlen]; exact hn) hd
      by_cases hq : most' < H.getD (nextN l H D) 0 - tkL l (nextN l H D) + gvL l (nextN l H D)
      · rw [htGo_succ, if_neg e1, if_neg e2, if_pos hq]
      · rw [e5] at he hx
        have := go_less (most' := most') hf hw f _ _ m1 (by omega) he (fun j hj hdj => by
          rw [getD_set (by rw [h.dlen]; exact hn)] at hdj
          by_cases e : nextN l H D = j
          · rw [← e, m2 _ h0]; omega
          · rw [if_neg e] at hdj
            rw [m2 j (h.had j hj hdj)]
            exact hb j hj hdj) hx
        rw [← this]
        rw [htGo_succ, if_neg e1, if_neg e2, if_neg hq]
        cases hp : push (H.getD (nextN l H D) 0 - tkL l (nextN l H D) + gvL l (nextN l H D)) (behL l (nextN l H D)) H with
        | mk H' o =>
          rw [hp] at e4
          simp only at e4
          subst e4
          rfl
end Hgt
end Go.Proofs.YtjoiogdckbaeaaaDoor
namespace Go.Proofs.YtjoiogdckbaeaaaDoor
namespace Hgt
open Isa Flw
set_option linter.unusedVariables false
set_option linter.unusedSimpArgs false
def bhL (l : List Iv) (H : List Int) (n : Nat) : Int := H.getD n 0 - tkL l n + gvL l n
/-- the most words of the first k -/
def topL (l : List Iv) (H : List Int) : Nat → Int
  | 0 => 0
  | k + 1 => if H.getD k 0 < 0 then topL l H k else max (max (topL l H k) (H.getD k 0)) (bhL l H k)
def mostA (l : List Iv) (most : Int) : Int × Int := if (htA l most).2.2 = 0 then (topL l (htA l most).1 l.length, 0) else (0, (htA l most).2.2)
theorem topL_nn (l : List Iv) (H : List Int) : ∀ k, 0 ≤ topL l H k
  | 0 => Int.le_refl _
  | k + 1 => by
    unfold topL
    have := topL_nn l H k
    split
    · exact this
    · omega
theorem topL_up (l : List Iv) (H : List Int) : ∀ k n, n < k → 0 ≤ H.getD n 0 → H.getD n 0 ≤ topL l H k ∧ bhL l H n ≤ topL l H k
  | 0, n, h, _ => by omega
  | k + 1, n, h, h0 => by
    unfold topL
    by_cases e : n = k
    · subst e
      rw [if_neg (by omega)]
      omega
    · have := topL_up l H k n (by omega) h0
      split
      · exact this
      · omega
theorem topL_at (l : List Iv) (H : List Int) : ∀ k, topL l H k = 0 ∨ ∃ n, n < k ∧ 0 ≤ H.getD n 0 ∧ (topL l H k = H.getD n 0 ∨ topL l H k = bhL l H n)
  | 0 => .inl rfl
  | k + 1 => by
    unfold topL
    split
    · rcases topL_at l H k with h | ⟨n, hn, r⟩
      · exact .inl h
      · exact .inr ⟨n, by omega, r⟩
    · rename_i h0
      by_cases e1 : max (topL l H k) (H.getD k 0) ≤ bhL l H k
      · exact .inr ⟨k, by omega, by omega, .inr (by omega)⟩
      · by_cases e2 : topL l H k ≤ H.getD k 0
        · exact .inr ⟨k, by omega, by omega, .inl (by omega)⟩
        · rcases topL_at l H k with h | ⟨n, hn, r0, r⟩
          · exact .inl (by omega)
          · exact .inr ⟨n, by omega, r0, by omega⟩
theorem err_pos {l : List Iv} (hne : chkE l ≠ 0) : chkE l = 3 ∨ chkE l = 90 ∨ chkE l = 110 ∨ chkE l = 111 := by
  unfold chkE at hne ⊢
  split
  · exact .inl rfl
  · split
    · exact .inr (.inl rfl)
    · split
      · exact .inr (.inr (.inl rfl))
      · split
        · exact .inr (.inr (.inr rfl))
        · split
          · exact .inr (.inr (.inr rfl))
          · rename_i h1 h2 h3 h4 h5
            rw [if_neg h1, if_neg h2, if_neg h3, if_neg h4, if_neg h5] at hne
            exact absurd rfl hne
theorem htA_go {l : List Iv} {most : Int} (h : (htA l most).2.2 = 0) : 0 ≤ most ∧ most ≤ 64 ∧ Fine l ∧ htA l most = htGo l most (l.length + 1) (H0 l) (D0 l) := by
  unfold htA at h ⊢
  split at h
  · simp at h
  · rename_i h1
    split at h
    · rename_i h2; exact absurd h h2
    · rename_i h2
      rw [if_neg h1, if_neg h2]
      exact ⟨by omega, by omega, fine_of (by omega), rfl⟩
theorem fc0 (l : List Iv) : fcount (D0 l) < l.length + 1 := by unfold D0; rw [fcount_rep]; omega
theorem htA_well {l : List Iv} {most : Int} (hw : ∀ i ∈ l, i.wf) (h : (htA l most).2.2 = 0) : Well l most (htA l most).1 ∧ (htA l most).2.1 = 0 := by
  obtain ⟨_, _, hf, e⟩ := htA_go h
  rw [e] at h ⊢
  obtain ⟨r1, r2, _⟩ := go_well hf hw _ _ _ (mid_start hf) (fc0 l) h
  exact ⟨r1, r2⟩
theorem well_le {l : List Iv} {most : Int} {H : List Int} (hf : Fine l) (hw : ∀ i ∈ l, i.wf) (h : Well l most H) (hm : 0 ≤ most) : ∀ n, n < l.length → 0 ≤ H.getD n 0 → H.getD n 0 ≤ most ∧ (H.getD n 0 = 0 ∨ ∃ p, p < l.length ∧ 0 ≤ H.getD p 0 ∧ bhL l H p = H.getD n 0) := by
  intro n hn h0
  by_cases e : n = 0
  · subst e; rw [h.zero]; exact ⟨hm, .inl rfl⟩
  · obtain ⟨p, hp, hb⟩ := come_back (comeB_iff.1 ((h.come n hn).1 h0)) e
    have hpl := come_lt hf hw hp
    have hp0 := (h.come p hpl).2 (comeB_iff.2 hp)
    have := h.next p hpl hp0 n hb
    have ho := h.over p hpl hp0
    exact ⟨by omega, .inr ⟨p, hpl, hp0, this.symm⟩⟩
theorem top_le {l : List Iv} {most : Int} {H : List Int} (hf : Fine l) (hw : ∀ i ∈ l, i.wf) (h : Well l most H) (hm : 0 ≤ most) : topL l H l.length ≤ most := by
  rcases topL_at l H l.length with e | ⟨n, hn, h0, e | e⟩
  · omega
  · have := (well_le hf hw h hm n hn h0).1; omega
  · have := h.over n hn h0; unfold bhL at e; omega
/-- with room for what is needed nothing is otherwise -/
theorem htA_same {l : List Iv} {most most' : Int} (hw : ∀ i ∈ l, i.wf) (h : (htA l most).2.2 = 0) (h0 : 0 ≤ most') (h64 : most' ≤ 64) (ht : topL l (htA l most).1 l.length ≤ most') : htA l most' = htA l most := by
  obtain ⟨_, _, hf, e⟩ := htA_go h
  have e' : htA l most' = htGo l most' (l.length + 1) (H0 l) (D0 l) := by
    unfold htA
    rw [if_neg (by omega), if_neg (by rw [(chk_of hf).1]; simp)]
  rw [e'] 
  rw [e] at h ht ⊢
  exact go_same hf hw _ _ _ (mid_start hf) (fc0 l) h (fun n hn hn0 => by
    have := (topL_up l _ l.length n hn hn0).2
    unfold bhL at this
    omega)
/-- with room for one less it is not well -/
theorem htA_less {l : List Iv} {most : Int} (hw : ∀ i ∈ l, i.wf) (h : (htA l most).2.2 = 0) (ht : 0 < topL l (htA l most).1 l.length) : (htA l (topL l (htA l most).1 l.length - 1)).2.2 = 122 := by
  obtain ⟨hm0, hm64, hf, e⟩ := htA_go h
  have hwl := (htA_well hw h).1
  have htm := top_le hf hw hwl hm0
  generalize hT : topL l (htA l most).1 l.length = t at *
  have e' : htA l (t - 1) = htGo l (t - 1) (l.length + 1) (H0 l) (D0 l) := by
    unfold htA
    rw [if_neg (by omega), if_neg (by rw [(chk_of hf).1]; simp)]
  rw [e']
  rw [e] at h hwl hT
  refine go_less hf hw _ _ _ (mid_start (most := most) hf) (fc0 l) h (fun n hn hd => ?_) ?_
  · unfold D0 at hd
    rw [List.getD_eq_getElem?_getD, List.getElem?_replicate, if_pos hn] at hd
    cases hd
  · rcases topL_at l (htGo l most (l.length + 1) (H0 l) (D0 l)).1 l.length with q | ⟨n, hn, h0, q | q⟩
    · omega
    · rcases (well_le hf hw hwl hm0 n hn h0).2 with z | ⟨p, hp, hp0, z⟩
      · omega
      · refine ⟨p, hp, hp0, ?_⟩
        unfold bhL at z
        omega
    · refine ⟨n, hn, h0, ?_⟩
      unfold bhL at q
      omega
end Hgt
end Go.Proofs.YtjoiogdckbaeaaaDoor
namespace Go.Proofs.YtjoiogdckbaeaaaDoor
namespace Hgt
open Isa Flw
set_option linter.unusedVariables false
set_option linter.unusedSimpArgs false
def hA : List Iv := [⟨1, 0, 0, 1⟩, ⟨1, 0, 0, 1⟩, ⟨5, 0, 0, 0⟩, ⟨22, 0, 0, 0⟩, ⟨27, 0, 0, 0⟩]
def hB : List Iv := [⟨2, 0, 0, 0⟩, ⟨27, 0, 0, 0⟩]
def hC : List Iv := [⟨1, 0, 0, 1⟩, ⟨2, 0, 0, 0⟩, ⟨2, 0, 0, 0⟩, ⟨27, 0, 0, 0⟩]
def hD : List Iv := [⟨1, 0, 0, 1⟩, ⟨20, 0, 0, 3⟩, ⟨1, 0, 0, 1⟩, ⟨27, 0, 0, 0⟩]
theorem htA_A : htA hA 2 = ([0, 1, 2, 1, 0], 0, 0) := by decide +kernel
theorem htA_B : htA hB 2 = ([], 0, 121) := by decide +kernel
theorem htA_C : htA hC 2 = ([], 2, 122) := by decide +kernel
theorem htA_D : htA hD 2 = ([], 3, 120) := by decide +kernel
theorem most_A : mostA hA 2 = (2, 0) := by decide +kernel
end Hgt
end Go.Proofs.YtjoiogdckbaeaaaDoor
namespace Go.Proofs.YtjoiogdckbaeaaaDoor
namespace Hgt
open Isa Flw
set_option linter.unusedVariables false
set_option linter.unusedSimpArgs false
theorem push_app {h : Int} : ∀ (xs ys : List Nat) (H A : List Int), push h xs H = (A, none) → push h (xs ++ ys) H = push h ys A
  | [], ys, H, A, e => by
    unfold push at e
    cases e
    rfl
  | x :: r, ys, H, A, e => by
    rw [List.cons_append]
    unfold push at e
    split at e
    · cases e
    · rename_i hc
      rw [push.eq_def h (x :: (r ++ ys)) H]
      simp only
      rw [if_neg hc]
      exact push_app r ys _ A e
theorem push_bad {h : Int} : ∀ (xs ys : List Nat) (H A : List Int) (m : Nat), push h xs H = (A, some m) → push h (xs ++ ys) H = (A, some m)
  | [], ys, H, A, m, e => by
    unfold push at e
    cases e
  | x :: r, ys, H, A, m, e => by
    rw [List.cons_append]
    unfold push at e
    rw [push.eq_def h (x :: (r ++ ys)) H]
    simp only
    split at e
    · rename_i hc
      rw [if_pos hc]
      exact e
    · rename_i hc
      rw [if_neg hc]
      exact push_bad r ys _ A m e
/-- between two steps: those whose height is told and that are not done, each less than the one ahead -/
structure Wai (l : List Iv) (H : List Int) (D : List Bool) (R : List Nat) : Prop where
  fal : R.Pairwise (fun a b => b < a)
  is : ∀ m, m ∈ R ↔ m < l.length ∧ 0 ≤ H.getD m 0 ∧ D.getD m false = false
theorem h0_at {l : List Iv} (hf : Fine l) {n : Nat} (hn : n < l.length) : (H0 l).getD n 0 = if 0 = n then 0 else -1 := by
  unfold H0
  rw [getDI_set (by simpa using hf.some), List.getD_eq_getElem?_getD, List.getElem?_replicate, if_pos hn]
  rfl
theorem d0_at {l : List Iv} {n : Nat} (hn : n < l.length) : (D0 l).getD n false = false := by
  unfold D0
  rw [List.getD_eq_getElem?_getD, List.getElem?_replicate, if_pos hn]
  rfl
theorem Wai.start {l : List Iv} (hf : Fine l) : Wai l (H0 l) (D0 l) [0] := by
  refine ⟨by simp, fun m => ⟨fun h => ?_, fun ⟨h1, h2, _⟩ => ?_⟩⟩
  · have e : m = 0 := by simpa using h
    subst e
    exact ⟨hf.some, by rw [h0_at hf hf.some, if_pos rfl]; omega, d0_at hf.some⟩
  · rw [h0_at hf h1] at h2
    split at h2
    · rename_i e; simp [← e]
    · omega
theorem next_b {H : List Int} {D : List Bool} {n : Nat} : nextB H D n = true ↔ 0 ≤ H.getD n 0 ∧ D.getD n false = false := by
  unfold nextB
  simp only [Bool.and_eq_true, decide_eq_true_eq, Bool.not_eq_true']
theorem Wai.out {l : List Iv} {H : List Int} {D : List Bool} (h : Wai l H D []) : nextN l H D = l.length := by
  refine first_none fun t ht => ?_
  cases e : nextB H D t with
  | false => rfl
  | true =>
    have := (h.is t).2 ⟨ht, next_b.1 e⟩
    simp at this
theorem Wai.pop {l : List Iv} {H : List Int} {D : List Bool} {rest : List Nat} {k : Nat} (h : Wai l H D (rest ++ [k])) : k < l.length ∧ 0 ≤ H.getD k 0 ∧ D.getD k false = false ∧ nextN l H D = k := by
  have hk := (h.is k).1 (by simp)
  have hl := snoc_least h.fal
  refine ⟨hk.1, hk.2.1, hk.2.2, first_at hk.1 (fun t ht => ?_) (next_b.2 hk.2)⟩
  cases e : nextB H D t with
  | false => rfl
  | true =>
    have := (h.is t).2 ⟨by omega, next_b.1 e⟩
    rcases List.mem_append.1 this with q | q
    · have := hl t q; omega
    · simp at q; omega
/-- while those behind k are told: pre: those that are told; A: the heights by now -/
structure Wam (hh : Int) (H : List Int) (rest pre R : List Nat) (A : List Int) : Prop where
  told : push hh pre H = (A, none)
  fal : R.Pairwise (fun a b => b < a)
  is : ∀ m, m ∈ R ↔ m ∈ rest ∨ (m ∈ pre ∧ H.getD m 0 < 0)
theorem Wai.mid {l : List Iv} {H : List Int} {D : List Bool} {rest : List Nat} {k : Nat} (h : Wai l H D (rest ++ [k])) (hh : Int) : Wam hh H rest [] rest H :=
  ⟨rfl, (List.pairwise_append.1 h.fal).1, fun m => by simp⟩
section
variable {l : List Iv} {most hh : Int} {H A : List Int} {D : List Bool} {rest pre R : List Nat} {k x : Nat}
theorem Wam.len (h : Wam hh H rest pre R A) : A.length = H.length := by
  have := push_len (h := hh) pre H
  rw [h.told] at this
  exact this
/-- one that is none of those told stands as it was -/
theorem Wam.at (h : Wam hh H rest pre R A) (h0 : 0 ≤ hh) (hp : ∀ m ∈ pre, m < H.length) (hx : x ∉ pre) : A.getD x 0 = H.getD x 0 := by
  have := (push_ok h0 pre H hp (by rw [h.told])).2.2 x hx
  rw [h.told] at this
  exact this
theorem Wam.wait (h : Wam hh H rest pre R A) (hr : ∀ m ∈ rest, 0 ≤ H.getD m 0) (hx : x ∉ pre) (hn : H.getD x 0 < 0) : x ∉ R := fun q => by
  rcases (h.is x).1 q with q | q
  · have := hr x q; omega
  · exact hx q.1
/-- another height was told there -/
theorem Wam.bad (h : Wam hh H rest pre R A) {L : List Nat} (hpx : pre ++ [x] <+: L) (h1 : 0 ≤ A.getD x 0) (h2 : A.getD x 0 ≠ hh) : (push hh L H).2 = some x := by
  obtain ⟨t, rfl⟩ := hpx
  have e : push hh (pre ++ [x]) H = (A, some x) := by
    rw [push_app pre [x] H A h.told]
    unfold Hgt.push
    rw [if_pos ⟨h1, h2⟩]
  rw [push_bad _ t H A x e]
/-- the same height was told there -/
theorem Wam.same (h : Wam hh H rest pre R A) (hx : x < A.length) (h1 : A.getD x 0 = hh) (hn : ¬ H.getD x 0 < 0) : Wam hh H rest (pre ++ [x]) R A := by
  refine ⟨?_, h.fal, fun m => ?_⟩
  · rw [push_app pre [x] H A h.told]
    unfold Hgt.push
    rw [if_neg (by rintro ⟨_, q⟩; exact q h1)]
    unfold Hgt.push
    have : A.set x hh = A := by
      rw [← h1, List.getD_eq_getElem?_getD, List.getElem?_eq_getElem hx]
      simp
    rw [this]
  · rw [h.is]
    simp only [List.mem_append, List.mem_singleton]
    constructor
    · rintro (q | ⟨q, r⟩)
      · exact .inl q
      · exact .inr ⟨.inl q, r⟩
    · rintro (q | ⟨q | q, r⟩)
      · exact .inl q
      · exact .inr ⟨q, r⟩
      · subst q; exact absurd r hn
/-- none was told there -/
theorem Wam.new {R' : List Nat} (h : Wam hh H rest pre R A) (h1 : A.getD x 0 < 0) (hn : H.getD x 0 < 0) (hf : R'.Pairwise (fun a b => b < a)) (hR : ∀ m, m ∈ R' ↔ m = x ∨ m ∈ R) : Wam hh H rest (pre ++ [x]) R' (A.set x hh) := by
  refine ⟨?_, hf, fun m => ?_⟩
  · rw [push_app pre [x] H A h.told]
    unfold Hgt.push
    rw [if_neg (by rintro ⟨q, _⟩; omega)]
    rfl
  · rw [hR, h.is]
    simp only [List.mem_append, List.mem_singleton]
    constructor
    · rintro (q | q | ⟨q, r⟩)
      · subst q; exact .inr ⟨.inr rfl, hn⟩
      · exact .inl q
      · exact .inr ⟨.inl q, r⟩
    · rintro (q | ⟨q | q, r⟩)
      · exact .inr (.inl q)
      · exact .inr (.inr ⟨q, r⟩)
      · exact .inl q
/-- all behind k are told -/
theorem Wam.fin (hw : Wai l H D (rest ++ [k])) (hm : Mid l most H D) (h0 : 0 ≤ hh) (hb : ∀ m ∈ behL l k, m < l.length) (h : Wam hh H rest (behL l k) R A) : Wai l A (D.set k true) R := by
  have hbl : ∀ m ∈ behL l k, m < H.length := fun m q => by rw [hm.len]; exact hb m q
  obtain ⟨p1, p2, p3⟩ := push_ok h0 (behL l k) H hbl (by rw [h.told])
  rw [h.told] at p1 p2 p3
  simp only at p1 p2 p3
  have hk := hw.pop
  have hkl : k < D.length := by rw [hm.dlen]; exact hk.1
  have dset : ∀ m, (D.set k true).getD m false = if k = m then true else D.getD m false := fun m => by
    rw [List.getD_eq_getElem?_getD, List.getElem?_set, List.getD_eq_getElem?_getD]
    split
    · first | rfl | (rw [if_pos hkl]; rfl)
    · rfl
  have hl := snoc_least hw.fal
  refine ⟨h.fal, fun m => ⟨fun q => ?_, fun ⟨q1, q2, q3⟩ => ?_⟩⟩
  · rcases (h.is m).1 q with q | ⟨q, r⟩
    · obtain ⟨a1, a2, a3⟩ := (hw.is m).1 (by simp [q])
      have hne : k ≠ m := by have := hl m q; omega
      exact ⟨a1, by rw [p2 m a2]; exact a2, by rw [dset, if_neg hne]; exact a3⟩
    · have hne : k ≠ m := fun e => by have := hk.2.1; rw [e] at this; omega
      refine ⟨hb m q, by rw [p1 m q]; exact h0, ?_⟩
      rw [dset, if_neg hne]
      cases e : D.getD m false with
      | false => rfl
      | true => have := hm.had m (hb m q) e; omega
  · rw [dset] at q3
    split at q3
    · cases q3
    rename_i hne
    rw [h.is]
    by_cases e : 0 ≤ H.getD m 0
    · have := (hw.is m).2 ⟨q1, e, q3⟩
      rcases List.mem_append.1 this with r | r
      · exact .inl r
      · simp at r; exact absurd r.symm hne
    · refine .inr ⟨?_, by omega⟩
      by_cases r : m ∈ behL l k
      · exact r
      · rw [p3 m r] at q2; exact absurd q2 e
end
theorem go_end {l : List Iv} {most : Int} {f : Nat} {H : List Int} {D : List Bool} (h : nextN l H D = l.length) : htGo l most (f + 1) H D = (H, 0, 0) := by rw [htGo_succ, if_pos h]
theorem go_under {l : List Iv} {most : Int} {f : Nat} {H : List Int} {D : List Bool} {n : Nat} (hn : nextN l H D = n) (h1 : n < l.length) (h : H.getD n 0 - tkL l n < 0) : htGo l most (f + 1) H D = ([], n, 121) := by
  subst hn
  rw [htGo_succ, if_neg (by omega), if_pos h]
theorem go_over {l : List Iv} {most : Int} {f : Nat} {H : List Int} {D : List Bool} {n : Nat} (hn : nextN l H D = n) (h1 : n < l.length) (h : ¬ H.getD n 0 - tkL l n < 0) (h2 : most < H.getD n 0 - tkL l n + gvL l n) : htGo l most (f + 1) H D = ([], n, 122) := by
  subst hn
  rw [htGo_succ, if_neg (by omega), if_neg h, if_pos h2]
theorem go_height {l : List Iv} {most : Int} {f : Nat} {H : List Int} {D : List Bool} {n m : Nat} (hn : nextN l H D = n) (h1 : n < l.length) (h : ¬ H.getD n 0 - tkL l n < 0) (h2 : ¬ most < H.getD n 0 - tkL l n + gvL l n) (hp : (push (H.getD n 0 - tkL l n + gvL l n) (behL l n) H).2 = some m) : htGo l most (f + 1) H D = ([], m, 120) := by
  subst hn
  rw [htGo_succ, if_neg (by omega), if_neg h, if_neg h2]
  cases q : push (H.getD (nextN l H D) 0 - tkL l (nextN l H D) + gvL l (nextN l H D)) (behL l (nextN l H D)) H with
  | mk H' o => rw [q] at hp; simp only at hp; subst hp; rfl
theorem go_next {l : List Iv} {most : Int} {f : Nat} {H H' : List Int} {D : List Bool} {n : Nat} (hn : nextN l H D = n) (h1 : n < l.length) (h : ¬ H.getD n 0 - tkL l n < 0) (h2 : ¬ most < H.getD n 0 - tkL l n + gvL l n) (hp : push (H.getD n 0 - tkL l n + gvL l n) (behL l n) H = (H', none)) : htGo l most (f + 1) H D = htGo l most f H' (D.set n true) := by
  subst hn
  rw [htGo_succ, if_neg (by omega), if_neg h, if_neg h2, hp]
end Hgt
end Go.Proofs.YtjoiogdckbaeaaaDoor
