/- Loops found by going down once, in numbers: what stands between two calls. No program. · slices.Min on numbers that are not negative. · While the least one in a loop is sought: what stands in memory. · While the least one in a loop is sought: one is gone to, with all behind it. · The least one in a loop: cost.leastInLoop. -/
import Derived.Test.YtjoiogdckbaeaaaDoorCostM
import Derived.Test.YtjoiogdckbaeaaaDoorFlowInts
import Derived.Test.YtjoiogdckbaeaaaDoorFlowS
import Derived.Test.YtjoiogdckbaeaaaDoorFlowP1
import Derived.Test.YtjoiogdckbaeaaaDoorRightsPosts
import Derived.StillTailTactics
import Derived.Sort.CutIn
namespace Go.Proofs.YtjoiogdckbaeaaaDoor
namespace Cst
open Isa Flw
set_option linter.unusedVariables false
set_option linter.unusedSimpArgs false
def SH : Nat := 9223372036854775807
/-- one number set -/
def up (b : Nat → Nat) (n v : Nat) : Nat → Nat := fun x => if n = x then v else b x
theorem up_at (b : Nat → Nat) (n v : Nat) : up b n v n = v := by unfold up; rw [if_pos rfl]
theorem up_ne (b : Nat → Nat) {n x : Nat} (v : Nat) (h : n ≠ x) : up b n v x = b x := by unfold up; rw [if_neg h]
theorem wf_up {W : List Nat} {k : Nat} (v : Nat) (hk : k < W.length) : wf (W.set k v) = up (wf W) k v := by
  funext j
  rw [wf_set hk]; rfl
def Star (l : List Iv) (n m : Nat) : Prop := n = m ∨ To l n m
theorem Star.to {l : List Iv} {n m k : Nat} (h : Star l n m) (h2 : To l m k) : To l n k := by
  rcases h with rfl | h
  · exact h2
  · exact h.trans h2
theorem To.star {l : List Iv} {n m k : Nat} (h : To l n m) (h2 : Star l m k) : To l n k := by
  rcases h2 with rfl | h2
  · exact h
  · exact h.trans h2
theorem Star.trans {l : List Iv} {n m k : Nat} (h : Star l n m) (h2 : Star l m k) : Star l n k := by
  rcases h with rfl | h
  · exact h2
  · exact .inr (h.star h2)
/-- what holds between two calls: b: the least places, S: those that are open -/
structure TInv (l : List Iv) (b : Nat → Nat) (S : List Nat) : Prop where
  nod : S.Nodup
  lt : ∀ x ∈ S, x < l.length
  on : ∀ i x, S[i]? = some x → 1 ≤ b x ∧ b x ≤ i + 1 ∧ ∃ y, S[b x - 1]? = some y ∧ Star l x y
  off : ∀ x, x ∉ S → b x = 0 ∨ b x = SH
  shut : ∀ x, b x = SH → ∀ m ∈ behL l x, b m = SH
/-- one from which all have been gone to -/
def Vis (l : List Iv) (b : Nat → Nat) (S : List Nat) (x : Nat) : Prop :=
  (∀ m ∈ behL l x, b m ≠ 0) ∧ ∀ i, S[i]? = some x → b x < i + 1 ∧ ∀ m ∈ behL l x, ∀ j, S[j]? = some m → b x ≤ j + 1
theorem at_inj {S : List Nat} (h : S.Nodup) {i j x : Nat} (hi : S[i]? = some x) (hj : S[j]? = some x) : i = j := by
  obtain ⟨h1, e1⟩ := List.getElem?_eq_some_iff.1 hi
  obtain ⟨h2, e2⟩ := List.getElem?_eq_some_iff.1 hj
  have hp := List.pairwise_iff_getElem.1 h
  rcases Nat.lt_trichotomy i j with q | q | q
  · exact absurd (e1.trans e2.symm) (hp i j h1 h2 q)
  · exact q
  · exact absurd (e2.trans e1.symm) (hp j i h2 h1 q)
theorem at_mem {S : List Nat} {i x : Nat} (h : S[i]? = some x) : x ∈ S := List.mem_of_getElem? h
theorem mem_at {S : List Nat} {x : Nat} (h : x ∈ S) : ∃ i : Nat, S[i]? = some x := List.getElem?_of_mem h
theorem at_lt {S : List Nat} {i x : Nat} (h : S[i]? = some x) : i < S.length := (List.getElem?_eq_some_iff.1 h).1
section
variable {l : List Iv} {b : Nat → Nat} {S : List Nat}
theorem TInv.len (h : TInv l b S) : S.length ≤ l.length := len_nodup _ _ h.nod h.lt
theorem TInv.small (hf : Fine l) (h : TInv l b S) {x : Nat} (hx : x ∈ S) : 1 ≤ b x ∧ b x ≤ S.length ∧ b x < SH := by
  obtain ⟨i, hi⟩ := mem_at hx
  obtain ⟨h1, h2, _⟩ := h.on i x hi
  have := at_lt hi
  have := h.len
  have := hf.most
  unfold SH
  omega
theorem TInv.isOn (hf : Fine l) (h : TInv l b S) {x : Nat} (h0 : b x ≠ 0) (h1 : b x ≠ SH) : x ∈ S := Classical.byContradiction fun hn => by
  rcases h.off x hn with e | e
  · exact h0 e
  · exact h1 e
theorem TInv.shutTo (h : TInv l b S) {x y : Nat} (hx : b x = SH) (ht : To l x y) : b y = SH := by
  induction ht with
  | one hm => exact h.shut _ hx _ hm
  | more _ hk ih => exact h.shut _ ih _ hk
/-- 'S, then n, then T' goes on with U: what was seen is seen still -/
theorem Vis.more {b1 : Nat → Nat} {U : List Nat} {x : Nat} (hI : TInv l b S) (h : Vis l b S x) (hs : b1 x = b x) (hn : ∀ m, b m ≠ 0 → b1 m ≠ 0) (hU : (S ++ U).Nodup) (h0 : x ∈ U → False) : Vis l b1 (S ++ U) x := by
  refine ⟨fun m hm => hn m (h.1 m hm), fun i hi => ?_⟩
  have hiS : S[i]? = some x := by
    by_cases q : i < S.length
    · rwa [List.getElem?_append_left q] at hi
    · rw [List.getElem?_append_right (by omega)] at hi
      exact (h0 (at_mem hi)).elim
  obtain ⟨h1, h2⟩ := h.2 i hiS
  rw [hs]
  refine ⟨h1, fun m hm j hj => ?_⟩
  by_cases q : j < S.length
  · rw [List.getElem?_append_left q] at hj
    exact h2 m hm j hj
  · have := at_lt hiS
    omega
end
/-- while n is gone to: behind those of pre. b0, S0, L0: as it was ahead -/
structure TMid (l : List Iv) (n : Nat) (b0 : Nat → Nat) (S0 : List Nat) (L0 : Nat) (P : Nat) (pre : List Nat) (b : Nat → Nat) (T : List Nat) (L : Nat) : Prop where
  inv : TInv l b (S0 ++ n :: T)
  ini : TInv l b0 S0
  come : Come l n
  n0 : b0 n = 0
  old : ∀ x, b0 x ≠ 0 → b x = b0 x
  new : ∀ x, b0 x = 0 → b x ≠ 0 → x ≠ n → To l n x ∧ Vis l b (S0 ++ n :: T) x
  low : ∀ x ∈ T, min (b n) P ≤ b x
  done : ∀ m ∈ pre, b m ≠ 0 ∧ ∀ j, (S0 ++ n :: T)[j]? = some m → b n ≤ j + 1
  le : L ≤ L0
  ok : L = L0 ∨ lpB l L = true
  self : ∀ x, b0 x = 0 → b x ≠ 0 → x ≠ n → x ∈ behL l x → L ≤ x
  selfn : n ∈ pre → L ≤ n
  lshut : ∀ x, b0 x = 0 → b x = SH → lpB l x = true → L ≤ x
/-- what a call leaves -/
structure TPost (l : List Iv) (n : Nat) (b0 : Nat → Nat) (S0 : List Nat) (L0 : Nat) (b : Nat → Nat) (T : List Nat) (L : Nat) : Prop where
  inv : TInv l b (S0 ++ T)
  vis : b n ≠ 0
  old : ∀ x, b0 x ≠ 0 → b x = b0 x
  new : ∀ x, b0 x = 0 → b x ≠ 0 → Star l n x ∧ Vis l b (S0 ++ T) x
  low : ∀ x ∈ T, b n ≤ b x
  le : L ≤ L0
  ok : L = L0 ∨ lpB l L = true
  self : ∀ x, b0 x = 0 → b x ≠ 0 → x ∈ behL l x → L ≤ x
  lshut : ∀ x, b0 x = 0 → b x = SH → lpB l x = true → L ≤ x
section
variable {l : List Iv} {n : Nat} {b0 : Nat → Nat} {S0 : List Nat} {L0 : Nat}
theorem app_at (S0 T : List Nat) (n : Nat) : (S0 ++ n :: T)[S0.length]? = some n := by
  rw [List.getElem?_append_right (Nat.le_refl _), Nat.sub_self]; rfl
theorem TMid.start (hf : Fine l) (hw : ∀ i ∈ l, i.wf) (h : TInv l b0 S0) (hc : Come l n) (h0 : b0 n = 0) : TMid l n b0 S0 L0 SH [] (up b0 n (S0.length + 1)) [] L0 := by
  have hns : n ∉ S0 := fun q => by have := h.small hf q; omega
  have hne : ∀ x, b0 x ≠ 0 → n ≠ x := fun x hx e => by subst e; exact hx h0
  have hne2 : ∀ x ∈ S0, n ≠ x := fun x hx e => by subst e; exact hns hx
  have hnod : (S0 ++ [n]).Nodup := by
    rw [List.nodup_append]
    exact ⟨h.nod, by simp, fun a ha b hb e => by simp at hb; subst hb; subst e; exact hns ha⟩
  have hlen : (S0 ++ [n]).length ≤ l.length := len_nodup _ _ hnod fun x hx => by
    rcases List.mem_append.1 hx with q | q
    · exact h.lt x q
    · simp at q; subst q; exact come_lt hf hw hc
  rw [List.length_append, List.length_singleton] at hlen
  have hm := hf.most
  refine ⟨⟨hnod, fun x hx => ?_, fun i x hi => ?_, fun x hx => ?_, fun x hx m hm => ?_⟩, h, hc, h0, fun x hx => up_ne _ _ (hne x hx), fun x hx hx2 hx3 => ?_, fun x hx => by simp at hx, fun m hm => by simp at hm, Nat.le_refl _, .inl rfl, fun x hx hx2 hx3 => ?_, fun q => by simp at q, fun x hx hx2 => ?_⟩
  · rcases List.mem_append.1 hx with q | q
    · exact h.lt x q
    · simp at q; subst q; exact come_lt hf hw hc
  · by_cases q : i < S0.length
    · rw [List.getElem?_append_left q] at hi
      rw [up_ne _ _ (hne2 x (at_mem hi))]
      obtain ⟨h1, h2, y, h3, h4⟩ := h.on i x hi
      exact ⟨h1, h2, y, by rw [List.getElem?_append_left (at_lt h3)]; exact h3, h4⟩
    · rw [List.getElem?_append_right (by omega)] at hi
      have hl := at_lt hi
      simp at hl
      have e : i - S0.length = 0 := by omega
      rw [e] at hi
      simp at hi
      subst hi
      rw [up_at]
      exact ⟨by omega, by omega, n, by simp, .inl rfl⟩
  · simp only [List.mem_append, List.mem_singleton, not_or] at hx
    rw [up_ne _ _ (fun e => hx.2 e.symm)]
    exact h.off x hx.1
  · by_cases e : n = x
    · subst e; rw [up_at] at hx; unfold SH at hx; omega
    · rw [up_ne _ _ e] at hx
      have := h.shut x hx m hm
      rw [up_ne _ _ (hne m (by rw [this]; unfold SH; omega))]
      exact this
  · rw [up_ne _ _ (fun e => hx3 e.symm)] at hx2; exact absurd hx hx2
  · rw [up_ne _ _ (fun e => hx3 e.symm)] at hx2; exact absurd hx hx2
  · by_cases e : n = x
    · subst e; rw [up_at] at hx2; unfold SH at hx2; omega
    · rw [up_ne _ _ e, hx] at hx2; unfold SH at hx2; omega
variable {pre : List Nat} {b : Nat → Nat} {T : List Nat} {L : Nat}
theorem TMid.bn (hf : Fine l) {P : Nat} (h : TMid l n b0 S0 L0 P pre b T L) : 1 ≤ b n ∧ b n ≤ S0.length + 1 ∧ b n < SH := by
  have h1 := h.inv.on _ _ (app_at S0 T n)
  have h2 := h.inv.small hf (at_mem (app_at S0 T n))
  omega
theorem TMid.fresh (hf : Fine l) {P : Nat} (h : TMid l n b0 S0 L0 P pre b T L) {x : Nat} (hx : x ∈ T) : b0 x = 0 := Classical.byContradiction fun q => by
  have hs := h.inv.small hf (x := x) (by simp [hx])
  have ho := h.old x q
  have hx0 : x ∈ S0 := h.ini.isOn hf q (by omega)
  have hnod := h.inv.nod
  rw [List.nodup_append] at hnod
  exact hnod.2.2 x hx0 x (by simp [hx]) rfl
/-- the next one was gone to already -/
theorem TMid.seen (h : TMid l n b0 S0 L0 SH pre b T L) (m : Nat) (hn : b n < SH) : TMid l n b0 S0 L0 (b m) pre b T L :=
  ⟨h.inv, h.ini, h.come, h.n0, h.old, h.new, fun x hx => by have := h.low x hx; omega, h.done, h.le, h.ok, h.self, h.selfn, h.lshut⟩
/-- the next one is gone to -/
theorem TMid.call (hf : Fine l) (h : TMid l n b0 S0 L0 SH pre b T L) {m : Nat} (hm : m ∈ behL l n) (h0 : b m = 0) {b1 : Nat → Nat} {T1 : List Nat} {L1 : Nat} (hp : TPost l m b (S0 ++ n :: T) L b1 T1 L1) : TMid l n b0 S0 L0 (b1 m) pre b1 (T ++ T1) L1 := by
  have hb := h.bn hf
  have ea : S0 ++ n :: (T ++ T1) = (S0 ++ n :: T) ++ T1 := by simp
  have hinv : TInv l b1 (S0 ++ n :: (T ++ T1)) := by rw [ea]; exact hp.inv
  have hbn : b1 n = b n := hp.old n (by omega)
  have hnT : ∀ x ∈ T1, b x = 0 := fun x hx => Classical.byContradiction fun q => by
    have hI := hp.inv
    have hxs : x ∈ S0 ++ n :: T := h.inv.isOn hf q fun e => by
      have e1 := hp.old x q
      have := hI.small hf (x := x) (by simp [hx])
      omega
    have hnod := hI.nod
    rw [List.nodup_append] at hnod
    exact hnod.2.2 x hxs x hx rfl
  refine ⟨hinv, h.ini, h.come, h.n0, fun x hx => ?_, fun x hx hx2 hx3 => ?_, fun x hx => ?_, fun k hk => ?_, Nat.le_trans hp.le h.le, ?_, fun x hx hx2 hx3 hx4 => ?_, fun q => Nat.le_trans hp.le (h.selfn q), fun x hx hx2 hx3 => ?_⟩
  · have := h.old x hx
    rw [hp.old x (by omega), this]
  · by_cases q : b x = 0
    · obtain ⟨h1, h2⟩ := hp.new x q hx2
      rw [ea]
      exact ⟨(To.one hm).star h1, h2⟩
    · obtain ⟨h1, h2⟩ := h.new x hx q hx3
      rw [ea]
      refine ⟨h1, h2.more h.inv (hp.old x q) (fun k hk => by rw [hp.old k hk]; exact hk) hp.inv.nod fun z => q (hnT x z)⟩
  · rcases List.mem_append.1 hx with q | q
    · have h1 := h.low x q
      have h2 := h.inv.small hf (x := x) (by simp [q])
      rw [hp.old x (by omega), hbn]
      omega
    · have h1 := hp.low x q
      omega
  · obtain ⟨h1, h2⟩ := h.done k hk
    refine ⟨by rw [hp.old k h1]; exact h1, fun j hj => ?_⟩
    rw [ea] at hj
    rw [hbn]
    by_cases q : j < (S0 ++ n :: T).length
    · rw [List.getElem?_append_left q] at hj
      exact h2 j hj
    · have : S0.length < (S0 ++ n :: T).length := at_lt (app_at S0 T n)
      omega
  · rcases hp.ok with e | e
    · rw [e]; exact h.ok
    · exact .inr e
  · by_cases q : b x = 0
    · exact hp.self x q hx2 hx4
    · exact Nat.le_trans hp.le (h.self x hx q hx3 hx4)
  · by_cases q : b x = 0
    · exact hp.lshut x q hx2 hx3
    · have := hp.old x q
      exact Nat.le_trans hp.le (h.lshut x hx (by omega) hx3)
theorem up_up (b : Nat → Nat) (n v : Nat) (h : b n = v) : up b n v = b := by
  funext x
  unfold up
  split
  · rename_i e; subst e; exact h.symm
  · rfl
/-- behind the next one: its place is taken over -/
theorem TMid.step (hf : Fine l) {m : Nat} (hm : m ∈ behL l n) (h : TMid l n b0 S0 L0 (b m) pre b T L) (h0 : b m ≠ 0) {L1 : Nat} (hL : L1 = if m = n then min L n else L) {v : Nat} (hv : v = min (b n) (b m)) : TMid l n b0 S0 L0 SH (pre ++ [m]) (up b n v) T L1 := by
  subst hv
  have hb := h.bn hf
  have hI := h.inv
  have hle : L1 ≤ L := by rw [hL]; split <;> omega
  have hns : n ∈ S0 ++ n :: T := by simp
  have hnT : ∀ x ∈ T, x ≠ n := fun x hx e => by
    subst e
    have hnod := hI.nod
    rw [List.nodup_append] at hnod
    have := hnod.2.1
    rw [List.nodup_cons] at this
    exact this.1 hx
  have hon : n ∈ behL l n → True := fun _ => trivial
  have hsh : ∀ x, up b n (min (b n) (b m)) x = SH → b x = SH := fun x hx => by
    by_cases e : n = x
    · subst e; rw [up_at] at hx; omega
    · rwa [up_ne _ _ e] at hx
  have hns2 : ∀ x, b x ≠ 0 → up b n (min (b n) (b m)) x ≠ 0 := fun x hx => by
    by_cases e : n = x
    · subst e; rw [up_at]; omega
    · rwa [up_ne _ _ e]
  have hx0 : ∀ x, up b n (min (b n) (b m)) x ≠ 0 → b x ≠ 0 := fun x hx => by
    by_cases e : n = x
    · subst e; omega
    · rwa [up_ne _ _ e] at hx
  refine ⟨⟨hI.nod, hI.lt, fun i x hi => ?_, fun x hx => ?_, fun x hx k hk => ?_⟩, h.ini, h.come, h.n0, fun x hx => ?_, fun x hx hx2 hx3 => ?_, fun x hx => ?_, fun k hk => ?_, Nat.le_trans hle h.le, ?_, fun x hx hx2 hx3 hx4 => ?_, fun q => ?_, fun x hx hx2 hx3 => ?_⟩
  · by_cases e : n = x
    · subst e
      rw [up_at]
      obtain ⟨h1, h2, y, h3, h4⟩ := hI.on i n hi
      by_cases q : b n ≤ b m
      · rw [Nat.min_eq_left q]
        exact ⟨h1, h2, y, h3, h4⟩
      · have hms : m ∈ S0 ++ n :: T := hI.isOn hf h0 (by omega)
        obtain ⟨j, hj⟩ := mem_at hms
        obtain ⟨g1, g2, z, g3, g4⟩ := hI.on j m hj
        rw [Nat.min_eq_right (by omega)]
        exact ⟨g1, by omega, z, g3, .inr ((To.one hm).star g4)⟩
    · rw [up_ne _ _ e]
      exact hI.on i x hi
  · rw [up_ne _ _ (fun e => hx (by rw [← e]; exact hns))]
    exact hI.off x hx
  · have h1 := hI.shut x (hsh x hx) k hk
    rw [up_ne _ _ (fun e => by subst e; omega)]
    exact h1
  · rw [up_ne _ _ (fun e => by subst e; exact hx h.n0)]
    exact h.old x hx
  · obtain ⟨h1, h2, h3⟩ := h.new x hx (hx0 x hx2) hx3
    refine ⟨h1, fun k hk => hns2 k (h2 k hk), fun i hi => ?_⟩
    rw [up_ne _ _ (fun e => hx3 e.symm)]
    exact h3 i hi
  · have h1 := h.low x hx
    rw [up_at, up_ne _ _ (fun e => hnT x hx e.symm)]
    omega
  · rw [up_at]
    rcases List.mem_append.1 hk with q | q
    · obtain ⟨h1, h2⟩ := h.done k q
      exact ⟨hns2 k h1, fun j hj => by have := h2 j hj; omega⟩
    · simp at q
      subst q
      exact ⟨hns2 k h0, fun j hj => by have := (hI.on j k hj).2.1; omega⟩
  · rw [hL]
    split
    · rename_i e
      subst e
      rcases Nat.lt_or_ge L m with q | q
      · rw [Nat.min_eq_left (by omega)]; exact h.ok
      · rw [Nat.min_eq_right q]
        right
        unfold lpB agB
        rw [comeB_iff.2 h.come, toB_iff.2 (.one hm)]; rfl
    · exact h.ok
  · exact Nat.le_trans hle (h.self x hx (hx0 x hx2) hx3 hx4)
  · rcases List.mem_append.1 q with q | q
    · exact Nat.le_trans hle (h.selfn q)
    · simp at q
      rw [hL, if_pos q.symm]; omega
  · exact Nat.le_trans hle (h.lshut x hx (hsh x hx2) hx3)
/-- it comes to one ahead of it -/
theorem TMid.over (hf : Fine l) (h : TMid l n b0 S0 L0 SH (behL l n) b T L) (hlt : b n < S0.length + 1) : TPost l n b0 S0 L0 b (n :: T) L := by
  have hb := h.bn hf
  refine ⟨h.inv, by omega, h.old, fun x hx hx2 => ?_, fun x hx => ?_, h.le, h.ok, fun x hx hx2 hx3 => ?_, h.lshut⟩
  · by_cases e : x = n
    · subst e
      refine ⟨.inl rfl, fun m hm => (h.done m hm).1, fun i hi => ?_⟩
      have := at_inj h.inv.nod hi (app_at S0 T x)
      subst this
      exact ⟨hlt, fun m hm j hj => (h.done m hm).2 j hj⟩
    · obtain ⟨h1, h2⟩ := h.new x hx hx2 e
      exact ⟨.inr h1, h2⟩
  · rcases List.mem_cons.1 hx with q | q
    · subst q; exact Nat.le_refl _
    · have := h.low x q; omega
  · by_cases e : x = n
    · subst e; exact h.selfn hx3
    · exact h.self x hx hx2 e hx3
/-- from all of these one comes to n -/
theorem TMid.back (hf : Fine l) (h : TMid l n b0 S0 L0 SH (behL l n) b T L) (hge : S0.length + 1 ≤ b n) : ∀ i x, (S0 ++ n :: T)[i]? = some x → S0.length ≤ i → Star l x n := by
  intro i
  induction i using Nat.strongRecOn with
  | ind i ih =>
    intro x hi hl
    have hb := h.bn hf
    by_cases e : x = n
    · exact .inl e
    · have hxT : x ∈ T := by
        have := hi
        rw [List.getElem?_append_right hl] at this
        rcases List.mem_cons.1 (at_mem this) with q | q
        · exact absurd q e
        · exact q
      have h1 := h.low x hxT
      have hs := h.inv.small hf (x := x) (by simp [hxT])
      have hx0 := h.fresh hf hxT
      obtain ⟨_, h2, h3⟩ := h.new x hx0 (by omega) e
      obtain ⟨h4, _⟩ := h3 i hi
      obtain ⟨_, _, y, g3, g4⟩ := h.inv.on i x hi
      exact g4.trans (ih (b x - 1) (by omega) y g3 (by omega))
/-- what is left of a list that begins with n, set shut -/
theorem TMid.cut (hf : Fine l) (hw : ∀ i ∈ l, i.wf) (h : TMid l n b0 S0 L0 SH (behL l n) b T L) (hge : S0.length + 1 ≤ b n) {b1 : Nat → Nat} (hb1 : ∀ x, b1 x = if x ∈ n :: T then SH else b x) {L1 : Nat}
    (hL0 : T = [] → L1 = L) (hL1 : T ≠ [] → L1 ≤ L ∧ (L1 = L ∨ L1 ∈ n :: T) ∧ ∀ x ∈ n :: T, L1 ≤ x) : TPost l n b0 S0 L0 b1 [] L1 := by
  have hb := h.bn hf
  have hI := h.inv
  have hle : L1 ≤ L := by
    by_cases e : T = []
    · rw [hL0 e]; exact Nat.le_refl _
    · exact (hL1 e).1
  have hin : ∀ x, x ∈ n :: T → b1 x = SH := fun x hx => by rw [hb1, if_pos hx]
  have hout : ∀ x, x ∉ n :: T → b1 x = b x := fun x hx => by rw [hb1, if_neg hx]
  have hnod := hI.nod
  rw [List.nodup_append] at hnod
  have hS : ∀ x ∈ S0, x ∉ n :: T := fun x hx hx2 => hnod.2.2 x hx x hx2 rfl
  have hR0 : ∀ x ∈ n :: T, b0 x = 0 := fun x hx => by
    rcases List.mem_cons.1 hx with q | q
    · rw [q]; exact h.n0
    · exact h.fresh hf q
  have hgeR : ∀ x ∈ n :: T, S0.length + 1 ≤ b x := fun x hx => by
    rcases List.mem_cons.1 hx with q | q
    · rw [q]; exact hge
    · have := h.low x q; omega
  have hvis : ∀ x ∈ n :: T, ∀ m ∈ behL l x, b m ≠ 0 ∧ ∀ j, (S0 ++ n :: T)[j]? = some m → b x ≤ j + 1 := fun x hx m hm => by
    by_cases e : x = n
    · subst e; exact h.done m hm
    · have hxT : x ∈ T := by
        rcases List.mem_cons.1 hx with q | q
        · exact absurd q e
        · exact q
      have hs := hI.small hf (x := x) (by simp [hxT])
      obtain ⟨_, h2, h3⟩ := h.new x (hR0 x hx) (by omega) e
      obtain ⟨i, hi⟩ := mem_at (S := S0 ++ n :: T) (x := x) (by simp [hxT])
      exact ⟨h2 m hm, (h3 i hi).2 m hm⟩
  have hcl : ∀ x ∈ n :: T, ∀ m ∈ behL l x, b1 m = SH := fun x hx m hm => by
    obtain ⟨h1, h2⟩ := hvis x hx m hm
    by_cases q : m ∈ n :: T
    · exact hin m q
    · rw [hout m q]
      by_cases q2 : b m = SH
      · exact q2
      · exfalso
        have hms := hI.isOn hf h1 q2
        obtain ⟨j, hj⟩ := mem_at hms
        have h3 := h2 j hj
        have h4 := hgeR x hx
        rw [List.getElem?_append_right (by omega)] at hj
        exact q (at_mem hj)
  have hsh : TInv l b1 S0 := by
    refine ⟨h.ini.nod, h.ini.lt, fun i x hi => ?_, fun x hx => ?_, fun x hx m hm => ?_⟩
    · have hx := at_mem hi
      have hil := at_lt hi
      rw [hout x (hS x hx)]
      obtain ⟨h1, h2, y, h3, h4⟩ := hI.on i x (by rw [List.getElem?_append_left hil]; exact hi)
      exact ⟨h1, h2, y, by rwa [List.getElem?_append_left (by omega)] at h3, h4⟩
    · by_cases q : x ∈ n :: T
      · exact .inr (hin x q)
      · rw [hout x q]
        exact hI.off x (by rw [List.mem_append]; rintro (z | z); exact hx z; exact q z)
    · by_cases q : x ∈ n :: T
      · exact hcl x q m hm
      · rw [hout x q] at hx
        have h1 := hI.shut x hx m hm
        have q2 : m ∉ n :: T := fun z => by
          have := hI.small hf (x := m) (by rw [List.mem_append]; exact .inr z)
          omega
        rw [hout m q2]; exact h1
  have hnew : ∀ x, b0 x = 0 → b1 x ≠ 0 → x ∉ n :: T → b x ≠ 0 := fun x _ h2 h3 => by rwa [hout x h3] at h2
  have hR : ∀ x ∈ n :: T, Star l x n := fun x hx => by
    obtain ⟨i, hi⟩ := mem_at hx
    refine h.back hf hge (S0.length + i) x ?_ (by omega)
    rw [List.getElem?_append_right (by omega), show S0.length + i - S0.length = i by omega]
    exact hi
  have hTo : ∀ x ∈ T, To l n x ∧ x ≠ n := fun x hx => by
    have hxn : x ≠ n := fun e => by subst e; have := hnod.2.1; rw [List.nodup_cons] at this; exact this.1 hx
    have hs := hI.small hf (x := x) (by simp [hx])
    exact ⟨(h.new x (h.fresh hf hx) (by omega) hxn).1, hxn⟩
  refine ⟨by rw [List.append_nil]; exact hsh, by rw [hin n (by simp)]; unfold SH; omega, fun x hx => ?_, fun x hx hx2 => ?_, fun x hx => by simp at hx, Nat.le_trans hle h.le, ?_, fun x hx hx2 hx3 => ?_, fun x hx hx2 hx3 => ?_⟩
  · rw [hout x (fun q => hx (hR0 x q))]
    exact h.old x hx
  · have hno : ∀ i, ¬ S0[i]? = some x := fun i hi => by
      have h1 := h.ini.on i x hi
      omega
    rw [List.append_nil]
    by_cases q : x ∈ n :: T
    · refine ⟨?_, fun m hm => by rw [hcl x q m hm]; unfold SH; omega, fun i hi => (hno i hi).elim⟩
      rcases List.mem_cons.1 q with e | e
      · exact .inl e.symm
      · exact .inr (hTo x e).1
    · have hxn : x ≠ n := fun e => q (by simp [e])
      obtain ⟨h1, h2⟩ := h.new x hx (hnew x hx hx2 q) hxn
      refine ⟨.inr h1, fun m hm => ?_, fun i hi => (hno i hi).elim⟩
      by_cases q2 : m ∈ n :: T
      · rw [hin m q2]; unfold SH; omega
      · rw [hout m q2]; exact h2.1 m hm
  · by_cases e : T = []
    · rw [hL0 e]; exact h.ok
    · obtain ⟨_, h2, _⟩ := hL1 e
      rcases h2 with h2 | h2
      · rw [h2]; exact h.ok
      · right
        unfold lpB agB
        have hc : Come l L1 := by
          rcases List.mem_cons.1 h2 with q | q
          · rw [q]; exact h.come
          · exact To.come h.come (hTo L1 q).1
        have ht : To l L1 L1 := by
          rcases List.mem_cons.1 h2 with q | q
          · obtain ⟨y, hy⟩ := List.exists_mem_of_ne_nil T e
            rw [q]
            exact (hTo y hy).1.star (hR y (by simp [hy]))
          · exact (hR L1 h2).to (hTo L1 q).1
        rw [comeB_iff.2 hc, toB_iff.2 ht]; rfl
  · by_cases q : x ∈ n :: T
    · by_cases e : T = []
      · subst e
        simp at q
        subst q
        rw [hL0 rfl]
        exact h.selfn hx3
      · exact (hL1 e).2.2 x q
    · exact Nat.le_trans hle (h.self x hx (hnew x hx hx2 q) (fun e => q (by simp [e])) hx3)
  · by_cases q : x ∈ n :: T
    · by_cases e : T = []
      · subst e
        simp at q
        subst q
        rw [hL0 rfl]
        by_cases hs : x ∈ behL l x
        · exact h.selfn hs
        · exfalso
          have ht : To l x x := by
            unfold lpB agB at hx3
            simp only [Bool.and_eq_true] at hx3
            exact toB_iff.1 hx3.2
          have key : ∀ y, To l x y → b y = SH := fun y hy => by
            induction hy with
            | @one y hy =>
              have h1 := hcl x (by simp) y hy
              have : y ≠ x := fun e => hs (by rw [e] at hy; exact hy)
              rwa [hout y (by simpa using this)] at h1
            | more _ hk ih => exact hI.shut _ ih _ hk
          have := key x ht
          omega
      · exact (hL1 e).2.2 x q
    · rw [hout x q] at hx2
      exact Nat.le_trans hle (h.lshut x hx hx2 hx3)
end
theorem tinv_nil (l : List Iv) : TInv l (fun _ => 0) [] :=
  ⟨List.nodup_nil, fun x hx => by simp at hx, fun i x hi => by simp at hi, fun x _ => .inl rfl, fun x hx => by unfold SH at hx; omega⟩
/-- from 0 on all is found: the least one in a loop -/
theorem TPost.fin {l : List Iv} (hf : Fine l) (hw : ∀ i ∈ l, i.wf) {b : Nat → Nat} {T : List Nat} {L : Nat} (h : TPost l 0 (fun _ => 0) [] l.length b T L) (hl : lpK l < l.length) : L = lpK l := by
  have hT : T = [] := by
    cases hT : T with
    | nil => rfl
    | cons x r =>
      exfalso
      have hI := h.inv
      rw [hT, List.nil_append] at hI
      have h1 := hI.on 0 x rfl
      have h2 := h.new x rfl (by omega)
      rw [hT, List.nil_append] at h2
      have := (h2.2.2 0 rfl).1
      omega
  subst hT
  have hI := h.inv
  have hall : ∀ x, Come l x → b x = SH := fun x hx => by
    induction hx with
    | zero =>
      rcases hI.off 0 (by simp) with q | q
      · exact absurd q h.vis
      · exact q
    | step _ hm ih => exact hI.shut _ ih _ hm
  have hit : lpB l (lpK l) = true := first_hit (p := lpB l) (n := l.length) hl
  have hcy : ∀ x, lpB l x = true → L ≤ x := fun x hx => by
    have hc : Come l x := by unfold lpB at hx; simp only [Bool.and_eq_true] at hx; exact comeB_iff.1 hx.1
    exact h.lshut x rfl (hall x hc) hx
  have h1 := hcy _ hit
  rcases h.ok with e | e
  · omega
  · have : ¬ L < lpK l := fun q => by
      have := first_miss (p := lpB l) (n := l.length) q
      rw [e] at this; cases this
    omega
/-- how many have not been gone to -/
def zc (l : List Iv) (b : Nat → Nat) : Nat := ((List.range l.length).filter (fun x => b x == 0)).length
theorem zc_less {l : List Iv} (hf : Fine l) (hw : ∀ i ∈ l, i.wf) {n : Nat} {b0 : Nat → Nat} {S0 : List Nat} {L0 P : Nat} {pre : List Nat} {b : Nat → Nat} {T : List Nat} {L : Nat} (h : TMid l n b0 S0 L0 P pre b T L) : zc l b < zc l b0 := by
  refine filter_lt _ (fun x _ hx => ?_) ⟨n, List.mem_range.2 (come_lt hf hw h.come), by simpa using h.n0, ?_⟩
  · simp only [beq_iff_eq] at hx ⊢
    exact Classical.byContradiction fun q => q (by have := h.old x q; omega)
  · have := h.bn hf
    simp only [beq_eq_false_iff_ne, ne_eq]
    omega
end Cst
end Go.Proofs.YtjoiogdckbaeaaaDoor
namespace Go.Proofs.YtjoiogdckbaeaaaDoor
open Go.ChangeShapes Go.WideShapes Go.ChangeAt Go.RowKit
namespace Cst
open Isa Flw
set_option linter.unusedVariables false
set_option linter.unusedSimpArgs false
theorem run_min2 (a b M : Nat) (h : M = min a b) (X : World) : (Builtin.min_ #[3, 3] 3 #[.int .i64 (a : Int), .int .i64 (b : Int)]).run Tryd.prog X = .ok (.int .i64 ((M : Nat) : Int)) X := by
  have h : (if (b : Int) < a then (b : Int) else a) = ((M : Nat) : Int) := by split <;> omega
  simp only [Builtin.min_, ← h]
  simp [Builtin.min2]
set_option maxHeartbeats 1600000 in
theorem min_any (A : List Nat) (a : Option Addr) (n c : Nat) (h0 : 0 < n) (hm : n ≤ 1000000) (w : World) (h : NRow w a n A) :
    Calls Tryd.prog 64 #[.slice a n c] w fun e w' => ∃ v : Nat, e = .returned (.int .i64 (v : Nat)) ∧ (∀ x ∈ A, v ≤ x) ∧ v ∈ A ∧ w' = w := by
  have hlen : A.length = n := h.1
  obtain ⟨b, off, rfl, hc⟩ := h.2.resolve_left (by omega)
  have HA := Lib.hid hc
  have q0 := HA.out 0 h0
  rw [Nat.add_zero] at q0
  have hd1 : decide ((n : Int) < 1) = false := decide_eq_false (by omega)
  have k0 : (0 : Int) < n := by omega
  have HL := Lib.hid hlen
  have HIn : Hid (∀ x, x < n → A.getD x 0 ∈ A) := fun x hx => by
    rw [List.getD_eq_getElem?_getD, List.getElem?_eq_getElem (by omega)]; simp
  have HOn : Hid (∀ y ∈ A, ∃ x, x < n ∧ A.getD x 0 = y) := fun y hy => by
    obtain ⟨x, hx, e⟩ := List.getElem_of_mem hy
    exact ⟨x, by omega, by rw [List.getD_eq_getElem?_getD, List.getElem?_eq_getElem hx, e]; rfl⟩
  clear h hc hlen
  generalize hz : A.getD 0 0 = z at *
  have HZ := Lib.hid hz
  clear hz
  go_enter Tryd.func64, Tryd.ntmps64
  go_wp2_with fail
  clear q0 hd1
  go_loopw [3, 4] (fun s3 s4 wr => ∃ (k : Nat) (v : Nat), 1 ≤ k ∧ k ≤ n ∧ s3 = .int .i64 (v : Nat) ∧ s4 = .int .i64 k ∧ (∀ x, x < k → v ≤ A.getD x 0) ∧ (∃ x, x < k ∧ v = A.getD x 0) ∧ wr = w) (fun _ s4 _ => n - (intOf s4).toNat)
  case atStart => exact ⟨1, z, Nat.le_refl _, by omega, rfl, rfl, fun x hx => by rw [show x = 0 from by omega, HZ.out]; exact Nat.le_refl _, ⟨0, by omega, HZ.out.symm⟩, rfl⟩
  case round =>
    obtain ⟨k, v, hk1, hk, rfl, rfl, h1, h2, rfl⟩ := hrel
    have H1 := Lib.hid h1
    have H2 := Lib.hid h2
    clear h1 h2
    by_cases hlt : k < n
    · have qk := HA.out k hlt
      have hd : decide ((k : Int) < (n : Int)) = true := decide_eq_true (by omega)
      have t0 : (0 : Int) ≤ k := by omega
      have t1 : (k : Int) < n := by omega
      generalize hy : A.getD k 0 = y at *
      have HY := Lib.hid hy
      clear hy
      obtain ⟨M, hM⟩ : ∃ M, M = min v y := ⟨_, rfl⟩
      have hrun := run_min2 v y M hM
      have H3 : Hid ((∀ x, x < k + 1 → M ≤ A.getD x 0) ∧ ∃ x, x < k + 1 ∧ M = A.getD x 0) := by
        refine ⟨fun x hx => ?_, ?_⟩
        · by_cases q : x = k
          · rw [q, HY.out]; omega
          · have := H1.out x (by omega); omega
        · by_cases q : v ≤ y
          · obtain ⟨x, hx, e⟩ := H2.out
            exact ⟨x, by omega, by rw [← e]; omega⟩
          · exact ⟨k, by omega, by rw [HY.out]; omega⟩
      clear hM
      go_wp2_with fail
      exact ⟨⟨k + 1, M, by omega, by omega, rfl, by simp, H3.out.1, H3.out.2, by first | trivial | rfl⟩, by simp [intOf]; omega⟩
    · obtain rfl : k = n := by omega
      have hd : decide ((k : Int) < (k : Int)) = false := decide_eq_false (by omega)
      go_wp2_with fail
      go_ret
      refine ⟨v, rfl, fun x hx => ?_, ?_, rfl⟩
      · obtain ⟨i, hi, rfl⟩ := HOn.out x hx
        exact H1.out i hi
      · obtain ⟨x, hx, e⟩ := H2.out
        rw [e]; exact HIn.out x hx
end Cst
end Go.Proofs.YtjoiogdckbaeaaaDoor
namespace Go.Proofs.YtjoiogdckbaeaaaDoor
open Go.ChangeShapes Go.WideShapes Go.ChangeAt Go.RowKit
namespace Cst
open Isa Flw
open Goes
open Rights (Kept)
set_option linter.unusedVariables false
set_option linter.unusedSimpArgs false
def pI (l : List Nat) : List Int := l.map fun (k : Nat) => (k : Int)
theorem pI_at {l : List Nat} (k : Nat) : (pI l).getD k 0 = ((wf l k : Nat) : Int) := by
  unfold pI wf
  rw [List.getD_eq_getElem?_getD, List.getElem?_map, List.getD_eq_getElem?_getD]
  cases l[k]? <;> rfl
theorem pI_set (l : List Nat) (k u : Nat) : pI (l.set k u) = (pI l).set k (u : Int) := by unfold pI; rw [List.map_set]
/-- the list, the least one, those that are open (S + 2: the variable; v: its row), the least places (S + 3: the row, S + 4: the variable), the function's variable -/
structure VSt (S n : Nat) (w : World) (sl vf : Value) (Bk op : List Nat) (v : Value) (L : Nat) (V : World) : Prop where
  bl : Box V S 22 sl
  be : Box V (S + 1) 3 (.int .i64 (L : Nat))
  bo : Box V (S + 2) 58 v
  row : PRow V (S + 3) (pI Bk)
  bb : Box V (S + 4) 58 (.slice (some ⟨S + 3, 0, none⟩) n n)
  bv : Box V (S + 5) 105 vf
  own : V.ownsRow (S + 6) 3 1 v op.length (nums op)
  bel : Below S w V
  len : Bk.length = n
section
variable {S n : Nat} {w : World} {sl vf : Value} {Bk op : List Nat} {v : Value} {L : Nat} {V : World}
theorem VSt.ge (h : VSt S n w sl vf Bk op v L V) {g : Nat} (hg : v.ownBlock = some g) : S + 6 ≤ g ∧ g < V.heap.size := own_lt h.own hg
theorem VSt.big (h : VSt S n w sl vf Bk op v L V) : S + 6 ≤ V.heap.size := by have := h.bv.lt; omega
theorem VSt.kept (h : VSt S n w sl vf Bk op v L V) {p : Nat → Prop} {V' : World} (hk : Kept p V V') (hp : ∀ k, p k → S + 6 ≤ k) (hg : ∀ g, v.ownBlock = some g → ¬ p g) : VSt S n w sl vf Bk op v L V' := by
  have hS := h.bl.lt
  have no : ∀ k, k < S + 6 → ¬ p k := fun k hk hpk => by have := hp k hpk; omega
  exact ⟨h.bl.kept hk (no _ (by omega)), h.be.kept hk (no _ (by omega)), h.bo.kept hk (no _ (by omega)), hk.same h.row (no _ (by omega)), h.bb.kept hk (no _ (by omega)), h.bv.kept hk (no _ (by omega)), own_kept h.own hk hg, h.bel.trans (below_of hk (by omega) (fun k hk => by have := hp k hk; omega)), h.len⟩
theorem VSt.below (h : VSt S n w sl vf Bk op v L V) {V' : World} (hb : Below V.heap.size V V') : VSt S n w sl vf Bk op v L V' :=
  h.kept (kept_of hb fun k h1 h2 => absurd h1 (by omega) : Kept (fun _ => False) V V') (fun _ x => x.elim) (fun _ _ x => x)
theorem VSt.at (h : VSt S n w sl vf Bk op v L V) {k : Nat} (hk : k < n) : V.cell? ⟨S + 3, k, none⟩ = some (.int .i64 ((wf Bk k : Nat) : Int)) := by
  rw [h.row.at (k := k) (by unfold pI; rw [List.length_map, h.len]; exact hk), pI_at]
/-- one least place is set -/
theorem VSt.put (h : VSt S n w sl vf Bk op v L V) (x u : Nat) : Kept (fun k => k = S + 3) V (V.setCell ⟨S + 3, x, none⟩ (.int .i64 ((u : Nat) : Int))) ∧ VSt S n w sl vf (Bk.set x u) op v L (V.setCell ⟨S + 3, x, none⟩ (.int .i64 ((u : Nat) : Int))) := by
  have hk : Kept (fun k => k = S + 3) V (V.setCell ⟨S + 3, x, none⟩ (.int .i64 ((u : Nat) : Int))) := kept_set _ _ _ _ rfl
  have hS := h.bl.lt
  refine ⟨hk, h.bl.kept hk (by omega), h.be.kept hk (by omega), h.bo.kept hk (by omega), ?_, h.bb.kept hk (by omega), h.bv.kept hk (by omega), own_kept h.own hk (fun g hg e => by have := h.ge hg; have e2 : g = S + 3 := e; omega), h.bel.trans (below_of hk (by omega) (fun k hk => by have e2 : k = S + 3 := hk; omega)), by rw [List.length_set]; exact h.len⟩
  rw [pI_set]
  exact h.row.set x u
/-- the least one is set -/
theorem VSt.least (h : VSt S n w sl vf Bk op v L V) (u : Nat) : Kept (fun k => k = S + 1) V (V.setCell ⟨S + 1, 0, none⟩ (.int .i64 ((u : Nat) : Int))) ∧ VSt S n w sl vf Bk op v u (V.setCell ⟨S + 1, 0, none⟩ (.int .i64 ((u : Nat) : Int))) := by
  have hk : Kept (fun k => k = S + 1) V (V.setCell ⟨S + 1, 0, none⟩ (.int .i64 ((u : Nat) : Int))) := kept_set _ _ _ _ rfl
  have hS := h.bl.lt
  exact ⟨hk, h.bl.kept hk (by omega), h.be.set _, h.bo.kept hk (by omega), hk.same h.row (by omega), h.bb.kept hk (by omega), h.bv.kept hk (by omega), own_kept h.own hk (fun g hg e => by have := h.ge hg; have e2 : g = S + 1 := e; omega), h.bel.trans (below_of hk (by omega) (fun k hk => by have e2 : k = S + 1 := hk; omega)), h.len⟩
/-- one more is open: what append leaves, and the variable set to it -/
theorem VSt.push {x : Nat} {o : Obj} {Y : World} {v' : Value} (h : VSt S n w sl vf Bk op v L V) (hg : (V.alloc o).grownBy Y v.ownBlock) (ho : Y.ownsRow (S + 6) 3 1 v' (op.length + 1) (nums op ++ [.int .i64 (x : Nat)])) :
    Box Y (S + 2) 58 v ∧ Kept (fun k => k = S + 2 ∨ v.ownBlock = some k) V (Y.setCell ⟨S + 2, 0, none⟩ v') ∧ VSt S n w sl vf Bk (op ++ [x]) v' L (Y.setCell ⟨S + 2, 0, none⟩ v') := by
  have k1 : Kept (fun k => v.ownBlock = some k) V Y := ((Kept.refl _ V).alloc o).trans (kept_grown hg)
  have k2 : Kept (fun k => k = S + 2) Y (Y.setCell ⟨S + 2, 0, none⟩ v') := kept_set _ _ _ _ rfl
  have hS := h.bl.lt
  have no : ∀ k, k < S + 6 → ¬ v.ownBlock = some k := fun k hk e => by have := (h.ge e).1; omega
  have e : nums (op ++ [x]) = nums op ++ [.int .i64 (x : Nat)] := by simp [nums]
  have hb : Below S w Y := h.bel.trans (below_of k1 (by omega) (fun k hk => by have := h.ge hk; omega))
  have bo := h.bo.kept k1 (no _ (by omega))
  refine ⟨bo, (k1.mono fun k _ q => .inr q).trans (k2.mono fun k _ q => .inl q), (h.bl.kept k1 (no _ (by omega))).kept k2 (by omega), (h.be.kept k1 (no _ (by omega))).kept k2 (by omega), bo.set v', k2.same (k1.same h.row (no _ (by omega))) (by omega), (h.bb.kept k1 (no _ (by omega))).kept k2 (by omega), (h.bv.kept k1 (no _ (by omega))).kept k2 (by omega), ?_, hb.trans (below_of k2 (by have := bo.lt; omega) (fun k hk => by have e2 : k = S + 2 := hk; omega)), h.len⟩
  rw [e, List.length_append]
  exact own_kept ho k2 fun g hg2 e2 => by have := (own_lt ho hg2).1; have e3 : g = S + 2 := e2; omega
/-- the first ones alone stay open -/
theorem VSt.trim {g cap : Nat} {T : List Nat} (h : VSt S n w sl vf Bk (op ++ T) (.slice (some ⟨g, 0, none⟩) (op ++ T).length cap) L V) :
    Kept (fun k => k = S + 2) V (V.setCell ⟨S + 2, 0, none⟩ (.slice (some ⟨g, 0, none⟩) op.length cap)) ∧ VSt S n w sl vf Bk op (.slice (some ⟨g, 0, none⟩) op.length cap) L (V.setCell ⟨S + 2, 0, none⟩ (.slice (some ⟨g, 0, none⟩) op.length cap)) := by
  have hk : Kept (fun k => k = S + 2) V (V.setCell ⟨S + 2, 0, none⟩ (.slice (some ⟨g, 0, none⟩) op.length cap)) := kept_set _ _ _ _ rfl
  have hS := h.bl.lt
  have ho := h.own
  have e : nums (op ++ T) = nums op ++ nums T := by simp [nums]
  rw [e] at ho
  have ho2 := own_take ho (k := op.length) (by simp [nums]) (by rw [List.length_append]; omega)
  have hl := (h.ge (g := g) rfl).1
  refine ⟨hk, h.bl.kept hk (by omega), h.be.kept hk (by omega), h.bo.set _, hk.same h.row (by omega), h.bb.kept hk (by omega), h.bv.kept hk (by omega), own_kept ho2 hk (fun g' hg' e => by simp [Value.ownBlock] at hg'; subst hg'; have e2 : g = S + 2 := e; omega), h.bel.trans (below_of hk (by omega) (fun k hk => by have e2 : k = S + 2 := hk; omega)), h.len⟩
/-- the last ones of those that are open, as a row -/
theorem VSt.ring {g cap : Nat} {R : List Nat} (h : VSt S n w sl vf Bk (op ++ R) (.slice (some ⟨g, 0, none⟩) (op ++ R).length cap) L V) : NRow V (some ⟨g, op.length, none⟩) R.length R := by
  refine ⟨rfl, .inr ⟨g, op.length, rfl, fun j hj => ?_⟩⟩
  have := World.ownsRow.cells h.own (g := g) rfl (op.length + j) (.int .i64 ((R.getD j 0 : Nat) : Int)) (by unfold nums; rw [List.getElem?_map, List.getElem?_append_right (by omega), Nat.add_sub_cancel_left, List.getElem?_eq_getElem hj]; simp [List.getD, hj])
  rw [WideShapes.add_plain, Nat.zero_add] at this
  exact this
/-- the first i of these set to u -/
def setL (Bk R : List Nat) (u : Nat) : List Nat := R.foldl (fun B x => B.set x u) Bk
theorem setL_len (u : Nat) : ∀ (R Bk : List Nat), (setL Bk R u).length = Bk.length
  | [], _ => rfl
  | x :: r, Bk => by
    show (setL (Bk.set x u) r u).length = _
    rw [setL_len u r, List.length_set]
theorem setL_at (u : Nat) : ∀ (R Bk : List Nat), (∀ x ∈ R, x < Bk.length) → ∀ y, wf (setL Bk R u) y = if y ∈ R then u else wf Bk y
  | [], _, _ => fun y => by simp [setL]
  | x :: r, Bk, h => fun y => by
    show wf (setL (Bk.set x u) r u) y = _
    rw [setL_at u r (Bk.set x u) (fun z hz => by rw [List.length_set]; exact h z (by simp [hz])), wf_set (h x (by simp))]
    by_cases e : y ∈ r
    · rw [if_pos e, if_pos (by simp [e])]
    · rw [if_neg e]
      by_cases e2 : x = y
      · rw [if_pos e2, if_pos (by simp [e2])]
      · rw [if_neg e2, if_neg (by simp only [List.mem_cons, not_or]; exact ⟨fun z => e2 z.symm, e⟩)]
theorem setL_snoc (u : Nat) (Bk R : List Nat) (x : Nat) : setL Bk (R ++ [x]) u = (setL Bk R u).set x u := by unfold setL; rw [List.foldl_append]; rfl
end
theorem min_exists : ∀ (A : List Nat), A ≠ [] → ∃ v, v ∈ A ∧ ∀ x ∈ A, v ≤ x
  | [a], _ => ⟨a, by simp, fun x hx => by simp at hx; omega⟩
  | a :: b :: r, _ => by
    obtain ⟨v, h1, h2⟩ := min_exists (b :: r) (by simp)
    by_cases q : a ≤ v
    · exact ⟨a, by simp, fun x hx => by rcases List.mem_cons.1 hx with e | e; omega; have := h2 x e; omega⟩
    · exact ⟨v, List.mem_cons_of_mem _ h1, fun x hx => by rcases List.mem_cons.1 hx with e | e; omega; exact h2 x e⟩
end Cst
end Go.Proofs.YtjoiogdckbaeaaaDoor
namespace Go.Proofs.YtjoiogdckbaeaaaDoor
open Go.ChangeShapes Go.WideShapes Go.ChangeAt Go.RowKit
namespace Cst
open Isa Flw
open Goes
open Rights (Kept)
set_option linter.unusedVariables false
set_option linter.unusedSimpArgs false
attribute [local go_sem] Oper.semAt_some
/-- what may be written while one is gone to -/
def ch (S : Nat) (v : Value) (k : Nat) : Prop := k = S + 1 ∨ k = S + 2 ∨ k = S + 3 ∨ v.ownBlock = some k
/-- the function that goes to one, with all that it holds -/
def vfun (S : Nat) : Value := .func (.func 63) #[] #[.pointer (some ⟨S + 2, 0, none⟩), .pointer (some ⟨S + 4, 0, none⟩), .pointer (some ⟨S, 0, none⟩), .pointer (some ⟨S + 5, 0, none⟩), .pointer (some ⟨S + 1, 0, none⟩)]
def VisP (S n : Nat) (w : World) (sl : Value) (l : List Iv) (k : Nat) (Bk op : List Nat) (v : Value) (L : Nat) (V : World) (e : Ending) (V' : World) : Prop :=
  e = .returned (.tuple #[]) ∧ ∃ (Bk' T : List Nat) (v' : Value) (L' : Nat), VSt S n w sl (vfun S) Bk' (op ++ T) v' L' V' ∧ TPost l k (wf Bk) op L (wf Bk') T L' ∧ Kept (ch S v) V V' ∧ (v'.ownBlock = v.ownBlock ∨ ∃ g, v'.ownBlock = some g ∧ V.heap.size ≤ g)
/-- while those behind k are gone over: N: its variable; X, B: the heap's size ahead of the iterator and behind it; V0: the world of the call -/
structure RV (S n : Nat) (w : World) (sl : Value) (l : List Iv) (k N X B : Nat) (b0 : Nat → Nat) (S0 : List Nat) (L0 : Nat) (v0 : Value) (V0 : World) (P : Nat) (pre Bk T : List Nat) (v : Value) (L : Nat) (V : World) : Prop where
  c : VSt S n w sl (vfun S) Bk (S0 ++ k :: T) v L V
  m : TMid l k b0 S0 L0 P pre (wf Bk) T L
  nb : Box V N 3 (.int .i64 (k : Nat))
  vb : ∀ g, v.ownBlock = some g → g ≠ N ∧ (g < X ∨ B + 2 ≤ g)
  kp : Kept (ch S v0) V0 V
  at_ : v.ownBlock = v0.ownBlock ∨ ∃ g, v.ownBlock = some g ∧ V0.heap.size ≤ g
/-- the numbers of blocks in their order -/
structure RN (S N X B : Nat) (V0 : World) : Prop where
  s : S + 6 ≤ N
  v : V0.heap.size = N
  n : N < X
  x : X ≤ B
theorem rv_steady {S n : Nat} {w : World} {sl : Value} {l : List Iv} {k N X B : Nat} {b0 : Nat → Nat} {S0 : List Nat} {L0 : Nat} {v0 : Value} {V0 : World} (hx : RN S N X B V0) : Steady B (fun pre V => ∃ Bk T v L, RV S n w sl l k N X B b0 S0 L0 v0 V0 SH pre Bk T v L V) := by
  obtain ⟨h1, h2, h3, h4⟩ := hx
  rintro pre A A' ⟨Bk, T, v, L, hc, hm, hn, hv, hk, ha⟩ hA
  exact ⟨Bk, T, v, L, hc.kept hA (by omega) (fun g hg => by have := hv g hg; omega), hm, hn.kept hA (by omega), hv, hk.trans' hA (fun i hi q => by omega), ha⟩
/-- one with fewer than z that have not been gone to -/
def VisC (l : List Iv) (a : Option Addr) (n c : Nat) (w : World) (S z : Nat) : Prop := ∀ (k : Nat) (Bk op : List Nat) (v : Value) (L : Nat) (V : World), zc l (wf Bk) < z → Come l k → wf Bk k = 0 → TInv l (wf Bk) op → VSt S n w (.slice a n c) (vfun S) Bk op v L V →
    Calls Tryd.prog 63 #[.int .i64 (k : Nat), .pointer (some ⟨S + 2, 0, none⟩), .pointer (some ⟨S + 4, 0, none⟩), .pointer (some ⟨S, 0, none⟩), .pointer (some ⟨S + 5, 0, none⟩), .pointer (some ⟨S + 1, 0, none⟩)] V (VisP S n w (.slice a n c) l k Bk op v L V)
set_option maxRecDepth 100000 in
set_option maxHeartbeats 12800000 in
theorem visit_step (l : List Iv) (a : Option Addr) (n c : Nat) (w : World) (S : Nat) (hS : w.heap.size = S) (hf : Fine l) (h : IRow w a n l) (zf : Nat) (hih : VisC l a n c w S zf) : VisC l a n c w S (zf + 1) := by
  intro k Bk op v L V hz
  intro hck hk0 hI hV
  have HIH := Lib.hid hih
  have hln : l.length = n := h.1
  have hkn : k < n := by have := come_lt hf h.2.1 hck; omega
  have hn16 : n ≤ 16384 := by have := hf.most; omega
  have hol : op.length ≤ 16384 := by have := hI.len; omega
  have HRow := Lib.hid h
  have HF := Lib.hid hf
  have HS := Lib.hid hS
  have HL := Lib.hid hln
  have HCk := Lib.hid hck
  have HI := Lib.hid hI
  have HZ := Lib.hid hz
  have HK0 := Lib.hid hk0
  have HV0 := Lib.hid hV
  have hbig := hV.big
  -- the variable of its number
  have HN1 : Hid (Box (V.alloc (.cells #[.int .i64 (k : Nat)] 3)) V.heap.size 3 (.int .i64 (k : Nat))) := Box.new V _ _
  have HV1 : Hid (VSt S n w (.slice a n c) (vfun S) Bk op v L (V.alloc (.cells #[.int .i64 (k : Nat)] 3))) := hV.below ((Below.refl _ V).alloc (Nat.le_refl _) _)
  have HK1 : Hid (Kept (ch S v) V (V.alloc (.cells #[.int .i64 (k : Nat)] 3))) := (Kept.refl _ V).alloc _
  have HG1 : Hid (∀ g, v.ownBlock = some g → g < V.heap.size) := fun g hg => (hV.ge hg).2
  clear hS hf h hz hck hk0 hI hV hln hih
  refine (callsIn_wide (n := 0)).1 ?_
  refine callsIn_of_wp_marks Tryd.func63 rfl trivial ?_ rfl
  simp only [Tryd.ntmps63, List.size_toArray, List.length_cons, List.length_nil, Nat.reduceAdd, Nat.reduceSub, Array.replicate_succ, Array.replicate_zero, List.push_toArray, List.append_toArray, List.nil_append, List.cons_append]
  refine (wpIn_wide (n := 0)).2 ?_
  go_upto_region 1 with fail
  obtain ⟨N, hN⟩ : ∃ N, V.heap.size = N := ⟨_, rfl⟩
  rw [hN] at HN1 HG1 hbig ⊢
  have HNe := Lib.hid hN
  clear hN
  generalize hW1 : V.alloc (.cells #[.int .i64 (k : Nat)] 3) = W1 at *
  have HSz1 : Hid (W1.heap.size = N + 1) := by show _ = _; rw [← hW1, World.size_alloc, HNe.out]
  clear hW1
  -- one more is open
  have hb1 := HV1.out.big
  obtain ⟨a', c', Y, hrun, hown, hgr, hat⟩ := app_num HV1.out.own hb1 (by omega) k 58
  obtain ⟨hb2, hk2, hv2⟩ := HV1.out.push hgr hown
  have q0 := HV1.out.bo.cell
  have qn := HN1.out.cell
  have q2 := hb2.cell
  have f2 := hb2.free
  have HK2 : Hid (Kept (ch S v) V (Y.setCell ⟨S + 2, 0, none⟩ (.slice a' (op.length + 1 : Nat) c'))) := HK1.out.trans (hk2.mono fun j _ e => by rcases e with e | e; exact .inr (.inl e); exact .inr (.inr (.inr e)))
  have HAt2 : Hid ((Value.slice a' (op.length + 1 : Nat) c').ownBlock = v.ownBlock ∨ ∃ g, (Value.slice a' (op.length + 1 : Nat) c').ownBlock = some g ∧ N + 1 ≤ g) := hat.imp id fun ⟨g, e, hg⟩ => ⟨g, e, by have := HSz1.out; omega⟩
  have HN2 : Hid (Box (Y.setCell ⟨S + 2, 0, none⟩ (.slice a' (op.length + 1 : Nat) c')) N 3 (.int .i64 (k : Nat))) := HN1.out.kept hk2 (fun e => e.elim (fun e => by have e2 : N = S + 2 := e; omega) (fun e => by have := HG1.out _ e; omega))
  have HV2 := Lib.hid hv2
  clear hb1 hown hgr hat hb2 hk2 hv2 HV1 HK1 HN1
  generalize hol2 : op.length = m at *
  have HM := Lib.hid hol2
  clear hol2
  go_upto_region 2 with (at_builtin; refine wpList_append_run rfl _ _ 58 58 rfl _ _ _ _ 58 rfl rfl rfl hrun ?_)
  clear q0 qn q2 f2 hrun
  generalize Y.setCell ⟨S + 2, 0, none⟩ (.slice a' (m + 1 : Nat) c') = W2 at *
  obtain ⟨p, hp⟩ : ∃ p, m + 1 = p := ⟨_, rfl⟩
  rw [hp] at HV2 HAt2 ⊢
  have HPm := Lib.hid hp
  have hp16 : p ≤ 16385 := by omega
  clear hp
  have q0 := HV2.out.bo.cell
  go_upto_region 3 with fail
  clear q0
  have qb := HV2.out.bb.cell
  have qn := HN2.out.cell
  have qk := HV2.out.at hkn
  have fk := HV2.out.row.free k
  have k0 : (0 : Int) ≤ k := by omega
  have k1 : (k : Int) < n := by omega
  obtain ⟨hk3, hv3⟩ := HV2.out.put k p
  have HK3 : Hid (Kept (ch S v) V (W2.setCell ⟨S + 3, k, none⟩ (.int .i64 ((p : Nat) : Int)))) := HK2.out.trans (hk3.mono fun j _ e => .inr (.inr (.inl e)))
  have HV3 := Lib.hid hv3
  have HN3 : Hid (Box (W2.setCell ⟨S + 3, k, none⟩ (.int .i64 ((p : Nat) : Int))) N 3 (.int .i64 (k : Nat))) := HN2.out.kept hk3 (fun e => by have e2 : N = S + 3 := e; omega)
  have hT3 : TMid l k (wf Bk) op L SH [] (wf (Bk.set k p)) [] L := by
    rw [wf_up p (by rw [HV0.out.len]; exact hkn), ← HPm.out, ← HM.out]
    exact TMid.start HF.out HRow.out.2.1 HI.out HCk.out HK0.out
  have HT3 := Lib.hid hT3
  clear hk3 hv3 hT3 HV2 HK2 HN2
  generalize wf Bk k = z0 at *
  go_upto_region 4 with fail
  clear qb qn qk fk k0 k1
  generalize W2.setCell ⟨S + 3, k, none⟩ (.int .i64 ((p : Nat) : Int)) = W3 at *
  -- what comes behind it
  have ql := HV3.out.bl.cell
  have qn := HN3.out.cell
  obtain ⟨b, off, rfl, hc, hw⟩ := (HRow.out.below HV3.out.bel (by rw [HS.out]; exact Nat.le_refl _)).at k hkn
  obtain ⟨c0, c1, c2, c3⟩ := hc
  have k0 : (0 : Int) ≤ k := by omega
  have k1 : (k : Int) < n := by omega
  have HMake := Lib.hid (fun W => behind_make (l.getD k iz) hw k (by omega) W)
  have HLk : Hid (behI (l.getD k iz) k = behL l k) := rfl
  clear hw
  generalize l.getD k iz = x at *
  obtain ⟨xo, xa, xb, xc⟩ := x
  unfold iv at HMake
  simp only at *
  have HV4 : Hid (VSt S n w (.slice (some ⟨b, off, none⟩) n c) (vfun S) (Bk.set k p) (op ++ [k]) (.slice a' p c') L W3.drew) := HV3.out.kept ((Kept.refl (fun _ => False) W3).drew) (fun _ x => x.elim) (fun _ _ x => x)
  have HN4 : Hid (Box W3.drew N 3 (.int .i64 (k : Nat))) := HN3.out.kept ((Kept.refl (fun _ => False) W3).drew) (fun x => x)
  have HK4 : Hid (Kept (ch S v) V W3.drew) := HK3.out.drew
  go_still_tail 5, (by kernel_rfl)
  change wpList _ _ _ _ _ W3.drew
  clear HV3 HN3 HK3 ql qn c0 c1 c2 c3
  generalize W3.drew = W4 at *
  go_wp2_with fail
  refine (HMake.out _).mono ?_
  rintro e W5 ⟨v5, rfl, F, lb, cc, rfl, heg, hseq, hb5, hcc⟩
  rw [HLk.out] at hseq
  obtain ⟨X, hX⟩ : ∃ X, W4.heap.size = X := ⟨_, rfl⟩
  obtain ⟨B, hB⟩ : ∃ B, W5.heap.size = B := ⟨_, rfl⟩
  have hNX : N < X := by have := HN4.out.lt; omega
  have HRN : Hid (RN S N X B V) := ⟨hbig, HNe.out, hNX, by have := hb5.size; omega⟩
  have HCc : Hid (∀ j, cc j → X ≤ j ∧ j < B) := fun j hj => by have := hcc j hj; omega
  have HR0 : Hid (∃ Bk' T v' L', RV S n w (.slice (some ⟨b, off, none⟩) n c) l k N X B (wf Bk) op L v V SH [] Bk' T v' L' W5) := by
    have k5 : Kept (fun _ => False) W4 W5 := kept_of hb5 fun j h1 h2 => absurd h1 (by omega)
    refine ⟨_, [], _, L, HV4.out.kept k5 (fun _ x => x.elim) (fun _ _ x => x), HT3.out, HN4.out.kept k5 (fun x => x), fun g hg => ?_, HK4.out.trans' k5 (fun _ _ x => x.elim), ?_⟩
    · have h1 := (HV4.out.ge hg).2
      rcases HAt2.out with e | ⟨g', e, hg'⟩
      · rw [e] at hg
        have := HG1.out g hg
        exact ⟨by omega, .inl (by omega)⟩
      · rw [e] at hg
        cases hg
        exact ⟨by omega, .inl (by omega)⟩
    · rcases HAt2.out with e | ⟨g', e, hg'⟩
      · exact .inl e
      · exact .inr ⟨g', e, by have := HNe.out; omega⟩
  have HBe := Lib.hid hB
  have HSq := Lib.hid hseq
  have HEg := Lib.hid heg
  clear hX hB hNX hb5 hcc hseq heg HMake HV4 HN4 HK4 HT3 k0 k1 HAt2
  generalize W1.heap.size = G1 at *
  clear HG1 HSz1
  go_wp2_with fail
  refine (wpIn_wide (n := 0)).1 ?_
  rename_i K2 hK2
  refine wpIn_rangeFunc_n (gf := F) (lb := lb) rfl HEg.out HSq.out (Kept.refl _ _) (fun j hj => by rw [HBe.out]; exact (HCc.out j hj).2) (fun _ => rfl)
    (fun pre V' => ∃ Bk' T v' L', RV S n w (.slice (some ⟨b, off, none⟩) n c) l k N X B (wf Bk) op L v V SH pre Bk' T v' L' V') (fun _ _ _ => False) (by rw [HBe.out]; exact rv_steady HRN.out) (fun _ _ _ _ h _ => h.elim) HR0.out
    (fun z => { tmps := #[.int .i64 (k : Nat), .pointer (some ⟨S + 2, 0, none⟩), .pointer (some ⟨S + 4, 0, none⟩), .pointer (some ⟨S, 0, none⟩), .pointer (some ⟨S + 5, 0, none⟩), .pointer (some ⟨S + 1, 0, none⟩), .pointer (some ⟨N, 0, none⟩), .int .i64 (p : Nat), .int .i64 (z : Nat), undef, undef, undef, v, .int .i64 (k : Nat), .slice (some ⟨G1, 0, none⟩) 1 1, .slice a' p c', .slice a' p c', .int .i64 (p : Nat), .slice (some ⟨S + 3, 0, none⟩) n n, .int .i64 (k : Nat), .int .i64 (p : Nat), .pointer (some ⟨S + 3, k, none⟩), .slice (some ⟨b, off, none⟩) n c, .int .i64 (k : Nat), .pointer (some ⟨b, off + k * 4, none⟩), .agg #[.int .u8 xo, .int .u8 xa, .int .u16 xb, .int .u32 xc], .int .i64 (k : Nat), .func (.func F) #[] lb, .int .i64 (z : Nat), undef, undef, undef, undef, undef, undef, undef, undef, undef, undef, undef, undef, undef, undef, undef, undef, undef, undef, undef, undef, undef, undef, undef, undef, undef, undef, undef, undef, undef, undef, undef, undef, undef, undef, undef, undef, undef, undef, undef, undef, undef, undef, undef, undef, undef, undef, undef, undef, undef, undef, undef, undef, undef, undef, undef, undef, undef], defers := [] }) ?assign ?body ?done ?stop
  case assign =>
    intro l2 z W K hK
    unfold encN
    gi_wp2_with fail
    exact hK
  case body =>
    rintro l2 pre z W hpx hszW ⟨Bk1, T1, v1, L1, h⟩
    rw [HBe.out] at hszW ⊢
    have hzm : z ∈ behL l k := hpx.subset (by simp)
    have hzn : z < n := by have := beh_lt HF.out HRow.out.2.1 (by rw [HL.out]; exact hkn) hzm; have := HL.out; omega
    have HZm := Lib.hid hzm
    have HR := Lib.hid h
    have HSz := Lib.hid hszW
    have z0 : (0 : Int) ≤ z := by omega
    have z1 : (z : Int) < n := by omega
    have k0 : (0 : Int) ≤ k := by omega
    have k1 : (k : Int) < n := by omega
    have HCh : Hid (∀ j, ch S v1 j → ¬ cc j ∧ j ≠ B ∧ j ≠ B + 1) := fun j hj => by
      have h1 := HRN.out.s
      have h2 := HRN.out.n
      have h3 := HRN.out.x
      rcases hj with e | e | e | e
      · exact ⟨fun q => by have := HCc.out _ q; omega, by omega, by omega⟩
      · exact ⟨fun q => by have := HCc.out _ q; omega, by omega, by omega⟩
      · exact ⟨fun q => by have := HCc.out _ q; omega, by omega, by omega⟩
      · have h4 := HR.out.vb j e
        exact ⟨fun q => by have := HCc.out _ q; omega, by omega, by omega⟩
    clear hpx hszW h hzm hK2
    gi_upto_region 6 with fail
    rename_i Q2 K4 hK4 K3 hK3
    have REST : Hid (∀ (u29 u30 u31 u32 u33 u34 u35 u36 : Value) (Bk2 T2 : List Nat) (v2 : Value) (L2 : Nat) (W3 : World), RV S n w (.slice (some ⟨b, off, none⟩) n c) l k N X B (wf Bk) op L v V (wf Bk2 z) pre Bk2 T2 v2 L2 W3 → wf Bk2 z ≠ 0 → Kept (ch S v1) W W3 → K4 { tmps := #[.int .i64 (k : Nat), .pointer (some ⟨S + 2, 0, none⟩), .pointer (some ⟨S + 4, 0, none⟩), .pointer (some ⟨S, 0, none⟩), .pointer (some ⟨S + 5, 0, none⟩), .pointer (some ⟨S + 1, 0, none⟩), .pointer (some ⟨N, 0, none⟩), .int .i64 (p : Nat), .int .i64 (z : Nat), undef, undef, undef, v, .int .i64 (k : Nat), .slice (some ⟨G1, 0, none⟩) 1 1, .slice a' p c', .slice a' p c', .int .i64 (p : Nat), .slice (some ⟨S + 3, 0, none⟩) n n, .int .i64 (k : Nat), .int .i64 (p : Nat), .pointer (some ⟨S + 3, k, none⟩), .slice (some ⟨b, off, none⟩) n c, .int .i64 (k : Nat), .pointer (some ⟨b, off + k * 4, none⟩), .agg #[.int .u8 xo, .int .u8 xa, .int .u16 xb, .int .u32 xc], .int .i64 (k : Nat), .func (.func F) #[] lb, .int .i64 (z : Nat), u29, u30, u31, u32, u33, u34, u35, u36, undef, undef, undef, undef, undef, undef, undef, undef, undef, undef, undef, undef, undef, undef, undef, undef, undef, undef, undef, undef, undef, undef, undef, undef, undef, undef, undef, undef, undef, undef, undef, undef, undef, undef, undef, undef, undef, undef, undef, undef, undef, undef, undef, undef, undef, undef, undef, undef, undef], defers := [] } W3) := by
      intro u29 u30 u31 u32 u33 u34 u35 u36 Bk2 T2 v2 L2 W3 hr hn0 hkk
      have HR2 := Lib.hid hr
      have HN0 := Lib.hid hn0
      have HKK := Lib.hid hkk
      clear hr hn0 hkk
      refine hK4 _ _ ?_
      clear hK4 hK3
      gi_upto_region 8 with fail
      rename_i K6 hK6 K5 hK5
      have REST2 : Hid (∀ (u37 u38 u39 u40 u41 u42 : Value) (L3 : Nat) (W4 : World), L3 = (if z = k then min L2 k else L2) → VSt S n w (.slice (some ⟨b, off, none⟩) n c) (vfun S) Bk2 (op ++ k :: T2) v2 L3 W4 → Kept (fun j => j = S + 1) W3 W4 → K6 { tmps := #[.int .i64 (k : Nat), .pointer (some ⟨S + 2, 0, none⟩), .pointer (some ⟨S + 4, 0, none⟩), .pointer (some ⟨S, 0, none⟩), .pointer (some ⟨S + 5, 0, none⟩), .pointer (some ⟨S + 1, 0, none⟩), .pointer (some ⟨N, 0, none⟩), .int .i64 (p : Nat), .int .i64 (z : Nat), undef, undef, undef, v, .int .i64 (k : Nat), .slice (some ⟨G1, 0, none⟩) 1 1, .slice a' p c', .slice a' p c', .int .i64 (p : Nat), .slice (some ⟨S + 3, 0, none⟩) n n, .int .i64 (k : Nat), .int .i64 (p : Nat), .pointer (some ⟨S + 3, k, none⟩), .slice (some ⟨b, off, none⟩) n c, .int .i64 (k : Nat), .pointer (some ⟨b, off + k * 4, none⟩), .agg #[.int .u8 xo, .int .u8 xa, .int .u16 xb, .int .u32 xc], .int .i64 (k : Nat), .func (.func F) #[] lb, .int .i64 (z : Nat), u29, u30, u31, u32, u33, u34, u35, u36, u37, u38, u39, u40, u41, u42, undef, undef, undef, undef, undef, undef, undef, undef, undef, undef, undef, undef, undef, undef, undef, undef, undef, undef, undef, undef, undef, undef, undef, undef, undef, undef, undef, undef, undef, undef, undef, undef, undef, undef, undef, undef, undef, undef, undef, undef, undef, undef, undef], defers := [] } W4) := by
        intro u37 u38 u39 u40 u41 u42 L3 W4 hL3 hv4 hk4
        refine hK6 _ _ ?_
        clear hK6 hK5
        have HV4 := Lib.hid hv4
        have HK4 := Lib.hid hk4
        have HL3 := Lib.hid hL3
        have qb := hv4.bb.cell
        have HN4 : Hid (Box W4 N 3 (.int .i64 (k : Nat))) := HR2.out.nb.kept hk4 (fun e => by have := HRN.out.s; have e2 : N = S + 1 := e; omega)
        have qn := HN4.out.cell
        have qk := hv4.at hkn
        have qz := hv4.at hzn
        obtain ⟨bk, hbk⟩ : ∃ bk, wf Bk2 k = bk := ⟨_, rfl⟩
        obtain ⟨bz, hbz⟩ : ∃ bz, wf Bk2 z = bz := ⟨_, rfl⟩
        rw [hbk] at qk
        rw [hbz] at qz
        have HBk := Lib.hid hbk
        have HBz := Lib.hid hbz
        obtain ⟨M, hM⟩ : ∃ M, M = min bk bz := ⟨_, rfl⟩
        have HMi := Lib.hid hM
        have hE := Posts.ext_rel
        clear hv4 hk4 hL3 hbk hbz hM
        refine (Posts.wpIn_region_tail hE 12 0 (Posts.At [Posts.is (.slice (some ⟨S + 3, 0, none⟩) n n), Posts.is (.int .i64 (k : Nat)), Posts.is (.slice (some ⟨S + 3, 0, none⟩) n n), Posts.is (.int .i64 (k : Nat)), Posts.is (.pointer (some ⟨S + 3, k, none⟩)), Posts.is (.int .i64 (bk : Nat)), Posts.is (.slice (some ⟨S + 3, 0, none⟩) n n), Posts.is (.int .i64 (z : Nat)), Posts.is (.pointer (some ⟨S + 3, z, none⟩)), Posts.is (.int .i64 (bz : Nat)), Posts.is (.int .i64 (M : Nat)), Posts.is (.pointer (some ⟨S + 3, k, none⟩))]) (fun _ _ => True) (by kernel_rfl) (by decide) (by kernel_rfl) (by kernel_rfl) (by kernel_rfl)
          (Posts.stable_at _ (by repeat' (first | exact trivial | (refine And.intro ?_ ?_) | exact Posts.is_stable _ | exact Posts.on_stable _ _ | assumption))) trivial ?_ ?_)
        · refine ⟨?_, ?_, ?_, ?_, ?_, ?_, ?_, ?_, ?_, ?_, ?_, ?_, trivial⟩
          · intro a X hX hS hD hJ hU
            have x0 := (World.cell?_of_block (Posts.Ext.blk hX _ (World.block_lt_of_cell? _ _ qb))).trans qb
            have x1 := (World.cell?_of_block (Posts.Ext.blk hX _ (World.block_lt_of_cell? _ _ qn))).trans qn
            have x2 := (World.cell?_of_block (Posts.Ext.blk hX _ (World.block_lt_of_cell? _ _ qk))).trans qk
            have x3 := (World.cell?_of_block (Posts.Ext.blk hX _ (World.block_lt_of_cell? _ _ qz))).trans qz
            have d2 := Posts.slot (show a.eval (.tmp 2) = .pointer (some ⟨S + 4, 0, none⟩) from hS.other 2 rfl)
            exact Posts.op_value (fun _ => trivial) rfl rfl (by intro c h; cases h) rfl (by rw [hS.size]; simp) (v := .slice (some ⟨S + 3, 0, none⟩) n n) (by simp [execOp, d2,  go_sem, x0, x1, x2, x3, k0, k1, z0, z1]) rfl (hE.refl _) trivial
          · intro a X hX hS hD hJ hU
            have x0 := (World.cell?_of_block (Posts.Ext.blk hX _ (World.block_lt_of_cell? _ _ qb))).trans qb
            have x1 := (World.cell?_of_block (Posts.Ext.blk hX _ (World.block_lt_of_cell? _ _ qn))).trans qn
            have x2 := (World.cell?_of_block (Posts.Ext.blk hX _ (World.block_lt_of_cell? _ _ qk))).trans qk
            have x3 := (World.cell?_of_block (Posts.Ext.blk hX _ (World.block_lt_of_cell? _ _ qz))).trans qz
            have d6 := Posts.slot (show a.eval (.tmp 6) = .pointer (some ⟨N, 0, none⟩) from hS.other 6 rfl)
            exact Posts.op_value (fun _ => trivial) rfl rfl (by intro c h; cases h) rfl (by rw [hS.size]; simp) (v := .int .i64 (k : Nat)) (by simp [execOp, d6,  go_sem, x0, x1, x2, x3, k0, k1, z0, z1]) rfl (hE.refl _) trivial
          · intro a X hX hS hD hJ hU
            have x0 := (World.cell?_of_block (Posts.Ext.blk hX _ (World.block_lt_of_cell? _ _ qb))).trans qb
            have x1 := (World.cell?_of_block (Posts.Ext.blk hX _ (World.block_lt_of_cell? _ _ qn))).trans qn
            have x2 := (World.cell?_of_block (Posts.Ext.blk hX _ (World.block_lt_of_cell? _ _ qk))).trans qk
            have x3 := (World.cell?_of_block (Posts.Ext.blk hX _ (World.block_lt_of_cell? _ _ qz))).trans qz
            have d2 := Posts.slot (show a.eval (.tmp 2) = .pointer (some ⟨S + 4, 0, none⟩) from hS.other 2 rfl)
            exact Posts.op_value (fun _ => trivial) rfl rfl (by intro c h; cases h) rfl (by rw [hS.size]; simp) (v := .slice (some ⟨S + 3, 0, none⟩) n n) (by simp [execOp, d2,  go_sem, x0, x1, x2, x3, k0, k1, z0, z1]) rfl (hE.refl _) trivial
          · intro a X hX hS hD hJ hU
            have x0 := (World.cell?_of_block (Posts.Ext.blk hX _ (World.block_lt_of_cell? _ _ qb))).trans qb
            have x1 := (World.cell?_of_block (Posts.Ext.blk hX _ (World.block_lt_of_cell? _ _ qn))).trans qn
            have x2 := (World.cell?_of_block (Posts.Ext.blk hX _ (World.block_lt_of_cell? _ _ qk))).trans qk
            have x3 := (World.cell?_of_block (Posts.Ext.blk hX _ (World.block_lt_of_cell? _ _ qz))).trans qz
            have d6 := Posts.slot (show a.eval (.tmp 6) = .pointer (some ⟨N, 0, none⟩) from hS.other 6 rfl)
            exact Posts.op_value (fun _ => trivial) rfl rfl (by intro c h; cases h) rfl (by rw [hS.size]; simp) (v := .int .i64 (k : Nat)) (by simp [execOp, d6,  go_sem, x0, x1, x2, x3, k0, k1, z0, z1]) rfl (hE.refl _) trivial
          · intro a X hX hS hD hJ hU
            have x0 := (World.cell?_of_block (Posts.Ext.blk hX _ (World.block_lt_of_cell? _ _ qb))).trans qb
            have x1 := (World.cell?_of_block (Posts.Ext.blk hX _ (World.block_lt_of_cell? _ _ qn))).trans qn
            have x2 := (World.cell?_of_block (Posts.Ext.blk hX _ (World.block_lt_of_cell? _ _ qk))).trans qk
            have x3 := (World.cell?_of_block (Posts.Ext.blk hX _ (World.block_lt_of_cell? _ _ qz))).trans qz
            have d45 := Posts.slot (show a.eval (.tmp 45) = .slice (some ⟨S + 3, 0, none⟩) n n from hD.1)
            have d46 := Posts.slot (show a.eval (.tmp 46) = .int .i64 (k : Nat) from hD.2.1)
            exact Posts.op_value (fun _ => trivial) rfl rfl (by intro c h; cases h) rfl (by rw [hS.size]; simp) (v := .pointer (some ⟨S + 3, k, none⟩)) (by simp [execOp, d45, d46,  go_sem, x0, x1, x2, x3, k0, k1, z0, z1]) rfl (hE.refl _) trivial
          · intro a X hX hS hD hJ hU
            have x0 := (World.cell?_of_block (Posts.Ext.blk hX _ (World.block_lt_of_cell? _ _ qb))).trans qb
            have x1 := (World.cell?_of_block (Posts.Ext.blk hX _ (World.block_lt_of_cell? _ _ qn))).trans qn
            have x2 := (World.cell?_of_block (Posts.Ext.blk hX _ (World.block_lt_of_cell? _ _ qk))).trans qk
            have x3 := (World.cell?_of_block (Posts.Ext.blk hX _ (World.block_lt_of_cell? _ _ qz))).trans qz
            have d47 := Posts.slot (show a.eval (.tmp 47) = .pointer (some ⟨S + 3, k, none⟩) from hD.1)
            exact Posts.op_value (fun _ => trivial) rfl rfl (by intro c h; cases h) rfl (by rw [hS.size]; simp) (v := .int .i64 (bk : Nat)) (by simp [execOp, d47,  go_sem, x0, x1, x2, x3, k0, k1, z0, z1]) rfl (hE.refl _) trivial
          · intro a X hX hS hD hJ hU
            have x0 := (World.cell?_of_block (Posts.Ext.blk hX _ (World.block_lt_of_cell? _ _ qb))).trans qb
            have x1 := (World.cell?_of_block (Posts.Ext.blk hX _ (World.block_lt_of_cell? _ _ qn))).trans qn
            have x2 := (World.cell?_of_block (Posts.Ext.blk hX _ (World.block_lt_of_cell? _ _ qk))).trans qk
            have x3 := (World.cell?_of_block (Posts.Ext.blk hX _ (World.block_lt_of_cell? _ _ qz))).trans qz
            have d2 := Posts.slot (show a.eval (.tmp 2) = .pointer (some ⟨S + 4, 0, none⟩) from hS.other 2 rfl)
            exact Posts.op_value (fun _ => trivial) rfl rfl (by intro c h; cases h) rfl (by rw [hS.size]; simp) (v := .slice (some ⟨S + 3, 0, none⟩) n n) (by simp [execOp, d2,  go_sem, x0, x1, x2, x3, k0, k1, z0, z1]) rfl (hE.refl _) trivial
          · intro a X hX hS hD hJ hU
            have x0 := (World.cell?_of_block (Posts.Ext.blk hX _ (World.block_lt_of_cell? _ _ qb))).trans qb
            have x1 := (World.cell?_of_block (Posts.Ext.blk hX _ (World.block_lt_of_cell? _ _ qn))).trans qn
            have x2 := (World.cell?_of_block (Posts.Ext.blk hX _ (World.block_lt_of_cell? _ _ qk))).trans qk
            have x3 := (World.cell?_of_block (Posts.Ext.blk hX _ (World.block_lt_of_cell? _ _ qz))).trans qz
            have d8 := Posts.slot (show a.eval (.tmp 8) = .int .i64 (z : Nat) from hS.other 8 rfl)
            exact Posts.op_value (fun _ => trivial) rfl rfl (by intro c h; cases h) rfl (by rw [hS.size]; simp) (v := .int .i64 (z : Nat)) (by simp [execOp, d8,  go_sem, x0, x1, x2, x3, k0, k1, z0, z1]) rfl (hE.refl _) trivial
          · intro a X hX hS hD hJ hU
            have x0 := (World.cell?_of_block (Posts.Ext.blk hX _ (World.block_lt_of_cell? _ _ qb))).trans qb
            have x1 := (World.cell?_of_block (Posts.Ext.blk hX _ (World.block_lt_of_cell? _ _ qn))).trans qn
            have x2 := (World.cell?_of_block (Posts.Ext.blk hX _ (World.block_lt_of_cell? _ _ qk))).trans qk
            have x3 := (World.cell?_of_block (Posts.Ext.blk hX _ (World.block_lt_of_cell? _ _ qz))).trans qz
            have d49 := Posts.slot (show a.eval (.tmp 49) = .slice (some ⟨S + 3, 0, none⟩) n n from hD.1)
            have d50 := Posts.slot (show a.eval (.tmp 50) = .int .i64 (z : Nat) from hD.2.1)
            exact Posts.op_value (fun _ => trivial) rfl rfl (by intro c h; cases h) rfl (by rw [hS.size]; simp) (v := .pointer (some ⟨S + 3, z, none⟩)) (by simp [execOp, d49, d50,  go_sem, x0, x1, x2, x3, k0, k1, z0, z1]) rfl (hE.refl _) trivial
          · intro a X hX hS hD hJ hU
            have x0 := (World.cell?_of_block (Posts.Ext.blk hX _ (World.block_lt_of_cell? _ _ qb))).trans qb
            have x1 := (World.cell?_of_block (Posts.Ext.blk hX _ (World.block_lt_of_cell? _ _ qn))).trans qn
            have x2 := (World.cell?_of_block (Posts.Ext.blk hX _ (World.block_lt_of_cell? _ _ qk))).trans qk
            have x3 := (World.cell?_of_block (Posts.Ext.blk hX _ (World.block_lt_of_cell? _ _ qz))).trans qz
            have d51 := Posts.slot (show a.eval (.tmp 51) = .pointer (some ⟨S + 3, z, none⟩) from hD.1)
            exact Posts.op_value (fun _ => trivial) rfl rfl (by intro c h; cases h) rfl (by rw [hS.size]; simp) (v := .int .i64 (bz : Nat)) (by simp [execOp, d51,  go_sem, x0, x1, x2, x3, k0, k1, z0, z1]) rfl (hE.refl _) trivial
          · intro a X hX hS hD hJ hU
            have x0 := (World.cell?_of_block (Posts.Ext.blk hX _ (World.block_lt_of_cell? _ _ qb))).trans qb
            have x1 := (World.cell?_of_block (Posts.Ext.blk hX _ (World.block_lt_of_cell? _ _ qn))).trans qn
            have x2 := (World.cell?_of_block (Posts.Ext.blk hX _ (World.block_lt_of_cell? _ _ qk))).trans qk
            have x3 := (World.cell?_of_block (Posts.Ext.blk hX _ (World.block_lt_of_cell? _ _ qz))).trans qz
            have d48 := Posts.slot (show a.eval (.tmp 48) = .int .i64 (bk : Nat) from hD.1)
            have d52 := Posts.slot (show a.eval (.tmp 52) = .int .i64 (bz : Nat) from hD.2.1)
            have hrun := run_min2 bk bz M HMi.out X
            exact Posts.op_value (fun _ => trivial) rfl rfl (by intro c h; cases h) rfl (by rw [hS.size]; simp) (v := .int .i64 (M : Nat)) (by simp [execOp, d48, d52, resolve, invoke, builtin, hrun, Result.andThen, go_sem]) rfl (hE.refl _) trivial
          · intro a X hX hS hD hJ hU
            have x0 := (World.cell?_of_block (Posts.Ext.blk hX _ (World.block_lt_of_cell? _ _ qb))).trans qb
            have x1 := (World.cell?_of_block (Posts.Ext.blk hX _ (World.block_lt_of_cell? _ _ qn))).trans qn
            have x2 := (World.cell?_of_block (Posts.Ext.blk hX _ (World.block_lt_of_cell? _ _ qk))).trans qk
            have x3 := (World.cell?_of_block (Posts.Ext.blk hX _ (World.block_lt_of_cell? _ _ qz))).trans qz
            have d43 := Posts.slot (show a.eval (.tmp 43) = .slice (some ⟨S + 3, 0, none⟩) n n from hD.1)
            have d44 := Posts.slot (show a.eval (.tmp 44) = .int .i64 (k : Nat) from hD.2.1)
            exact Posts.op_value (fun _ => trivial) rfl rfl (by intro c h; cases h) rfl (by rw [hS.size]; simp) (v := .pointer (some ⟨S + 3, k, none⟩)) (by simp [execOp, d43, d44,  go_sem, x0, x1, x2, x3, k0, k1, z0, z1]) rfl (hE.refl _) trivial
        · intro a0 Y hY hS hJt hL
          have p43 := Posts.slot (show a0.eval (.tmp 43) = .slice (some ⟨S + 3, 0, none⟩) n n from hL.1)
          have p44 := Posts.slot (show a0.eval (.tmp 44) = .int .i64 (k : Nat) from hL.2.1)
          have p45 := Posts.slot (show a0.eval (.tmp 45) = .slice (some ⟨S + 3, 0, none⟩) n n from hL.2.2.1)
          have p46 := Posts.slot (show a0.eval (.tmp 46) = .int .i64 (k : Nat) from hL.2.2.2.1)
          have p47 := Posts.slot (show a0.eval (.tmp 47) = .pointer (some ⟨S + 3, k, none⟩) from hL.2.2.2.2.1)
          have p48 := Posts.slot (show a0.eval (.tmp 48) = .int .i64 (bk : Nat) from hL.2.2.2.2.2.1)
          have p49 := Posts.slot (show a0.eval (.tmp 49) = .slice (some ⟨S + 3, 0, none⟩) n n from hL.2.2.2.2.2.2.1)
          have p50 := Posts.slot (show a0.eval (.tmp 50) = .int .i64 (z : Nat) from hL.2.2.2.2.2.2.2.1)
          have p51 := Posts.slot (show a0.eval (.tmp 51) = .pointer (some ⟨S + 3, z, none⟩) from hL.2.2.2.2.2.2.2.2.1)
          have p52 := Posts.slot (show a0.eval (.tmp 52) = .int .i64 (bz : Nat) from hL.2.2.2.2.2.2.2.2.2.1)
          have p53 := Posts.slot (show a0.eval (.tmp 53) = .int .i64 (M : Nat) from hL.2.2.2.2.2.2.2.2.2.2.1)
          have p54 := Posts.slot (show a0.eval (.tmp 54) = .pointer (some ⟨S + 3, k, none⟩) from hL.2.2.2.2.2.2.2.2.2.2.2.1)
          have hfr := hS.frame [43, 44, 45, 46, 47, 48, 49, 50, 51, 52, 53, 54] (fun t ht => by simp [Posts.isDst] at ht; first | (rcases ht with h | h | h | h | h | h | h | h | h | h | h | h <;> subst h <;> simp) | (subst ht; simp))
          simp only [List.foldl_cons, List.foldl_nil] at hfr
          have hdf := hS.defers
          simp only [Array.getD_eq_getD_getElem?] at hfr
          clear hL hS
          generalize a0.tmps[43]?.getD undef = v43 at *
          generalize a0.tmps[44]?.getD undef = v44 at *
          generalize a0.tmps[45]?.getD undef = v45 at *
          generalize a0.tmps[46]?.getD undef = v46 at *
          generalize a0.tmps[47]?.getD undef = v47 at *
          generalize a0.tmps[48]?.getD undef = v48 at *
          generalize a0.tmps[49]?.getD undef = v49 at *
          generalize a0.tmps[50]?.getD undef = v50 at *
          generalize a0.tmps[51]?.getD undef = v51 at *
          generalize a0.tmps[52]?.getD undef = v52 at *
          generalize a0.tmps[53]?.getD undef = v53 at *
          generalize a0.tmps[54]?.getD undef = v54 at *
          obtain rfl := p43
          obtain rfl := p44
          obtain rfl := p45
          obtain rfl := p46
          obtain rfl := p47
          obtain rfl := p48
          obtain rfl := p49
          obtain rfl := p50
          obtain rfl := p51
          obtain rfl := p52
          obtain rfl := p53
          obtain rfl := p54
          obtain ⟨tm, df⟩ := a0
          simp only [List.setIfInBounds_toArray, List.set_cons_succ, List.set_cons_zero] at hfr hdf
          subst hfr
          subst hdf
          have HVy := HV4.out.below hY
          have yk := HVy.at hkn
          have fk := HVy.row.free k
          rw [HBk.out] at yk
          refine Posts.tail_op 12 (by kernel_rfl) (Posts.op_done (fun _ => trivial) rfl rfl (by intro c h; cases h) (Y := Y.setCell ⟨S + 3, k, none⟩ (.int .i64 ((M : Nat) : Int))) (by simp [execOp, Act.eval, yk, fk, go_sem]) ?_)
          refine ⟨by kernel_rfl, ?_⟩
          obtain ⟨hk6, hv6⟩ := HVy.put k M
          have hky : Kept (fun _ => False) W4 Y := kept_of hY fun j h1 h2 => absurd h1 (by omega)
          have h := HR2.out
          have h1 := HRN.out.s
          have h2 := HRN.out.n
          have h3 := HRN.out.x
          have h4 := HRN.out.v
          have hall : Kept (fun j => j = S + 1 ∨ j = S + 3) W3 (Y.setCell ⟨S + 3, k, none⟩ (.int .i64 ((M : Nat) : Int))) := ((HK4.out.mono fun j _ e => .inl e).trans (hky.mono fun j _ e => e.elim)).trans (hk6.mono fun j _ e => .inr e)
          simp only [Exit.inBlock, postN]
          refine ⟨(HKK.out.trans (hall.mono fun j _ e => ?_)).mono fun j _ e => HCh.out j e, _, _, _, _, hv6, ?_, h.nb.kept hall (by omega), h.vb, h.kp.trans' hall (fun i hi q => ?_), h.at_⟩
          · rcases e with e | e
            · exact .inl e
            · exact .inr (.inr (.inl e))
          · rw [wf_up M (by rw [HV4.out.len]; exact hkn)]
            exact h.m.step HF.out HZm.out HN0.out HL3.out (by rw [HBk.out, HBz.out]; exact HMi.out)
          · rcases q with e | e
            · exact .inl e
            · exact .inr (.inr (.inl e))
      clear hK6
      have qn := HR2.out.nb.cell
      by_cases hzk : z = k
      · have HZk := Lib.hid hzk
        have hd : ((z : Int) == (k : Int)) = true := by simp [hzk]
        obtain ⟨M3, hM3⟩ : ∃ M, M = min L2 k := ⟨_, rfl⟩
        have hrun := run_min2 L2 k M3 hM3
        have qe := HR2.out.c.be.cell
        have fe := HR2.out.c.be.free
        obtain ⟨hk5, hv5⟩ := HR2.out.c.least M3
        have HK5 := Lib.hid hk5
        have HV5 := Lib.hid hv5
        have HM3 := Lib.hid hM3
        clear hk5 hv5 hM3 hzk
        gi_wp2_with fail
        exact REST2.out _ _ _ _ _ _ M3 _ (by rw [if_pos HZk.out]; exact HM3.out) HV5.out HK5.out
      · have HZk := Lib.hid hzk
        have hd : ((z : Int) == (k : Int)) = false := by simp only [beq_eq_false_iff_ne, ne_eq]; omega
        clear hzk
        gi_wp2_with fail
        exact REST2.out _ _ _ _ _ _ L2 _ (by rw [if_neg HZk.out]) HR2.out.c (Kept.refl _ _)
    clear hK4
    have qb := HR.out.c.bb.cell
    by_cases hz0 : wf Bk1 z = 0
    · have qz : W.cell? ⟨S + 3, z, none⟩ = some (.int .i64 0) := by rw [HR.out.c.at hzn, hz0]; rfl
      have qv := HR.out.c.bv.cell
      unfold vfun at qv
      have HCall := Lib.hid (HIH.out z Bk1 (op ++ k :: T1) v1 L1 W (by have h1 := zc_less HF.out HRow.out.2.1 HR.out.m; have h2 := HZ.out; omega) (.step HCk.out HZm.out) hz0 HR.out.m.inv HR.out.c)
      have HZ0 := Lib.hid hz0
      clear hz0
      gi_wp2_with fail
      refine ⟨trivial, rfl, ?_⟩
      refine CallsIn.mono (CallsIn.inRound l2 (callsIn_wide.2 HCall.out)) ?_
      rintro e W7 ⟨rfl, Bk2, T2, v2, L2, hV2, hP2, hk2, hat2⟩
      have HRV : Hid (RV S n w (.slice (some ⟨b, off, none⟩) n c) l k N X B (wf Bk) op L v V (wf Bk2 z) pre Bk2 (T1 ++ T2) v2 L2 W7) := by
        have h := HR.out
        have h1 := HRN.out.s
        have h2 := HRN.out.n
        have h3 := HRN.out.x
        have h4 := HRN.out.v
        have h5 := HSz.out
        refine ⟨by rwa [List.append_assoc, List.cons_append] at hV2, h.m.call HF.out HZm.out HZ0.out hP2, h.nb.kept hk2 ?_, fun g hg => ?_, h.kp.trans' hk2 fun i hi q => ?_, ?_⟩
        · rintro (e | e | e | e)
          · omega
          · omega
          · omega
          · exact (h.vb N e).1 rfl
        · rcases hat2 with e | ⟨g', e, hg'⟩
          · rw [e] at hg; exact h.vb g hg
          · rw [e] at hg; cases hg; exact ⟨by omega, .inr (by omega)⟩
        · rcases q with e | e | e | e
          · exact .inl e
          · exact .inr (.inl e)
          · exact .inr (.inr (.inl e))
          · rcases h.at_ with e2 | ⟨g', e2, hg'⟩
            · rw [e2] at e; exact .inr (.inr (.inr e))
            · rw [e2] at e; cases e; omega
        · rcases hat2 with e | ⟨g', e, hg'⟩
          · rw [e]; exact h.at_
          · exact .inr ⟨g', e, by omega⟩
      have HN0 : Hid (wf Bk2 z ≠ 0) := hP2.vis
      have HKk := Lib.hid hk2
      clear hV2 hP2 hk2 hat2 HCall
      gi_wp2_with fail
      exact REST.out _ _ _ _ _ _ _ _ Bk2 (T1 ++ T2) v2 L2 W7 HRV.out HN0.out HKk.out
    · have qz := HR.out.c.at hzn
      have HZ0 := Lib.hid hz0
      have hd : (((wf Bk1 z : Nat) : Int) == 0) = false := by simp only [beq_eq_false_iff_ne, ne_eq]; omega
      obtain ⟨bz, hbz⟩ : ∃ bz, wf Bk1 z = bz := ⟨_, rfl⟩
      rw [hbz] at qz hd
      clear hz0 hbz
      gi_wp2_with fail
      have h := HR.out
      exact REST.out _ _ _ _ _ _ _ _ Bk1 T1 v1 L1 W ⟨h.c, h.m.seen z (h.m.bn HF.out).2.2, h.nb, h.vb, h.kp, h.at_⟩ HZ0.out (Kept.refl _ _)
  case done =>
    rintro W ⟨Bk1, T1, v1, L1, h⟩ hszW hD
    rw [HBe.out] at hD hszW ⊢
    have HR := Lib.hid h
    have HD := Lib.hid hD
    have HP : Hid (Kept (ch S v) V (W.putObj B (.deferred none))) := by
      have h1 := HRN.out.v
      have h2 := HRN.out.n
      have h3 := HRN.out.x
      exact h.kp.trans' (Kept.put (Kept.refl (fun k => k = B) W) (.inl rfl) _) (fun i hi q => by have e2 : i = B := q; omega)
    have qb := h.c.bb.cell
    have qn := h.nb.cell
    have qk := h.c.at hkn
    have k0 : (0 : Int) ≤ k := by omega
    have k1 : (k : Int) < n := by omega
    obtain ⟨bk, hbk⟩ : ∃ bk, wf Bk1 k = bk := ⟨_, rfl⟩
    rw [hbk] at qk
    have HBk := Lib.hid hbk
    clear h hD hszW hbk
    simp only [Exit.inBlock, Exit.then]
    refine hK2 _ _ ?_
    clear hK2
    by_cases hlt : bk < p
    · have hd : decide ((bk : Int) < (p : Int)) = true := decide_eq_true (by omega)
      have HLt := Lib.hid hlt
      clear hlt
      go_wp2_with fail
      refine ⟨by simp, .inl ⟨_, _, rfl, run_takeDeferred HD.out, ?_⟩⟩
      refine ⟨.tuple #[], by simp [results, Tryd.f63, go_sem], rfl, Bk1, k :: T1, v1, L1, ?_, HR.out.m.over HF.out (by rw [HBk.out, HM.out, HPm.out]; exact HLt.out), HP.out, HR.out.at_⟩
      refine HR.out.c.kept (Kept.put (Kept.refl (fun k => k = B) W) (.inl rfl) _) (fun j hj => ?_) (fun g hg e => ?_)
      · have h1 := HRN.out.s; have h2 := HRN.out.n; have h3 := HRN.out.x; have e2 : j = B := hj; omega
      · have h4 := HR.out.vb g hg; have h3 := HRN.out.x; have e2 : g = B := e; omega
    · have hd : decide ((bk : Int) < (p : Int)) = false := decide_eq_false (by omega)
      have HGe : Hid (op.length + 1 ≤ wf Bk1 k) := by show _ ≤ _; rw [HBk.out, HM.out, HPm.out]; omega
      have hdN : (bk < p) = False := eq_false (by omega)
      obtain ⟨g, cap, hv1, hg0, hg1⟩ := own_some HR.out.c.own (by rw [List.length_append, List.length_cons]; omega)
      subst hv1
      obtain ⟨a0, c0, e0, hcl, hcm⟩ := own_shape HR.out.c.own
      injection e0 with e1 e2 e3
      subst e1
      subst e3
      clear e2
      have HNr := Lib.hid HR.out.c.ring
      have hlen : (op ++ k :: T1).length = p + T1.length := by have h1 := HM.out; have h2 := HPm.out; simp; omega
      have hTl : T1.length ≤ 16384 := by have h1 := HR.out.m.inv.len; have := HL.out; omega
      obtain ⟨tl, htl⟩ : ∃ tl, T1.length = tl := ⟨_, rfl⟩
      rw [htl] at hlen hTl
      have HNr2 : Hid (NRow W (some ⟨g, m, none⟩) (tl + 1) (k :: T1)) := by
        have h := HNr.out
        rw [HM.out, List.length_cons, htl] at h
        exact h
      have HTl := Lib.hid htl
      have HLen := Lib.hid hlen
      have q0 := HR.out.c.bo.cell
      rw [hlen] at q0 hcl
      have w1 : IntKind.i64.wrap ((p : Int) - 1) = (m : Int) := by have := HPm.out; simp [IntKind.wrap, IntKind.bits, IntKind.signed]; omega
      have m0 : (0 : Int) ≤ m := by omega
      have m1 : (m : Int) ≤ (p : Int) + tl := by have := HPm.out; omega
      have m2 : ((p : Int) + tl) ≤ cap := by omega
      have hcm2 : ¬ cap = m := by have := HPm.out; omega
      have hsub : p + tl - m = tl + 1 := by have := HPm.out; omega
      clear htl hlen hlt HNr
      go_upto_region 13 with fail
      clear q0 w1 m0 m1 m2 hcm2
      rename_i K4 hK4 K3 hK3
      have REST3 : Hid (∀ (u55 u56 u57 u58 u59 u60 u61 u62 u63 u64 u65 u66 u67 u68 u69 u70 u71 : Value) (L3 : Nat) (W3 : World), (T1 = [] → L3 = L1) → (T1 ≠ [] → L3 ≤ L1 ∧ (L3 = L1 ∨ L3 ∈ k :: T1) ∧ ∀ x ∈ k :: T1, L3 ≤ x) →
          VSt S n w (.slice (some ⟨b, off, none⟩) n c) (vfun S) Bk1 (op ++ k :: T1) (.slice (some ⟨g, 0, none⟩) (op ++ k :: T1).length cap) L3 W3 → Kept (fun j => j = S + 1) W W3 → K4 { tmps := #[.int .i64 (k : Nat), .pointer (some ⟨S + 2, 0, none⟩), .pointer (some ⟨S + 4, 0, none⟩), .pointer (some ⟨S, 0, none⟩), .pointer (some ⟨S + 5, 0, none⟩), .pointer (some ⟨S + 1, 0, none⟩), .pointer (some ⟨N, 0, none⟩), .int .i64 (p : Nat), undef, .slice (some ⟨g, m, none⟩) (tl + 1 : Nat) (cap - m), undef, undef, v, .int .i64 (k : Nat), .slice (some ⟨G1, 0, none⟩) 1 1, .slice a' p c', .slice a' p c', .int .i64 (p : Nat), .slice (some ⟨S + 3, 0, none⟩) n n, .int .i64 (k : Nat), .int .i64 (p : Nat), .pointer (some ⟨S + 3, k, none⟩), .slice (some ⟨b, off, none⟩) n c, .int .i64 (k : Nat), .pointer (some ⟨b, off + k * 4, none⟩), .agg #[.int .u8 xo, .int .u8 xa, .int .u16 xb, .int .u32 xc], .int .i64 (k : Nat), .func (.func F) #[] lb, undef, undef, undef, undef, undef, undef, undef, undef, undef, undef, undef, undef, undef, undef, undef, undef, undef, undef, undef, undef, undef, undef, undef, undef, undef, undef, undef, u55, u56, u57, u58, u59, u60, u61, u62, u63, u64, u65, u66, u67, u68, u69, u70, u71, undef, undef, undef, undef, undef, undef, undef, undef, undef, undef, undef, undef, undef, undef], defers := [{ target := .collected B, args := #[] }] } W3) := by
        intro u55 u56 u57 u58 u59 u60 u61 u62 u63 u64 u65 u66 u67 u68 u69 u70 u71 L3 W3 hL0 hL1 hv3 hk3
        have HL0 := Lib.hid hL0
        have HL1 := Lib.hid hL1
        have HV3 := Lib.hid hv3
        have HK3 := Lib.hid hk3
        clear hL0 hL1 hv3 hk3
        refine hK4 _ _ ?_
        clear hK4 hK3 qb qn qk k0 k1
        go_wp2_with fail
        go_loopw [74] (fun i wr => ∃ j : Nat, j ≤ tl + 1 ∧ i = .int .i64 (j : Nat) ∧ VSt S n w (.slice (some ⟨b, off, none⟩) n c) (vfun S) (setL Bk1 ((k :: T1).take j) SH) (op ++ k :: T1) (.slice (some ⟨g, 0, none⟩) (op ++ k :: T1).length cap) L3 wr ∧ Kept (fun x => x = S + 1 ∨ x = S + 3) W wr) (fun i _ => tl + 1 - (intOf i).toNat)
        case atStart => exact ⟨0, by omega, rfl, HV3.out, HK3.out.mono fun x _ e => .inl e⟩
        case round =>
          obtain ⟨j, hj, rfl, hvj, hkj⟩ := hrel
          have HVj := Lib.hid hvj
          have HKj := Lib.hid hkj
          by_cases hlt2 : j < tl + 1
          · have hd : decide ((j : Int) < (tl : Int) + 1) = true := decide_eq_true (by omega)
            have j0 : (0 : Int) ≤ j := by omega
            have j1 : (j : Int) < (tl : Int) + 1 := by omega
            have hrl : (k :: T1).length = tl + 1 := by rw [List.length_cons, HTl.out]
            obtain ⟨b2, off2, e2, qj⟩ := hvj.ring.at j (by omega)
            injection e2 with e2
            injection e2 with e2 e3 _
            subst e2
            subst e3
            rw [HM.out] at qj
            have hyR : (k :: T1).getD j 0 ∈ k :: T1 := by rw [List.getD_eq_getElem?_getD, List.getElem?_eq_getElem (by omega)]; simp
            obtain ⟨y, hy⟩ : ∃ y, (k :: T1).getD j 0 = y := ⟨_, rfl⟩
            rw [hy] at qj hyR
            have hyn : y < n := by have := HR.out.m.inv.lt y (by rw [List.mem_append]; exact .inr hyR); have := HL.out; omega
            have qb := hvj.bb.cell
            have qy := hvj.at hyn
            have fy := hvj.row.free y
            have y0 : (0 : Int) ≤ y := by omega
            have y1 : (y : Int) < n := by omega
            obtain ⟨hk5, hv5⟩ := hvj.put y SH
            rw [show ((SH : Nat) : Int) = 9223372036854775807 from rfl] at hk5 hv5
            have htk : (k :: T1).take (j + 1) = (k :: T1).take j ++ [y] := by
              rw [List.take_add_one, List.getElem?_eq_getElem (by omega)]
              rw [List.getD_eq_getElem?_getD, List.getElem?_eq_getElem (by omega)] at hy
              simp at hy
              rw [hy]; rfl
            rw [← setL_snoc, ← htk] at hv5
            have HV5 := Lib.hid hv5
            have HK5 := Lib.hid (hkj.trans (hk5.mono fun x _ e => .inr e))
            generalize wf (setL Bk1 ((k :: T1).take j) SH) y = z5 at *
            clear hvj hkj hrl hyR hy hyn hk5 hv5 htk
            go_wp2_with fail
            exact ⟨⟨j + 1, by omega, by simp, HV5.out, HK5.out⟩, by simp [intOf]; omega⟩
          · obtain rfl : j = tl + 1 := by omega
            have hd : decide (((tl + 1 : Nat) : Int) < (tl : Int) + 1) = false := decide_eq_false (by omega)
            have q0 := hvj.bo.cell
            have f0 := hvj.bo.free
            rw [HLen.out] at q0
            have w1 : IntKind.i64.wrap ((p : Int) - 1) = (m : Int) := by have := HPm.out; simp [IntKind.wrap, IntKind.bits, IntKind.signed]; omega
            have m0 : (0 : Int) ≤ m := by omega
            have m1 : (m : Int) ≤ cap := by have := HPm.out; omega
            obtain ⟨hk6, hv6⟩ := hvj.trim
            rw [HM.out] at hk6 hv6
            have hk7 : Kept (fun x => x = S + 1 ∨ x = S + 2 ∨ x = S + 3) W (wr.setCell ⟨S + 2, 0, none⟩ (.slice (some ⟨g, 0, none⟩) m cap)) := (hkj.mono fun x _ e => by rcases e with e | e; exact .inl e; exact .inr (.inr e)).trans (hk6.mono fun x _ e => .inr (.inl e))
            have HV6 := Lib.hid hv6
            have HK7 := Lib.hid hk7
            have hBS : S + 6 ≤ N ∧ N < B := by have h1 := HRN.out.s; have h2 := HRN.out.n; have h3 := HRN.out.x; omega
            have HBS := Lib.hid hBS
            have HD6 : Hid ((wr.setCell ⟨S + 2, 0, none⟩ (.slice (some ⟨g, 0, none⟩) m cap)).heap[B]? = some (.deferred (some []))) := hk7.same HD.out (by omega)
            clear hvj hkj hk6 hv6 hk7 hBS HVj HKj HV3 HK3
            go_wp2_with fail
            generalize wr.setCell ⟨S + 2, 0, none⟩ (.slice (some ⟨g, 0, none⟩) m cap) = W6 at *
            refine ⟨by simp, .inl ⟨_, _, rfl, run_takeDeferred HD6.out, ?_⟩⟩
            have hp : Kept (fun x => x = B) W6 (W6.putObj B (.deferred none)) := Kept.put (Kept.refl (fun x => x = B) W6) (.inl rfl) _
            have hbs := HBS.out
            have hvn := HRN.out.v
            have hR := HR.out
            have hrl : (k :: T1).length = tl + 1 := by rw [List.length_cons, HTl.out]
            have htake : (k :: T1).take (tl + 1) = k :: T1 := by rw [← hrl, List.take_length]
            have hV6 := HV6.out
            rw [htake] at hV6
            refine ⟨.tuple #[], by simp [results, Tryd.f63, go_sem], rfl, setL Bk1 (k :: T1) SH, [], .slice (some ⟨g, 0, none⟩) m cap, L3, ?_, ?_, ?_, hR.at_⟩
            · rw [List.append_nil]
              exact hV6.kept hp (fun x hx => by have e2 : x = B := hx; omega) (fun g' hg' e => by
                have h4 := hR.vb g' hg'
                have h3 := HRN.out.x
                have e2 : g' = B := e
                omega)
            · refine hR.m.cut HF.out HRow.out.2.1 HGe.out (fun x => setL_at SH (k :: T1) Bk1 (fun y hy => ?_) x) HL0.out HL1.out
              rw [hR.c.len, ← HL.out]
              exact hR.m.inv.lt y (by rw [List.mem_append]; exact .inr hy)
            · refine (hR.kp.trans' HK7.out fun x hx q => ?_).trans' hp fun x hx q => ?_
              · rcases q with e | e | e
                · exact .inl e
                · exact .inr (.inl e)
                · exact .inr (.inr (.inl e))
              · have e2 : x = B := q
                omega
      clear hK4
      by_cases ht : tl = 0
      · have hd3 : decide ((1 : Int) < (tl : Int) + 1) = false := decide_eq_false (by omega)
        have hd3N : (0 < tl) = False := eq_false (by omega)
        have HT0 : Hid (T1 = []) := List.eq_nil_of_length_eq_zero (by rw [HTl.out]; exact ht)
        clear ht
        go_wp2_with fail
        exact REST3.out _ _ _ _ _ _ _ _ _ _ _ _ _ _ _ _ _ L1 W (fun _ => rfl) (fun q => absurd HT0.out q) HR.out.c (Kept.refl _ _)
      · have hd3 : decide ((1 : Int) < (tl : Int) + 1) = true := decide_eq_true (by omega)
        have hd3N : (0 < tl) = True := eq_true (by omega)
        obtain ⟨v0, hm1, hm2⟩ := min_exists (k :: T1) (by simp)
        have HMin : Hid (Calls Tryd.prog 64 #[.slice (some ⟨g, m, none⟩) (tl + 1 : Nat) (cap - m)] W.drew fun e w'' => e = .returned (.int .i64 (v0 : Nat)) ∧ w'' = W.drew) := by
          refine (min_any (k :: T1) (some ⟨g, m, none⟩) (tl + 1) (cap - m) (by omega) (by omega) W.drew (HNr2.out.below (Below.refl W.heap.size W).drew (Nat.le_refl _))).mono ?_
          rintro e w' ⟨v2, rfl, h1, h2, rfl⟩
          have := h1 _ hm1
          have := hm2 _ h2
          have e2 : v2 = v0 := by omega
          subst e2
          exact ⟨rfl, rfl⟩
        have HM1 := Lib.hid hm1
        have HM2 := Lib.hid hm2
        have HTn : Hid (T1 ≠ []) := fun e => ht (by rw [← HTl.out, e]; rfl)
        obtain ⟨M3, hM3⟩ : ∃ M, M = min L1 v0 := ⟨_, rfl⟩
        have hrun := run_min2 L1 v0 M3 hM3
        have HM3 := Lib.hid hM3
        have qe := HR.out.c.be.cell
        clear ht hm1 hm2 hM3
        go_upto_region 14 with fail
        go_still_tail 4, (by kernel_rfl)
        still_call HMin.out
        still_step
        refine wpStill_nil ?_
        change wpList _ _ _ _ _ W.drew
        have hdr : Kept (fun _ => False) W W.drew := (Kept.refl _ W).drew
        have hvd := HR.out.c.kept hdr (fun _ x => x.elim) (fun _ _ x => x)
        have qe2 := hvd.be.cell
        have fe2 := hvd.be.free
        obtain ⟨hk8, hv8⟩ := hvd.least M3
        have hall : Kept (fun j => j = S + 1) W (W.drew.setCell ⟨S + 1, 0, none⟩ (.int .i64 ((M3 : Nat) : Int))) := (hdr.mono fun _ _ x => x.elim).trans hk8
        have HV8 := Lib.hid hv8
        have HK8 := Lib.hid hall
        clear hdr hvd hk8 hv8 hall qe
        generalize W.drew = W8 at *
        go_wp2_with fail
        refine REST3.out _ _ _ _ _ _ _ _ _ _ _ _ _ _ _ _ _ M3 _ (fun q => absurd q HTn.out) (fun _ => ⟨?_, ?_, fun x hx => ?_⟩) HV8.out HK8.out
        · rw [HM3.out]; exact Nat.min_le_left _ _
        · rcases Nat.le_total L1 v0 with q | q
          · exact .inl (by rw [HM3.out]; exact Nat.min_eq_left q)
          · exact .inr (by rw [HM3.out, Nat.min_eq_right q]; exact HM1.out)
        · have := HM2.out x hx
          rw [HM3.out]
          exact Nat.le_trans (Nat.min_le_right _ _) this
  case stop =>
    rintro cd pre V' hpre h
    exact h.elim
theorem visit_any (l : List Iv) (a : Option Addr) (n c : Nat) (w : World) (S : Nat) (hS : w.heap.size = S) (hf : Fine l) (h : IRow w a n l) : ∀ z, VisC l a n c w S z
  | 0 => fun _ _ _ _ _ _ hz => absurd hz (Nat.not_lt_zero _)
  | z + 1 => visit_step l a n c w S hS hf h z (visit_any l a n c w S hS hf h z)
end Cst
end Go.Proofs.YtjoiogdckbaeaaaDoor
namespace Go.Proofs.YtjoiogdckbaeaaaDoor
open Go.ChangeShapes Go.WideShapes Go.ChangeAt Go.RowKit
namespace Cst
open Isa Flw
open Goes
open Rights (Kept)
set_option linter.unusedVariables false
set_option linter.unusedSimpArgs false
set_option maxHeartbeats 6400000 in
theorem least_any (l : List Iv) (a : Option Addr) (n c : Nat) (w : World) (hf : Fine l) (h : IRow w a n l) (hl : lpK l < l.length) :
    Calls Tryd.prog 47 #[.slice a n c] w fun e w' => e = .returned (.int .i64 (lpK l : Nat)) ∧ Below w.heap.size w w' := by
  have hln : l.length = n := h.1
  have hn16 : n ≤ 16384 := by have := hf.most; omega
  have HL := Lib.hid hln
  have HF := Lib.hid hf
  have HW := Lib.hid h.2.1
  have HLp := Lib.hid hl
  have HVis := Lib.hid (fun S hS => visit_any l a n c w S hS hf h)
  obtain ⟨S, hS⟩ : ∃ S, w.heap.size = S := ⟨_, rfl⟩
  have HS := Lib.hid hS
  have HB1 : Hid (Below S w (w.alloc (.cells #[.slice a n c] 22))) := by show Below _ _ _; rw [← hS]; exact (Below.refl _ w).alloc (Nat.le_refl _) _
  have HX1 : Hid (Box (w.alloc (.cells #[.slice a n c] 22)) S 22 (.slice a n c)) := by show Box _ _ _ _; rw [← hS]; exact Box.new w _ _
  have HZ1 : Hid ((w.alloc (.cells #[.slice a n c] 22)).heap.size = S + 1) := by show _ = _; rw [World.size_alloc, hS]
  clear hf h hl hln
  go_enter Tryd.func47, Tryd.ntmps47
  go_upto_region 1 with fail
  clear hS
  generalize w.alloc (.cells #[.slice a n c] 22) = W1 at *
  have q0 := HX1.out.cell
  have hz1 := HZ1.out
  -- the least one
  have HK2 : Hid (Kept (fun _ => False) W1 (W1.alloc (.cells #[.int .i64 (n : Nat)] 3))) := (Kept.refl _ W1).alloc _
  have HX2 : Hid (Box (W1.alloc (.cells #[.int .i64 (n : Nat)] 3)) (S + 1) 3 (.int .i64 (n : Nat))) := by show Box _ _ _ _; rw [← hz1]; exact Box.new W1 _ _
  have hz2 : (W1.alloc (.cells #[.int .i64 (n : Nat)] 3)).heap.size = S + 2 := by rw [World.size_alloc, hz1]
  go_upto_region 2 with fail
  clear q0 hz1
  generalize W1.alloc (.cells #[.int .i64 (n : Nat)] 3) = W2 at *
  -- those that are open
  have HK3 : Hid (Kept (fun _ => False) W2 (W2.alloc (.cells #[.slice none 0 0] 58))) := (Kept.refl _ W2).alloc _
  have HX3 : Hid (Box (W2.alloc (.cells #[.slice none 0 0] 58)) (S + 2) 58 (.slice none 0 0)) := by show Box _ _ _ _; rw [← hz2]; exact Box.new W2 _ _
  have hz3 : (W2.alloc (.cells #[.slice none 0 0] 58)).heap.size = S + 3 := by rw [World.size_alloc, hz2]
  go_upto_region 3 with fail
  clear hz2
  generalize W2.alloc (.cells #[.slice none 0 0] 58) = W3 at *
  -- the least places
  have q0 : W3.cell? ⟨S, 0, none⟩ = some (.slice a n c) := ((HX1.out.kept HK2.out (fun x => x)).kept HK3.out (fun x => x)).cell
  have hmk := run_make_ints W3 n (by omega)
  rw [hz3] at hmk
  have HK4 : Hid (Kept (fun _ => False) W3 ((W3.alloc (.cells (ints (List.replicate n 0)).toArray 3)).alloc (.cells #[.slice (some ⟨S + 3, 0, none⟩) n n] 58))) := ((Kept.refl _ W3).alloc _).alloc _
  have HX4 : Hid (PRow ((W3.alloc (.cells (ints (List.replicate n 0)).toArray 3)).alloc (.cells #[.slice (some ⟨S + 3, 0, none⟩) n n] 58)) (S + 3) (List.replicate n 0)) := by
    have h : PRow (W3.alloc (.cells (ints (List.replicate n 0)).toArray 3)) (S + 3) (List.replicate n 0) := by
      have := alloc_new W3 (.cells (ints (List.replicate n 0)).toArray 3)
      rwa [hz3] at this
    exact ((Kept.refl (fun _ => False) _).alloc _).same h (fun x => x)
  have HX5 : Hid (Box ((W3.alloc (.cells (ints (List.replicate n 0)).toArray 3)).alloc (.cells #[.slice (some ⟨S + 3, 0, none⟩) n n] 58)) (S + 4) 58 (.slice (some ⟨S + 3, 0, none⟩) n n)) := by
    have := Box.new (W3.alloc (.cells (ints (List.replicate n 0)).toArray 3)) 58 (.slice (some ⟨S + 3, 0, none⟩) n n)
    rwa [World.size_alloc, hz3] at this
  have hz4 : ((W3.alloc (.cells (ints (List.replicate n 0)).toArray 3)).alloc (.cells #[.slice (some ⟨S + 3, 0, none⟩) n n] 58)).heap.size = S + 5 := by rw [World.size_alloc, World.size_alloc, hz3]
  go_upto_region 4 with fail
  clear q0 hmk hz3
  rw [show S + 3 + 1 = S + 4 from rfl]
  generalize (W3.alloc (.cells (ints (List.replicate n 0)).toArray 3)).alloc (.cells #[.slice (some ⟨S + 3, 0, none⟩) n n] 58) = W5 at *
  have HK6 : Hid (Kept (fun _ => False) W5 (W5.alloc (.cells #[.nilFunc] 105))) := (Kept.refl _ W5).alloc _
  have HX6 : Hid (Box (W5.alloc (.cells #[.nilFunc] 105)) (S + 5) 105 .nilFunc) := by show Box _ _ _ _; rw [← hz4]; exact Box.new W5 _ _
  go_upto_region 5 with fail
  clear hz4
  generalize W5.alloc (.cells #[.nilFunc] 105) = W6 at *
  have q5 := HX6.out.cell
  have f5 := HX6.out.free
  have HV : Hid (VSt S n w (.slice a n c) (vfun S) (List.replicate n 0) [] (.slice none 0 0) n (W6.setCell ⟨S + 5, 0, none⟩ (vfun S))) := by
    have k7 : Kept (fun j => j = S + 5) W6 (W6.setCell ⟨S + 5, 0, none⟩ (vfun S)) := kept_set _ _ _ _ rfl
    have k16 : Kept (fun _ => False) W1 W6 := ((HK2.out.trans HK3.out).trans HK4.out).trans HK6.out
    have k26 : Kept (fun _ => False) W2 W6 := (HK3.out.trans HK4.out).trans HK6.out
    have k36 : Kept (fun _ => False) W3 W6 := HK4.out.trans HK6.out
    refine ⟨(HX1.out.kept k16 (fun x => x)).kept k7 (by omega), (HX2.out.kept k26 (fun x => x)).kept k7 (by omega), (HX3.out.kept k36 (fun x => x)).kept k7 (by omega), ?_, (HX5.out.kept HK6.out (fun x => x)).kept k7 (by omega), HX6.out.set _, World.ownsRow_nil _ _ _ _, ?_, by simp⟩
    · have e : pI (List.replicate n 0) = List.replicate n 0 := by unfold pI; rw [List.map_replicate]; rfl
      rw [e]
      exact k7.same (HK6.out.same HX4.out (fun x => x)) (by omega)
    · have h1 := HX6.out.lt
      have h2 := HX1.out.lt
      exact (HB1.out.trans (below_of k16 (by omega) (fun _ x => x.elim))).trans (below_of k7 (by omega) (fun j hj => by have e2 : j = S + 5 := hj; omega))
  unfold vfun at HV
  have hsf := fun (a : Addr) (c : Array Value) (w : World) => run_store Tryd.prog w a (.func (.func 63) #[] c) .plain rfl
  go_upto_region 6 with fail
  clear q5 f5 hsf
  generalize W6.setCell ⟨S + 5, 0, none⟩ (.func (.func 63) #[] #[.pointer (some ⟨S + 2, 0, none⟩), .pointer (some ⟨S + 4, 0, none⟩), .pointer (some ⟨S, 0, none⟩), .pointer (some ⟨S + 5, 0, none⟩), .pointer (some ⟨S + 1, 0, none⟩)]) = W7 at *
  have qv := HV.out.bv.cell
  have hwf : wf (List.replicate n 0) = fun _ => 0 := by
    funext j
    unfold wf
    rw [List.getD_eq_getElem?_getD, List.getElem?_replicate]
    split <;> rfl
  have HCall := Lib.hid (HVis.out S HS.out _ 0 (List.replicate n 0) [] (.slice none 0 0) n W7 (Nat.lt_succ_self _) .zero (by rw [hwf]) (by rw [hwf]; exact tinv_nil l) HV.out)
  have HWf := Lib.hid hwf
  clear hwf HVis HK2 HK3 HK4 HK6 HX1 HX2 HX3 HX4 HX5 HX6 HB1 HZ1
  go_wp2_with fail
  refine HCall.out.mono ?_
  rintro e W8 ⟨rfl, Bk', T, v', L', hv8, hp8, _, _⟩
  have hL : L' = lpK l := by
    rw [HWf.out, ← HL.out] at hp8
    exact hp8.fin HF.out HW.out HLp.out
  subst hL
  have qe := hv8.be.cell
  have HB8 := Lib.hid hv8.bel
  clear hv8 hp8 HCall qv HV
  go_wp2_with fail
  go_ret
  exact ⟨rfl, by rw [HS.out]; exact HB8.out⟩
end Cst
end Go.Proofs.YtjoiogdckbaeaaaDoor
