/- The document's ports: a message's row, or a draft's, is another one. -/
import Derived.Test.YtcapiaempfjmeaaPortR2
namespace Go.Proofs.Ytcapiaempfjmeaa
open Go.ChangeShapes Go.WideShapes Go.ChangeAt Go.RowKit
namespace Prt
set_option linter.unusedVariables false
set_option linter.unusedSimpArgs false
theorem set_self (l : List Bx) (k : Nat) : l.set k l[k]! = l := by
  by_cases h : k < l.length
  · rw [getElem!_pos l k h, List.set_getElem_self]
  · rw [List.set_eq_of_length_le (by omega)]
def upd {α : Type} (f : Nat → α) (k : Nat) (x : α) : Nat → α := fun i => if i = k then x else f i
theorem upd_same {α : Type} (f : Nat → α) (k : Nat) (x : α) : upd f k x k = x := if_pos rfl
theorem upd_other {α : Type} (f : Nat → α) (k i : Nat) (x : α) (h : i ≠ k) : upd f k x i = f i := if_neg h
section
variable {A : RA} {n : Nat} {a0 : Option Addr} {c0 : Nat} {l : List Bx} {T : Nat → Option Nat} {V V' : World}
theorem Rf.mark (h : Rf A n a0 c0 l T V) {nb t : Nat} (hn : T nb = none) (hl : nb < V.heap.size) : Rf A n a0 c0 l (Prt.mark T nb t) V := by
  have ht : ∀ {x s}, T x = some s → Prt.mark T nb t x = some s := fun {x s} e => mark_old e (fun e2 => by rw [e2, hn] at e; cases e)
  exact ⟨h.len, h.ok, h.n16, h.obj, h.hx, ht h.tr, fun h0 => ⟨ht (h.tags h0).1, ht (h.tags h0).2.1, ht (h.tags h0).2.2.1, ht (h.tags h0).2.2.2⟩, fun i hi => ht (h.twb i hi), fun i hi => ht (h.tdb i hi), h.cW, h.cM, h.cA, h.cD, h.cR, h.cS, fun k hk => by
    by_cases e : k = nb
    · rw [e]; exact hl
    · exact h.lt k (fun e2 => hk (by show Prt.mark T nb t k = none; unfold Prt.mark; rw [if_neg e]; exact e2))⟩
/-- a message's row is another one, with the draft's words -/
theorem Rf.wW (h : Rf A n a0 c0 l T V) {k : Nat} (hk : k < n) (nb cap : Nat) (hnb : T nb = some 5) (hrow : ∀ j, j < wd l[k]! → CF V nb j (.int .u32 ((l[k]!).dr.getD j 0))) :
    Rf { A with wb := upd A.wb k nb, wc := upd A.wc k cap } n a0 c0 (l.set k { l[k]! with m := (l[k]!).dr }) T (V.setCell ⟨A.bw, k, none⟩ (.slice (some ⟨nb, 0, none⟩) (wd l[k]!) cap)) := by
  have hkl : k < l.length := by rw [h.len]; exact hk
  have hg := h.tags (by omega)
  have h0 := h.at hk
  have hc : ∀ i, i < n → (l.set k { l[k]! with m := (l[k]!).dr })[i]! = if i = k then { l[k]! with m := (l[k]!).dr } else l[i]! := fun i hi => set_cases l i k _ (by rw [h.len]; exact hi) hkl
  have hw : ∀ i, i < n → wd (l.set k { l[k]! with m := (l[k]!).dr })[i]! = wd l[i]! := fun i hi => by
    rw [hc i hi]; split
    · rename_i e; rw [e]; rfl
    · rfl
  have hkp : Kept (fun x => x = A.bw) V (V.setCell ⟨A.bw, k, none⟩ (.slice (some ⟨nb, 0, none⟩) (wd l[k]!) cap)) := (Kept.refl (fun x => x = A.bw) V).setCell (.inl rfl) _
  have hne : ∀ {b : Nat} {s : Nat}, T b = some s → s ≠ 1 → ¬ b = A.bw := fun e1 e2 => ne_tag e1 hg.1 e2
  refine ⟨by rw [List.length_set]; exact h.len, fun x hx => ?_, h.n16, hkp.same h.obj (hne h.tr (by omega)), h.hx, h.tr, h.tags, fun i hi => ?_, h.tdb, ?_, ?_, ?_, ?_, ?_, ?_, fun x hx => Nat.lt_of_lt_of_le (h.lt x hx) hkp.size⟩
  · rcases List.mem_or_eq_of_mem_set hx with hx | rfl
    · exact h.ok _ hx
    · exact ⟨h0.w, h0.wr, h0.rd, h0.dr, h0.dr, h0.dz, h0.dz, h0.age⟩
  · show T (upd A.wb k nb i) = some 5
    unfold upd; split
    · exact hnb
    · exact h.twb i hi
  · intro i hi
    rw [hw i hi]
    show CF _ A.bw i (.slice (some ⟨upd A.wb k nb i, 0, none⟩) _ (upd A.wc k cap i))
    by_cases e : i = k
    · subst e
      rw [upd_same, upd_same]
      exact (h.cW i hi).same _
    · rw [upd_other _ _ _ _ e, upd_other _ _ _ _ e]
      exact (h.cW i hi).other _ (fun _ => e)
  · intro i hi j hj
    rw [hw i hi] at hj
    rw [hc i hi]
    show CF _ (upd A.wb k nb i) j _
    by_cases e : i = k
    · subst e
      rw [upd_same, if_pos rfl]
      exact (hrow j hj).kept hkp (hne hnb (by omega))
    · rw [upd_other _ _ _ _ e, if_neg e]
      exact (h.cM i hi j hj).kept hkp (hne (h.twb i hi) (by omega))
  · intro i hi
    rw [show ((l.set k { l[k]! with m := (l[k]!).dr })[i]!).age = (l[i]!).age from by rw [hc i hi]; split; (rename_i e; rw [e]); rfl]
    exact (h.cA i hi).kept hkp (hne hg.2.1 (by omega))
  · intro i hi
    rw [hw i hi]
    exact (h.cD i hi).kept hkp (hne hg.2.2.1 (by omega))
  · intro i hi j hj
    rw [hw i hi] at hj
    rw [show ((l.set k { l[k]! with m := (l[k]!).dr })[i]!).dr = (l[i]!).dr from by rw [hc i hi]; split; (rename_i e; rw [e]); rfl]
    exact (h.cR i hi j hj).kept hkp (hne (h.tdb i hi) (by omega))
  · intro i hi
    rw [show ((l.set k { l[k]! with m := (l[k]!).dr })[i]!).s = (l[i]!).s from by rw [hc i hi]; split; (rename_i e; rw [e]); rfl]
    exact (h.cS i hi).kept hkp (hne hg.2.2.2 (by omega))
/-- a draft's row is another one, of words 0 -/
theorem Rf.wD (h : Rf A n a0 c0 l T V) {k : Nat} (hk : k < n) (nb cap : Nat) (hnb : T nb = some (6 + k)) (hrow : ∀ j, j < wd l[k]! → CF V nb j (.int .u32 0)) :
    Rf { A with db := upd A.db k nb, dc := upd A.dc k cap } n a0 c0 (l.set k { l[k]! with dr := List.replicate 16 0 }) T (V.setCell ⟨A.bd, k, none⟩ (.slice (some ⟨nb, 0, none⟩) (wd l[k]!) cap)) := by
  have hkl : k < l.length := by rw [h.len]; exact hk
  have hg := h.tags (by omega)
  have h0 := h.at hk
  have hc : ∀ i, i < n → (l.set k { l[k]! with dr := List.replicate 16 0 })[i]! = if i = k then { l[k]! with dr := List.replicate 16 0 } else l[i]! := fun i hi => set_cases l i k _ (by rw [h.len]; exact hi) hkl
  have hw : ∀ i, i < n → wd (l.set k { l[k]! with dr := List.replicate 16 0 })[i]! = wd l[i]! := fun i hi => by
    rw [hc i hi]; split
    · rename_i e; rw [e]; rfl
    · rfl
  have hkp : Kept (fun x => x = A.bd) V (V.setCell ⟨A.bd, k, none⟩ (.slice (some ⟨nb, 0, none⟩) (wd l[k]!) cap)) := (Kept.refl (fun x => x = A.bd) V).setCell (.inl rfl) _
  have hne : ∀ {b : Nat} {s : Nat}, T b = some s → s ≠ 3 → ¬ b = A.bd := fun e1 e2 => ne_tag e1 hg.2.2.1 e2
  have h16 : wd l[k]! ≤ 16 := by have := h0.w; unfold wd; omega
  refine ⟨by rw [List.length_set]; exact h.len, fun x hx => ?_, h.n16, hkp.same h.obj (hne h.tr (by omega)), h.hx, h.tr, h.tags, h.twb, fun i hi => ?_, ?_, ?_, ?_, ?_, ?_, ?_, fun x hx => Nat.lt_of_lt_of_le (h.lt x hx) hkp.size⟩
  · rcases List.mem_or_eq_of_mem_set hx with hx | rfl
    · exact h.ok _ hx
    · exact ⟨h0.w, h0.wr, h0.rd, h0.m, by simp, h0.mz, fun z hz => by rw [List.eq_of_mem_replicate hz]; omega, h0.age⟩
  · show T (upd A.db k nb i) = some (6 + i)
    unfold upd; split
    · rename_i e; rw [e]; exact hnb
    · exact h.tdb i hi
  · intro i hi
    rw [hw i hi]
    exact (h.cW i hi).kept hkp (hne hg.1 (by omega))
  · intro i hi j hj
    rw [hw i hi] at hj
    rw [show ((l.set k { l[k]! with dr := List.replicate 16 0 })[i]!).m = (l[i]!).m from by rw [hc i hi]; split; (rename_i e; rw [e]); rfl]
    exact (h.cM i hi j hj).kept hkp (hne (h.twb i hi) (by omega))
  · intro i hi
    rw [show ((l.set k { l[k]! with dr := List.replicate 16 0 })[i]!).age = (l[i]!).age from by rw [hc i hi]; split; (rename_i e; rw [e]); rfl]
    exact (h.cA i hi).kept hkp (hne hg.2.1 (by omega))
  · intro i hi
    rw [hw i hi]
    show CF _ A.bd i (.slice (some ⟨upd A.db k nb i, 0, none⟩) _ (upd A.dc k cap i))
    by_cases e : i = k
    · subst e
      rw [upd_same, upd_same]
      exact (h.cD i hi).same _
    · rw [upd_other _ _ _ _ e, upd_other _ _ _ _ e]
      exact (h.cD i hi).other _ (fun _ => e)
  · intro i hi j hj
    rw [hw i hi] at hj
    rw [hc i hi]
    show CF _ (upd A.db k nb i) j _
    by_cases e : i = k
    · subst e
      rw [upd_same, if_pos rfl]
      have : (List.replicate 16 (0 : Int)).getD j 0 = 0 := by rw [List.getD_eq_getElem?_getD, List.getElem?_replicate]; split <;> rfl
      rw [this]
      exact (hrow j hj).kept hkp (hne hnb (by omega))
    · rw [upd_other _ _ _ _ e, if_neg e]
      exact (h.cR i hi j hj).kept hkp (hne (h.tdb i hi) (by omega))
  · intro i hi
    rw [show ((l.set k { l[k]! with dr := List.replicate 16 0 })[i]!).s = (l[i]!).s from by rw [hc i hi]; split; (rename_i e; rw [e]); rfl]
    exact (h.cS i hi).kept hkp (hne hg.2.2.2 (by omega))
end
/-- the document's ports, wherever they lie now; what is marked is known by its mark; what is older than S is marked as at first -/
def RfE (r n : Nat) (a0 : Option Addr) (c0 : Nat) (l : List Bx) (T0 : Nat → Option Nat) (S : Nat) (V0 V : World) : Prop :=
  ∃ A T, A.r = r ∧ Rf A n a0 c0 l T V ∧ (∀ k, k < S → T k = T0 k) ∧ Kept (fun k => T0 k ≠ none) V0 V
end Prt
end Go.Proofs.Ytcapiaempfjmeaa
