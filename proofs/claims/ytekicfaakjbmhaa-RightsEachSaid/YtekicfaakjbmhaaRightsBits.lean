/- What Find and Apart say of single bytes and of rights, in numbers. -/
import Derived.Test.YtekicfaakjbmhaaRightsCheck
import Derived.Laws.BitsLemmas
namespace Go.Proofs.Ytekicfaakjbmhaa
open Go.ChangeShapes Go.WideShapes Go.ChangeAt Go.RowKit
namespace Rights
set_option linter.unusedVariables false
theorem bits8 (a b : Int) (ha : 0 ≤ a ∧ a ≤ 255) (hb : 0 ≤ b ∧ b ≤ 255) : bits .and .u8 a b = ((a.toNat &&& b.toNat : Nat) : Int) ∧ bits .or .u8 a b = ((a.toNat ||| b.toNat : Nat) : Int) := by
  obtain ⟨x, rfl⟩ : ∃ x : Nat, a = x := ⟨a.toNat, by omega⟩
  obtain ⟨y, rfl⟩ : ∃ y : Nat, b = y := ⟨b.toNat, by omega⟩
  exact bits_nat .u8 8 (by decide) (fun n h0 h1 => by simp [IntKind.wrap, IntKind.bits, IntKind.signed]; omega) x y (by omega) (by omega)
theorem fnd_some {l : List Rg} {p s r : Int} {k : Nat} (h : fnd l p s r = some k) : s ≠ 0 ∧ k < l.length ∧ fndP p s r l[k]! = true ∧ ∀ j, j < k → fndP p s r l[j]! = false := by
  unfold fnd at h
  split at h
  · cases h
  · rename_i h0
    obtain ⟨h1, h2, h3⟩ := List.findIdx?_eq_some_iff_getElem.1 h
    refine ⟨h0, h1, by rw [getElem!_pos l k h1]; exact h2, fun j hj => ?_⟩
    have := h3 j hj
    rw [getElem!_pos l j (by omega)]
    simpa using this
theorem fnd_none {l : List Rg} {p s r : Int} (h : fnd l p s r = none) (h0 : s ≠ 0) : ∀ j, j < l.length → fndP p s r l[j]! = false := by
  unfold fnd at h
  rw [if_neg h0, List.findIdx?_eq_none_iff] at h
  intro j hj
  have := h l[j]! (by rw [getElem!_pos l j hj]; exact List.getElem_mem _)
  simpa using this
theorem fndP_iff (p s r : Int) (x : Rg) : fndP p s r x = true ↔ x.b ≤ p ∧ p + s ≤ x.e ∧ bits .and .u8 x.r r = r := by
  unfold fndP
  simp only [Bool.and_eq_true, decide_eq_true_eq, and_assoc]
theorem fits_iff (x : Rg) (m : Int) : fits x m = true ↔ x.s ≠ 0 ∧ x.e ≤ m ∧ x.r ≠ 0 ∧ x.r ≤ 7 := by unfold fits; simp
theorem writes_below {l : List Rg} {m p : Int} (hg : Good l m) (h : (fnd l p 1 2).isSome = true) : p < m := by
  obtain ⟨k, hk⟩ := Option.isSome_iff_exists.1 h
  obtain ⟨_, h1, h2, _⟩ := fnd_some hk
  obtain ⟨_, h3, _⟩ := (fndP_iff _ _ _ _).1 h2
  obtain ⟨_, h4, _⟩ := (fits_iff _ _).1 (hg.fit l[k]! (by rw [getElem!_pos l k h1]; exact List.getElem_mem _))
  omega
theorem wr2_left {x y : Rg} (h : bits .and .u8 x.r 2 = 2) : wr2 x y = true := by
  unfold wr2
  have hx := x.h.2.2
  have hy := y.h.2.2
  rw [(bits8 x.r 2 hx (by decide)).1] at h
  rw [(bits8 x.r y.r hx hy).2]
  have h1 : ((x.r.toNat ||| y.r.toNat : Nat) : Int) ≤ 255 := by
    have : x.r.toNat ||| y.r.toNat < 2 ^ 8 := Nat.or_lt_two_pow (by omega) (by omega)
    omega
  rw [(bits8 _ 2 ⟨by omega, h1⟩ (by decide)).1]
  have h2 : x.r.toNat &&& 2 = 2 := by have : ((x.r.toNat &&& (2 : Int).toNat : Nat) : Int) = 2 := h; simpa using Int.ofNat.inj this
  have h3 : ((x.r.toNat ||| y.r.toNat) &&& 2) ≠ 0 := by
    rw [Nat.and_or_distrib_right, h2]
    have := @Nat.left_le_or 2 (y.r.toNat &&& 2)
    omega
  simp only [Int.toNat_natCast, show (2 : Int).toNat = 2 from rfl, bne_iff_ne, ne_eq]
  omega
theorem wr2_comm (x y : Rg) : wr2 x y = wr2 y x := by
  unfold wr2
  rw [(bits8 x.r y.r x.h.2.2 y.h.2.2).2, (bits8 y.r x.r y.h.2.2 x.h.2.2).2, Nat.or_comm]
theorem apart_comm (a b : List Rg) : apart b a = apart a b := by
  rw [Bool.eq_iff_iff]
  unfold apart
  simp only [List.all_eq_true]
  have e : ∀ x y, apartP x y = apartP y x := fun x y => by unfold apartP; rw [wr2_comm, overlap_comm]
  exact ⟨fun h x hx y hy => by rw [e]; exact h y hy x hx, fun h x hx y hy => by rw [e]; exact h y hy x hx⟩
theorem apart_alone {a b : List Rg} {p r : Int} (h : apart a b = true) (ha : (fnd a p 1 2).isSome = true) (hb : (fnd b p 1 r).isSome = true) : False := by
  obtain ⟨i, hi⟩ := Option.isSome_iff_exists.1 ha
  obtain ⟨k, hk⟩ := Option.isSome_iff_exists.1 hb
  obtain ⟨_, h1, h2, _⟩ := fnd_some hi
  obtain ⟨_, g1, g2, _⟩ := fnd_some hk
  obtain ⟨h3, h4, h5⟩ := (fndP_iff _ _ _ _).1 h2
  obtain ⟨g3, g4, g5⟩ := (fndP_iff _ _ _ _).1 g2
  unfold apart at h
  simp only [List.all_eq_true] at h
  have h6 := h a[i]! (by rw [getElem!_pos a i h1]; exact List.getElem_mem _) b[k]! (by rw [getElem!_pos b k g1]; exact List.getElem_mem _)
  unfold apartP at h6
  rw [wr2_left h5, (overlap_iff _ _).2 ⟨p, by unfold Rg.Has; omega⟩] at h6
  cases h6
end Rights
end Go.Proofs.Ytekicfaakjbmhaa
