/- known: the layer does a small thing right. -/
import Derived.Test.YtekicfaakjbmhaaRightsTold2
import Derived.Test.YtekicfaakjbmhaaRightsFind
namespace Go.Proofs.Ytekicfaakjbmhaa
open Go.ChangeShapes Go.WideShapes Go.ChangeAt Go.RowKit
namespace Rights
set_option linter.unusedVariables false
set_option linter.unusedSimpArgs false
def mk (b s r : Int) (h : (0 ≤ b ∧ b ≤ 4294967295) ∧ (0 ≤ s ∧ s ≤ 4294967295) ∧ (0 ≤ r ∧ r ≤ 255)) : Rg := ⟨b, s, r, h⟩
theorem row_one {X : World} {k : Nat} (x : Rg) (h : X.heap[k]? = some (.cells #[.int .u32 x.b, .int .u32 x.s, .int .u8 x.r] 24 (0, 0))) : RRow X (some ⟨k, 0, none⟩) 1 [x] := by
  refine ⟨rfl, .inr ⟨k, 0, rfl, lt_of_block h, ?_⟩⟩
  intro j hj i v hv
  have hj0 : j = 0 := by simp at hj; omega
  subst hj0
  have hi : i < 3 := by have := (List.getElem?_eq_some_iff.1 hv).1; simpa [enc_len] using this
  match i, hi with
  | 0, _ => simp [enc] at hv; subst hv; simp [World.cell?, h]
  | 1, _ => simp [enc] at hv; subst hv; simp [World.cell?, h]
  | 2, _ => simp [enc] at hv; subst hv; simp [World.cell?, h]
theorem row_two {X : World} {k : Nat} (x y : Rg) (h : X.heap[k]? = some (.cells #[.int .u32 x.b, .int .u32 x.s, .int .u8 x.r, .int .u32 y.b, .int .u32 y.s, .int .u8 y.r] 24 (0, 0))) : RRow X (some ⟨k, 0, none⟩) 2 [x, y] := by
  refine ⟨rfl, .inr ⟨k, 0, rfl, lt_of_block h, ?_⟩⟩
  intro j hj i v hv
  have hi : i < 3 := by have := (List.getElem?_eq_some_iff.1 hv).1; simpa [enc_len] using this
  have hj2 : j < 2 := by simpa using hj
  match j, hj2, i, hi with
  | 0, _, 0, _ => simp [enc] at hv; subst hv; simp [World.cell?, h]
  | 0, _, 1, _ => simp [enc] at hv; subst hv; simp [World.cell?, h]
  | 0, _, 2, _ => simp [enc] at hv; subst hv; simp [World.cell?, h]
  | 1, _, 0, _ => simp [enc] at hv; subst hv; simp [World.cell?, h]
  | 1, _, 1, _ => simp [enc] at hv; subst hv; simp [World.cell?, h]
  | 1, _, 2, _ => simp [enc] at hv; subst hv; simp [World.cell?, h]
theorem fits_at (b s r : Int) (h : (0 ≤ b ∧ b ≤ 4294967295) ∧ (0 ≤ s ∧ s ≤ 4294967295) ∧ (0 ≤ r ∧ r ≤ 255)) (m : Int) (hm : 0 ≤ m ∧ m ≤ 4294967295) (z : Bool) (hz : fits ⟨b, s, r, h⟩ m = z) (W : World) :
    Calls Try.prog 9 #[.agg #[.int .u32 b, .int .u32 s, .int .u8 r], .int .u32 m] W fun e w' => e = .returned (.bool z) ∧ Below W.heap.size W w' := by
  have := fits_any ⟨b, s, r, h⟩ m hm W
  rw [hz] at this
  exact this
theorem find_at {k : Nat} {l : List Rg} {W : World} (n c : Nat) (h : RRow W (some ⟨k, 0, none⟩) n l) (hn : n ≤ 10) (p size right : Int) (hp : 0 ≤ p ∧ p ≤ 4294967295) (hs : 0 ≤ size ∧ size ≤ 4294967295) (hr : 0 ≤ right ∧ right ≤ 255) (i : Int) (z : Bool)
    (hi : fi (fnd l p size right) = i) (hz : (fnd l p size right).isSome = z) :
    Calls Try.prog 18 #[.slice (some ⟨k, 0, none⟩) n c, .int .u32 p, .int .u32 size, .int .u8 right] W fun e w' => e = .returned (.tuple #[.int .i64 i, .bool z]) ∧ Below W.heap.size W w' := by
  have := find_any (c := c) h (by omega) p size right hp hs hr
  unfold FindP at this
  rw [hi, hz] at this
  exact this
set_option maxHeartbeats 4000000 in
set_option maxRecDepth 100000 in
theorem known_any (w : World) : Calls Try.prog 8 #[] w fun e w' => e = .returned (.bool true) ∧ Below w.heap.size w w' := by
  have hbT : ∀ {X Y : World}, Below w.heap.size w X → Below X.heap.size X Y → Below w.heap.size w Y := fun h k => h.trans (k.mono h.size)
  go_enter Try.func8, Try.ntmps8
  go_wp2_with (go_at_call 20; refine (of_any _ _ _ _).mono ?_; rintro e w1 ⟨rfl, hb1⟩; have hb := hbT (by first | assumption | exact Below.refl _ _ | exact Below.alloc (by assumption) (Below.size (by assumption)) _) hb1; clear hb1)
  have hr1 := row_two ⟨0, 8, 1, by decide⟩ ⟨8, 8, 3, by decide⟩ (World.alloc_heap_new w1 (.cells #[.int .u32 0, .int .u32 8, .int .u8 1, .int .u32 8, .int .u32 8, .int .u8 3] 24))
  refine (find_at 2 2 hr1 (by omega) 6 4 1 (by decide) (by decide) (by decide) 0 false (by decide +kernel) (by decide +kernel)).mono ?_
  rintro e w2 ⟨rfl, hb1⟩
  have hr2 := hr1.below hb1
  have hB2 := hbT (by first | assumption | exact Below.refl _ _ | exact Below.alloc (by assumption) (Below.size (by assumption)) _) hb1
  clear hr1 hb1 hb
  go_wp2_with fail
  refine (find_at 2 2 hr2 (by omega) 8 8 2 (by decide) (by decide) (by decide) 1 true (by decide +kernel) (by decide +kernel)).mono ?_
  rintro e w3 ⟨rfl, hb1⟩
  have hB3 := hbT hB2 hb1
  clear hr2 hb1 hB2
  go_wp2_with (first
    | (go_at_call 20; refine (of_any _ _ _ _).mono ?_; rintro e w1 ⟨rfl, hb1⟩; have hb := hbT (by first | assumption | exact Below.refl _ _ | exact Below.alloc (by assumption) (Below.size (by assumption)) _) hb1; clear hb1)
    | (go_at_call 9; refine (fits_at 0 16 1 (by decide) 16 (by decide) true (by decide +kernel) _).mono ?_; rintro e w1 ⟨rfl, hb1⟩; have hb := hbT (by first | assumption | exact Below.refl _ _ | exact Below.alloc (by assumption) (Below.size (by assumption)) _) hb1; clear hb1))
  refine (told_any (c := 1) (row_one ⟨4, 4, 1, by decide⟩ (World.alloc_heap_new w1 (.cells #[.int .u32 4, .int .u32 4, .int .u8 1] 24))) (by omega) 10 (by decide)).mono ?_
  rintro e w4 ⟨L, va, vs, B, rfl, hsg, hBs, hoa, hos, hb1, _⟩
  have hb := hbT (by first | assumption | exact Below.alloc (by assumption) (Below.size (by assumption)) _) hb1
  obtain rfl : L = [(0, 4), (8, 2)] := Segs.unique hsg (by
    have e : memOf 10 = 10 := by unfold memOf; rw [if_neg (by decide)]
    rw [e]
    have hf : ∀ k, Free [⟨4, 4, 1, by decide⟩] k ↔ ¬ (4 ≤ k ∧ k < 8) := fun k => by simp [Free, Rg.Has, Rg.e]
    simp only [Segs, hf]
    exact ⟨by omega, by omega, by omega, fun x h1 h2 => by omega, fun x h1 h2 => by omega, fun h => by omega, by omega, by omega, by omega, fun x h1 h2 => by omega, fun x h1 h2 => by omega, fun h => by omega, fun x h1 h2 => by omega⟩)
  obtain ⟨ga, ca, rfl⟩ := ownsRow_succ hoa
  obtain ⟨gs, cs, rfl⟩ := ownsRow_succ hos
  have hla := ownsRow_lt hoa rfl
  have hls := ownsRow_lt hos rfl
  have hcells : ∀ X, Below w4.heap.size w4 X → X.cell? ⟨ga, 0, none⟩ = some (.int .u32 0) ∧ X.cell? ⟨ga, 1, none⟩ = some (.int .u32 8) ∧ X.cell? ⟨gs, 0, none⟩ = some (.int .u32 4) ∧ X.cell? ⟨gs, 1, none⟩ = some (.int .u32 2) := fun X hX => by
    have h1 := ownsRow_block (Y := X) hoa fun k _ hk => hX.block k hk
    have h2 := ownsRow_block (Y := X) hos fun k _ hk => hX.block k hk
    exact ⟨World.ownsRow.cellAt h1 0 (by simp), World.ownsRow.cellAt h1 1 (by simp), World.ownsRow.cellAt h2 0 (by simp), World.ownsRow.cellAt h2 1 (by simp)⟩
  have HCells := Lib.hid hcells
  have hcT : ∀ {X Y : World}, Below w4.heap.size w4 X → Below X.heap.size X Y → Below w4.heap.size w4 Y := fun h k => h.trans (k.mono h.size)
  have hc := Below.refl w4.heap.size w4
  clear hsg hoa hos hb1 hcells hla hls hBs
  go_wp2_with (first
    | (go_at_call 20; with_reducible refine (of_any 0 16 1 _).mono ?_; rintro e w1 ⟨rfl, hb1⟩; have hb := hbT (by assumption) hb1; have hc := hcT (by assumption) hb1; clear hb1)
    | (go_at_call 20; with_reducible refine (of_any 1 16 1 _).mono ?_; rintro e w1 ⟨rfl, hb1⟩; have hb := hbT (by assumption) hb1; have hc := hcT (by assumption) hb1; clear hb1)
    | (go_at_call 20; with_reducible refine (of_any 4294967295 2 1 _).mono ?_; rintro e w1 ⟨rfl, hb1⟩; have hb := hbT (by assumption) hb1; have hc := hcT (by assumption) hb1; clear hb1)
    | (go_at_call 9; with_reducible refine (fits_at 0 16 1 (by decide) 16 (by decide) true (by decide +kernel) _).mono ?_; rintro e w1 ⟨rfl, hb1⟩; have hb := hbT (by assumption) hb1; have hc := hcT (by assumption) hb1; clear hb1)
    | (go_at_call 9; with_reducible refine (fits_at 1 16 1 (by decide) 16 (by decide) false (by decide +kernel) _).mono ?_; rintro e w1 ⟨rfl, hb1⟩; have hb := hbT (by assumption) hb1; have hc := hcT (by assumption) hb1; clear hb1)
    | (go_at_call 9; with_reducible refine (fits_at 4294967295 2 1 (by decide) 100 (by decide) false (by decide +kernel) _).mono ?_; rintro e w1 ⟨rfl, hb1⟩; have hb := hbT (by assumption) hb1; have hc := hcT (by assumption) hb1; clear hb1))
  refine (of_any 0 8 1 _).mono ?_
  rintro e u1 ⟨rfl, hb1⟩
  have hb := hbT (by assumption) hb1
  have hc := hcT (by assumption) hb1
  clear hb1
  go_wp2_with fail
  have hrow1 := row_one ⟨0, 8, 1, by decide⟩ (World.alloc_heap_new u1 (.cells #[.int .u32 0, .int .u32 8, .int .u8 1] 24))
  refine (of_any 4 8 1 _).mono ?_
  rintro e u2 ⟨rfl, hb1⟩
  have hrow2 := (hrow1.below hb1).below (w' := u2.alloc (.cells #[.int .u32 4, .int .u32 8, .int .u8 1] 24)) ((Below.refl _ _).alloc (Nat.le_refl _) _)
  have hb := hbT (Below.alloc (by assumption) (Below.size (by assumption)) _) hb1
  have hc := hcT (Below.alloc (by assumption) (Below.size (by assumption)) _) hb1
  clear hb1 hrow1
  have hrow3 := row_one ⟨4, 8, 1, by decide⟩ (World.alloc_heap_new u2 (.cells #[.int .u32 4, .int .u32 8, .int .u8 1] 24))
  have hap := apart_any (c := 1) (c' := 1) hrow2 hrow3 (by omega) (by omega)
  rw [show apart [⟨0, 8, 1, by decide⟩] [⟨4, 8, 1, by decide⟩] = true from by decide +kernel] at hap
  clear hrow2 hrow3
  go_wp2_with fail
  refine hap.mono ?_
  clear hap
  rintro e u3 ⟨rfl, hb1⟩
  have hb := hbT (Below.alloc (by assumption) (Below.size (by assumption)) _) hb1
  have hc := hcT (Below.alloc (by assumption) (Below.size (by assumption)) _) hb1
  clear hb1
  go_wp2_with fail
  refine (of_any 0 8 3 _).mono ?_
  rintro e u1 ⟨rfl, hb1⟩
  have hb := hbT (by assumption) hb1
  have hc := hcT (by assumption) hb1
  clear hb1
  go_wp2_with fail
  have hrow1 := row_one ⟨0, 8, 3, by decide⟩ (World.alloc_heap_new u1 (.cells #[.int .u32 0, .int .u32 8, .int .u8 3] 24))
  refine (of_any 4 8 1 _).mono ?_
  rintro e u2 ⟨rfl, hb1⟩
  have hrow2 := (hrow1.below hb1).below (w' := u2.alloc (.cells #[.int .u32 4, .int .u32 8, .int .u8 1] 24)) ((Below.refl _ _).alloc (Nat.le_refl _) _)
  have hb := hbT (Below.alloc (by assumption) (Below.size (by assumption)) _) hb1
  have hc := hcT (Below.alloc (by assumption) (Below.size (by assumption)) _) hb1
  clear hb1 hrow1
  have hrow3 := row_one ⟨4, 8, 1, by decide⟩ (World.alloc_heap_new u2 (.cells #[.int .u32 4, .int .u32 8, .int .u8 1] 24))
  have hap := apart_any (c := 1) (c' := 1) hrow2 hrow3 (by omega) (by omega)
  rw [show apart [⟨0, 8, 3, by decide⟩] [⟨4, 8, 1, by decide⟩] = false from by decide +kernel] at hap
  clear hrow2 hrow3
  go_wp2_with fail
  refine hap.mono ?_
  clear hap
  rintro e u3 ⟨rfl, hb1⟩
  have hb := hbT (Below.alloc (by assumption) (Below.size (by assumption)) _) hb1
  have hc := hcT (Below.alloc (by assumption) (Below.size (by assumption)) _) hb1
  clear hb1
  obtain ⟨q0, q1, q2, q3⟩ := HCells.out u3 hc
  go_wp2_with fail
  trace_state
  go_ret
  exact ⟨rfl, by assumption⟩
end Rights
end Go.Proofs.Ytekicfaakjbmhaa
