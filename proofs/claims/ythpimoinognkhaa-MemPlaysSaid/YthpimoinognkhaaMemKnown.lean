/- known: the layer does a small thing right. -/
import Derived.Test.YthpimoinognkhaaMemW6
namespace Go.Proofs.Ythpimoinognkhaa
open Go.ChangeShapes Go.WideShapes Go.ChangeAt Go.RowKit
namespace Ram
set_option linter.unusedVariables false
set_option linter.unusedSimpArgs false
def R0 : Rg := ⟨0, 4, 3, by decide⟩
def R1 : Rg := ⟨4, 4, 1, by decide⟩
theorem row_two {X : World} {k : Nat} (x y : Rg) (h : X.heap[k]? = some (.cells #[.int .u32 x.b, .int .u32 x.s, .int .u8 x.r, .int .u32 y.b, .int .u32 y.s, .int .u8 y.r] 68 (0, 0))) : RRow (fun _ => False) X (some ⟨k, 0, none⟩) 2 [x, y] := by
  refine ⟨rfl, .inr ⟨k, 0, rfl, lt_of_block h, id, ?_⟩⟩
  intro j hj i v hv
  have hi : i < 3 := by have := (List.getElem?_eq_some_iff.1 hv).1; simpa [enc_len] using this
  have hj2 : j < 2 := by simpa using hj
  match j, hj2, i, hi with
  | 0, _, 0, _ => simp [enc] at hv; subst hv; simp [World.cell?, h]
  | 0, _, 1, _ => simp [enc] at hv; subst hv; simp [World.cell?, h]
  | 0, _, 2, _ => simp [enc] at hv; subst hv; simp [World.cell?, h]
  | 1, _, 0, _ => simp [enc] at hv; subst hv; simp [World.cell?, h]
  | 1, _, 1, _ => simp [enc] at hv; subst hv; simp [World.cell?, h]
  | 1, _, 2, _ => simp [enc] at hv; subst hv; simp [World.cell?, h]
theorem two_any (w : World) : Calls Try.prog 25 #[] w fun e w' => ∃ k, e = .returned (.slice (some ⟨k, 0, none⟩) 2 2) ∧ RRow (fun _ => False) w' (some ⟨k, 0, none⟩) 2 [R0, R1] ∧ Below w.heap.size w w' := by
  have HR := Lib.hid (row_two R0 R1 (heap_alloc_new w (.cells #[.int .u32 0, .int .u32 4, .int .u8 3, .int .u32 4, .int .u32 4, .int .u8 1] 68)))
  go_enter Try.func25, Try.ntmps25
  go_wp2_with fail
  refine bodyPost_ret (v := .slice (some ⟨w.heap.size, 0, none⟩) 2 2) (by simp [results, Try.f25, go_sem]) rfl ?_
  exact ⟨_, rfl, HR.out, below_alloc _ _⟩
theorem Told.none {w : World} {B : Nat} {v : Value} (h : Told w B v []) : v = .slice none 0 0 := by
  rcases h with ⟨_, h⟩ | ⟨_, h, _⟩
  · exact h
  · exact absurd rfl h
section
variable {g d k : Nat} {bs : List Int} {W : World} {l : List Rg}
theorem load_at (h : Ram 57 W g d bs) (hr : RRow (fun _ => False) W (some ⟨k, 0, none⟩) 2 l) (a n : Nat) (ha : a ≤ 4294967295) (hn : n ≤ 255) (x e0 : Int) (hx : loadM bs l a n = x) (he : wordE l a n 1 bs.length = e0) :
    Calls Try.prog 17 #[.pointer (some ⟨g, 0, none⟩), .slice (some ⟨k, 0, none⟩) 2 2, .int .u32 (a : Int), .int .u8 (n : Int)] W fun e w' => e = .returned (.tuple #[.int .u32 x, .int .i64 e0]) ∧ Below W.heap.size W w' := by
  subst hx; subst he
  exact load_any h hr (by omega) a n ha hn
theorem store_at (h : Ram 57 W g d bs) (hr : RRow (fun _ => False) W (some ⟨k, 0, none⟩) 2 l) (a n : Nat) (x : Int) (ha : a ≤ 4294967295) (hn : n ≤ 255) (hx : 0 ≤ x ∧ x ≤ 4294967295) (bs' : List Int) (e0 : Int) (hb : storeM bs l a n x = bs') (he : wordE l a n 2 bs.length = e0) :
    Calls Try.prog 19 #[.pointer (some ⟨g, 0, none⟩), .slice (some ⟨k, 0, none⟩) 2 2, .int .u32 (a : Int), .int .u8 (n : Int), .int .u32 x] W (DoneP 57 g d bs' e0 W) := by
  subst hb; subst he
  exact store_any h hr (by omega) a n x ha hn hx
theorem get_at' (h : Ram 57 W g d bs) (a n : Nat) (ha : a ≤ 4294967295) (hn : n ≤ 4294967295) (L : List Int) (e0 : Int) (hx : getM bs a n = L) (he : rangeE a n bs.length = e0) :
    Calls Try.prog 15 #[.pointer (some ⟨g, 0, none⟩), .int .u32 (a : Int), .int .u32 (n : Int)] W (ToldP L e0 W) := by
  subst hx; subst he
  exact get_any h a n ha hn
end
set_option maxHeartbeats 4000000 in
set_option maxRecDepth 100000 in
theorem known_any (w : World) : Calls Try.prog 6 #[] w fun e w' => e = .returned (.bool true) ∧ Below w.heap.size w w' := by
  have hbT : ∀ {X Y : World}, Below w.heap.size w X → Below X.heap.size X Y → Below w.heap.size w Y := fun h k => h.trans (k.mono h.size)
  go_enter Try.func6, Try.ntmps6
  go_wp2_with fail
  refine (new_any 8 (by omega) _).mono ?_
  rintro e w1 ⟨g, d, rfl, hg, hd, hr, hb⟩
  have HR := Lib.hid hr
  have HB := Lib.hid hb
  clear hr hb
  go_wp2_with (go_at_call 25; refine (two_any _).mono ?_; rintro e w2 ⟨k2, rfl, hk, hb⟩; have HB := Lib.hid (hbT HB.out hb); have HR := Lib.hid (HR.out.below hb (Nat.le_refl _)); clear hb)
  refine (store_at HR.out hk 0 4 258 (by omega) (by omega) (by omega) [2, 1, 0, 0, 0, 0, 0, 0] 0 (by decide +kernel) (by decide +kernel)).mono ?_
  rintro e w3 ⟨rfl, hr, hb⟩
  have HB := Lib.hid (HB.out.trans (hb.toBelow HB.out.size (fun k hk e => by omega)))
  have HR := Lib.hid hr
  clear hr hb hk
  go_wp2_with (go_at_call 25; refine (two_any _).mono ?_; rintro e w2 ⟨k2, rfl, hk, hb⟩; have HB := Lib.hid (hbT HB.out hb); have HR := Lib.hid (HR.out.below hb (Nat.le_refl _)); clear hb)
  refine (load_at HR.out hk 0 2 (by omega) (by omega) 258 0 (by decide +kernel) (by decide +kernel)).mono ?_
  rintro e w4 ⟨rfl, hb⟩
  have HB := Lib.hid (hbT HB.out hb)
  have HR := Lib.hid (HR.out.below hb (Nat.le_refl _))
  clear hb hk
  go_wp2_with (go_at_call 25; refine (two_any _).mono ?_; rintro e w2 ⟨k2, rfl, hk, hb⟩; have HB := Lib.hid (hbT HB.out hb); have HR := Lib.hid (HR.out.below hb (Nat.le_refl _)); clear hb)
  refine (load_at HR.out hk 1 1 (by omega) (by omega) 1 0 (by decide +kernel) (by decide +kernel)).mono ?_
  rintro e w5 ⟨rfl, hb⟩
  have HB := Lib.hid (hbT HB.out hb)
  have HR := Lib.hid (HR.out.below hb (Nat.le_refl _))
  clear hb hk
  go_wp2_with (go_at_call 25; refine (two_any _).mono ?_; rintro e w2 ⟨k2, rfl, hk, hb⟩; have HB := Lib.hid (hbT HB.out hb); have HR := Lib.hid (HR.out.below hb (Nat.le_refl _)); clear hb)
  refine (load_at HR.out hk 2 4 (by omega) (by omega) 0 60 (by decide +kernel) (by decide +kernel)).mono ?_
  rintro e w6 ⟨rfl, hb⟩
  have HB := Lib.hid (hbT HB.out hb)
  have HR := Lib.hid (HR.out.below hb (Nat.le_refl _))
  clear hb hk
  go_wp2_with (go_at_call 25; refine (two_any _).mono ?_; rintro e w2 ⟨k2, rfl, hk, hb⟩; have HB := Lib.hid (hbT HB.out hb); have HR := Lib.hid (HR.out.below hb (Nat.le_refl _)); clear hb)
  refine (store_at HR.out hk 4 1 7 (by omega) (by omega) (by omega) [2, 1, 0, 0, 0, 0, 0, 0] 60 (by decide +kernel) (by decide +kernel)).mono ?_
  rintro e w7 ⟨rfl, hr, hb⟩
  have HB := Lib.hid (HB.out.trans (hb.toBelow HB.out.size (fun k hk e => by omega)))
  have HR := Lib.hid hr
  clear hr hb hk
  go_wp2_with (go_at_call 25; refine (two_any _).mono ?_; rintro e w2 ⟨k2, rfl, hk, hb⟩; have HB := Lib.hid (hbT HB.out hb); have HR := Lib.hid (HR.out.below hb (Nat.le_refl _)); clear hb)
  refine (load_at HR.out hk 4 1 (by omega) (by omega) 0 0 (by decide +kernel) (by decide +kernel)).mono ?_
  rintro e w8 ⟨rfl, hb⟩
  have HB := Lib.hid (hbT HB.out hb)
  have HR := Lib.hid (HR.out.below hb (Nat.le_refl _))
  clear hb hk
  go_wp2_with (go_at_call 25; refine (two_any _).mono ?_; rintro e w2 ⟨k2, rfl, hk, hb⟩; have HB := Lib.hid (hbT HB.out hb); have HR := Lib.hid (HR.out.below hb (Nat.le_refl _)); clear hb)
  refine (load_at HR.out hk 0 3 (by omega) (by omega) 0 2 (by decide +kernel) (by decide +kernel)).mono ?_
  rintro e w9 ⟨rfl, hb⟩
  have HB := Lib.hid (hbT HB.out hb)
  have HR := Lib.hid (HR.out.below hb (Nat.le_refl _))
  clear hb hk
  go_wp2_with fail
  refine (get_at' HR.out 7 2 (by omega) (by omega) [] 5 (by decide +kernel) (by decide +kernel)).mono ?_
  rintro e w10 ⟨v, rfl, ht, hb⟩
  obtain rfl := ht.none
  clear ht
  have HB := Lib.hid (hbT HB.out hb)
  have HR := Lib.hid (HR.out.below hb (Nat.le_refl _))
  clear hb
  go_wp2_with fail
  refine (get_at' HR.out 9 0 (by omega) (by omega) [] 0 (by decide +kernel) (by decide +kernel)).mono ?_
  rintro e w11 ⟨v, rfl, ht, hb⟩
  obtain rfl := ht.none
  clear ht
  have HB := Lib.hid (hbT HB.out hb)
  have HR := Lib.hid (HR.out.below hb (Nat.le_refl _))
  clear hb
  clear HR
  go_wp2_with (first
    | (go_at_call 25; refine (two_any _).mono ?_; rintro e w2 ⟨k2, rfl, hk, hb⟩; have HB := Lib.hid (hbT HB.out hb); clear hb hk)
    | (go_at_call 17; refine (load_nil 0 1 _).mono ?_; rintro e w2 ⟨rfl, hb⟩; have HB := Lib.hid (hbT HB.out hb); clear hb)
    | (go_at_call 15; refine (get_nil 0 0 _ (by omega)).mono ?_; rintro e w2 ⟨v, rfl, ht, hb⟩; have HB := Lib.hid (hbT HB.out hb); clear hb ht)
    | (go_at_call 21; refine (fetch_nil 0 _).mono ?_; rintro e w2 ⟨v, rfl, ht, hb⟩; have HB := Lib.hid (hbT HB.out hb); clear hb ht)
    | (go_at_call 19; refine (store_nil 0 1 0 (by omega) _).mono ?_; rintro e w2 ⟨rfl, hb⟩; have HB := Lib.hid (hbT HB.out hb); clear hb)
    | (go_at_call 13; refine (put_nilm 0 0 0 none _ (by omega)).mono ?_; rintro e w2 ⟨rfl, rfl⟩)
    | (go_at_call 11; refine (zero_nil 0 0 _ (by omega)).mono ?_; rintro e w2 ⟨rfl, rfl⟩)
    | (go_at_call 10; refine (size_nil _).mono ?_; rintro e w2 ⟨rfl, rfl⟩)
    | (go_at_call 23; refine (copy_nil _).mono ?_; rintro e w2 ⟨rfl, rfl⟩))
  go_ret
  exact ⟨rfl, HB.out⟩
end Ram
end Go.Proofs.Ythpimoinognkhaa
