/- Load, Store, Fetch. -/
import Derived.Test.YthpimoinognkhaaMemW1
import Derived.Test.YthpimoinognkhaaMemW4
namespace Go.Proofs.Ythpimoinognkhaa
open Go.ChangeShapes Go.WideShapes Go.ChangeAt Go.RowKit
namespace Ram
set_option linter.unusedVariables false
set_option linter.unusedSimpArgs false
/-- the place, if regions let it; else none, and an error -/
def PlaceP (bs : List Int) (d a n : Nat) (ok : Bool) (err : Int) (w : World) (e : Ending) (w' : World) : Prop :=
  Below w.heap.size w w' ∧ ((ok = true ∧ ∃ c, n ≤ c ∧ c ≤ 1000000 ∧ e = .returned (.tuple #[.slice (some ⟨d, a, none⟩) n c, .int .i64 0])) ∨ (ok = false ∧ e = .returned (.tuple #[.slice none 0 0, .int .i64 err])))
theorem allowed_any {p : Nat → Prop} {g d : Nat} {bs : List Int} {w : World} (h : Ram 57 w g d bs) {ar : Option Addr} {nr cr : Nat} {l : List Rg} (hr : RRow p w ar nr l) (hnr : nr ≤ 1000000) (a n : Nat) (right : Int) (ha : a ≤ 4294967295) (hn : n ≤ 4294967295) (hri : 0 ≤ right ∧ right ≤ 255) :
    Calls Try.prog 33 #[.pointer (some ⟨g, 0, none⟩), .slice ar nr cr, .int .u32 (a : Int), .int .u32 (n : Int), .int .u8 right] w (PlaceP bs d a n (lets l a n right bs.length) 60 w) := by
  have w2 : IntKind.u64.wrap (n : Int) = n := by simp [IntKind.wrap, IntKind.bits, IntKind.signed]; omega
  have HF := fun W (hW : W = w) => find_any (c := cr) (w := W) (by subst hW; exact hr) hnr a n right (by omega) (by omega) hri
  have hF := Lib.hid (HF w rfl)
  clear HF
  by_cases hc : there a n bs.length = true ∧ n ≠ 0
  · obtain ⟨hc1, hc2⟩ := hc
    have HS := Lib.hid (span_some h a n ha (by omega) hc1 hc2)
    have hle := there_le hc1 hc2
    have HE : Hid (lets l a n right bs.length = (fnd l a n right).isSome) := by show _ = _; unfold lets; simp [hle]
    rw [HE.out]
    clear h hc1 hc2 hle hr hri HE
    unfold FindP at hF
    generalize fnd l a n right = o at *
    cases o with
    | some i =>
      go_enter Try.func33, Try.ntmps33
      go_wp2_with (first | (go_at_call 26; refine HS.out.mono ?_; rintro e w1 ⟨⟨c', hn, hc, rfl⟩, rfl⟩) | (go_at_call 24; refine hF.out.mono ?_; rintro e w2 ⟨rfl, hb⟩))
      refine bodyPost_ret (v := .tuple #[.slice (some ⟨d, a, none⟩) n c', .int .i64 0]) (by simp [results, Try.f33, go_sem]) rfl ?_
      exact ⟨hb, .inl ⟨rfl, c', hn, hc, rfl⟩⟩
    | none =>
      go_enter Try.func33, Try.ntmps33
      go_wp2_with (first | (go_at_call 26; refine HS.out.mono ?_; rintro e w1 ⟨⟨c', hn, hc, rfl⟩, rfl⟩) | (go_at_call 24; refine hF.out.mono ?_; rintro e w2 ⟨rfl, hb⟩))
      refine bodyPost_ret (v := .tuple #[.slice none 0 0, .int .i64 60]) (by simp [results, Try.f33, go_sem]) rfl ?_
      exact ⟨hb, .inr ⟨rfl, rfl⟩⟩
  · have HS := Lib.hid (span_out h a n ha (by omega) hc)
    have HE : Hid (lets l a n right bs.length = false) := by
      show _ = _
      cases hb : lets l a n right bs.length with
      | false => rfl
      | true =>
        have h1 := lets_pos hb
        have h2 := lets_le hb
        exact absurd ⟨by unfold there; simp; omega, by omega⟩ hc
    have HT : Hid (rangeE a n bs.length = 0 → fnd l a n right = none) := by
      intro h0
      have : there a n bs.length = true := by unfold rangeE at h0; split at h0; assumption; omega
      have hn0 : n = 0 := Decidable.byContradiction fun x => hc ⟨this, x⟩
      subst hn0
      exact fnd_zero _ _ _
    have HR : Hid (rangeE a n bs.length = 0 ∨ rangeE a n bs.length = 5) := by show _ ∨ _; unfold rangeE; split <;> simp
    rw [HE.out]
    clear h hc hr hri HE
    unfold FindP at hF
    generalize rangeE a n bs.length = E at *
    generalize fnd l a n right = o at *
    rcases HR.out with rfl | rfl
    · obtain rfl := HT.out rfl
      clear HT HR
      go_enter Try.func33, Try.ntmps33
      go_wp2_with (first | (go_at_call 26; refine HS.out.mono ?_; rintro e w1 ⟨rfl, rfl⟩) | (go_at_call 24; refine hF.out.mono ?_; rintro e w2 ⟨rfl, hb⟩))
      refine bodyPost_ret (v := .tuple #[.slice none 0 0, .int .i64 60]) (by simp [results, Try.f33, go_sem]) rfl ?_
      exact ⟨hb, .inr ⟨rfl, rfl⟩⟩
    · clear HT HR
      cases o with
      | none =>
        go_enter Try.func33, Try.ntmps33
        go_wp2_with (first | (go_at_call 26; refine HS.out.mono ?_; rintro e w1 ⟨rfl, rfl⟩) | (go_at_call 24; refine hF.out.mono ?_; rintro e w2 ⟨rfl, hb⟩))
        refine bodyPost_ret (v := .tuple #[.slice none 0 0, .int .i64 60]) (by simp [results, Try.f33, go_sem]) rfl ?_
        exact ⟨hb, .inr ⟨rfl, rfl⟩⟩
      | some i =>
        go_enter Try.func33, Try.ntmps33
        go_wp2_with (first | (go_at_call 26; refine HS.out.mono ?_; rintro e w1 ⟨rfl, rfl⟩) | (go_at_call 24; refine hF.out.mono ?_; rintro e w2 ⟨rfl, hb⟩))
        refine bodyPost_ret (v := .tuple #[.slice none 0 0, .int .i64 60]) (by simp [results, Try.f33, go_sem]) rfl ?_
        exact ⟨hb, .inr ⟨rfl, rfl⟩⟩
theorem allowed_nil {ar : Option Addr} {nr cr : Nat} (a n : Nat) (right : Int) (hn : n ≤ 4294967295) (w : World) :
    Calls Try.prog 33 #[.pointer none, .slice ar nr cr, .int .u32 (a : Int), .int .u32 (n : Int), .int .u8 right] w fun e w' => e = .returned (.tuple #[.slice none 0 0, .int .i64 1]) ∧ w' = w := by
  have w2 : IntKind.u64.wrap (n : Int) = n := by simp [IntKind.wrap, IntKind.bits, IntKind.signed]; omega
  have HS := Lib.hid (span_nil a n w)
  go_enter Try.func33, Try.ntmps33
  go_wp2_with (go_at_call 26; refine HS.out.mono ?_; rintro e w1 ⟨rfl, rfl⟩)
  refine bodyPost_ret (v := .tuple #[.slice none 0 0, .int .i64 1]) (by simp [results, Try.f33, go_sem]) rfl ⟨rfl, rfl⟩
theorem PlaceP.ok {bs : List Int} {d a n : Nat} {err : Int} {w w' : World} {e : Ending} (h : PlaceP bs d a n true err w e w') : Below w.heap.size w w' ∧ ∃ c, n ≤ c ∧ c ≤ 1000000 ∧ e = .returned (.tuple #[.slice (some ⟨d, a, none⟩) n c, .int .i64 0]) := by
  obtain ⟨hb, ⟨_, h⟩ | ⟨hk, _⟩⟩ := h
  · exact ⟨hb, h⟩
  · cases hk
theorem PlaceP.no {bs : List Int} {d a n : Nat} {err : Int} {w w' : World} {e : Ending} (h : PlaceP bs d a n false err w e w') : Below w.heap.size w w' ∧ e = .returned (.tuple #[.slice none 0 0, .int .i64 err]) := by
  obtain ⟨hb, ⟨hk, _⟩ | ⟨_, h⟩⟩ := h
  · cases hk
  · exact ⟨hb, h⟩
theorem word_at1 {p : Nat → Prop} {g d : Nat} {bs : List Int} {w : World} (h : Ram 57 w g d bs) {ar : Option Addr} {nr cr : Nat} {l : List Rg} (hr : RRow p w ar nr l) (hnr : nr ≤ 1000000) (a : Nat) (right : Int) (ha : a ≤ 4294967295) (hri : 0 ≤ right ∧ right ≤ 255) :
    Calls Try.prog 29 #[.pointer (some ⟨g, 0, none⟩), .slice ar nr cr, .int .u32 (a : Int), .int .u8 1, .int .u8 right] w (PlaceP bs d a 1 (lets l a 1 right bs.length) 60 w) := by
  have w2 : IntKind.u32.wrap 1 = 1 := by decide
  have HA : Hid (Calls Try.prog 33 #[.pointer (some ⟨g, 0, none⟩), .slice ar nr cr, .int .u32 (a : Int), .int .u32 1, .int .u8 right] w (PlaceP bs d a 1 (lets l a 1 right bs.length) 60 w)) := allowed_any (cr := cr) h hr hnr a 1 right ha (by omega) hri
  generalize lets l a 1 right bs.length = ok at *
  clear h hr
  cases ok with
  | true =>
    go_enter Try.func29, Try.ntmps29
    go_wp2_with (go_at_call 33; with_reducible refine HA.out.mono ?_; rintro e w1 hp; obtain ⟨hb, c, h1, h2, rfl⟩ := hp.ok)
    refine bodyPost_ret (v := .tuple #[.slice (some ⟨d, a, none⟩) 1 c, .int .i64 0]) (by simp [results, Try.f29, go_sem]) rfl ?_
    exact ⟨hb, .inl ⟨rfl, c, h1, h2, rfl⟩⟩
  | false =>
    go_enter Try.func29, Try.ntmps29
    go_wp2_with (go_at_call 33; with_reducible refine HA.out.mono ?_; rintro e w1 hp; obtain ⟨hb, rfl⟩ := hp.no)
    refine bodyPost_ret (v := .tuple #[.slice none 0 0, .int .i64 60]) (by simp [results, Try.f29, go_sem]) rfl ?_
    exact ⟨hb, .inr ⟨rfl, rfl⟩⟩
theorem word_at2 {p : Nat → Prop} {g d : Nat} {bs : List Int} {w : World} (h : Ram 57 w g d bs) {ar : Option Addr} {nr cr : Nat} {l : List Rg} (hr : RRow p w ar nr l) (hnr : nr ≤ 1000000) (a : Nat) (right : Int) (ha : a ≤ 4294967295) (hri : 0 ≤ right ∧ right ≤ 255) :
    Calls Try.prog 29 #[.pointer (some ⟨g, 0, none⟩), .slice ar nr cr, .int .u32 (a : Int), .int .u8 2, .int .u8 right] w (PlaceP bs d a 2 (lets l a 2 right bs.length) 60 w) := by
  have w2 : IntKind.u32.wrap 2 = 2 := by decide
  have HA : Hid (Calls Try.prog 33 #[.pointer (some ⟨g, 0, none⟩), .slice ar nr cr, .int .u32 (a : Int), .int .u32 2, .int .u8 right] w (PlaceP bs d a 2 (lets l a 2 right bs.length) 60 w)) := allowed_any (cr := cr) h hr hnr a 2 right ha (by omega) hri
  generalize lets l a 2 right bs.length = ok at *
  clear h hr
  cases ok with
  | true =>
    go_enter Try.func29, Try.ntmps29
    go_wp2_with (go_at_call 33; with_reducible refine HA.out.mono ?_; rintro e w1 hp; obtain ⟨hb, c, h1, h2, rfl⟩ := hp.ok)
    refine bodyPost_ret (v := .tuple #[.slice (some ⟨d, a, none⟩) 2 c, .int .i64 0]) (by simp [results, Try.f29, go_sem]) rfl ?_
    exact ⟨hb, .inl ⟨rfl, c, h1, h2, rfl⟩⟩
  | false =>
    go_enter Try.func29, Try.ntmps29
    go_wp2_with (go_at_call 33; with_reducible refine HA.out.mono ?_; rintro e w1 hp; obtain ⟨hb, rfl⟩ := hp.no)
    refine bodyPost_ret (v := .tuple #[.slice none 0 0, .int .i64 60]) (by simp [results, Try.f29, go_sem]) rfl ?_
    exact ⟨hb, .inr ⟨rfl, rfl⟩⟩
theorem word_at4 {p : Nat → Prop} {g d : Nat} {bs : List Int} {w : World} (h : Ram 57 w g d bs) {ar : Option Addr} {nr cr : Nat} {l : List Rg} (hr : RRow p w ar nr l) (hnr : nr ≤ 1000000) (a : Nat) (right : Int) (ha : a ≤ 4294967295) (hri : 0 ≤ right ∧ right ≤ 255) :
    Calls Try.prog 29 #[.pointer (some ⟨g, 0, none⟩), .slice ar nr cr, .int .u32 (a : Int), .int .u8 4, .int .u8 right] w (PlaceP bs d a 4 (lets l a 4 right bs.length) 60 w) := by
  have w2 : IntKind.u32.wrap 4 = 4 := by decide
  have HA : Hid (Calls Try.prog 33 #[.pointer (some ⟨g, 0, none⟩), .slice ar nr cr, .int .u32 (a : Int), .int .u32 4, .int .u8 right] w (PlaceP bs d a 4 (lets l a 4 right bs.length) 60 w)) := allowed_any (cr := cr) h hr hnr a 4 right ha (by omega) hri
  generalize lets l a 4 right bs.length = ok at *
  clear h hr
  cases ok with
  | true =>
    go_enter Try.func29, Try.ntmps29
    go_wp2_with (go_at_call 33; with_reducible refine HA.out.mono ?_; rintro e w1 hp; obtain ⟨hb, c, h1, h2, rfl⟩ := hp.ok)
    refine bodyPost_ret (v := .tuple #[.slice (some ⟨d, a, none⟩) 4 c, .int .i64 0]) (by simp [results, Try.f29, go_sem]) rfl ?_
    exact ⟨hb, .inl ⟨rfl, c, h1, h2, rfl⟩⟩
  | false =>
    go_enter Try.func29, Try.ntmps29
    go_wp2_with (go_at_call 33; with_reducible refine HA.out.mono ?_; rintro e w1 hp; obtain ⟨hb, rfl⟩ := hp.no)
    refine bodyPost_ret (v := .tuple #[.slice none 0 0, .int .i64 60]) (by simp [results, Try.f29, go_sem]) rfl ?_
    exact ⟨hb, .inr ⟨rfl, rfl⟩⟩
theorem place_err {bs : List Int} {d a n : Nat} {ok : Bool} {err err' : Int} {w w' : World} {e : Ending} (h : PlaceP bs d a n ok err w e w') (he : ok = false → err = err') : PlaceP bs d a n ok err' w e w' := by
  obtain ⟨hb, h | ⟨hk, h⟩⟩ := h
  · exact ⟨hb, .inl h⟩
  · exact ⟨hb, .inr ⟨hk, by rw [← he hk]; exact h⟩⟩
theorem word_any {p : Nat → Prop} {g d : Nat} {bs : List Int} {w : World} (h : Ram 57 w g d bs) {ar : Option Addr} {nr cr : Nat} {l : List Rg} (hr : RRow p w ar nr l) (hnr : nr ≤ 1000000) (a n : Nat) (right : Int) (ha : a ≤ 4294967295) (hn : n ≤ 255) (hri : 0 ≤ right ∧ right ≤ 255) :
    Calls Try.prog 29 #[.pointer (some ⟨g, 0, none⟩), .slice ar nr cr, .int .u32 (a : Int), .int .u8 (n : Int), .int .u8 right] w (PlaceP bs d a n (wordB n && lets l a n right bs.length) (wordE l a n right bs.length) w) := by
  by_cases hw : n = 1 ∨ n = 2 ∨ n = 4
  · rcases hw with rfl | rfl | rfl
    · exact (word_at1 h hr hnr a right ha hri).mono fun e w' h => place_err h fun hk => by simp [wordB] at hk; simp [wordE, boundsE, wordB, hk]
    · exact (word_at2 h hr hnr a right ha hri).mono fun e w' h => place_err h fun hk => by simp [wordB] at hk; simp [wordE, boundsE, wordB, hk]
    · exact (word_at4 h hr hnr a right ha hri).mono fun e w' h => place_err h fun hk => by simp [wordB] at hk; simp [wordE, boundsE, wordB, hk]
  · have e1 : ¬ ((n : Int) = 1) := by omega
    have e2 : ¬ ((n : Int) = 2) := by omega
    have e4 : ¬ ((n : Int) = 4) := by omega
    have b1 : ((n : Int) != 1) = true := by simpa using e1
    have b2 : ((n : Int) != 2) = true := by simpa using e2
    have b4 : ((n : Int) != 4) = true := by simpa using e4
    clear e1 e2 e4
    have HB : Hid (wordB n = false) := by show _ = _; unfold wordB; exact decide_eq_false hw
    have HE : Hid (wordE l a n right bs.length = 2) := by show _ = _; unfold wordE; rw [HB.out]; rfl
    rw [HB.out, Bool.false_and]
    generalize wordE l a n right bs.length = E at *
    clear h hr hw
    go_enter Try.func29, Try.ntmps29
    go_wp2_with fail
    refine bodyPost_ret (v := .tuple #[.slice none 0 0, .int .i64 2]) (by simp [results, Try.f29, go_sem]) rfl ?_
    exact ⟨Below.refl _ _, .inr ⟨rfl, by rw [HE.out]⟩⟩
end Ram
end Go.Proofs.Ythpimoinognkhaa
