/- allowed, Read, Age, Put, Send. (Made by tools/gen_portw2.py.) -/
import Derived.Test.YtcapiaempfjmeaaPortW1
namespace Go.Proofs.Ytcapiaempfjmeaa
open Go.ChangeShapes Go.WideShapes Go.ChangeAt Go.RowKit
namespace Prt
set_option linter.unusedVariables false
set_option linter.unusedSimpArgs false
theorem errA_in {f : Df → Int → Bool} {l : List Bx} {part : Int} {k : Nat} (hk : k < l.length) : errA f l part k = if f (l[k]!).d part = true then 0 else 70 := by
  unfold errA
  rw [if_pos (by omega), Int.toNat_natCast]
theorem errA_out {f : Df → Int → Bool} {l : List Bx} {part port : Int} (h : ¬ (0 ≤ port ∧ port < l.length)) : errA f l part port = 4 := by unfold errA; rw [if_neg h]
theorem errA_ne {f : Df → Int → Bool} {l : List Bx} {part port : Int} (h : errA f l part port ≠ 0) : (errA f l part port != 0) = true := by simpa using h
theorem errW_of {f : Df → Int → Bool} {l : List Bx} {part port : Int} (word : Int) (h : errA f l part port ≠ 0) : errW f l part port word = errA f l part port := by unfold errW; rw [if_neg h]
theorem errA_two {f : Df → Int → Bool} {l : List Bx} {part port : Int} (h : errA f l part port = 0) : ∃ k : Nat, port = (k : Int) ∧ k < l.length ∧ f (l[k]!).d part = true := by
  obtain ⟨h1, h2, h3⟩ := errA_zero.1 h
  exact ⟨port.toNat, by omega, by omega, h3⟩
section
variable {w : World} {g : Nat} {l : List Bx}
theorem allowedR_nil (part port : Int) (w : World) : Calls Try.prog 34 #[.pointer none, .int .i64 part, .int .i64 port, .func (.func 35) #[] #[]] w fun e w' => e = .returned (.tuple #[.pointer none, .int .i64 1]) ∧ w' = w := by
  go_enter Try.func34, Try.ntmps34
  go_wp2_with (go_at_call 42; refine (at_nil _ _).mono ?_; rintro e w1 ⟨rfl, rfl⟩)
  refine bodyPost_ret (v := .tuple #[.pointer none, .int .i64 1]) (by simp [results, Try.f34, go_sem]) rfl ⟨rfl, rfl⟩
theorem allowedR_ok (h : Pt w g l) (part : Int) {k : Nat} (hk : k < l.length) (hm : rds (l[k]!).d part = true) :
    Calls Try.prog 34 #[.pointer (some ⟨g, 0, none⟩), .int .i64 part, .int .i64 (k : Int), .func (.func 35) #[] #[]] w fun e w' => e = .returned (.tuple #[.pointer (some ⟨g, k * 37, none⟩), .int .i64 0]) ∧ Below w.heap.size w w' := by
  have c0 := h.cw hk
  have c1 := h.cwr hk
  have c2 := h.crd hk
  have HA := Lib.hid (at_some h hk)
  have hok := (h.at hk).rd
  have HM := Lib.hid (fun W => reads_any (l[k]!).d ⟨hok.1, by omega⟩ part W)
  rw [hm] at HM
  clear h hm
  generalize (l[k]!).d.w = z0 at *
  generalize (l[k]!).d.wr = z1 at *
  generalize (l[k]!).d.rd = z2 at *
  clear hk hok
  go_enter Try.func34, Try.ntmps34
  go_wp2_with (first
    | (go_at_call 42; refine HA.out.mono ?_; rintro e w1 ⟨rfl, rfl⟩)
    | (go_at_call 35; refine (HM.out _).mono ?_; rintro e w2 ⟨rfl, hb⟩))
  refine bodyPost_ret (v := .tuple #[.pointer (some ⟨g, k * 37, none⟩), .int .i64 0]) (by simp [results, Try.f34, go_sem]) rfl ⟨rfl, hb⟩
theorem allowedR_no (h : Pt w g l) (part port : Int) (he : errA rds l part port ≠ 0) :
    Calls Try.prog 34 #[.pointer (some ⟨g, 0, none⟩), .int .i64 part, .int .i64 port, .func (.func 35) #[] #[]] w fun e w' => e = .returned (.tuple #[.pointer none, .int .i64 (errA rds l part port)]) ∧ Below w.heap.size w w' := by
  by_cases hp : 0 ≤ port ∧ port < l.length
  · obtain ⟨k, rfl⟩ := Int.eq_ofNat_of_zero_le hp.1
    have hk : k < l.length := by omega
    rw [errA_in hk] at he ⊢
    have hm : rds (l[k]!).d part = false := by
      cases hh : rds (l[k]!).d part with
      | true => exact absurd (if_pos hh) he
      | false => rfl
    rw [hm]
    have c0 := h.cw hk
    have c1 := h.cwr hk
    have c2 := h.crd hk
    have HA := Lib.hid (at_some h hk)
    have hok := (h.at hk).rd
    have HM := Lib.hid (fun W => reads_any (l[k]!).d ⟨hok.1, by omega⟩ part W)
    rw [hm] at HM
    clear h hm he hp
    generalize (l[k]!).d.w = z0 at *
    generalize (l[k]!).d.wr = z1 at *
    generalize (l[k]!).d.rd = z2 at *
    clear hk hok
    go_enter Try.func34, Try.ntmps34
    go_wp2_with (first
      | (go_at_call 42; refine HA.out.mono ?_; rintro e w1 ⟨rfl, rfl⟩)
      | (go_at_call 35; refine (HM.out _).mono ?_; rintro e w2 ⟨rfl, hb⟩))
    refine bodyPost_ret (v := .tuple #[.pointer none, .int .i64 70]) (by simp [results, Try.f34, go_sem]) rfl ⟨rfl, hb⟩
  · rw [errA_out hp]
    have HA := Lib.hid (at_no h port hp)
    clear h he hp
    go_enter Try.func34, Try.ntmps34
    go_wp2_with (go_at_call 42; refine HA.out.mono ?_; rintro e w1 ⟨rfl, rfl⟩)
    refine bodyPost_ret (v := .tuple #[.pointer none, .int .i64 4]) (by simp [results, Try.f34, go_sem]) rfl ⟨rfl, Below.refl _ _⟩
theorem allowedW_nil (part port : Int) (w : World) : Calls Try.prog 34 #[.pointer none, .int .i64 part, .int .i64 port, .func (.func 38) #[] #[]] w fun e w' => e = .returned (.tuple #[.pointer none, .int .i64 1]) ∧ w' = w := by
  go_enter Try.func34, Try.ntmps34
  go_wp2_with (go_at_call 42; refine (at_nil _ _).mono ?_; rintro e w1 ⟨rfl, rfl⟩)
  refine bodyPost_ret (v := .tuple #[.pointer none, .int .i64 1]) (by simp [results, Try.f34, go_sem]) rfl ⟨rfl, rfl⟩
theorem allowedW_ok (h : Pt w g l) (part : Int) {k : Nat} (hk : k < l.length) (hm : wrt (l[k]!).d part = true) :
    Calls Try.prog 34 #[.pointer (some ⟨g, 0, none⟩), .int .i64 part, .int .i64 (k : Int), .func (.func 38) #[] #[]] w fun e w' => e = .returned (.tuple #[.pointer (some ⟨g, k * 37, none⟩), .int .i64 0]) ∧ Below w.heap.size w w' := by
  have c0 := h.cw hk
  have c1 := h.cwr hk
  have c2 := h.crd hk
  have HA := Lib.hid (at_some h hk)
  have hok := (h.at hk).rd
  have HM := Lib.hid (fun W => writes_any (l[k]!).d part W)
  rw [hm] at HM
  clear h hm
  generalize (l[k]!).d.w = z0 at *
  generalize (l[k]!).d.wr = z1 at *
  generalize (l[k]!).d.rd = z2 at *
  clear hk hok
  go_enter Try.func34, Try.ntmps34
  go_wp2_with (first
    | (go_at_call 42; refine HA.out.mono ?_; rintro e w1 ⟨rfl, rfl⟩)
    | (go_at_call 38; refine (HM.out _).mono ?_; rintro e w2 ⟨rfl, hb⟩))
  refine bodyPost_ret (v := .tuple #[.pointer (some ⟨g, k * 37, none⟩), .int .i64 0]) (by simp [results, Try.f34, go_sem]) rfl ⟨rfl, by subst hb; go_grown⟩
theorem allowedW_no (h : Pt w g l) (part port : Int) (he : errA wrt l part port ≠ 0) :
    Calls Try.prog 34 #[.pointer (some ⟨g, 0, none⟩), .int .i64 part, .int .i64 port, .func (.func 38) #[] #[]] w fun e w' => e = .returned (.tuple #[.pointer none, .int .i64 (errA wrt l part port)]) ∧ Below w.heap.size w w' := by
  by_cases hp : 0 ≤ port ∧ port < l.length
  · obtain ⟨k, rfl⟩ := Int.eq_ofNat_of_zero_le hp.1
    have hk : k < l.length := by omega
    rw [errA_in hk] at he ⊢
    have hm : wrt (l[k]!).d part = false := by
      cases hh : wrt (l[k]!).d part with
      | true => exact absurd (if_pos hh) he
      | false => rfl
    rw [hm]
    have c0 := h.cw hk
    have c1 := h.cwr hk
    have c2 := h.crd hk
    have HA := Lib.hid (at_some h hk)
    have hok := (h.at hk).rd
    have HM := Lib.hid (fun W => writes_any (l[k]!).d part W)
    rw [hm] at HM
    clear h hm he hp
    generalize (l[k]!).d.w = z0 at *
    generalize (l[k]!).d.wr = z1 at *
    generalize (l[k]!).d.rd = z2 at *
    clear hk hok
    go_enter Try.func34, Try.ntmps34
    go_wp2_with (first
      | (go_at_call 42; refine HA.out.mono ?_; rintro e w1 ⟨rfl, rfl⟩)
      | (go_at_call 38; refine (HM.out _).mono ?_; rintro e w2 ⟨rfl, hb⟩))
    refine bodyPost_ret (v := .tuple #[.pointer none, .int .i64 70]) (by simp [results, Try.f34, go_sem]) rfl ⟨rfl, by subst hb; go_grown⟩
  · rw [errA_out hp]
    have HA := Lib.hid (at_no h port hp)
    clear h he hp
    go_enter Try.func34, Try.ntmps34
    go_wp2_with (go_at_call 42; refine HA.out.mono ?_; rintro e w1 ⟨rfl, rfl⟩)
    refine bodyPost_ret (v := .tuple #[.pointer none, .int .i64 4]) (by simp [results, Try.f34, go_sem]) rfl ⟨rfl, Below.refl _ _⟩
/-! ### Read, Age -/
theorem read_nil (part port word : Int) (w : World) : Calls Try.prog 11 #[.pointer none, .int .i64 part, .int .i64 port, .int .i64 word] w fun e w' => e = .returned (.tuple #[.int .u32 0, .int .i64 1]) ∧ w' = w := by
  go_enter Try.func11, Try.ntmps11
  go_wp2_with (go_at_call 34; refine (allowedR_nil _ _ _).mono ?_; rintro e w1 ⟨rfl, rfl⟩)
  refine bodyPost_ret (v := .tuple #[.int .u32 0, .int .i64 1]) (by simp [results, Try.f11, go_sem]) rfl ⟨rfl, rfl⟩
/-- what Read answers -/
def ReadP (l : List Bx) (part port word : Int) (w : World) (e : Ending) (w' : World) : Prop := e = .returned (.tuple #[.int .u32 (readV l part port word), .int .i64 (errW rds l part port word)]) ∧ Below w.heap.size w w'
theorem read_any (h : Pt w g l) (part port word : Int) : Calls Try.prog 11 #[.pointer (some ⟨g, 0, none⟩), .int .i64 part, .int .i64 port, .int .i64 word] w (ReadP l part port word w) := by
  by_cases he : errA rds l part port = 0
  · obtain ⟨k, rfl, hk, hm⟩ := errA_two he
    have HA := Lib.hid (allowedR_ok h part hk hm)
    have HH := Lib.hid (fun W (hb : Below w.heap.size w W) => has_any (h.below hb (Nat.le_refl _)) hk word)
    by_cases hw : 0 ≤ word ∧ word < (l[k]!).d.w
    · rw [decide_eq_true hw] at HH
      have h0 := h.at hk
      have h16 := h0.w.2
      obtain ⟨j, rfl⟩ := Int.eq_ofNat_of_zero_le hw.1
      have hj : j < 16 := by omega
      have HC := Lib.hid (fun W (hb : Below w.heap.size w W) => (h.below hb (Nat.le_refl _)).cm hk hj)
      have HP : Hid (readV l part k (j : Int) = (l[k]!).m.getD j 0 ∧ errW rds l part k (j : Int) = 0) := by
        have e2 : errW rds l part k (j : Int) = 0 := errW_zero.2 ⟨he, hw.1, by rw [Int.toNat_natCast]; exact hw.2⟩
        refine ⟨?_, e2⟩
        unfold readV
        rw [if_pos e2, Int.toNat_natCast, Int.toNat_natCast]
      have b0 : (0 : Int) ≤ j := by omega
      have b1 : (j : Int) < 16 := by omega
      clear h0 h16 h he hm hw
      generalize (l[k]!).m.getD j 0 = z at *
      go_enter Try.func11, Try.ntmps11
      go_wp2_with (first
        | (go_at_call 34; refine HA.out.mono ?_; rintro e w1 ⟨rfl, hb⟩; have c0 := HC.out _ hb; rw [← Nat.add_assoc] at c0)
        | (go_at_call 36; refine (HH.out _ hb).mono ?_; rintro e w2 ⟨rfl, rfl⟩))
      refine bodyPost_ret (v := .tuple #[.int .u32 z, .int .i64 0]) (by simp [results, Try.f11, go_sem]) rfl ?_
      exact ⟨by rw [HP.out.1, HP.out.2], hb⟩
    · rw [decide_eq_false hw] at HH
      have HP : Hid (readV l part k word = 0 ∧ errW rds l part k word = 5) := by
        have e2 : errW rds l part k word = 5 := by unfold errW; rw [if_pos he, Int.toNat_natCast, if_neg hw]
        refine ⟨?_, e2⟩
        unfold readV
        rw [if_neg (by rw [e2]; omega)]
      clear h he hm hw
      go_enter Try.func11, Try.ntmps11
      go_wp2_with (first
        | (go_at_call 34; refine HA.out.mono ?_; rintro e w1 ⟨rfl, hb⟩)
        | (go_at_call 36; refine (HH.out _ hb).mono ?_; rintro e w2 ⟨rfl, rfl⟩))
      refine bodyPost_ret (v := .tuple #[.int .u32 0, .int .i64 5]) (by simp [results, Try.f11, go_sem]) rfl ?_
      exact ⟨by rw [HP.out.1, HP.out.2], hb⟩
  · have HA := Lib.hid (allowedR_no h part port he)
    have HP : Hid (readV l part port word = 0 ∧ errW rds l part port word = errA rds l part port) := by
      have e2 := errW_of word he
      refine ⟨?_, e2⟩
      unfold readV
      rw [if_neg (by rw [e2]; exact he)]
    have hne := errA_ne he
    clear h he
    generalize errA rds l part port = z at *
    go_enter Try.func11, Try.ntmps11
    go_wp2_with (go_at_call 34; refine HA.out.mono ?_; rintro e w1 ⟨rfl, hb⟩)
    refine bodyPost_ret (v := .tuple #[.int .u32 0, .int .i64 z]) (by simp [results, Try.f11, go_sem]) rfl ?_
    exact ⟨by rw [HP.out.1, HP.out.2], hb⟩
theorem age_nil (part port : Int) (w : World) : Calls Try.prog 13 #[.pointer none, .int .i64 part, .int .i64 port] w fun e w' => e = .returned (.tuple #[.int .u32 0, .int .i64 1]) ∧ w' = w := by
  go_enter Try.func13, Try.ntmps13
  go_wp2_with (go_at_call 34; refine (allowedR_nil _ _ _).mono ?_; rintro e w1 ⟨rfl, rfl⟩)
  refine bodyPost_ret (v := .tuple #[.int .u32 0, .int .i64 1]) (by simp [results, Try.f13, go_sem]) rfl ⟨rfl, rfl⟩
def AgeP (l : List Bx) (part port : Int) (w : World) (e : Ending) (w' : World) : Prop := e = .returned (.tuple #[.int .u32 (ageV l part port), .int .i64 (errA rds l part port)]) ∧ Below w.heap.size w w'
theorem age_any (h : Pt w g l) (part port : Int) : Calls Try.prog 13 #[.pointer (some ⟨g, 0, none⟩), .int .i64 part, .int .i64 port] w (AgeP l part port w) := by
  by_cases he : errA rds l part port = 0
  · obtain ⟨k, rfl, hk, hm⟩ := errA_two he
    have HA := Lib.hid (allowedR_ok h part hk hm)
    have HC := Lib.hid (fun W (hb : Below w.heap.size w W) => (h.below hb (Nat.le_refl _)).cage hk)
    have HP : Hid (ageV l part k = (l[k]!).age ∧ errA rds l part k = 0) := by
      refine ⟨?_, he⟩
      unfold ageV
      rw [if_pos he, Int.toNat_natCast]
    clear h he hm
    generalize (l[k]!).age = z at *
    go_enter Try.func13, Try.ntmps13
    go_wp2_with (go_at_call 34; refine HA.out.mono ?_; rintro e w1 ⟨rfl, hb⟩; have c0 := HC.out _ hb)
    refine bodyPost_ret (v := .tuple #[.int .u32 z, .int .i64 0]) (by simp [results, Try.f13, go_sem]) rfl ?_
    exact ⟨by rw [HP.out.1, HP.out.2], hb⟩
  · have HA := Lib.hid (allowedR_no h part port he)
    have HP : Hid (ageV l part port = 0) := by
      show _ = _
      unfold ageV
      rw [if_neg he]
    have hne := errA_ne he
    have HQ : Hid (∀ e w', e = .returned (.tuple #[.int .u32 0, .int .i64 (errA rds l part port)]) → Below w.heap.size w w' → AgeP l part port w e w') := fun e w' h1 h2 => ⟨by rw [h1, HP.out], h2⟩
    clear h he HP
    generalize errA rds l part port = z at *
    go_enter Try.func13, Try.ntmps13
    go_wp2_with (go_at_call 34; refine HA.out.mono ?_; rintro e w1 ⟨rfl, hb⟩)
    refine bodyPost_ret (v := .tuple #[.int .u32 0, .int .i64 z]) (by simp [results, Try.f13, go_sem]) rfl ?_
    exact HQ.out _ _ rfl hb
/-! ### Put, Send -/
/-- what is written -/
def DoneP (g : Nat) (l : List Bx) (err : Int) (w : World) (e : Ending) (w' : World) : Prop := e = .returned (.int .i64 err) ∧ Pt w' g l ∧ Kept (fun k => k = g) w w'
theorem put_nil (part port word x : Int) (w : World) : Calls Try.prog 15 #[.pointer none, .int .i64 part, .int .i64 port, .int .i64 word, .int .u32 x] w fun e w' => e = .returned (.int .i64 1) ∧ w' = w := by
  go_enter Try.func15, Try.ntmps15
  go_wp2_with (go_at_call 34; refine (allowedW_nil _ _ _).mono ?_; rintro e w1 ⟨rfl, rfl⟩)
  go_ret
  exact ⟨rfl, rfl⟩
theorem put_any (h : Pt w g l) (part port word x : Int) (hx : 0 ≤ x ∧ x ≤ 4294967295) : Calls Try.prog 15 #[.pointer (some ⟨g, 0, none⟩), .int .i64 part, .int .i64 port, .int .i64 word, .int .u32 x] w (DoneP g (putL l part port word x) (errW wrt l part port word) w) := by
  by_cases he : errA wrt l part port = 0
  · obtain ⟨k, rfl, hk, hm⟩ := errA_two he
    have HA := Lib.hid (allowedW_ok h part hk hm)
    have HH := Lib.hid (fun W (hb : Below w.heap.size w W) => has_any (h.below hb (Nat.le_refl _)) hk word)
    by_cases hw : 0 ≤ word ∧ word < (l[k]!).d.w
    · rw [decide_eq_true hw] at HH
      have h0 := h.at hk
      have h16 := h0.w.2
      obtain ⟨j, rfl⟩ := Int.eq_ofNat_of_zero_le hw.1
      have hj : j < 16 := by omega
      have HC := Lib.hid (fun W (hb : Below w.heap.size w W) => (show _ ∧ W.frozen? ⟨g, k * 37 + 20 + j, none⟩ = false from ⟨(h.below hb (Nat.le_refl _)).cdr hk hj, (h.below hb (Nat.le_refl _)).frozen _⟩))
      have HP : Hid (putL l part k (j : Int) x = l.modify k (putB j x) ∧ errW wrt l part k (j : Int) = 0) := by
        have e2 : errW wrt l part k (j : Int) = 0 := errW_zero.2 ⟨he, hw.1, by rw [Int.toNat_natCast]; exact hw.2⟩
        refine ⟨?_, e2⟩
        unfold putL
        rw [if_pos e2, Int.toNat_natCast, Int.toNat_natCast]
      have HQ : Hid (∀ W, Below w.heap.size w W → DoneP g (putL l part k (j : Int) x) (errW wrt l part k (j : Int)) w (.returned (.int .i64 0)) (W.setCell ⟨g, k * 37 + 20 + j, none⟩ (.int .u32 x))) := fun W hb => by
        rw [HP.out.1, HP.out.2, Nat.add_assoc]
        exact ⟨rfl, (h.below hb (Nat.le_refl _)).wDr hk j hj x hx, (Kept.of_below (p := fun k => k = g) hb).setCell (.inl rfl) _⟩
      have b0 : (0 : Int) ≤ j := by omega
      have b1 : (j : Int) < 16 := by omega
      clear h0 h16 h he hm hw HP hx
      go_enter Try.func15, Try.ntmps15
      go_wp2_with (first
        | (go_at_call 34; refine HA.out.mono ?_; rintro e w1 ⟨rfl, hb⟩; obtain ⟨c0, c1⟩ := HC.out _ hb; rw [← Nat.add_assoc] at c0)
        | (go_at_call 36; refine (HH.out _ hb).mono ?_; rintro e w2 ⟨rfl, rfl⟩))
      go_ret
      exact HQ.out _ hb
    · rw [decide_eq_false hw] at HH
      have HP : Hid (putL l part k word x = l ∧ errW wrt l part k word = 5) := by
        have e2 : errW wrt l part k word = 5 := by unfold errW; rw [if_pos he, Int.toNat_natCast, if_neg hw]
        refine ⟨?_, e2⟩
        unfold putL
        rw [if_neg (by rw [e2]; omega)]
      have HQ : Hid (∀ W, Below w.heap.size w W → DoneP g (putL l part k word x) (errW wrt l part k word) w (.returned (.int .i64 5)) W) := fun W hb => by
        rw [HP.out.1, HP.out.2]
        exact ⟨rfl, h.below hb (Nat.le_refl _), Kept.of_below hb⟩
      clear h he hm hw HP
      go_enter Try.func15, Try.ntmps15
      go_wp2_with (first
        | (go_at_call 34; refine HA.out.mono ?_; rintro e w1 ⟨rfl, hb⟩)
        | (go_at_call 36; refine (HH.out _ hb).mono ?_; rintro e w2 ⟨rfl, rfl⟩))
      go_ret
      exact HQ.out _ hb
  · have HA := Lib.hid (allowedW_no h part port he)
    have HP : Hid (putL l part port word x = l ∧ errW wrt l part port word = errA wrt l part port) := by
      have e2 := errW_of word he
      refine ⟨?_, e2⟩
      unfold putL
      rw [if_neg (by rw [e2]; exact he)]
    have HQ : Hid (∀ W, Below w.heap.size w W → DoneP g (putL l part port word x) (errW wrt l part port word) w (.returned (.int .i64 (errA wrt l part port))) W) := fun W hb => by
      rw [HP.out.1, HP.out.2]
      exact ⟨rfl, h.below hb (Nat.le_refl _), Kept.of_below hb⟩
    have hne := errA_ne he
    clear h he HP
    generalize errA wrt l part port = z at *
    go_enter Try.func15, Try.ntmps15
    go_wp2_with (go_at_call 34; refine HA.out.mono ?_; rintro e w1 ⟨rfl, hb⟩)
    go_ret
    exact HQ.out _ hb
theorem send_nil (part port : Int) (w : World) : Calls Try.prog 17 #[.pointer none, .int .i64 part, .int .i64 port] w fun e w' => e = .returned (.int .i64 1) ∧ w' = w := by
  go_enter Try.func17, Try.ntmps17
  go_wp2_with (go_at_call 34; refine (allowedW_nil _ _ _).mono ?_; rintro e w1 ⟨rfl, rfl⟩)
  go_ret
  exact ⟨rfl, rfl⟩
theorem send_any (h : Pt w g l) (part port : Int) : Calls Try.prog 17 #[.pointer (some ⟨g, 0, none⟩), .int .i64 part, .int .i64 port] w (DoneP g (sendL l part port) (errA wrt l part port) w) := by
  by_cases he : errA wrt l part port = 0
  · obtain ⟨k, rfl, hk, hm⟩ := errA_two he
    have HA := Lib.hid (allowedW_ok h part hk hm)
    have HC := Lib.hid (fun W (hb : Below w.heap.size w W) => (show _ ∧ W.frozen? ⟨g, k * 37 + 36, none⟩ = false from ⟨(h.below hb (Nat.le_refl _)).cs hk, (h.below hb (Nat.le_refl _)).frozen _⟩))
    have HQ : Hid (∀ W, Below w.heap.size w W → DoneP g (sendL l part k) (errA wrt l part k) w (.returned (.int .i64 0)) (W.setCell ⟨g, k * 37 + 36, none⟩ (.bool true))) := fun W hb => by
      unfold sendL
      rw [if_pos he, he, Int.toNat_natCast, modify_set _ _ _ hk]
      exact ⟨rfl, (h.below hb (Nat.le_refl _)).wS hk true, (Kept.of_below (p := fun k => k = g) hb).setCell (.inl rfl) _⟩
    clear h he hm
    go_enter Try.func17, Try.ntmps17
    go_wp2_with (go_at_call 34; refine HA.out.mono ?_; rintro e w1 ⟨rfl, hb⟩; obtain ⟨c0, c1⟩ := HC.out _ hb)
    go_ret
    exact HQ.out _ hb
  · have HA := Lib.hid (allowedW_no h part port he)
    have HQ : Hid (∀ W, Below w.heap.size w W → DoneP g (sendL l part port) (errA wrt l part port) w (.returned (.int .i64 (errA wrt l part port))) W) := fun W hb => by
      unfold sendL
      rw [if_neg he]
      exact ⟨rfl, h.below hb (Nat.le_refl _), Kept.of_below hb⟩
    have hne := errA_ne he
    clear h he
    generalize errA wrt l part port = z at *
    go_enter Try.func17, Try.ntmps17
    go_wp2_with (go_at_call 34; refine HA.out.mono ?_; rintro e w1 ⟨rfl, hb⟩)
    go_ret
    exact HQ.out _ hb
end
end Prt
end Go.Proofs.Ytcapiaempfjmeaa
