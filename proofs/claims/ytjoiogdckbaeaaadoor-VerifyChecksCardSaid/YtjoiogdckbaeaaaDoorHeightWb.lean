/- The law's own comparison of two lists of whole numbers. · height.Heights, height.Most. · height.Most. -/
import Derived.Test.YtjoiogdckbaeaaaDoorCodeOwn
import Derived.Test.YtjoiogdckbaeaaaDoorHeightP
import Derived.Test.YtjoiogdckbaeaaaDoorHeightRep
namespace Go.Proofs.YtjoiogdckbaeaaaDoor
open Go.ChangeShapes Go.WideShapes Go.ChangeAt Go.RowKit
namespace Hgt
open Isa
set_option linter.unusedVariables false
set_option linter.unusedSimpArgs false
/-- a slice with this address and length is these numbers -/
def ZRow (w : World) (a : Option Addr) (n : Nat) (l : List Int) : Prop := l.length = n ∧ (n = 0 ∨ ∃ b off, a = some ⟨b, off, none⟩ ∧ ∀ j, j < n → w.cell? ⟨b, off + j, none⟩ = some (.int .i64 (l.getD j 0)))
theorem ZRow.below {w w' : World} {a : Option Addr} {n : Nat} {l : List Int} (h : ZRow w a n l) {B : Nat} (hb : Below B w w') (hB : w.heap.size ≤ B) : ZRow w' a n l := by
  obtain ⟨h1, h2⟩ := h
  refine ⟨h1, ?_⟩
  rcases h2 with h2 | ⟨b, off, rfl, hc⟩
  · exact .inl h2
  · exact .inr ⟨b, off, rfl, fun j hj => (World.cell?_of_block (hb.block b (Nat.lt_of_lt_of_le (World.block_lt_of_cell? _ _ (hc j hj)) hB))).trans (hc j hj)⟩
theorem ZRow.at {w : World} {a : Option Addr} {n : Nat} {l : List Int} (h : ZRow w a n l) (k : Nat) (hk : k < n) : ∃ b off, a = some ⟨b, off, none⟩ ∧ w.cell? ⟨b, off + k, none⟩ = some (.int .i64 (l.getD k 0)) := by
  obtain ⟨b, off, rfl, hc⟩ := h.2.resolve_left (by omega)
  exact ⟨b, off, rfl, hc k hk⟩
theorem own_zrow {w : World} {S : Nat} {v : Value} {l : List Int} (h : w.ownsRow S 3 1 v l.length (ints l)) : ∃ a c, v = .slice a l.length c ∧ l.length ≤ c ∧ c ≤ maxLen ∧ ZRow w a l.length l := by
  obtain ⟨a, c, rfl, h1, h2⟩ := own_shape h
  refine ⟨a, c, rfl, h1, h2, rfl, ?_⟩
  by_cases h0 : l.length = 0
  · exact .inl h0
  · right
    rcases h.2 with ⟨e, _⟩ | ⟨g, cap, cur, e, _⟩
    · injection e with e1 e2; exact absurd e2 h0
    · injection e with e1 e2 e3
      subst e1
      refine ⟨g, 0, rfl, fun j hj => ?_⟩
      have := World.ownsRow.cells h (g := g) rfl j (.int .i64 (l.getD j 0)) (Isa.ints_at hj)
      rw [WideShapes.add_plain] at this
      exact this
theorem list_same {l m : List Int} (h : l.length = m.length) (hs : ∀ t, t < l.length → l.getD t 0 = m.getD t 0) : l = m := by
  apply List.ext_getElem h
  intro i h1 h2
  have := hs i h1
  rwa [List.getD_eq_getElem?_getD, List.getD_eq_getElem?_getD, List.getElem?_eq_getElem h1, List.getElem?_eq_getElem h2] at this
end Hgt
end Go.Proofs.YtjoiogdckbaeaaaDoor
namespace Go.Proofs.YtjoiogdckbaeaaaDoor
open Go.ChangeShapes Go.WideShapes Go.ChangeAt Go.RowKit
namespace Hgt
open Isa Flw
open Goes
open Rights (Kept)
set_option linter.unusedVariables false
set_option linter.unusedSimpArgs false
/-- height.Heights, of any program -/
def HeightsC : Prop := ∀ (l : List Iv) (a : Option Addr) (n c : Nat) (most : Int) (w : World), Tabs w → n ≤ c → c ≤ 9223372036854775807 → -9223372036854775808 ≤ most → most ≤ 9223372036854775807 → IRow w a n l →
  Calls Tryd.prog 14 #[.slice a n c, .int .i64 most] w fun e w' => ∃ v, e = .returned (.tuple #[v, .int .i64 ((htA l most).2.1 : Nat), .int .i64 (htA l most).2.2]) ∧ w'.ownsRow w.heap.size 3 1 v (htA l most).1.length (ints (htA l most).1) ∧ Below w.heap.size w w'
/-- height.Most -/
def MostC : Prop := ∀ (l : List Iv) (a : Option Addr) (n c : Nat) (most : Int) (w : World), Tabs w → n ≤ c → c ≤ 9223372036854775807 → -9223372036854775808 ≤ most → most ≤ 9223372036854775807 → IRow w a n l →
  Calls Tryd.prog 10 #[.slice a n c, .int .i64 most] w fun e w' => e = .returned (.tuple #[.int .i64 (mostA l most).1, .int .i64 (mostA l most).2]) ∧ Below w.heap.size w w'
theorem htGo_err {l : List Iv} {most : Int} : ∀ (f : Nat) (H : List Int) (D : List Bool), (htGo l most f H D).2.2 ≠ 0 → (htGo l most f H D).1 = []
  | 0, H, D, h => rfl
  | f + 1, H, D, h => by
    rw [htGo_succ] at h ⊢
    split at h
    · exact absurd rfl h
    · rename_i h1
      rw [if_neg h1]
      split at h
      · rename_i h2; rw [if_pos h2]
      · rename_i h2
        rw [if_neg h2]
        split at h
        · rename_i h3; rw [if_pos h3]
        · rename_i h3
          rw [if_neg h3]
          cases hp : push (H.getD (nextN l H D) 0 - tkL l (nextN l H D) + gvL l (nextN l H D)) (behL l (nextN l H D)) H with
          | mk H' o =>
            rw [hp] at h
            cases o with
            | some m => rfl
            | none => exact htGo_err f _ _ h
theorem htA_err {l : List Iv} {most : Int} (h : (htA l most).2.2 ≠ 0) : (htA l most).1 = [] := by
  unfold htA at h ⊢
  split at h
  · rename_i h1; rw [if_pos h1]
  · rename_i h1
    rw [if_neg h1]
    split at h
    · rename_i h2; rw [if_pos h2]
    · rename_i h2; rw [if_neg h2]; exact htGo_err _ _ _ h
/-- a whole block of numbers is a row of the call's own -/
theorem prow_own {V : World} {O n S : Nat} {A : List Int} (h : PRow V O A) (hl : A.length = n) (hS : S ≤ O) (hn : n ≤ 1000000) : V.ownsRow S 3 1 (.slice (some ⟨O, 0, none⟩) n n) n (ints A) := by
  have e : (ints A).length = n := by simp [ints, hl]
  refine ⟨by omega, .inr ⟨O, n, (ints A).toArray, rfl, hS, h, Nat.le_refl _, by unfold maxLen; omega, by simp [e], ?_⟩⟩
  rw [Nat.mul_one, List.toList_toArray]
  exact List.take_of_length_le (by omega)
set_option maxHeartbeats 1600000 in
theorem heights_any : HeightsC := by
  intro l a n c most w hT hnc hcm hmo0 hmo1 h
  have hln : l.length = n := h.1
  by_cases h0 : most < 0
  · have hA : htA l most = ([], 0, 5) := by unfold htA; rw [if_pos (.inl h0)]
    rw [hA]
    have d1 : decide (most < (0 : Int)) = true := decide_eq_true h0
    clear hT h hln hA h0
    go_enter Tryd.func14, Tryd.ntmps14
    go_wp2_with fail
    refine bodyPost_ret (v := .tuple #[.slice none 0 0, .int .i64 0, .int .i64 5]) (by simp [results, Tryd.f14, go_sem]) rfl ?_
    exact ⟨_, rfl, World.ownsRow_nil _ _ _ _, Below.refl _ _⟩
  have d1 : decide (most < (0 : Int)) = false := decide_eq_false h0
  by_cases h64 : 64 < most
  · have hA : htA l most = ([], 0, 5) := by unfold htA; rw [if_pos (.inr h64)]
    rw [hA]
    have d2 : decide ((64 : Int) < most) = true := decide_eq_true h64
    clear hT h hln hA h0 h64
    go_enter Tryd.func14, Tryd.ntmps14
    go_wp2_with fail
    refine bodyPost_ret (v := .tuple #[.slice none 0 0, .int .i64 0, .int .i64 5]) (by simp [results, Tryd.f14, go_sem]) rfl ?_
    exact ⟨_, rfl, World.ownsRow_nil _ _ _ _, Below.refl _ _⟩
  have d2 : decide ((64 : Int) < most) = false := decide_eq_false h64
  have hout : ¬ (most < 0 ∨ 64 < most) := by omega
  have HChk := Lib.hid (check_any l a n c w hT hnc hcm h)
  by_cases hE : chkE l = 0
  rotate_left
  · have hA : htA l most = ([], chkN l, chkE l) := by unfold htA; rw [if_neg hout, if_pos hE]
    rw [hA]
    have hne : (chkE l != 0) = true := by simpa using hE
    clear hT h hln hA h0 h64 hout hE
    generalize chkE l = E at *
    generalize chkN l = N at *
    go_enter Tryd.func14, Tryd.ntmps14
    go_wp2_with fail
    refine HChk.out.mono ?_
    rintro e w1 ⟨rfl, hb1⟩
    have HB1 := Lib.hid hb1
    clear hb1 HChk
    go_wp2_with fail
    refine bodyPost_ret (v := .tuple #[.slice none 0 0, .int .i64 (N : Nat), .int .i64 E]) (by simp [results, Tryd.f14, go_sem]) rfl ?_
    exact ⟨_, rfl, World.ownsRow_nil _ _ _ _, HB1.out⟩
  have hf := fine_of hE
  have hA : htA l most = htGo l most (l.length + 1) (H0 l) (D0 l) := by unfold htA; rw [if_neg hout, if_neg (by omega)]
  have HErr : Hid ((htA l most).2.2 ≠ 0 → (htA l most).1 = []) := htA_err
  have HWell : Hid ((htA l most).2.2 = 0 → (htA l most).1.length = n ∧ (htA l most).2.1 = 0) := fun e => ⟨by rw [(htA_well h.2.1 e).1.len, hln], (htA_well h.2.1 e).2⟩
  have HTell := Lib.hid (fun (W : World) (O : Nat) (hb : Below w.heap.size w W) (hO : w.heap.size ≤ O) (hP : PRow W O (List.replicate n (-1))) => tell_any l hf h.2.1 a n c O most (by omega) (by omega) hln W
    (fun V hk => hT.below (hb.trans (below_of hk hb.size (fun k e => by omega))) (Nat.le_refl _)) (fun V hk => h.below (hb.trans (below_of hk hb.size (fun k e => by omega))) (Nat.le_refl _)) hP)
  have hn1 : 1 ≤ n := by have := hf.some; omega
  have hn16 : n ≤ 16384 := by have := hf.most; omega
  have HC0 : Hid (chkE l = 0 ∧ chkN l = 0) := ⟨hE, (chk_of hf).2⟩
  have hc0 := HC0.out
  rw [hc0.1, hc0.2] at HChk
  rw [← hA] at HTell
  clear hT h hln hA h0 h64 hout hE hf hc0 HC0
  generalize htA l most = RES at *
  obtain ⟨H, N, E⟩ := RES
  simp only at *
  go_enter Tryd.func14, Tryd.ntmps14
  go_wp2_with fail
  refine HChk.out.mono ?_
  rintro e w1 ⟨rfl, hb1⟩
  have HB1 := Lib.hid hb1
  clear hb1 HChk
  have HV : Hid ((w1.alloc (.cells #[.int .i64 (-1)] 3)).heap[w1.heap.size]? = some (.cells #[.int .i64 (-1)] 3 (0, 0))) := alloc_new w1 _
  have HB2 : Hid (Below w.heap.size w (w1.alloc (.cells #[.int .i64 (-1)] 3))) := HB1.out.alloc HB1.out.size _
  have HRep := Lib.hid (rep_any (-1) w1.heap.size n hn1 (by omega) _ HV.out)
  clear HV HB1
  go_wp2_with fail
  refine HRep.out.mono ?_
  rintro e w2 ⟨O, rfl, hO, hP, hb2⟩
  have HB3 := Lib.hid (HB2.out.trans (hb2.mono HB2.out.size))
  have HO : Hid (w.heap.size ≤ O) := Nat.le_trans HB2.out.size hO
  have HTl := Lib.hid (HTell.out w2 O HB3.out HO.out hP)
  clear HRep HTell HB2 hO hP hb2
  go_wp2_with fail
  refine HTl.out.mono ?_
  rintro e w3 ⟨rfl, hp3, hk3⟩
  have HP3 := Lib.hid hp3
  have HB4 : Hid (Below w.heap.size w w3) := HB3.out.trans (below_of hk3 HB3.out.size (fun k e => by have := HO.out; omega))
  clear hp3 hk3 HTl HB3
  by_cases e0 : E = 0
  · subst e0
    obtain ⟨hl, hN⟩ := HWell.out rfl
    subst hN
    have HOwn := Lib.hid (prow_own (S := w.heap.size) (HP3.out rfl) hl HO.out (by omega))
    have HHl := Lib.hid hl
    clear hl HWell HErr HP3
    go_wp2_with fail
    refine bodyPost_ret (v := .tuple #[.slice (some ⟨O, 0, none⟩) n n, .int .i64 0, .int .i64 0]) (by simp [results, Tryd.f14, go_sem]) rfl ?_
    refine ⟨_, rfl, ?_, HB4.out⟩
    rw [HHl.out]
    exact HOwn.out
  · have hne : (E != 0) = true := by simpa using e0
    have hH := HErr.out e0
    subst hH
    clear e0 HErr HWell HP3
    go_wp2_with fail
    refine bodyPost_ret (v := .tuple #[.slice none 0 0, .int .i64 (N : Nat), .int .i64 E]) (by simp [results, Tryd.f14, go_sem]) rfl ?_
    exact ⟨_, rfl, World.ownsRow_nil _ _ _ _, HB4.out⟩
end Hgt
end Go.Proofs.YtjoiogdckbaeaaaDoor
namespace Go.Proofs.YtjoiogdckbaeaaaDoor
open Go.ChangeShapes Go.WideShapes Go.ChangeAt Go.RowKit
namespace Hgt
open Isa Flw
open Goes
set_option linter.unusedVariables false
set_option linter.unusedSimpArgs false
theorem run_max3 (x y z : Int) (ts : Array TypeId) (t : TypeId) (W : World) : (Builtin.max_ ts t #[.int .i64 x, .int .i64 y, .int .i64 z]).run Tryd.prog W = .ok (.int .i64 (max (max x y) z)) W := by
  simp only [Builtin.max_, Builtin.max2]
  by_cases h1 : x < y
  · have e1 : max x y = y := by omega
    rw [e1]
    by_cases h2 : y < z
    · have e2 : max y z = z := by omega
      simp [Builtin.max2, h1, h2, e2]
    · have e2 : max y z = y := by omega
      simp [Builtin.max2, h1, h2, e2]
  · have e1 : max x y = x := by omega
    rw [e1]
    by_cases h2 : x < z
    · have e2 : max x z = z := by omega
      simp [Builtin.max2, h1, h2, e2]
    · have e2 : max x z = x := by omega
      simp [Builtin.max2, h1, h2, e2]
set_option maxHeartbeats 1600000 in
theorem most_any : MostC := by
  intro l a n c most w hT hnc hcm hmo0 hmo1 h
  have hln : l.length = n := h.1
  have HH := Lib.hid (heights_any l a n c most w hT hnc hcm hmo0 hmo1 h)
  have HRow := Lib.hid (fun V (hb : Below w.heap.size w V) => h.below hb (Nat.le_refl _))
  have HTab := Lib.hid (fun V (hb : Below w.heap.size w V) => hT.below hb (Nat.le_refl _))
  obtain ⟨E, hE⟩ : ∃ E, (htA l most).2.2 = E := ⟨_, rfl⟩
  obtain ⟨H, hH⟩ : ∃ H, (htA l most).1 = H := ⟨_, rfl⟩
  obtain ⟨N, hN⟩ : ∃ N, (htA l most).2.1 = N := ⟨_, rfl⟩
  rw [hE, hH, hN] at HH
  have HRes : Hid (mostA l most = (topL l H H.length, E)) := by
    show _ = _
    unfold mostA
    rw [hE]
    by_cases e0 : E = 0
    · rw [if_pos e0, hH, e0]
      have := (htA_well h.2.1 (by rw [hE]; exact e0)).1.len
      rw [hH] at this
      rw [this]
    · rw [if_neg e0]
      have := htA_err (l := l) (most := most) (by rw [hE]; exact e0)
      rw [hH] at this
      rw [this]
      rfl
  have HB : Hid (∀ k, k < H.length → k < n ∧ -1 ≤ H.getD k 0 ∧ (0 ≤ H.getD k 0 → H.getD k 0 ≤ 64)) := fun k hk => by
    by_cases e0 : E = 0
    · have hw := htA_well h.2.1 (by rw [hE]; exact e0)
      have hg := htA_go (l := l) (most := most) (by rw [hE]; exact e0)
      rw [hH] at hw
      have hlen := hw.1.len
      refine ⟨by omega, hw.1.low k (by omega), fun h0 => ?_⟩
      have := (well_le hg.2.2.1 h.2.1 hw.1 hg.1 k (by omega) h0).1
      omega
    · have := htA_err (l := l) (most := most) (by rw [hE]; exact e0)
      rw [hH] at this
      rw [this] at hk
      simp at hk
  have HLen : Hid (H.length ≤ 1000000) := by
    show _ ≤ _
    by_cases e0 : E = 0
    · have hw := htA_well h.2.1 (by rw [hE]; exact e0)
      have hg := htA_go (l := l) (most := most) (by rw [hE]; exact e0)
      rw [hH] at hw
      have := hw.1.len
      have := hg.2.2.1.most
      omega
    · have := htA_err (l := l) (most := most) (by rw [hE]; exact e0)
      rw [hH] at this
      rw [this]
      simp
  clear hT h hE hH hN hln
  rw [HRes.out]
  clear HRes
  go_enter Tryd.func10, Tryd.ntmps10
  go_wp2_with fail
  refine HH.out.mono ?_
  rintro e w1 ⟨v, rfl, ho, hb1⟩
  obtain ⟨va, vc, rfl, hv1, hv2, hz⟩ := own_zrow ho
  have HZ := Lib.hid hz
  have HB1 := Lib.hid hb1
  have hlen := HLen.out
  obtain ⟨m, hm⟩ : ∃ m, H.length = m := ⟨_, rfl⟩
  have HM := Lib.hid hm
  rw [hm] at HZ HB hlen hv1 ⊢
  clear ho hb1 hz HH hm
  go_wp2_with fail
  go_loopw [9, 21] (fun s9 s21 wr => ∃ k : Nat, s9 = .int .i64 (topL l H k) ∧ s21 = .int .i64 k ∧ k ≤ m ∧ Below w1.heap.size w1 wr) (fun _ s21 _ => m - (intOf s21).toNat)
  case atStart => exact ⟨0, rfl, rfl, Nat.zero_le _, Below.refl _ _⟩
  case round =>
    obtain ⟨k, rfl, rfl, hk, hb⟩ := hrel
    have HBr := Lib.hid hb
    clear hb
    by_cases hlt : k < m
    · have d1 : decide ((k : Int) < (m : Int)) = true := decide_eq_true (by omega)
      obtain ⟨b, off, rfl, hc⟩ := (HZ.out.below HBr.out (Nat.le_refl _)).at k hlt
      obtain ⟨hkn, hlow, hhi⟩ := HB.out k hlt
      have k0 : (0 : Int) ≤ k := by omega
      have k1 : (k : Int) < m := by omega
      have k2 : (k : Int) < n := by omega
      obtain ⟨hv, hhv⟩ : ∃ hv, H.getD k 0 = hv := ⟨_, rfl⟩
      have HHv := Lib.hid hhv
      rw [hhv] at hc hlow hhi
      have hw2 : IntKind.i64.wrap ((k : Int) + 1) = (k : Int) + 1 := by simp [IntKind.wrap, IntKind.bits, IntKind.signed]; omega
      by_cases e1 : hv = -1
      · have d2 : (hv != -1) = false := by simpa using e1
        have HT2 : Hid (topL l H (k + 1) = topL l H k) := by
          show _ = _
          rw [topL, if_pos (by rw [HHv.out]; omega)]
        clear hhv e1 hlow hhi
        go_wp2_with fail
        go_roundw
        case rel => exact ⟨k + 1, by rw [HT2.out], by rw [show ((k + 1 : Nat) : Int) = (k : Int) + 1 from by omega], by omega, HBr.out⟩
        case measure => simp [intOf]; omega
      · have d2 : (hv != -1) = true := by simpa using e1
        have hnn : 0 ≤ hv := by omega
        have hbe : Below w.heap.size w wr := HB1.out.trans (HBr.out.mono HB1.out.size)
        obtain ⟨b2, off2, rfl, hcc, hww⟩ := (HRow.out wr hbe).at k hkn
        obtain ⟨c0, c1, c2, c3⟩ := hcc
        have HBh := Lib.hid (hbehind_any (l.getD k iz).op hv hww.op.1 hww.op.2 ⟨by omega, by have := hhi hnn; omega⟩ wr (HTab.out wr hbe))
        have HT2 : Hid (topL l H (k + 1) = max (max (topL l H k) hv) (hv - takesI (l.getD k iz).op + givesI (l.getD k iz).op)) := by
          show _ = _
          rw [topL, if_neg (by rw [HHv.out]; omega)]
          unfold bhL
          rw [HHv.out]
          rfl
        have hbe2 := hbe
        clear hhv e1 hlow hhi hnn hww hbe hbe2
        generalize hv - takesI (l.getD k iz).op + givesI (l.getD k iz).op = bv at *
        generalize l.getD k iz = x at *
        obtain ⟨xo, xa, xb, xc⟩ := x
        simp only at *
        go_wp2_with fail
        refine HBh.out.mono ?_
        rintro e w3 ⟨rfl, hb3⟩
        have HB3 := Lib.hid (HBr.out.trans (hb3.mono HBr.out.size))
        have hmx := fun ts t W => run_max3 (topL l H k) hv bv ts t W
        clear hb3 HBh c0 c1 c2 c3
        rw [← HT2.out] at hmx
        go_wp2_with fail
        go_roundw
        case rel => exact ⟨k + 1, by first | rfl | rw [HT2.out], by rw [show ((k + 1 : Nat) : Int) = (k : Int) + 1 from by omega], by omega, HB3.out⟩
        case measure => simp [intOf]; omega
    · have d1 : decide ((k : Int) < (m : Int)) = false := decide_eq_false (by omega)
      obtain rfl : k = m := by omega
      have HBe : Hid (Below w.heap.size w wr) := HB1.out.trans (HBr.out.mono HB1.out.size)
      go_wp2_with fail
      go_ret2
      exact ⟨by rw [HM.out]; rfl, HBe.out⟩
end Hgt
end Go.Proofs.YtjoiogdckbaeaaaDoor
