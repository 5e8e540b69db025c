/- The law's own same. · The walk of HeightBounds, over what the program's calls answer. -/
import Derived.Test.YteingehdkpfpcaaDoorHeightWb
import Derived.Test.YteingehdkpfpcaaDoorCodeMay
import Derived.Test.YteingehdkpfpcaaDoorHeightM
namespace Go.Proofs.YteingehdkpfpcaaDoor
open Go.ChangeShapes Go.WideShapes Go.ChangeAt Go.RowKit
namespace Hgt
open Isa
set_option linter.unusedVariables false
set_option linter.unusedSimpArgs false
set_option maxHeartbeats 1600000 in
theorem same_any (l m : List Int) (a : Option Addr) (n c : Nat) (a' : Option Addr) (n' c' : Nat) (hm : n ≤ 1000000000) (w : World) (h : ZRow w a n l) (h2 : ZRow w a' n' m) :
    Calls Tryd.prog 26 #[.slice a n c, .slice a' n' c'] w fun e w' => e = .returned (.bool (decide (l = m))) ∧ w' = w := by
  have hln : l.length = n := h.1
  have hmn : m.length = n' := h2.1
  by_cases hne : n = n'
  case neg =>
    have hd : ((n : Int) != (n' : Int)) = true := by simp only [bne_iff_ne, ne_eq]; omega
    have HR : Hid (decide (l = m) = false) := decide_eq_false (fun e => by rw [e] at hln; omega)
    clear h h2 hln hmn hne
    go_enter Tryd.func26, Tryd.ntmps26
    go_wp2_with fail
    go_ret
    exact ⟨ret_bool HR.out.symm, rfl⟩
  subst hne
  have hd0 : ((n : Int) != (n : Int)) = false := by simp
  have HA := Lib.hid (fun k (hk : k < n) => h.at k hk)
  have HB := Lib.hid (fun k (hk : k < n) => h2.at k hk)
  have HEq := Lib.hid (fun hs => list_same (l := l) (m := m) (by omega) hs)
  have HL := Lib.hid hln
  clear h h2 hln hmn
  go_enter Tryd.func26, Tryd.ntmps26
  go_wp2_with fail
  clear hd0
  go_loopw [14] (fun i wr => ∃ k : Nat, k ≤ n ∧ i = .int .i64 k ∧ (∀ t, t < k → l.getD t 0 = m.getD t 0) ∧ wr = w) (fun i _ => n - (intOf i).toNat)
  case atStart => exact ⟨0, by omega, rfl, fun t ht => by omega, rfl⟩
  case round =>
    obtain ⟨k, hk, rfl, hno, rfl⟩ := hrel
    have HO := Lib.hid hno
    clear hno
    by_cases hlt : k < n
    · have hd : decide ((k : Int) < (n : Int)) = true := decide_eq_true (by omega)
      have k0 : (0 : Int) ≤ k := by omega
      have k1 : (k : Int) < n := by omega
      obtain ⟨b, off, rfl, hc⟩ := HA.out k hlt
      obtain ⟨b', off', rfl, hc'⟩ := HB.out k hlt
      by_cases hx : l.getD k 0 = m.getD k 0
      · have HO1 : Hid (∀ t, t < k + 1 → l.getD t 0 = m.getD t 0) := fun t ht => by
          by_cases e : t = k
          · rw [e]; exact hx
          · exact HO.out t (by omega)
        rw [← hx] at hc'
        clear hx
        generalize l.getD k 0 = x at *
        have he : (x != x) = false := by simp
        go_wp2_with fail
        exact ⟨⟨k + 1, by omega, by simp, HO1.out, trivial⟩, by simp [intOf]; omega⟩
      · have HR : Hid (decide (l = m) = false) := decide_eq_false (fun e => hx (by rw [e]))
        generalize l.getD k 0 = x at *
        generalize m.getD k 0 = y at *
        have he : (x != y) = true := by simpa using hx
        clear hx
        go_wp2_with fail
        go_ret
        exact ⟨ret_bool HR.out.symm, rfl⟩
    · obtain rfl : k = n := by omega
      have hd : decide ((k : Int) < (k : Int)) = false := decide_eq_false (by omega)
      have HR : Hid (decide (l = m) = true) := decide_eq_true (HEq.out (by rw [HL.out]; exact HO.out))
      go_wp2_with fail
      go_ret
      exact ⟨ret_bool HR.out.symm, rfl⟩
end Hgt
end Go.Proofs.YteingehdkpfpcaaDoor
namespace Go.Proofs.YteingehdkpfpcaaDoor
open Go.ChangeShapes Go.WideShapes Go.ChangeAt Go.RowKit
namespace Hgt
open Isa Flw
set_option linter.unusedVariables false
set_option linter.unusedSimpArgs false
/-- flow.Come -/
def ComeC : Prop := ∀ (l : List Iv) (a : Option Addr) (n c : Nat) (w : World), Tabs w → n ≤ c → c ≤ 9223372036854775807 → IRow w a n l →
  Calls Tryd.prog 12 #[.slice a n c] w fun e w' => ∃ v, e = .returned v ∧ w'.ownsRow w.heap.size 4 1 v (comeL l).length (bls (comeL l)) ∧ Below w.heap.size w w'
/-- the law's own small test -/
def KnownC : Prop := ∀ (w : World), Tabs w → Calls Tryd.prog 21 #[] w fun e w' => e = .returned (.bool true) ∧ Below w.heap.size w w'
set_option maxRecDepth 100000 in
set_option maxHeartbeats 6400000 in
theorem bounds_walk (w : World) (hT : Tabs w) (hKn : KnownC) (hH : HeightsC) (hM : MostC) (hCo : ComeC) (a : Option Addr) (n c : Nat) (l : List Iv) (h : IRow w a n l) (hc : n ≤ c ∧ c ≤ 9223372036854775807) (most : Int) (hmo : -9223372036854775808 ≤ most ∧ most ≤ 9223372036854775807) :
    Calls Tryd.prog 8 #[.slice a n c, .int .i64 most] w fun e w' => e = .returned (.bool true) ∧ Below w.heap.size w w' := by
  have hln : l.length = n := h.1
  have HK := Lib.hid (hKn w hT)
  have HHm := Lib.hid (fun m h1 h2 W (hb : Below w.heap.size w W) => hH l a n c m W (hT.below hb (Nat.le_refl _)) hc.1 hc.2 h1 h2 (h.below hb (Nat.le_refl _)))
  have HMm := Lib.hid (fun W (hb : Below w.heap.size w W) => hM l a n c most W (hT.below hb (Nat.le_refl _)) hc.1 hc.2 hmo.1 hmo.2 (h.below hb (Nat.le_refl _)))
  have HCm := Lib.hid (fun W (hb : Below w.heap.size w W) => hCo l a n c W (hT.below hb (Nat.le_refl _)) hc.1 hc.2 (h.below hb (Nat.le_refl _)))
  have HW := Lib.hid h.2.1
  have HH0 := Lib.hid (HHm.out most hmo.1 hmo.2)
  clear h hT hKn hH hM hCo hc
  go_enter Tryd.func8, Tryd.ntmps8
  go_wp2_with fail
  refine HK.out.mono ?_
  rintro e1 w1 ⟨rfl, hb1⟩
  have HB1 := Lib.hid hb1
  clear hb1 HK
  by_cases h3 : 2000 < n
  · have e1 : decide ((2000 : Int) < (n : Int)) = true := decide_eq_true (by omega)
    clear h3
    go_wp2_with fail
    go_ret
    exact ⟨rfl, HB1.out⟩
  have hd1 : decide ((2000 : Int) < (n : Int)) = false := decide_eq_false (by omega)
  by_cases hE : (htA l most).2.2 = 0
  case neg =>
    have hne : ((htA l most).2.2 != 0) = true := by simpa using hE
    clear h3 hE
    generalize (htA l most).2.2 = E at *
    generalize (htA l most).2.1 = N at *
    go_wp2_with fail
    refine (HH0.out w1 HB1.out).mono ?_
    rintro e w2 ⟨v, rfl, ho, hb2⟩
    obtain ⟨va, vc, rfl, _, _⟩ := own_shape ho
    have HB2 := Lib.hid (HB1.out.trans (hb2.mono HB1.out.size))
    clear hb2 ho
    go_wp2_with fail
    go_ret
    exact ⟨rfl, HB2.out⟩
  obtain ⟨hm0, hm64, hf, _⟩ := htA_go hE
  obtain ⟨hwl, hN⟩ := htA_well HW.out hE
  have hn0 : 0 < n := by have := hf.some; omega
  have hn2 : n ≤ 2000 := by omega
  have htop := top_le hf HW.out hwl hm0
  have ht64 : topL l (htA l most).1 l.length ≤ 64 := by omega
  have htn := topL_nn l (htA l most).1 l.length
  have hmA : mostA l most = (topL l (htA l most).1 l.length, 0) := by unfold mostA; rw [if_pos hE]
  have h64 : htA l 64 = htA l most := htA_same HW.out hE (by omega) (by omega) (by omega)
  have hte : htA l (topL l (htA l most).1 l.length) = htA l most := htA_same HW.out hE htn (by omega) (Int.le_refl _)
  have hls : topL l (htA l most).1 l.length = 0 ∧ htA l (topL l (htA l most).1 l.length - 1) = ([], 0, 5) ∨ 0 < topL l (htA l most).1 l.length ∧ (htA l (topL l (htA l most).1 l.length - 1)).2.2 = 122 := by
    by_cases q : topL l (htA l most).1 l.length = 0
    · left
      refine ⟨q, ?_⟩
      rw [q]
      unfold htA
      rw [if_pos (.inl (by omega))]
    · exact .inr ⟨by omega, htA_less HW.out hE (by omega)⟩
  have hco : comeL l = (List.range n).map (comeB l) := by unfold comeL; rw [if_pos (chk_of hf).1, hln]
  have HWc : Hid (∀ k, k < n → decide (0 ≤ (htA l most).1.getD k 0) = comeB l k) := fun k hk => by
    rw [Bool.eq_iff_iff, decide_eq_true_iff]
    exact hwl.come k (by omega)
  have HWl : Hid (∀ k, k < n → -1 ≤ (htA l most).1.getD k 0) := fun k hk => hwl.low k (by omega)
  have hlH : (htA l most).1.length = n := by rw [hwl.len]; exact hln
  have HHA := Lib.hid (HHm.out 64 (by omega) (by omega))
  have HHB := Lib.hid (HHm.out (topL l (htA l most).1 l.length) (by omega) (by omega))
  have HHC := Lib.hid (HHm.out (topL l (htA l most).1 l.length - 1) (by omega) (by omega))
  rw [h64] at HHA
  rw [hte] at HHB
  rw [hmA] at HMm
  rw [hco] at HCm
  rw [hE, hN, hlH] at HH0 HHA HHB
  clear h3 hE hwl hN hf hmA h64 hte hco HHm hm0 hm64 hmo
  generalize topL l (htA l most).1 l.length = top at *
  generalize (htA l most).1 = H at *
  have HLH := Lib.hid hlH
  clear hlH hln
  have hnn : ((n : Int) ≤ (n : Int)) := by omega
  clear hnn
  go_wp2_with fail
  refine (HH0.out w1 HB1.out).mono ?_
  rintro e w2 ⟨v, rfl, ho, hb2⟩
  obtain ⟨g, cap, rfl, _, _⟩ := own_some ho hn0
  have HI2 : Hid (NumO w1.heap.size g cap n H w2) := ho
  have HB2 := Lib.hid (HB1.out.trans (hb2.mono HB1.out.size))
  clear hb2 ho HH0 HB1
  go_wp2_with fail
  refine (HMm.out w2 HB2.out).mono ?_
  rintro e w3 ⟨rfl, hb3⟩
  have HI3 := Lib.hid (HI2.out.below hb3 (Nat.le_refl _))
  have HB3 := Lib.hid (HB2.out.trans (hb3.mono HB2.out.size))
  clear hb3 HMm HI2 HB2
  go_wp2_with fail
  refine (HCm.out w3 HB3.out).mono ?_
  rintro e w4 ⟨v, rfl, ho, hb4⟩
  have hlc : ((List.range n).map (comeB l)).length = n := by simp
  rw [hlc] at ho
  obtain ⟨gc, capc, rfl, _, _⟩ := own_some ho hn0
  have HC4 : Hid (BoolO w3.heap.size gc capc n ((List.range n).map (comeB l)) w4) := ho
  have HI4 := Lib.hid (HI3.out.below hb4 (Nat.le_refl _))
  have HB4 := Lib.hid (HB3.out.trans (hb4.mono HB3.out.size))
  clear hb4 ho hlc HCm HI3 HB3 hd1
  go_wp2_with fail
  go_loopw [45] (fun x wr => ∃ k : Nat, k ≤ n ∧ x = .int .i64 k ∧ wr = w4) (fun x _ => n - (intOf x).toNat)
  case atStart => exact ⟨0, by omega, rfl, rfl⟩
  case round =>
    obtain ⟨k, hk, rfl, rfl⟩ := hrel
    by_cases hlt : k < n
    · have hd : decide ((k : Int) < (n : Int)) = true := decide_eq_true (by omega)
      have e1 : decide ((n : Int) ≤ (k : Int)) = false := decide_eq_false (by omega)
      have k0 : (0 : Int) ≤ k := by omega
      have k1 : (k : Int) < n := by omega
      have q0 := HI4.out.at hlt
      have q1 := HC4.out.at (k := k) hlt
      rw [map_at _ hlt] at q1
      have hb := HWc.out k hlt
      generalize comeB l k = b at *
      generalize H.getD k 0 = hv at *
      have hbb : (b != b) = false := by cases b <;> rfl
      go_wp2_with fail
      exact ⟨⟨k + 1, by omega, by simp, trivial⟩, by simp [intOf]; omega⟩
    · obtain rfl : k = n := by omega
      have hd : decide ((k : Int) < (k : Int)) = false := decide_eq_false (by omega)
      clear hlt HC4
      have hwt : IntKind.i64.wrap (top - 1) = top - 1 := by simp [IntKind.wrap, IntKind.bits, IntKind.signed]; omega
      go_wp2_with fail
      refine (HHA.out wr HB4.out).mono ?_
      rintro e w5 ⟨v, rfl, ho, hb5⟩
      have HI5 := Lib.hid (HI4.out.below hb5 (Nat.le_refl _))
      rw [← HLH.out] at ho
      obtain ⟨a5, c5, rfl, _, _, hr5⟩ := own_zrow ho
      rw [HLH.out] at hr5 ⊢
      have HZ5 := Lib.hid hr5
      have HB5 := Lib.hid (HB4.out.trans (hb5.mono HB4.out.size))
      clear hb5 ho hr5 HI4 HB4 HHA
      go_wp2_with fail
      refine (HHB.out w5 HB5.out).mono ?_
      rintro e w6 ⟨v, rfl, ho, hb6⟩
      have HI6 := Lib.hid (HI5.out.below hb6 (Nat.le_refl _))
      have HZ5b := Lib.hid (HZ5.out.below hb6 (Nat.le_refl _))
      rw [← HLH.out] at ho
      obtain ⟨a6, c6, rfl, _, _, hr6⟩ := own_zrow ho
      rw [HLH.out] at hr6 ⊢
      have HZ6 := Lib.hid hr6
      have HB6 := Lib.hid (HB5.out.trans (hb6.mono HB5.out.size))
      clear hb6 ho hr6 HI5 HB5 HHB HZ5
      have HT2 : Hid (top - 1 = top - 1) := rfl
      generalize hE1 : (htA l (top - 1)).2.2 = E1 at *
      generalize (htA l (top - 1)).2.1 = N1 at *
      generalize (htA l (top - 1)).1 = H1 at *
      have hfin : (top == 0) = true ∧ (E1 == 5) = true ∨ (top == 0) = false ∧ (E1 == 122) = true := by
        rcases hls with ⟨q1, q2⟩ | ⟨q1, q2⟩
        · left
          rw [q2] at hE1
          refine ⟨by simpa using q1, ?_⟩
          rw [← hE1]; rfl
        · right
          exact ⟨by simp only [beq_eq_false_iff_ne, ne_eq]; omega, by rw [q2]; rfl⟩
      clear hls hE1 HT2
      go_wp2_with fail
      refine (HHC.out w6 HB6.out).mono ?_
      rintro e w7 ⟨v, rfl, ho, hb7⟩
      obtain ⟨a7, c7, rfl, _, _⟩ := own_shape ho
      have hz : ZRow w7 (some ⟨g, 0, none⟩) k H := by
        have hi := HI6.out.below hb7 (Nat.le_refl _)
        exact ⟨HLH.out, .inr ⟨g, 0, rfl, fun j hj => by rw [Nat.zero_add]; exact hi.at hj⟩⟩
      have HS1 := Lib.hid (same_any H H a5 k c5 (some ⟨g, 0, none⟩) k cap (by omega) w7 (HZ5b.out.below hb7 (Nat.le_refl _)) hz)
      have HS2 := Lib.hid (same_any H H a6 k c6 (some ⟨g, 0, none⟩) k cap (by omega) w7 (HZ6.out.below hb7 (Nat.le_refl _)) hz)
      rw [decide_eq_true (rfl : H = H)] at HS1 HS2
      have HB7 := Lib.hid (HB6.out.trans (hb7.mono HB6.out.size))
      clear hb7 ho hz HHC HB6 HI6 HZ5b HZ6 hd hwt
      go_wp2_with fail
      refine HS1.out.mono ?_
      rintro e w8 ⟨rfl, rfl⟩
      go_wp2_with fail
      refine HS2.out.mono ?_
      rintro e w9 ⟨rfl, rfl⟩
      clear HS1 HS2
      rcases hfin with ⟨q1, q2⟩ | ⟨q1, q2⟩
      · go_wp2_with fail
        go_ret
        exact ⟨rfl, HB7.out⟩
      · go_wp2_with fail
        go_ret
        exact ⟨rfl, HB7.out⟩
end Hgt
end Go.Proofs.YteingehdkpfpcaaDoor
