/- The walk of CostSteps, over what the program's calls answer. -/
import Derived.Test.YtcmbkoghhhhmcaaDoorCodeMay
import Derived.Test.YtcmbkoghhhhmcaaDoorCodeOwn
import Derived.Test.YtcmbkoghhhhmcaaDoorCostR
import Derived.Test.YtcmbkoghhhhmcaaDoorFlowVal
namespace Go.Proofs.YtcmbkoghhhhmcaaDoor
open Go.ChangeShapes Go.WideShapes Go.ChangeAt Go.RowKit
namespace Cst
open Isa Flw
set_option linter.unusedVariables false
set_option linter.unusedSimpArgs false
def CheckC : Prop := ∀ (l : List Iv) (a : Option Addr) (n c : Nat) (w : World), Tabs w → n ≤ c → c ≤ 9223372036854775807 → IRow w a n l →
  Calls Tryd.prog 13 #[.slice a n c] w fun e w' => e = .returned (.tuple #[.int .i64 (chkN l : Nat), .int .i64 (chkE l)]) ∧ Below w.heap.size w w'
def ComeC : Prop := ∀ (l : List Iv) (a : Option Addr) (n c : Nat) (w : World), Tabs w → n ≤ c → c ≤ 9223372036854775807 → IRow w a n l →
  Calls Tryd.prog 14 #[.slice a n c] w fun e w' => ∃ v, e = .returned v ∧ w'.ownsRow w.heap.size 4 1 v (comeL l).length (bls (comeL l)) ∧ Below w.heap.size w w'
def OrderC : Prop := ∀ (l : List Iv) (a : Option Addr) (n c : Nat) (w : World), Tabs w → n ≤ c → c ≤ 9223372036854775807 → IRow w a n l →
  Calls Tryd.prog 15 #[.slice a n c] w fun e w' => ∃ v, e = .returned (.tuple #[v, .bool (ordA l).2]) ∧ numsP w.heap.size (ordA l).1 w' v ∧ Below w.heap.size w w'
/-- cost.From, of any program -/
def FromC : Prop := ∀ (l : List Iv) (a : Option Addr) (n c : Nat) (w : World), Tabs w → n ≤ c → c ≤ 9223372036854775807 → IRow w a n l →
  Calls Tryd.prog 7 #[.slice a n c] w fun e w' => fromP l w e w'
def BehindC : Prop := ∀ (l : List Iv) (a : Option Addr) (n c : Nat) (k : Int) (w : World), Tabs w → n ≤ c → c ≤ 9223372036854775807 → -9223372036854775808 ≤ k → k ≤ 9223372036854775807 → IRow w a n l →
  Calls Tryd.prog 12 #[.slice a n c, .int .i64 k] w fun e w' => ∃ v, e = .returned v ∧ numsP w.heap.size (behA l k) w' v ∧ Below w.heap.size w w'
def KnownC : Prop := ∀ (w : World), Tabs w → Calls Tryd.prog 6 #[] w fun e w' => e = .returned (.bool true) ∧ Below w.heap.size w w'
/-- numbers of 32 bits, of the call's own -/
def UO (S g cap n : Nat) (l : List Nat) (w : World) : Prop := w.ownsRow S 28 1 (.slice (some ⟨g, 0, none⟩) n cap) n (u32s l)
theorem UO.len {S g cap n : Nat} {l : List Nat} {w : World} (h : UO S g cap n l w) : l.length = n := by have := h.1; unfold u32s at this; simpa using this
theorem UO.at {S g cap n : Nat} {l : List Nat} {w : World} (h : UO S g cap n l w) {k : Nat} (hk : k < n) : w.cell? ⟨g, k, none⟩ = some (.int .u32 ((wf l k : Nat) : Int)) := by
  rw [World.ownsRow.cellAt h k (by omega)]
  exact u32s_at (by rw [h.len]; exact hk)
theorem UO.below {S g cap n : Nat} {l : List Nat} {w w' : World} (h : UO S g cap n l w) {B : Nat} (hb : Below B w w') (hB : w.heap.size ≤ B) : UO S g cap n l w' := own_below h hb hB
theorem frW_at {l : List Iv} (h : frE l = 0) {k : Nat} (hk : k < l.length) : wf (frW l) k = if comeB l k = true then ws l k else 0 := by
  unfold frW wf
  rw [if_pos h, List.getD_eq_getElem?_getD, List.getElem?_map, List.getElem?_range hk]
  rfl
theorem not_free {l : List Iv} (hf : Fine l) (h : frE l ≠ 0) : frE l = 130 ∧ frN l = lpK l ∧ lpK l < l.length ∧ comeB l (lpK l) = true ∧ frW l = [] ∧ ¬ Free l := by
  have hz := (chk_of hf).1
  have hlt : lpK l < l.length := by
    rcases Nat.lt_or_ge (lpK l) l.length with q | q
    · exact q
    · exfalso
      apply h
      unfold frE
      rw [hz, if_neg (by simp), if_neg (by omega)]
  have hE : frE l = 130 := by unfold frE; rw [hz, if_neg (by simp), if_pos hlt]
  have hit := first_hit (p := lpB l) (n := l.length) hlt
  have hit2 : lpB l (lpK l) = true := hit
  unfold lpB at hit2
  simp only [Bool.and_eq_true] at hit2
  refine ⟨hE, ?_, hlt, hit2.1, ?_, fun q => ?_⟩
  · unfold frN; rw [hz, if_neg (by simp), if_pos hlt]
  · unfold frW; rw [hE]; rfl
  · have := q (lpK l) hlt hit2.1
    rw [hit2.2] at this
    cases this
theorem max_two (M x M2 : Nat) (h : M2 = max M x) (X : World) : (Builtin.max_ #[28, 28] 28 #[.int .u32 (M : Int), .int .u32 (x : Int)]).run Tryd.prog X = .ok (.int .u32 ((M2 : Nat) : Int)) X := by
  have h : (if (M : Int) < x then (x : Int) else M) = ((M2 : Nat) : Int) := by split <;> omega
  simp only [Builtin.max_, ← h]
  simp [Builtin.max2]
set_option maxRecDepth 100000 in
set_option maxHeartbeats 12800000 in
theorem steps_walk (w : World) (hT : Tabs w) (hKn : KnownC) (hC : CheckC) (hCo : ComeC) (hO : OrderC) (hF : FromC) (hB : BehindC) (a : Option Addr) (n c : Nat) (l : List Iv) (h : IRow w a n l) (hc : n ≤ c ∧ c ≤ 9223372036854775807) :
    Calls Tryd.prog 5 #[.slice a n c] w fun e w' => e = .returned (.bool true) ∧ Below w.heap.size w w' := by
  have hln : l.length = n := h.1
  have HK := Lib.hid (hKn w hT)
  have HCk := Lib.hid (fun W (hb : Below w.heap.size w W) => hC l a n c W (hT.below hb (Nat.le_refl _)) hc.1 hc.2 (h.below hb (Nat.le_refl _)))
  have HCm := Lib.hid (fun W (hb : Below w.heap.size w W) => hCo l a n c W (hT.below hb (Nat.le_refl _)) hc.1 hc.2 (h.below hb (Nat.le_refl _)))
  have HOr := Lib.hid (fun W (hb : Below w.heap.size w W) => hO l a n c W (hT.below hb (Nat.le_refl _)) hc.1 hc.2 (h.below hb (Nat.le_refl _)))
  have HFr := Lib.hid (fun W (hb : Below w.heap.size w W) => hF l a n c W (hT.below hb (Nat.le_refl _)) hc.1 hc.2 (h.below hb (Nat.le_refl _)))
  have HBh := Lib.hid (fun (k : Int) h1 h2 W (hb : Below w.heap.size w W) => hB l a n c k W (hT.below hb (Nat.le_refl _)) hc.1 hc.2 h1 h2 (h.below hb (Nat.le_refl _)))
  have HW := Lib.hid h.2.1
  clear h hT hKn hC hCo hO hF hB hc
  go_enter Tryd.func5, Tryd.ntmps5
  go_wp2_with fail
  refine HK.out.mono ?_
  rintro e1 w1 ⟨rfl, hb1⟩
  have HB1 := Lib.hid hb1
  clear hb1 HK
  by_cases h3 : 1000 < n
  · have e1 : decide ((1000 : Int) < (n : Int)) = true := decide_eq_true (by omega)
    clear h3
    go_wp2_with fail
    go_ret
    exact ⟨rfl, HB1.out⟩
  have hd1 : decide ((1000 : Int) < (n : Int)) = false := decide_eq_false (by omega)
  by_cases hE : chkE l = 0
  case neg =>
    have hne : (chkE l != 0) = true := by simpa using hE
    clear h3 hE
    generalize chkE l = E at *
    generalize chkN l = N at *
    go_wp2_with fail
    refine (HCk.out w1 HB1.out).mono ?_
    rintro e w2 ⟨rfl, hb2⟩
    have HB2 := Lib.hid (HB1.out.trans (hb2.mono HB1.out.size))
    clear hb2
    go_wp2_with fail
    go_ret
    exact ⟨rfl, HB2.out⟩
  have hf := fine_of hE
  have hn0 : 0 < n := by have := hf.some; omega
  have hn2 : n ≤ 1000 := by omega
  have hN0 : chkN l = 0 := (chk_of hf).2
  have hco : comeL l = (List.range n).map (comeB l) := by unfold comeL; rw [if_pos hE, hln]
  rw [hE, hN0] at HCk
  rw [hco] at HCm
  have hlc : ((List.range n).map (comeB l)).length = n := by simp
  rw [hlc] at HCm
  by_cases hfe : frE l = 0
  case neg =>
    obtain ⟨x1, x2, x3, x4, x5, x6⟩ := not_free hf hfe
    have hok : (ordA l).2 = false := by
      cases q : (ordA l).2 with
      | false => rfl
      | true => exact absurd (order_free hf HW.out q) x6
    unfold fromP at HFr
    rw [x1, x2, x5] at HFr
    rw [hok] at HOr
    have hkn : lpK l < n := by omega
    clear h3 hE hf hN0 hco hln hfe x1 x2 x3 x5 x6 hok hlc HBh
    generalize lpK l = K at *
    generalize (ordA l).1 = T at *
    go_wp2_with fail
    refine (HCk.out w1 HB1.out).mono ?_
    rintro e w2 ⟨rfl, hb2⟩
    have HB2 := Lib.hid (HB1.out.trans (hb2.mono HB1.out.size))
    clear hb2
    go_wp2_with fail
    refine (HFr.out w2 HB2.out).mono ?_
    rintro e w3 ⟨⟨v, rfl, ho⟩, hb3⟩
    obtain ⟨a3, c3, rfl, _, _⟩ := own_shape ho
    have HB3 := Lib.hid (HB2.out.trans (hb3.mono HB2.out.size))
    clear hb3 ho
    go_wp2_with fail
    refine (HCm.out w3 HB3.out).mono ?_
    rintro e w4 ⟨v, rfl, ho, hb4⟩
    obtain ⟨g, cap, rfl, _, _⟩ := own_some ho hn0
    have HC4 : Hid (BoolO w3.heap.size g cap n ((List.range n).map (comeB l)) w4) := ho
    have HB4 := Lib.hid (HB3.out.trans (hb4.mono HB3.out.size))
    clear hb4 ho
    go_wp2_with fail
    refine (HOr.out w4 HB4.out).mono ?_
    rintro e w5 ⟨v, rfl, ho, hb5⟩
    obtain ⟨a5, c5, rfl, _, _, _, _⟩ := nums_row ho
    have HC5 := Lib.hid (HC4.out.below hb5 (Nat.le_refl _))
    have HB5 := Lib.hid (HB4.out.trans (hb5.mono HB4.out.size))
    clear hb5 ho
    have qk := HC5.out.at hkn
    rw [map_at _ hkn, x4] at qk
    have k0 : (0 : Int) ≤ K := by omega
    have k1 : (K : Int) < n := by omega
    have e1 : decide ((K : Int) < 0) = false := decide_eq_false (by omega)
    have e2 : decide ((n : Int) ≤ (K : Int)) = false := decide_eq_false (by omega)
    clear x4
    go_wp2_with fail
    go_ret
    exact ⟨rfl, HB5.out⟩
  obtain ⟨_, hfr⟩ := fr_free hfe
  have hok : (ordA l).2 = true := free_order hf HW.out hfr
  have hfn : frN l = 0 := (fr_of hf hfr).2
  have hlw : (frW l).length = n := by unfold frW; rw [if_pos hfe, List.length_map, List.length_range]; exact hln
  have HWa : Hid (∀ k, k < n → comeB l k = true → wf (frW l) k = 1 + maxL (wf (frW l)) (behL l k)) := fun k hk q => by
    rw [frW_at hfe (by omega), if_pos q, ws_eq hf HW.out hfr (comeB_iff.1 q)]
    congr 1
    refine maxL_congr fun m hm => ?_
    have hcm := Come.step (comeB_iff.1 q) hm
    rw [frW_at hfe (come_lt hf HW.out hcm), if_pos (comeB_iff.2 hcm)]
  have HWn : Hid (∀ k, k < n → comeB l k = false → wf (frW l) k = 0) := fun k hk q => by
    rw [frW_at hfe (by omega), if_neg (by rw [q]; simp)]
  have HWu : Hid (∀ k, k < n → wf (frW l) k ≤ n + 1) := fun k hk => by
    rw [frW_at hfe (by omega)]
    split
    · rename_i q
      have := ws_le hf HW.out hfr (comeB_iff.1 q); omega
    · omega
  have HMx := Lib.hid (fun (k : Nat) (hk : k < n) m (hm : m ∈ behL l k) => beh_lt hf HW.out (show k < l.length by omega) hm)
  have HBin : Hid (∀ i, i < n → ∀ W, Below w.heap.size w W → Calls Tryd.prog 12 #[.slice a n c, .int .i64 (i : Int)] W fun e w' => ∃ v, e = .returned v ∧ numsP W.heap.size (behL l i) w' v ∧ Below W.heap.size W w') := fun i hi W hb => by
    have := HBh.out (i : Int) (by omega) (by omega) W hb
    rwa [behA_in hE (by omega)] at this
  unfold fromP at HFr
  rw [hfe, hfn, hlw] at HFr
  rw [hok] at HOr
  have HLn := Lib.hid hln
  clear h3 hE hf hN0 hco hln hfe hok hlc HBh hfr hfn hlw
  generalize (ordA l).1 = T at *
  generalize frW l = W at *
  go_wp2_with fail
  refine (HCk.out w1 HB1.out).mono ?_
  rintro e w2 ⟨rfl, hb2⟩
  have HB2 := Lib.hid (HB1.out.trans (hb2.mono HB1.out.size))
  clear hb2 HB1 HCk
  go_wp2_with fail
  refine (HFr.out w2 HB2.out).mono ?_
  rintro e w3 ⟨⟨v, rfl, ho⟩, hb3⟩
  obtain ⟨g3, cap3, rfl, _, _⟩ := own_some ho hn0
  have HU3 : Hid (UO w2.heap.size g3 cap3 n W w3) := ho
  have HB3 := Lib.hid (HB2.out.trans (hb3.mono HB2.out.size))
  clear hb3 ho HB2 HFr
  go_wp2_with fail
  refine (HCm.out w3 HB3.out).mono ?_
  rintro e w4 ⟨v, rfl, ho, hb4⟩
  obtain ⟨g, cap, rfl, _, _⟩ := own_some ho hn0
  have HC4 : Hid (BoolO w3.heap.size g cap n ((List.range n).map (comeB l)) w4) := ho
  have HU4 := Lib.hid (HU3.out.below hb4 (Nat.le_refl _))
  have HB4 := Lib.hid (HB3.out.trans (hb4.mono HB3.out.size))
  clear hb4 ho HB3 HCm HU3
  go_wp2_with fail
  refine (HOr.out w4 HB4.out).mono ?_
  rintro e w5 ⟨v, rfl, ho, hb5⟩
  obtain ⟨a5, c5, rfl, _, _, _, _⟩ := nums_row ho
  have HF5 := Lib.hid (fun X (hb : Below w5.heap.size w5 X) => And.intro ((HC4.out.below hb5 (Nat.le_refl _)).below hb (Nat.le_refl _)) (And.intro ((HU4.out.below hb5 (Nat.le_refl _)).below hb (Nat.le_refl _)) ((HB4.out.trans (hb5.mono HB4.out.size)).trans (hb.mono (HB4.out.trans (hb5.mono HB4.out.size)).size))))
  clear hb5 ho HB4 HOr HC4 HU4 hd1
  go_wp2_with fail
  go_loopw [73] (fun x wr => ∃ i : Nat, i ≤ n ∧ x = .int .i64 i ∧ Below w5.heap.size w5 wr) (fun x _ => n - (intOf x).toNat)
  case atStart => exact ⟨0, by omega, rfl, Below.refl _ _⟩
  case round =>
    obtain ⟨i, hi, rfl, hbel⟩ := hrel
    have HBw := Lib.hid hbel
    clear hbel
    by_cases hlt : i < n
    · have hd : decide ((i : Int) < (n : Int)) = true := decide_eq_true (by omega)
      have i0 : (0 : Int) ≤ i := by omega
      have i1 : (i : Int) < n := by omega
      have HBx := Lib.hid (HBin.out i hlt wr (HF5.out wr HBw.out).2.2)
      go_wp2_with fail
      refine HBx.out.mono ?_
      rintro e w6 ⟨v, rfl, ho, hb6⟩
      obtain ⟨a6, c6, rfl, _, _, hr6, _⟩ := nums_row ho
      have HN6 := Lib.hid hr6
      have HB6 := Lib.hid (HBw.out.trans (hb6.mono HBw.out.size))
      clear hb6 ho hr6 HBx hd HBw
      have hl2 := beh_len l i
      have HMi := Lib.hid (HMx.out i hlt)
      have HTk := Lib.hid (fun j hj => maxL_take (wf W) (ms := behL l i) (j := j) hj)
      have HTa : Hid (maxL (wf W) ((behL l i).take (behL l i).length) = maxL (wf W) (behL l i)) := by show _ = _; rw [List.take_length]
      have HT0 : Hid (maxL (wf W) ((behL l i).take 0) = 0) := rfl
      generalize hNL : (behL l i).length = p at *
      have HNL := Lib.hid hNL
      clear hNL
      obtain ⟨wq, hwq⟩ : ∃ wq : World, wq = wr := ⟨_, rfl⟩
      subst hwq
      go_wp2_with fail
      go_loopw [12, 80] (fun u x wr => ∃ (j : Nat), j ≤ p ∧ u = .int .u32 ((maxL (wf W) ((behL l i).take j) : Nat) : Int) ∧ x = .int .i64 j ∧ maxL (wf W) ((behL l i).take j) ≤ n + 1 ∧ wr = w6) (fun _ x _ => p - (intOf x).toNat)
      case atStart => exact ⟨0, by omega, by rw [HT0.out]; rfl, rfl, by rw [HT0.out]; omega, rfl⟩
      case round =>
        obtain ⟨j, hj, rfl, rfl, hub, rfl⟩ := hrel
        by_cases hjp : j < p
        · have hd : decide ((j : Int) < (p : Int)) = true := decide_eq_true (by omega)
          obtain ⟨bv, ov, rfl, hcv⟩ := HN6.out.at j hjp
          have hmn : (behL l i).getD j 0 < n := by have := HMi.out _ (getD_mem 0 (by rw [HNL.out]; exact hjp)); have := HLn.out; omega
          have HTj := Lib.hid (HTk.out j hjp)
          have qm := (HF5.out wr HB6.out).2.1.at hmn
          have hsm := HWu.out _ hmn
          generalize (behL l i).getD j 0 = m at *
          have HUb : Hid (maxL (wf W) ((behL l i).take (j + 1)) ≤ n + 1) := by show _ ≤ _; rw [HTj.out]; omega
          obtain ⟨M2, hM2⟩ : ∃ M2, maxL (wf W) ((behL l i).take (j + 1)) = M2 := ⟨_, rfl⟩
          have HM2 := Lib.hid hM2
          rw [hM2] at HTj HUb
          clear hM2
          generalize maxL (wf W) ((behL l i).take j) = M at *
          generalize wf W m = x at *
          have m0 : (0 : Int) ≤ m := by omega
          have m1 : (m : Int) < n := by omega
          have j0 : (0 : Int) ≤ j := by omega
          have j1 : (j : Int) < p := by omega
          have hrun := max_two M x M2 HTj.out
          go_wp2_with fail
          exact ⟨⟨j + 1, by omega, by rw [HM2.out], by simp, by rw [HM2.out]; exact HUb.out, trivial⟩, by simp [intOf]; omega⟩
        · obtain rfl : j = p := by omega
          have hd : decide ((j : Int) < (j : Int)) = false := decide_eq_false (by omega)
          rw [HTa.out] at hub ⊢
          have qc := (HF5.out wr HB6.out).1.at hlt
          rw [map_at _ hlt] at qc
          have qw := (HF5.out wr HB6.out).2.1.at hlt
          have H1 := Lib.hid (HWa.out i hlt)
          have H0 := Lib.hid (HWn.out i hlt)
          clear HTk HTa HT0 hjp HN6 HMi
          cases hci : comeB l i with
          | true =>
            have hv := H1.out hci
            rw [hci] at qc
            rw [hv] at qw
            clear hci hv H1 H0
            generalize maxL (wf W) (behL l i) = M at *
            have hw1 : IntKind.u32.wrap ((M : Int) + 1) = ((1 + M : Nat) : Int) := by simp [IntKind.wrap, IntKind.bits, IntKind.signed]; omega
            have hne : ((((1 + M : Nat)) : Int) != (((1 + M : Nat)) : Int)) = false := by simp
            generalize 1 + M = M1 at *
            go_wp2_with fail
            exact ⟨⟨i + 1, by omega, by simp, HB6.out⟩, by simp [intOf]; omega⟩
          | false =>
            have hv := H0.out hci
            rw [hci] at qc
            rw [hv] at qw
            clear hci hv H1 H0
            generalize maxL (wf W) (behL l i) = M at *
            go_wp2_with fail
            exact ⟨⟨i + 1, by omega, by simp, HB6.out⟩, by simp [intOf]; omega⟩
    · obtain rfl : i = n := by omega
      have hd : decide ((i : Int) < (i : Int)) = false := decide_eq_false (by omega)
      go_wp2_with fail
      go_ret
      exact ⟨rfl, (HF5.out wr HBw.out).2.2⟩
end Cst
end Go.Proofs.YtcmbkoghhhhmcaaDoor
