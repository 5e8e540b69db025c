/- The walk of FlowWays, over what the program's calls answer. -/
import Derived.Test.YteingehdkpfpcaaDoorFlowKnown
import Derived.Test.YteingehdkpfpcaaDoorFlowMath4
import Derived.Test.YteingehdkpfpcaaDoorFlowInts
namespace Go.Proofs.YteingehdkpfpcaaDoor
open Go.ChangeShapes Go.WideShapes Go.ChangeAt Go.RowKit
namespace Flw
open Isa
set_option linter.unusedVariables false
set_option linter.unusedSimpArgs false
set_option maxRecDepth 100000 in
set_option maxHeartbeats 12800000 in
theorem ways_walk (w : World) (hT : Tabs w) (hC : CheckC) (hCo : ComeC) (hO : OrderC) (hB : BehindC) (a : Option Addr) (n c : Nat) (l : List Iv) (h : IRow w a n l) (hc : n ≤ c ∧ c ≤ 9223372036854775807) (a2 : Option Addr) (m2 c2 : Nat) (ch : List Bool) (h2 : CRow w a2 m2 ch) (hc2 : m2 ≤ c2 ∧ c2 ≤ 9223372036854775807) :
    Calls Tryd.prog 4 #[.slice a n c, .slice a2 m2 c2] w fun e w' => e = .returned (.bool true) ∧ Below w.heap.size w w' := by
  have hln : l.length = n := h.1
  have HK := Lib.hid (known_any w hT hC hO hB)
  have HCk := Lib.hid (fun W (hb : Below w.heap.size w W) => hC l a n c W (hT.below hb (Nat.le_refl _)) hc.1 hc.2 (h.below hb (Nat.le_refl _)))
  have HCm := Lib.hid (fun W (hb : Below w.heap.size w W) => hCo l a n c W (hT.below hb (Nat.le_refl _)) hc.1 hc.2 (h.below hb (Nat.le_refl _)))
  have HOr := Lib.hid (fun W (hb : Below w.heap.size w W) => hO l a n c W (hT.below hb (Nat.le_refl _)) hc.1 hc.2 (h.below hb (Nat.le_refl _)))
  have HBh := Lib.hid (fun (k : Int) h1 h2 W (hb : Below w.heap.size w W) => hB l a n c k W (hT.below hb (Nat.le_refl _)) hc.1 hc.2 h1 h2 (h.below hb (Nat.le_refl _)))
  have HRow := Lib.hid (fun W (hb : Below w.heap.size w W) k (hk : k < n) => (h.below hb (Nat.le_refl _)).at k hk)
  have HCh := Lib.hid (fun W (hb : Below w.heap.size w W) => h2.below hb (Nat.le_refl _))
  have HW := Lib.hid h.2.1
  have HL := Lib.hid hln
  clear h hT hC hCo hO hB hc h2 hc2
  go_enter Tryd.func4, Tryd.ntmps4
  go_wp2_with fail
  refine HK.out.mono ?_
  rintro e1 w1 ⟨rfl, hb1⟩
  have HB1 := Lib.hid hb1
  clear hb1 HK
  by_cases h3 : 2000 < n
  · have e1 : decide ((2000 : Int) < (n : Int)) = true := decide_eq_true (by omega)
    clear h3
    go_wp2_with fail
    go_ret
    exact ⟨rfl, HB1.out⟩
  have hd1 : decide ((2000 : Int) < (n : Int)) = false := decide_eq_false (by omega)
  by_cases hE : chkE l = 0
  case neg =>
    have hne : (chkE l != 0) = true := by simpa using hE
    clear h3 hE
    generalize chkE l = E at *
    generalize chkN l = N at *
    go_wp2_with fail
    refine (HCk.out w1 HB1.out).mono ?_
    rintro e w2 ⟨rfl, hb2⟩
    have HB2 := Lib.hid (HB1.out.trans (hb2.mono HB1.out.size))
    clear hb2
    go_wp2_with fail
    go_ret
    exact ⟨rfl, HB2.out⟩
  have hf := fine_of hE
  have hn0 : 0 < n := by have := hf.some; omega
  have hn2 : n ≤ 2000 := by omega
  have hN0 : chkN l = 0 := (chk_of hf).2
  have hco : comeL l = (List.range n).map (comeB l) := by unfold comeL; rw [if_pos hE, hln]
  have HBin : Hid (∀ i, i < n → ∀ W, Below w.heap.size w W → Calls Tryd.prog 14 #[.slice a n c, .int .i64 (i : Int)] W fun e w' => ∃ v, e = .returned v ∧ numsP W.heap.size (behL l i) w' v ∧ Below W.heap.size W w') := fun i hi W hb => by
    have := HBh.out (i : Int) (by omega) (by omega) W hb
    rwa [behA_in hE (by omega)] at this
  have HCome : Hid (∀ x m, Come l x → m ∈ behL l x → Come l m) := fun x m hx hm => .step hx hm
  have HLt : Hid (∀ x, Come l x → x < n) := fun x hx => by have := come_lt hf HW.out hx; omega
  have HTo : Hid ((ordA l).2 = true → Flw.Told l (ordA l).1 ∧ (∀ x m, Come l x → m ∈ behL l x → pl (ordA l).1 x < pl (ordA l).1 m) ∧ pl (ordA l).1 0 = 1) := fun q => by
    obtain ⟨t1, t2⟩ := ord_told q
    exact ⟨t1, fun x m hx hm => pl_edge hf HW.out t1 t2 hx hm, pl_first hf HW.out t1 t2⟩
  have HNo : Hid ((ordA l).2 = false → (ordA l).1 = []) := fun q => ord_no q
  have HTn : Hid ((ordA l).1.Nodup ∧ (∀ x ∈ (ordA l).1, x < n) ∧ (ordA l).1.length ≤ n) := by
    cases q : (ordA l).2 with
    | true =>
      have t1 := (ord_told q).1
      exact ⟨t1.nodup, fun x hx => by have := t1.lt x hx; omega, by have := told_len t1; omega⟩
    | false =>
      rw [ord_no q]
      exact ⟨List.nodup_nil, by simp, by simp⟩
  rw [hE, hN0] at HCk
  rw [hco] at HCm
  clear h3 hE hf hN0 hco hln HBh
  generalize hOA : ordA l = OA at *
  obtain ⟨T, ok⟩ := OA
  simp only at *
  clear hOA
  go_wp2_with fail
  refine (HCk.out w1 HB1.out).mono ?_
  rintro e w2 ⟨rfl, hb2⟩
  have HB2 := Lib.hid (HB1.out.trans (hb2.mono HB1.out.size))
  clear hb2 HCk HB1
  go_wp2_with fail
  refine (HCm.out w2 HB2.out).mono ?_
  rintro e w3 ⟨v, rfl, ho, hb3⟩
  have hlc : ((List.range n).map (comeB l)).length = n := by simp
  rw [hlc] at ho
  obtain ⟨g, cap, rfl, _, _⟩ := own_some ho hn0
  have HC3 : Hid (BoolO w2.heap.size g cap n ((List.range n).map (comeB l)) w3) := ho
  have HB3 := Lib.hid (HB2.out.trans (hb3.mono HB2.out.size))
  clear hb3 ho hlc HCm HB2
  go_wp2_with fail
  refine (HOr.out w3 HB3.out).mono ?_
  rintro e w4 ⟨v, rfl, ho, hb4⟩
  obtain ⟨a4, c4, rfl, _, _, hr4, _⟩ := nums_row ho
  have HC4 := Lib.hid (HC3.out.below hb4 (Nat.le_refl _))
  have HO4 := Lib.hid hr4
  have HB4 := Lib.hid (HB3.out.trans (hb4.mono HB3.out.size))
  clear hb4 ho hr4 HC3 HB3 HOr
  have hmk := run_make_ints w4 n (by omega)
  have HP0 := Lib.hid (show PRow (w4.alloc (.cells (ints (List.replicate n 0)).toArray 3)) w4.heap.size (List.replicate n 0) from heap_alloc_new w4 _)
  have hal := (Below.refl w4.heap.size w4).alloc (Nat.le_refl _) (.cells (ints (List.replicate n 0)).toArray 3)
  have HC5 := Lib.hid (HC4.out.below hal (Nat.le_refl _))
  have HO5 := Lib.hid (HO4.out.below hal (Nat.le_refl _))
  have HB5 := Lib.hid (HB4.out.alloc HB4.out.size (.cells (ints (List.replicate n 0)).toArray 3))
  have HS5 : Hid (w.heap.size ≤ w4.heap.size) := HB4.out.size
  have HOne : Hid (∀ b off, a4 = some ⟨b, off, none⟩ → T.length ≠ 0 → b ≠ w4.heap.size) := fun b off e q => by
    subst e
    rcases HO4.out.2 with q' | ⟨b', off', e', hc'⟩
    · exact absurd q' q
    · injection e' with e'
      injection e' with e1 e2
      subst e1
      have := World.block_lt_of_cell? _ _ (hc' 0 (by omega))
      have : b < w4.heap.size := this
      omega
  have HGne : Hid (g ≠ w4.heap.size) := Nat.ne_of_lt HC4.out.ge.2
  clear hal HC4 HO4 HB4
  go_upto_region 11 with fail
  clear hmk
  generalize w4.alloc (.cells (ints (List.replicate n 0)).toArray 3) = w5 at *
  generalize w4.heap.size = PL at *
  have HP1 : Hid (PRow w5 PL (plc n T 0)) := by show PRow _ _ _; rw [plc_zero]; exact HP0.out
  go_wp2_with fail
  go_loopw [41] (fun x wr => ∃ i : Nat, i ≤ T.length ∧ x = .int .i64 i ∧ PRow wr PL (plc n T i) ∧ NRow wr a4 T.length T ∧ BoolO w2.heap.size g cap n ((List.range n).map (comeB l)) wr ∧ Below w.heap.size w wr) (fun x _ => T.length - (intOf x).toNat)
  case atStart => exact ⟨0, by omega, rfl, HP1.out, HO5.out, HC5.out, HB5.out⟩
  case round =>
    clear HP0 HP1 HO5 HC5 HB5
    obtain ⟨i, hi, rfl, hpr, hor, hcr, hbel⟩ := hrel
    have HP := Lib.hid hpr
    have HO := Lib.hid hor
    have HC := Lib.hid hcr
    have HB := Lib.hid hbel
    clear hpr hor hcr hbel
    by_cases hlt : i < T.length
    · have hd : decide ((i : Int) < (T.length : Int)) = true := decide_eq_true (by omega)
      have i0 : (0 : Int) ≤ i := by omega
      have i1 : (i : Int) < (T.length : Int) := by omega
      obtain ⟨b, off, rfl, ho⟩ := HO.out.at i hlt
      have hx : T.getD i 0 < n := HTn.out.2.1 _ (getD_mem 0 hlt)
      have q0 := HP.out.at (k := T.getD i 0) (by rw [plc_len]; exact hx)
      rw [plc_free HTn.out.1 hlt hx] at q0
      have f0 := HP.out.free (T.getD i 0)
      have HP2 := Lib.hid (HP.out.set (T.getD i 0) ((i + 1 : Nat) : Int))
      rw [plc_step HTn.out.1 hlt] at HP2
      have hob := HOne.out b off rfl (by omega)
      have HO2 := Lib.hid (nrow_set HO.out (o := PL) (fun b' off' e => by injection e with e; injection e with e1; rw [← e1]; exact hob) (T.getD i 0) (.int .i64 ((i + 1 : Nat) : Int)))
      have HC2 := Lib.hid (show BoolO w2.heap.size g cap n _ (wr.setCell ⟨PL, T.getD i 0, none⟩ (.int .i64 ((i + 1 : Nat) : Int))) from by
        refine ⟨HC.out.1, ?_⟩
        rcases HC.out.2 with q | ⟨g', cap', cur, e, r1, hh, r⟩
        · exact .inl q
        · have eg : g = g' := by injection e with e; injection e with e; injection e
          refine .inr ⟨g', cap', cur, e, r1, ?_, r⟩
          rw [setCell_blk wr g' PL _ _ (by rw [← eg]; exact HGne.out)]
          exact hh)
      have HB2 := Lib.hid (HB.out.setCell (p := ⟨PL, T.getD i 0, none⟩) HS5.out (.int .i64 ((i + 1 : Nat) : Int)))
      have hw1 : IntKind.i64.wrap ((i : Int) + 1) = ((i + 1 : Nat) : Int) := by
        have := HTn.out.2.2
        simp [IntKind.wrap, IntKind.bits, IntKind.signed]; omega
      clear HP HO HC HB
      generalize T.getD i 0 = x at *
      have x0 : (0 : Int) ≤ x := by omega
      have x1 : (x : Int) < n := by omega
      have e1 : decide ((x : Int) < 0) = false := decide_eq_false (by omega)
      have e2 : decide ((n : Int) ≤ (x : Int)) = false := decide_eq_false (by omega)
      go_wp2_with fail
      exact ⟨⟨i + 1, by omega, by simp, HP2.out, HO2.out, HC2.out, HB2.out⟩, by simp [intOf]; omega⟩
    · obtain rfl : i = T.length := by omega
      have hd : decide ((T.length : Int) < (T.length : Int)) = false := decide_eq_false (by omega)
      have hnn : ((n : Int) != (n : Int)) = false := by simp
      have q0 := HP.out.at (k := 0) (by rw [plc_len]; exact hn0)
      rw [plc_full T hn0] at q0
      have n0 : (0 : Int) < n := by omega
      clear hlt hi HO
      have HFr := Lib.hid (fun W (hb : Below wr.heap.size wr W) => And.intro (HP.out.below hb (Nat.le_refl _)) (And.intro (HC.out.below hb (Nat.le_refl _)) (HB.out.trans (hb.mono HB.out.size))))
      have HB0 := Lib.hid (Below.refl wr.heap.size wr)
      have hw2 : IntKind.i64.wrap ((n : Int) + 1) = ((n + 1 : Nat) : Int) := by
        simp [IntKind.wrap, IntKind.bits, IntKind.signed]; omega
      have hp0 : ok = true → ((pl T 0 : Nat) : Int) = 1 := fun q => by rw [(HTo.out q).2.2]; rfl
      have HLp : Hid (∀ x, pl T x ≤ n) := fun x => Nat.le_trans (pl_le T x) HTn.out.2.2
      have HS0 : Hid (ok = true → 1 ≤ pl T 0) := fun q => by rw [(HTo.out q).2.2]; exact Nat.le_refl _
      clear HP HC HB
      have HPC : Hid (∀ x, x < n → (plc n T T.length).getD x 0 = ((pl T x : Nat) : Int)) := fun x hx => plc_full T hx
      have HPl : Hid ((plc n T T.length).length = n) := plc_len n T _
      generalize plc n T T.length = PC at *
      cases ok with
      | true =>
        have hp1 := hp0 rfl
        rw [hp1] at q0
        clear hp0 hp1
        obtain ⟨wo, hwo⟩ : ∃ wo : World, wo = wr := ⟨_, rfl⟩
        subst hwo
        go_wp2_with fail
        clear hnn hd
        go_loopw [13, 14, 84] (fun x tn i wr => ∃ (X t k : Nat), k ≤ n + 1 ∧ t ≤ k ∧ x = .int .i64 X ∧ tn = .int .i64 t ∧ i = .int .i64 k ∧ Come l X ∧ (k + 1 ≤ pl T X) ∧ Below wo.heap.size wo wr) (fun _ _ i _ => n + 1 - (intOf i).toNat)
        case atStart => exact ⟨0, 0, 0, by omega, by omega, rfl, rfl, rfl, .zero, HS0.out (by first | trivial | rfl), HB0.out⟩
        case round =>
          clear HB0 HS0
          obtain ⟨X, t, k, hk, htk, rfl, rfl, rfl, hXc, hXp, hbel⟩ := hrel
          have HXc := Lib.hid hXc
          have HXp := Lib.hid hXp
          have HBw := Lib.hid hbel
          have hXn := HLt.out X hXc
          clear hXc hXp hbel
          by_cases hkn : k < n + 1
          · have hd : decide ((k : Int) < ((n + 1 : Nat) : Int)) = true := decide_eq_true (by omega)
            have hd2 : decide ((k : Int) < (n : Int) + 1) = true := decide_eq_true (by omega)
            have x0 : (0 : Int) ≤ X := by omega
            have x1 : (X : Int) < n := by omega
            have qc := (HFr.out wr HBw.out).2.1.at hXn
            rw [map_at _ hXn, comeB_iff.2 HXc.out] at qc
            have qp := (HFr.out wr HBw.out).1.at (k := X) (by rw [HPl.out]; exact hXn)
            rw [HPC.out _ hXn] at qp
            have epx : (((pl T X : Nat) : Int) == 0) = false := by have := HXp.out; simp only [beq_eq_false_iff_ne, ne_eq]; omega
            obtain ⟨pz, hpz⟩ : ∃ pz, pl T X = pz := ⟨_, rfl⟩
            rw [hpz] at qp epx
            clear hpz
            have HBx := Lib.hid (HBin.out X hXn wr (HFr.out wr HBw.out).2.2)
            go_wp2_with fail
            refine HBx.out.mono ?_
            rintro e w7 ⟨v, rfl, ho, hb7⟩
            obtain ⟨a7, c7, rfl, _, _, hr7, _⟩ := nums_row ho
            have HN7 := Lib.hid hr7
            have HB7 := Lib.hid (HBw.out.trans (hb7.mono HBw.out.size))
            clear hb7 ho hr7 HBx qc hd hd2 epx qp HBw
            have hl2 := beh_len l X
            cases hbm : behL l X with
            | nil =>
              obtain ⟨b, off, rfl, hc7, _⟩ := HRow.out w7 (HFr.out w7 HB7.out).2.2 X hXn
              obtain ⟨d0, d1, d2, d3⟩ := hc7
              have h27 := beh_none hbm
              rw [h27] at d0
              rw [hbm] at HN7
              generalize l.getD X iz = ix at *
              obtain ⟨op, ia, ib, ic⟩ := ix
              simp only at *
              clear hbm h27
              go_wp2_with fail
              go_ret
              exact ⟨rfl, (HFr.out w7 HB7.out).2.2⟩
            | cons m r =>
              rw [hbm] at HN7 hl2
              obtain ⟨b, off, rfl, q1⟩ := HN7.out.at 0 (by simp)
              have hm1 : m ∈ behL l X := by rw [hbm]; simp
              simp only [List.getD_cons_zero, Nat.add_zero] at q1
              cases r with
              | nil =>
                have HYc := Lib.hid (HCome.out X m HXc.out hm1)
                have hYn := HLt.out m HYc.out
                have HYp : Hid (k + 1 + 1 ≤ pl T m) := by have := (HTo.out (by first | trivial | rfl)).2.1 X m HXc.out hm1; have := HXp.out; show _ ≤ _; omega
                have qy := (HFr.out w7 HB7.out).1.at (k := m) (by rw [HPl.out]; exact hYn)
                rw [HPC.out _ hYn] at qy
                have qx := (HFr.out w7 HB7.out).1.at (k := X) (by rw [HPl.out]; exact hXn)
                rw [HPC.out _ hXn] at qx
                have ele : decide (((pl T m : Nat) : Int) ≤ ((pl T X : Nat) : Int)) = false := decide_eq_false (by have := (HTo.out (by first | trivial | rfl)).2.1 X m HXc.out hm1; omega)
                have ele2 : decide (pl T m ≤ pl T X) = false := decide_eq_false (by have := (HTo.out (by first | trivial | rfl)).2.1 X m HXc.out hm1; omega)
                clear HXp
                obtain ⟨py, hpy⟩ : ∃ py, pl T m = py := ⟨_, rfl⟩
                obtain ⟨px, hpx⟩ : ∃ px, pl T X = px := ⟨_, rfl⟩
                rw [hpy] at qy ele ele2
                rw [hpx] at qx ele ele2
                clear hpy hpx
                have y0 : (0 : Int) ≤ m := by omega
                have y1 : ((m : Nat) : Int) < n := by omega
                clear hbm
                go_wp2_with fail
                go_quiet (fail)
                go_wp2_with fail
                exact ⟨⟨m, t, k + 1, by omega, by omega, rfl, by simp, by simp, HYc.out, HYp.out, below_drewN HB7.out _⟩, by simp [intOf]; omega⟩
              | cons m' r =>
                obtain rfl : r = [] := by cases r with | nil => rfl | cons _ _ => simp at hl2
                have hm2 : m' ∈ behL l X := by rw [hbm]; simp
                obtain ⟨b', off', e', q2⟩ := HN7.out.at 1 (by simp)
                injection e' with e'
                injection e' with e1 e2
                subst e1 e2
                simp only [List.getD_cons_succ, List.getD_cons_zero] at q2
                by_cases htm : t < m2
                · have et : decide ((t : Int) < (m2 : Int)) = true := decide_eq_true (by omega)
                  obtain ⟨cb, co, rfl, qch⟩ := (HCh.out w7 (HFr.out w7 HB7.out).2.2).at t htm
                  have t0 : (0 : Int) ≤ t := by omega
                  have t1 : (t : Int) < m2 := by omega
                  generalize ch.getD t false = bq at *
                  cases bq with
                  | false =>
                    have HYc := Lib.hid (HCome.out X m HXc.out hm1)
                    have hYn := HLt.out m HYc.out
                    have HYp : Hid (k + 1 + 1 ≤ pl T m) := by have := (HTo.out (by first | trivial | rfl)).2.1 X m HXc.out hm1; have := HXp.out; show _ ≤ _; omega
                    have qy := (HFr.out w7 HB7.out).1.at (k := m) (by rw [HPl.out]; exact hYn)
                    rw [HPC.out _ hYn] at qy
                    have qx := (HFr.out w7 HB7.out).1.at (k := X) (by rw [HPl.out]; exact hXn)
                    rw [HPC.out _ hXn] at qx
                    have ele : decide (((pl T m : Nat) : Int) ≤ ((pl T X : Nat) : Int)) = false := decide_eq_false (by have := (HTo.out (by first | trivial | rfl)).2.1 X m HXc.out hm1; omega)
                    have ele2 : decide (pl T m ≤ pl T X) = false := decide_eq_false (by have := (HTo.out (by first | trivial | rfl)).2.1 X m HXc.out hm1; omega)
                    clear HXp
                    obtain ⟨py, hpy⟩ : ∃ py, pl T m = py := ⟨_, rfl⟩
                    obtain ⟨px, hpx⟩ : ∃ px, pl T X = px := ⟨_, rfl⟩
                    rw [hpy] at qy ele ele2
                    rw [hpx] at qx ele ele2
                    clear hpy hpx
                    have y0 : (0 : Int) ≤ m := by omega
                    have y1 : ((m : Nat) : Int) < n := by omega
                    clear hbm
                    go_wp2_with fail
                    go_quiet (fail)
                    go_wp2_with fail
                    exact ⟨⟨m, (t + 1), k + 1, by omega, by omega, rfl, by simp, by simp, HYc.out, HYp.out, below_drewN HB7.out _⟩, by simp [intOf]; omega⟩
                  | true =>
                    have HYc := Lib.hid (HCome.out X m' HXc.out hm2)
                    have hYn := HLt.out m' HYc.out
                    have HYp : Hid (k + 1 + 1 ≤ pl T m') := by have := (HTo.out (by first | trivial | rfl)).2.1 X m' HXc.out hm2; have := HXp.out; show _ ≤ _; omega
                    have qy := (HFr.out w7 HB7.out).1.at (k := m') (by rw [HPl.out]; exact hYn)
                    rw [HPC.out _ hYn] at qy
                    have qx := (HFr.out w7 HB7.out).1.at (k := X) (by rw [HPl.out]; exact hXn)
                    rw [HPC.out _ hXn] at qx
                    have ele : decide (((pl T m' : Nat) : Int) ≤ ((pl T X : Nat) : Int)) = false := decide_eq_false (by have := (HTo.out (by first | trivial | rfl)).2.1 X m' HXc.out hm2; omega)
                    have ele2 : decide (pl T m' ≤ pl T X) = false := decide_eq_false (by have := (HTo.out (by first | trivial | rfl)).2.1 X m' HXc.out hm2; omega)
                    clear HXp
                    obtain ⟨py, hpy⟩ : ∃ py, pl T m' = py := ⟨_, rfl⟩
                    obtain ⟨px, hpx⟩ : ∃ px, pl T X = px := ⟨_, rfl⟩
                    rw [hpy] at qy ele ele2
                    rw [hpx] at qx ele ele2
                    clear hpy hpx
                    have y0 : (0 : Int) ≤ m' := by omega
                    have y1 : ((m' : Nat) : Int) < n := by omega
                    clear hbm
                    go_wp2_with fail
                    go_quiet (fail)
                    go_wp2_with fail
                    exact ⟨⟨m', (t + 1), k + 1, by omega, by omega, rfl, by simp, by simp, HYc.out, HYp.out, below_drewN HB7.out _⟩, by simp [intOf]; omega⟩
                · have et : decide ((t : Int) < (m2 : Int)) = false := decide_eq_false (by omega)
                  have HYc := Lib.hid (HCome.out X m HXc.out hm1)
                  have hYn := HLt.out m HYc.out
                  have HYp : Hid (k + 1 + 1 ≤ pl T m) := by have := (HTo.out (by first | trivial | rfl)).2.1 X m HXc.out hm1; have := HXp.out; show _ ≤ _; omega
                  have qy := (HFr.out w7 HB7.out).1.at (k := m) (by rw [HPl.out]; exact hYn)
                  rw [HPC.out _ hYn] at qy
                  have qx := (HFr.out w7 HB7.out).1.at (k := X) (by rw [HPl.out]; exact hXn)
                  rw [HPC.out _ hXn] at qx
                  have ele : decide (((pl T m : Nat) : Int) ≤ ((pl T X : Nat) : Int)) = false := decide_eq_false (by have := (HTo.out (by first | trivial | rfl)).2.1 X m HXc.out hm1; omega)
                  have ele2 : decide (pl T m ≤ pl T X) = false := decide_eq_false (by have := (HTo.out (by first | trivial | rfl)).2.1 X m HXc.out hm1; omega)
                  clear HXp
                  obtain ⟨py, hpy⟩ : ∃ py, pl T m = py := ⟨_, rfl⟩
                  obtain ⟨px, hpx⟩ : ∃ px, pl T X = px := ⟨_, rfl⟩
                  rw [hpy] at qy ele ele2
                  rw [hpx] at qx ele ele2
                  clear hpy hpx
                  have y0 : (0 : Int) ≤ m := by omega
                  have y1 : ((m : Nat) : Int) < n := by omega
                  clear hbm
                  go_wp2_with fail
                  go_quiet (fail)
                  go_wp2_with fail
                  exact ⟨⟨m, (t + 1), k + 1, by omega, by omega, rfl, by simp, by simp, HYc.out, HYp.out, below_drewN HB7.out _⟩, by simp [intOf]; omega⟩
          · exfalso
            have h1 := HLp.out X
            have h2 := HXp.out
            omega
      | false =>
        clear hp0 q0
        obtain ⟨wo, hwo⟩ : ∃ wo : World, wo = wr := ⟨_, rfl⟩
        subst hwo
        go_wp2_with fail
        clear hnn hd
        go_loopw [13, 14, 84] (fun x tn i wr => ∃ (X t k : Nat), k ≤ n + 1 ∧ t ≤ k ∧ x = .int .i64 X ∧ tn = .int .i64 t ∧ i = .int .i64 k ∧ Come l X ∧ (True) ∧ Below wo.heap.size wo wr) (fun _ _ i _ => n + 1 - (intOf i).toNat)
        case atStart => exact ⟨0, 0, 0, by omega, by omega, rfl, rfl, rfl, .zero, trivial, HB0.out⟩
        case round =>
          clear HB0 HS0
          obtain ⟨X, t, k, hk, htk, rfl, rfl, rfl, hXc, hXp, hbel⟩ := hrel
          have HXc := Lib.hid hXc
          have HXp := Lib.hid hXp
          have HBw := Lib.hid hbel
          have hXn := HLt.out X hXc
          clear hXc hXp hbel
          by_cases hkn : k < n + 1
          · have hd : decide ((k : Int) < ((n + 1 : Nat) : Int)) = true := decide_eq_true (by omega)
            have hd2 : decide ((k : Int) < (n : Int) + 1) = true := decide_eq_true (by omega)
            have x0 : (0 : Int) ≤ X := by omega
            have x1 : (X : Int) < n := by omega
            have qc := (HFr.out wr HBw.out).2.1.at hXn
            rw [map_at _ hXn, comeB_iff.2 HXc.out] at qc
            have HBx := Lib.hid (HBin.out X hXn wr (HFr.out wr HBw.out).2.2)
            go_wp2_with fail
            refine HBx.out.mono ?_
            rintro e w7 ⟨v, rfl, ho, hb7⟩
            obtain ⟨a7, c7, rfl, _, _, hr7, _⟩ := nums_row ho
            have HN7 := Lib.hid hr7
            have HB7 := Lib.hid (HBw.out.trans (hb7.mono HBw.out.size))
            clear hb7 ho hr7 HBx qc hd hd2 HBw
            have hl2 := beh_len l X
            cases hbm : behL l X with
            | nil =>
              obtain ⟨b, off, rfl, hc7, _⟩ := HRow.out w7 (HFr.out w7 HB7.out).2.2 X hXn
              obtain ⟨d0, d1, d2, d3⟩ := hc7
              have h27 := beh_none hbm
              rw [h27] at d0
              rw [hbm] at HN7
              generalize l.getD X iz = ix at *
              obtain ⟨op, ia, ib, ic⟩ := ix
              simp only at *
              clear hbm h27
              go_wp2_with fail
              go_ret
              exact ⟨rfl, (HFr.out w7 HB7.out).2.2⟩
            | cons m r =>
              rw [hbm] at HN7 hl2
              obtain ⟨b, off, rfl, q1⟩ := HN7.out.at 0 (by simp)
              have hm1 : m ∈ behL l X := by rw [hbm]; simp
              simp only [List.getD_cons_zero, Nat.add_zero] at q1
              cases r with
              | nil =>
                have HYc := Lib.hid (HCome.out X m HXc.out hm1)
                have hYn := HLt.out m HYc.out
                have y0 : (0 : Int) ≤ m := by omega
                have y1 : ((m : Nat) : Int) < n := by omega
                clear hbm
                go_wp2_with fail
                go_quiet (fail)
                go_wp2_with fail
                exact ⟨⟨m, t, k + 1, by omega, by omega, rfl, by simp, by simp, HYc.out, trivial, below_drewN HB7.out _⟩, by simp [intOf]; omega⟩
              | cons m' r =>
                obtain rfl : r = [] := by cases r with | nil => rfl | cons _ _ => simp at hl2
                have hm2 : m' ∈ behL l X := by rw [hbm]; simp
                obtain ⟨b', off', e', q2⟩ := HN7.out.at 1 (by simp)
                injection e' with e'
                injection e' with e1 e2
                subst e1 e2
                simp only [List.getD_cons_succ, List.getD_cons_zero] at q2
                by_cases htm : t < m2
                · have et : decide ((t : Int) < (m2 : Int)) = true := decide_eq_true (by omega)
                  obtain ⟨cb, co, rfl, qch⟩ := (HCh.out w7 (HFr.out w7 HB7.out).2.2).at t htm
                  have t0 : (0 : Int) ≤ t := by omega
                  have t1 : (t : Int) < m2 := by omega
                  generalize ch.getD t false = bq at *
                  cases bq with
                  | false =>
                    have HYc := Lib.hid (HCome.out X m HXc.out hm1)
                    have hYn := HLt.out m HYc.out
                    have y0 : (0 : Int) ≤ m := by omega
                    have y1 : ((m : Nat) : Int) < n := by omega
                    clear hbm
                    go_wp2_with fail
                    go_quiet (fail)
                    go_wp2_with fail
                    exact ⟨⟨m, (t + 1), k + 1, by omega, by omega, rfl, by simp, by simp, HYc.out, trivial, below_drewN HB7.out _⟩, by simp [intOf]; omega⟩
                  | true =>
                    have HYc := Lib.hid (HCome.out X m' HXc.out hm2)
                    have hYn := HLt.out m' HYc.out
                    have y0 : (0 : Int) ≤ m' := by omega
                    have y1 : ((m' : Nat) : Int) < n := by omega
                    clear hbm
                    go_wp2_with fail
                    go_quiet (fail)
                    go_wp2_with fail
                    exact ⟨⟨m', (t + 1), k + 1, by omega, by omega, rfl, by simp, by simp, HYc.out, trivial, below_drewN HB7.out _⟩, by simp [intOf]; omega⟩
                · have et : decide ((t : Int) < (m2 : Int)) = false := decide_eq_false (by omega)
                  have HYc := Lib.hid (HCome.out X m HXc.out hm1)
                  have hYn := HLt.out m HYc.out
                  have y0 : (0 : Int) ≤ m := by omega
                  have y1 : ((m : Nat) : Int) < n := by omega
                  clear hbm
                  go_wp2_with fail
                  go_quiet (fail)
                  go_wp2_with fail
                  exact ⟨⟨m, (t + 1), k + 1, by omega, by omega, rfl, by simp, by simp, HYc.out, trivial, below_drewN HB7.out _⟩, by simp [intOf]; omega⟩
          · obtain rfl : k = n + 1 := by omega
            have hd : decide (((n + 1 : Nat) : Int) < ((n + 1 : Nat) : Int)) = false := decide_eq_false (by omega)
            go_wp2_with fail
            go_ret
            exact ⟨rfl, (HFr.out wr HBw.out).2.2⟩
end Flw
end Go.Proofs.YteingehdkpfpcaaDoor
