/- The document's own answers: does one come to it again. · The document's own answers: the worst of each instruction. -/
import Derived.Test.YtjoiogdckbaeaaaDoorFlowR3
import Derived.Test.YtjoiogdckbaeaaaDoorCostC
import Derived.Test.YtjoiogdckbaeaaaDoorFlowR1
namespace Go.Proofs.YtjoiogdckbaeaaaDoor
open Go.ChangeShapes Go.WideShapes Go.ChangeAt Go.RowKit
namespace Cst
open Isa Flw
set_option linter.unusedVariables false
set_option linter.unusedSimpArgs false
set_option maxRecDepth 100000 in
set_option maxHeartbeats 6400000 in
theorem ragain_any (l : List Iv) (a : Option Addr) (n c : Nat) (hf : Fine l) (k : Nat) (hk : k < n) (w : World) (h : IRow w a n l) : Calls Tryd.prog 43 #[.slice a n c, .int .i64 (k : Int)] w fun e w' =>
    e = .returned (.bool (agB l k)) ∧ Below w.heap.size w w' := by
  have hln : l.length = n := h.1
  have HL := Lib.hid hln
  have hn16 : n ≤ 16384 := by have := hf.most; omega
  have HBe := Lib.hid (fun W (hb : Below w.heap.size w W) k (hk : k < n) => rbehind_any l a n c (by omega) k hk W (h.below hb (Nat.le_refl _)))
  have hmk := run_make_bools w n (by omega)
  have HR0 := Lib.hid (brow_new w (List.replicate n false))
  have HB0 := Lib.hid ((Below.refl w.heap.size w).alloc (Nat.le_refl _) (.cells (bls (List.replicate n false)).toArray 4))
  have HMx := Lib.hid (fun (k : Nat) (hk : k < n) m (hm : m ∈ behL l k) => beh_lt hf h.2.1 (by omega) hm)
  have HTo : Hid (∀ m, To l k m → m < n) := fun m hm => by have := To.lt hf h.2.1 (by omega) hm; omega
  have HSt := Lib.hid (Set1.start (behL l k) n)
  clear h hf hln
  go_enter Tryd.func43, Tryd.ntmps43
  go_upto_region 2 with fail
  clear hmk
  generalize w.alloc (.cells (bls (List.replicate n false)).toArray 4) = w1 at *
  generalize List.replicate n false = Z at *
  obtain ⟨O, hO⟩ : ∃ O, w.heap.size = O := ⟨_, rfl⟩
  have HO : Hid (w.heap.size ≤ O) := by show _ ≤ _; omega
  rw [hO] at HR0 ⊢
  clear hO
  have HC0 := Lib.hid (HBe.out w1 HB0.out k hk)
  go_wp2_with fail
  refine HC0.out.mono ?_
  rintro e w2 ⟨v, rfl, hnm, hb2⟩
  obtain ⟨av, cv, rfl, _, _, hnr, hge⟩ := nums_row hnm
  have HR2 := Lib.hid (HR0.out.below hb2 (Nat.le_refl _))
  have HB2 := Lib.hid (HB0.out.trans (hb2.mono HB0.out.size))
  have HN2 := Lib.hid hnr
  have HNe : Hid (∀ b off, av = some ⟨b, off, none⟩ → b ≠ O) := fun b off e => by
    have h1 := hge b off e
    have h2 := HR0.out.lt
    omega
  have HMk := Lib.hid (HMx.out k hk)
  have hl2 := beh_len l k
  have HOne : Hid (∀ m ∈ behL l k, To l k m) := fun m hm => .one hm
  have HLn0 : Hid (∀ j, j < (behL l k).length → (behL l k).getD j 0 < n ∧ (behL l k).getD j 0 ∈ behL l k) := fun j hj => by
    have hmem := getD_mem (l := behL l k) 0 hj
    have := HMk.out _ hmem
    have := HL.out
    exact ⟨by omega, hmem⟩
  clear hnm hb2 hnr hge HC0 HR0 HB0
  have HAll : Hid (∀ B, Set1 (behL l k) B n (behL l k).length → (∀ m ∈ behL l k, B.getD m false = true) ∧ ∀ j, B.getD j false = true → To l k j) := fun B hB => by
    refine ⟨fun m hm => ?_, fun j hj => ?_⟩
    · obtain ⟨i, hi, e⟩ := List.getElem_of_mem hm
      have e2 : (behL l k).getD i 0 = m := by rw [List.getD_eq_getElem?_getD, List.getElem?_eq_getElem hi]; exact e
      have hmn := (HLn0.out i hi).1
      rw [e2] at hmn
      exact (hB.is m hmn).2 ⟨i, hi, e2⟩
    · have hjn : j < n := by
        rcases Nat.lt_or_ge j n with q | q
        · exact q
        · rw [List.getD_eq_getElem?_getD, List.getElem?_eq_none (by rw [hB.len]; exact q)] at hj
          cases hj
      obtain ⟨i, hi, e⟩ := (hB.is j hjn).1 hj
      rw [← e]
      exact HOne.out _ (HLn0.out i hi).2
  generalize hNL : (behL l k).length = q at *
  have HNL := Lib.hid hNL
  clear hNL HOne HMk
  go_wp2_with fail
  go_loopw [7] (fun i wr => ∃ (j : Nat) (B : List Bool), j ≤ q ∧ i = .int .i64 j ∧ Set1 (behL l k) B n j ∧ BRow wr O B ∧ NRow wr av q (behL l k) ∧ Below w.heap.size w wr) (fun i _ => q - (intOf i).toNat)
  case atStart => exact ⟨0, Z, by omega, rfl, HSt.out, HR2.out, HN2.out, HB2.out⟩
  case round =>
    obtain ⟨j, B, hj, rfl, hset, hrow, hnr, hbel⟩ := hrel
    have HSe := Lib.hid hset
    have HR := Lib.hid hrow
    have HN := Lib.hid hnr
    have HB := Lib.hid hbel
    have hlB := hset.len
    clear hset hrow hnr hbel
    by_cases hjq : j < q
    · have hd : decide ((j : Int) < (q : Int)) = true := decide_eq_true (by omega)
      obtain ⟨bv, ov, rfl, hcv⟩ := HN.out.at j hjq
      have hmn := (HLn0.out j hjq).1
      have HS2 := Lib.hid (HSe.out.step hmn)
      have hbv := HNe.out bv ov rfl
      generalize (behL l k).getD j 0 = m at *
      have qm := HR.out.at (k := m) (by omega)
      have fm := HR.out.free m
      have HR4 := Lib.hid (HR.out.set m true)
      have HB4 := Lib.hid (HB.out.setCell (p := ⟨O, m, none⟩) HO.out (.bool true))
      have HN4 := Lib.hid (nrow_set HN.out (o := O) (fun b off e => HNe.out b off e) m (.bool true))
      have m0 : (0 : Int) ≤ m := by omega
      have m1 : (m : Int) < n := by omega
      have j0 : (0 : Int) ≤ j := by omega
      have j1 : (j : Int) < q := by omega
      clear HR HN HB HSe hlB
      generalize B.getD m false = z at *
      go_wp2_with fail
      exact ⟨⟨j + 1, B.set m true, by omega, by simp, HS2.out, HR4.out, HN4.out, HB4.out⟩, by simp [intOf]; omega⟩
    · obtain rfl : j = q := by omega
      have hd : decide ((j : Int) < (j : Int)) = false := decide_eq_false (by omega)
      have HA1 := Lib.hid (HAll.out B HSe.out)
      have HRs := HR
      have HBs := HB
      have HLn := Lib.hid hlB
      clear HR2 HN2 HB2 HSt HAll HSe hjq hj HN hlB HNe HLn0 HNL hl2 HR HB
      obtain ⟨wo, hwo⟩ : ∃ wo : World, wo = wr := ⟨_, rfl⟩
      subst hwo
      go_wp2_with fail
      clear hd
      go_loopw [8] (fun m wr => ∃ (mb : Bool) (B : List Bool), m = .bool mb ∧ BRow wr O B ∧ B.length = n ∧ (∀ m ∈ behL l k, B.getD m false = true) ∧ (∀ j, B.getD j false = true → To l k j) ∧ (mb = false → B.getD k false = agB l k) ∧ Below w.heap.size w wr) (fun m wr => 2 * fls (wr.heap[O]?) + (match m with | .bool true => 1 | _ => 0))
      case atStart => exact ⟨true, B, rfl, HRs.out, HLn.out, HA1.out.1, HA1.out.2, (fun e => by cases e), HBs.out⟩
      case round =>
        clear HRs HLn HA1 HBs
        obtain ⟨mb, B0, rfl, hrow, hlen, h0, hs, hend, hbel⟩ := hrel
        have HR := Lib.hid hrow
        have HB := Lib.hid hbel
        have H0 := Lib.hid h0
        have HEnd := Lib.hid hend
        have HMid := Lib.hid (MidP.start (P := To l k) (l := l) hlen hs)
        have HLn := Lib.hid hlen
        clear hrow hlen hs hend hbel h0
        obtain ⟨wo, hwo⟩ : ∃ wo : World, wo = wr := ⟨_, rfl⟩
        subst hwo
        cases mb with
        | false =>
          have qk := HR.out.at (k := k) (by rw [HLn.out]; exact hk)
          rw [HEnd.out rfl] at qk
          have k0 : (0 : Int) ≤ k := by omega
          have k1 : (k : Int) < n := by omega
          clear HEnd HR HMid
          obtain ⟨r, hr⟩ : ∃ r, agB l k = r := ⟨_, rfl⟩
          have HRr := Lib.hid hr
          rw [hr] at qk
          clear hr
          go_wp2_with fail
          go_ret
          exact ⟨by rw [HRr.out]; rfl, HB.out⟩
        | true =>
          clear HEnd
          have HFl := Lib.hid (fls_row HR.out)
          go_wp2_with fail
          go_loopw [8, 9] (fun m i wr => ∃ (mb : Bool) (B : List Bool) (t : Nat), t ≤ n ∧ m = .bool mb ∧ i = .int .i64 t ∧ BRow wr O B ∧ MidP (To l k) l B0 B n t mb ∧ Below w.heap.size w wr) (fun _ i _ => n - (intOf i).toNat)
          case atStart => exact ⟨false, B0, 0, by omega, rfl, rfl, HR.out, HMid.out, HB.out⟩
          case round =>
            obtain ⟨mb, B, t, ht, rfl, rfl, hrow, hmid, hbel⟩ := hrel
            have HR := Lib.hid hrow
            have HB := Lib.hid hbel
            have HMd := Lib.hid hmid
            have hlB := hmid.len
            clear hrow hmid hbel
            by_cases hlt : t < n
            · have hd : decide ((t : Int) < (n : Int)) = true := decide_eq_true (by omega)
              have t0 : (0 : Int) ≤ t := by omega
              have t1 : (t : Int) < n := by omega
              have qt := HR.out.at (k := t) (by omega)
              cases hbt : B.getD t false with
              | false =>
                have HD := Lib.hid (HMd.out.inn.done (.inr hbt))
                rw [hbt] at qt
                clear hbt HMd hlB
                go_wp2_with fail
                exact ⟨⟨mb, B, t + 1, by omega, rfl, by simp, HR.out, HD.out, HB.out⟩, by simp [intOf]; omega⟩
              | true =>
                have HBt := Lib.hid hbt
                rw [hbt] at qt
                have HC := Lib.hid (HBe.out wr HB.out t hlt)
                clear hbt
                go_wp2_with fail
                refine HC.out.mono ?_
                rintro e w3 ⟨v, rfl, hnm, hb3⟩
                obtain ⟨ab, cb, rfl, _, _, hnr, hge⟩ := nums_row hnm
                have HR3 := Lib.hid (HR.out.below hb3 (Nat.le_refl _))
                have HB3 := Lib.hid (HB.out.trans (hb3.mono HB.out.size))
                have HN3 := Lib.hid hnr
                have HNe : Hid (∀ b off, ab = some ⟨b, off, none⟩ → b ≠ O) := fun b off e => by
                  have h1 := hge b off e
                  have h2 := HR.out.lt
                  omega
                have HI3 := Lib.hid HMd.out.inn
                have HMt := Lib.hid (HMx.out t hlt)
                have hl2 := beh_len l t
                clear hnm hb3 hnr hge HC HR HB HMd hd qt hlB
                generalize hNL : (behL l t).length = p at *
                have HNL := Lib.hid hNL
                clear hNL
                go_wp2_with fail
                go_loopw [8, 11] (fun m i wr => ∃ (mb : Bool) (B : List Bool) (j : Nat), j ≤ p ∧ m = .bool mb ∧ i = .int .i64 j ∧ BRow wr O B ∧ InnP (To l k) l B0 B n t j mb ∧ B.getD t false = true ∧ NRow wr ab p (behL l t) ∧ Below w.heap.size w wr) (fun _ i _ => p - (intOf i).toNat)
                case atStart => exact ⟨mb, B, 0, by omega, rfl, rfl, HR3.out, HI3.out, HBt.out, HN3.out, HB3.out⟩
                case round =>
                  clear HR3 HI3 HBt HN3 HB3
                  obtain ⟨mb, B, j, hj, rfl, rfl, hrow, hin, hbt, hnr, hbel⟩ := hrel
                  have HR := Lib.hid hrow
                  have HB := Lib.hid hbel
                  have HI := Lib.hid hin
                  have HN := Lib.hid hnr
                  have HBt := Lib.hid hbt
                  have hlB := hin.len
                  clear hrow hin hnr hbel hbt
                  by_cases hjq : j < p
                  · have hd : decide ((j : Int) < (p : Int)) = true := decide_eq_true (by omega)
                    obtain ⟨bv, ov, rfl, hcv⟩ := HN.out.at j hjq
                    have hmem : (behL l t).getD j 0 ∈ behL l t := getD_mem 0 (by rw [HNL.out]; exact hjq)
                    have hmn : (behL l t).getD j 0 < n := by have := HMt.out _ hmem; have := HL.out; omega
                    have HSt := Lib.hid (HI.out.step (by rw [HNL.out]; exact hjq) hmn HBt.out (fun h => To.more h hmem))
                    have HBt2 : Hid ((B.set ((behL l t).getD j 0) true).getD t false = true) := by
                      show _ = _
                      rw [getD_set (by omega)]
                      split
                      · rfl
                      · exact HBt.out
                    have qm := HR.out.at (k := (behL l t).getD j 0) (by omega)
                    have hbv := HNe.out bv ov rfl
                    generalize (behL l t).getD j 0 = m at *
                    have fm := HR.out.free m
                    have HR4 := Lib.hid (HR.out.set m true)
                    have HB4 := Lib.hid (HB.out.setCell (p := ⟨O, m, none⟩) HO.out (.bool true))
                    have HN4 := Lib.hid (nrow_set HN.out (o := O) (fun b off e => HNe.out b off e) m (.bool true))
                    have m0 : (0 : Int) ≤ m := by omega
                    have m1 : (m : Int) < n := by omega
                    have j0 : (0 : Int) ≤ j := by omega
                    have j1 : (j : Int) < p := by omega
                    clear HI hlB HN hmem HBt HR HB
                    cases hbm : B.getD m false with
                    | true =>
                      rw [hbm] at qm HSt
                      simp only [Bool.not_true, Bool.or_false] at HSt
                      clear hbm
                      cases mb with
                      | true =>
                        go_wp2_with fail
                        exact ⟨⟨true, B.set m true, j + 1, by omega, rfl, by simp, HR4.out, HSt.out, HBt2.out, HN4.out, HB4.out⟩, by simp [intOf]; omega⟩
                      | false =>
                        go_wp2_with fail
                        exact ⟨⟨false, B.set m true, j + 1, by omega, rfl, by simp, HR4.out, HSt.out, HBt2.out, HN4.out, HB4.out⟩, by simp [intOf]; omega⟩
                    | false =>
                      rw [hbm] at qm HSt
                      simp only [Bool.not_false, Bool.or_true] at HSt
                      clear hbm
                      cases mb with
                      | true =>
                        go_wp2_with fail
                        exact ⟨⟨true, B.set m true, j + 1, by omega, rfl, by simp, HR4.out, HSt.out, HBt2.out, HN4.out, HB4.out⟩, by simp [intOf]; omega⟩
                      | false =>
                        go_wp2_with fail
                        exact ⟨⟨true, B.set m true, j + 1, by omega, rfl, by simp, HR4.out, HSt.out, HBt2.out, HN4.out, HB4.out⟩, by simp [intOf]; omega⟩
                  · obtain rfl : j = p := by omega
                    have hd : decide ((j : Int) < (j : Int)) = false := decide_eq_false (by omega)
                    have HD := Lib.hid (HI.out.done (.inl (by rw [HNL.out]; exact Nat.le_refl _)))
                    clear HI hlB HN HBt
                    go_wp2_with fail
                    exact ⟨⟨mb, B, t + 1, by omega, rfl, by simp, HR.out, HD.out, HB.out⟩, by simp [intOf]; omega⟩
            · obtain rfl : t = n := by omega
              have hd : decide ((t : Int) < (t : Int)) = false := decide_eq_false (by omega)
              have HFl2 := Lib.hid (fls_row HR.out)
              clear hlt hlB
              go_wp2_with fail
              refine ⟨⟨mb, B, rfl, HR.out, HMd.out.len, fun m hm => HMd.out.mono m (H0.out m hm), HMd.out.sound, fun e => ?_, HB.out⟩, ?_⟩
              · subst e
                have hm := HMd.out
                rw [(HMd.out.quiet rfl).1] at hm ⊢
                exact hm.to H0.out HTo.out
              · rw [HFl.out, HFl2.out]
                cases mb with
                | false => rw [(HMd.out.quiet rfl).1]; simp
                | true => have := HMd.out.moved rfl; simp; omega
end Cst
end Go.Proofs.YtjoiogdckbaeaaaDoor
namespace Go.Proofs.YtjoiogdckbaeaaaDoor
open Go.ChangeShapes Go.WideShapes Go.ChangeAt Go.RowKit
namespace Cst
open Isa Flw
set_option linter.unusedVariables false
set_option linter.unusedSimpArgs false
/-! ### Numbers of 32 bits, in a block known whole -/
set_option maxRecDepth 100000 in
set_option maxHeartbeats 12800000 in
theorem rfrom_any (l : List Iv) (a : Option Addr) (n c : Nat) (w : World) (h : IRow w a n l) : Calls Tryd.prog 24 #[.slice a n c] w fun e w' => fromP l w e w' := by
  have hln : l.length = n := h.1
  have HCk := Lib.hid (rcheck_any l a n c w h)
  by_cases hE : chkE l = 0
  case neg =>
    have HR := Lib.hid (fr_bad hE)
    have hne : (chkE l != 0) = true := by simpa using hE
    clear h hE
    generalize chkE l = E at *
    generalize chkN l = N at *
    go_enter Tryd.func24, Tryd.ntmps24
    go_wp2_with fail
    refine HCk.out.mono ?_
    rintro e w1 ⟨rfl, hb1⟩
    go_wp2_with fail
    refine bodyPost_ret (v := .tuple #[.slice none 0 0, .int .i64 (N : Int), .int .i64 E]) (by simp [results, Tryd.f24, go_sem]) rfl ?_
    obtain ⟨e1, e2, e3⟩ := HR.out
    exact ⟨⟨_, tup3 ⟨e2.symm, e1.symm⟩, by rw [e3]; exact World.ownsRow_nil _ _ _ _⟩, hb1⟩
  have hf := fine_of hE
  have hc0 : chkN l = 0 := (chk_of hf).2
  rw [hE, hc0] at HCk
  have HL := Lib.hid hln
  have hn16 : n ≤ 16384 := by have := hf.most; omega
  have HBe := Lib.hid (fun W (hb : Below w.heap.size w W) k (hk : k < n) => rbehind_any l a n c (by omega) k hk W (h.below hb (Nat.le_refl _)))
  have HCo := Lib.hid (fun W (hb : Below w.heap.size w W) => rcome_any l a n c hf W (h.below hb (Nat.le_refl _)))
  have HAg := Lib.hid (fun W (hb : Below w.heap.size w W) k (hk : k < n) => ragain_any l a n c hf k hk W (h.below hb (Nat.le_refl _)))
  have HMx := Lib.hid (fun (k : Nat) (hk : k < n) m (hm : m ∈ behL l k) => beh_lt hf h.2.1 (by omega) hm)
  have HLoop := Lib.hid (fun k (hk : k < n) hn hb => fr_loop (k := k) hf (by omega) hn hb)
  have HFree := Lib.hid (lp_none (l := l))
  have HSm := Lib.hid (fun hfr W (hp : Pre l W) => And.intro (hp.small hf h.2.1 hfr) (hp.sum hf h.2.1 hfr))
  have HStep := Lib.hid (fun hfr W0 W t mb (hr : Rnd l W0 W t mb) ht hc => hr.step hf h.2.1 hfr ht hc)
  have HDone := Lib.hid (fun hfr W0 W (hr : Rnd l W0 W l.length false) => hr.done hf h.2.1 hfr)
  have HOk := Lib.hid (fun hfr => fr_of (l := l) hf hfr)
  have HPs := Lib.hid (Pre.start l)
  clear h hf hE hc0
  go_enter Tryd.func24, Tryd.ntmps24
  go_wp2_with fail
  refine HCk.out.mono ?_
  rintro e w1 ⟨rfl, hb1⟩
  have HB1 := Lib.hid hb1
  clear hb1 HCk
  go_wp2_with fail
  refine (HCo.out w1 HB1.out).mono ?_
  rintro e w2 ⟨I, rfl, hI, hrI, hb2⟩
  have HRI := Lib.hid hrI
  have HB2 := Lib.hid (HB1.out.trans (hb2.mono HB1.out.size))
  clear hI hrI hb2 HCo HB1
  go_wp2_with fail
  go_loopw [8] (fun i wr => ∃ t : Nat, t ≤ n ∧ i = .int .i64 t ∧ (∀ s, s < t → lpB l s = false) ∧ BRow wr I ((List.range n).map (comeB l)) ∧ Below w.heap.size w wr) (fun i _ => n - (intOf i).toNat)
  case atStart => exact ⟨0, by omega, rfl, fun s hs => by omega, HRI.out, HB2.out⟩
  case round =>
    clear HRI HB2
    obtain ⟨t, ht, rfl, hno, hrI, hbel⟩ := hrel
    have HNo := Lib.hid hno
    have HRI := Lib.hid hrI
    have HB := Lib.hid hbel
    clear hno hrI hbel
    by_cases hlt : t < n
    · have hd : decide ((t : Int) < (n : Int)) = true := decide_eq_true (by omega)
      have t0 : (0 : Int) ≤ t := by omega
      have t1 : (t : Int) < n := by omega
      have qI := HRI.out.at (k := t) (by simp; exact hlt)
      rw [map_at _ hlt] at qI
      have HN2 : Hid (lpB l t = false → ∀ s, s < t + 1 → lpB l s = false) := fun h s hs => by
        by_cases e : s = t
        · rw [e]; exact h
        · exact HNo.out s (by omega)
      cases hci : comeB l t with
      | false =>
        have H1 := Lib.hid (HN2.out (by unfold lpB; rw [hci]; rfl))
        rw [hci] at qI
        clear hci HN2 HNo
        go_wp2_with fail
        exact ⟨⟨t + 1, by omega, by simp, H1.out, HRI.out, HB.out⟩, by simp [intOf]; omega⟩
      | true =>
        have HA := Lib.hid (HAg.out wr HB.out t hlt)
        have HLp : Hid (lpB l t = agB l t) := by show _ = _; unfold lpB; rw [hci]; rfl
        have HLo := Lib.hid (HLoop.out t hlt HNo.out)
        rw [hci] at qI
        clear hci HNo
        generalize agB l t = g at *
        go_wp2_with fail
        refine HA.out.mono ?_
        rintro e w3 ⟨rfl, hb3⟩
        have HRI3 := Lib.hid (HRI.out.below hb3 (Nat.le_refl _))
        have HB3 := Lib.hid (HB.out.trans (hb3.mono HB.out.size))
        clear hb3 HRI HB qI HA
        cases g with
        | false =>
          have H1 := Lib.hid (HN2.out HLp.out)
          clear HN2 HLp HLo
          go_wp2_with fail
          exact ⟨⟨t + 1, by omega, by simp, H1.out, HRI3.out, HB3.out⟩, by simp [intOf]; omega⟩
        | true =>
          have HR := Lib.hid (HLo.out HLp.out)
          clear HN2 HLp HLo
          go_wp2_with fail
          refine bodyPost_ret (v := .tuple #[.slice none 0 0, .int .i64 (t : Int), .int .i64 130]) (by simp [results, Tryd.f24, go_sem]) rfl ?_
          obtain ⟨e1, e2, e3⟩ := HR.out
          exact ⟨⟨_, tup3 ⟨e2.symm, e1.symm⟩, by rw [e3]; exact World.ownsRow_nil _ _ _ _⟩, HB3.out⟩
    · obtain rfl : t = n := by omega
      have hd : decide ((t : Int) < (t : Int)) = false := decide_eq_false (by omega)
      have hfr := HFree.out (fun s hs => HNo.out s (by have := HL.out; omega))
      have HSm2 := Lib.hid (HSm.out hfr)
      have HStep2 := Lib.hid (HStep.out hfr)
      have HDone2 := Lib.hid (HDone.out hfr)
      have HOk2 := Lib.hid (HOk.out hfr)
      have hmk := run_make_u32 wr t (by omega)
      have HRU := Lib.hid (show URow (wr.alloc (.cells (u32s (List.replicate t 0)).toArray 23)) wr.heap.size (List.replicate t 0) from heap_alloc_new wr _)
      have HRI2 := Lib.hid (HRI.out.below ((Below.refl wr.heap.size wr).alloc (Nat.le_refl _) (.cells (u32s (List.replicate t 0)).toArray 23)) (Nat.le_refl _))
      have HB2 := Lib.hid (HB.out.alloc HB.out.size (.cells (u32s (List.replicate t 0)).toArray 23))
      have HXw : Hid (w.heap.size ≤ wr.heap.size) := HB.out.size
      rw [HL.out] at HPs
      clear HNo hlt HFree HSm HStep HDone HOk HLoop HAg HRI HB hfr
      go_upto_region 11 with fail
      clear hmk
      generalize wr.alloc (.cells (u32s (List.replicate t 0)).toArray 23) = w2 at *
      generalize wr.heap.size = X at *
      generalize List.replicate t 0 = Z at *
      clear hd
      obtain ⟨n, hnt⟩ : ∃ n, n = t := ⟨_, rfl⟩
      subst hnt
      obtain ⟨wo, hwo⟩ : ∃ wo : World, wo = wr := ⟨_, rfl⟩
      subst hwo
      go_wp2_with fail
      go_loopw [10] (fun m wr => ∃ (mb : Bool) (W : List Nat), m = .bool mb ∧ URow wr X W ∧ Pre l W ∧ (mb = false → W = frW l) ∧ BRow wr I ((List.range n).map (comeB l)) ∧ Below w.heap.size w wr) (fun m wr => 2 * (n * (n + 1) + 1 - usum (wr.heap[X]?)) + (match m with | .bool true => 1 | _ => 0))
      case atStart => exact ⟨true, Z, rfl, HRU.out, HPs.out, (fun e => by cases e), HRI2.out, HB2.out⟩
      case round =>
        clear HRU HPs HRI2 HB2
        obtain ⟨mb, W0, rfl, hrow, hpre, hend, hrI, hbel⟩ := hrel
        have HR := Lib.hid hrow
        have HP := Lib.hid hpre
        have HEnd := Lib.hid hend
        have HRI := Lib.hid hrI
        have HB := Lib.hid hbel
        clear hrow hpre hend hrI hbel
        obtain ⟨wo, hwo⟩ : ∃ wo : World, wo = wr := ⟨_, rfl⟩
        subst hwo
        cases mb with
        | false =>
          have hW := HEnd.out rfl
          have hR := HR.out
          rw [hW] at hR
          have HR2 := Lib.hid hR
          have HLw : Hid ((frW l).length = n) := by show _ = _; rw [← hW, HP.out.len, HL.out]
          have HXl := HXw
          clear hW hR HEnd HR HP
          go_wp2_with fail
          refine bodyPost_ret (v := .tuple #[.slice (some ⟨X, 0, none⟩) n n, .int .i64 0, .int .i64 0]) (by simp [results, Tryd.f24, go_sem]) rfl ?_
          refine ⟨⟨_, tup3 (a := 0) ⟨HOk2.out.2.symm, HOk2.out.1.symm⟩, ?_⟩, HB.out⟩
          rw [HLw.out]
          exact ⟨by unfold u32s; rw [List.length_map, HLw.out]; omega, .inr ⟨X, n, (u32s (frW l)).toArray, rfl, HXw.out, HR2.out, Nat.le_refl _, by unfold maxLen; omega, by unfold u32s; simp [HLw.out], by
            rw [List.toList_toArray]
            exact List.take_of_length_le (by unfold u32s; rw [List.length_map, HLw.out]; omega)⟩⟩
        | true =>
          clear HEnd
          have HRn := Lib.hid (Rnd.start HP.out)
          have HSu := Lib.hid (usum_row HR.out)
          go_wp2_with fail
          go_loopw [10, 11] (fun m i wr => ∃ (mb : Bool) (W : List Nat) (t : Nat), t ≤ n ∧ m = .bool mb ∧ i = .int .i64 t ∧ URow wr X W ∧ Rnd l W0 W t mb ∧ BRow wr I ((List.range n).map (comeB l)) ∧ Below w.heap.size w wr) (fun _ i _ => n - (intOf i).toNat)
          case atStart => exact ⟨false, W0, 0, by omega, rfl, rfl, HR.out, HRn.out, HRI.out, HB.out⟩
          case round =>
            clear HR HRn HRI HB
            obtain ⟨mb, W, t, ht, rfl, rfl, hrow, hrn, hrI, hbel⟩ := hrel
            have HR := Lib.hid hrow
            have HRn := Lib.hid hrn
            have HRI := Lib.hid hrI
            have HB := Lib.hid hbel
            have hlW : W.length = n := by rw [hrn.pre.len]; exact HL.out
            have HSmW := Lib.hid (HSm2.out W hrn.pre)
            clear hrow hrn hrI hbel
            by_cases hlt : t < n
            · have hd : decide ((t : Int) < (n : Int)) = true := decide_eq_true (by omega)
              have t0 : (0 : Int) ≤ t := by omega
              have t1 : (t : Int) < n := by omega
              have qI := HRI.out.at (k := t) (by simp; exact hlt)
              rw [map_at _ hlt] at qI
              cases hci : comeB l t with
              | false =>
                have H1 := Lib.hid (HRn.out.skip hci)
                rw [hci] at qI
                clear hci HRn hlW
                go_wp2_with fail
                exact ⟨⟨mb, W, t + 1, by omega, rfl, by simp, HR.out, H1.out, HRI.out, HB.out⟩, by simp [intOf]; omega⟩
              | true =>
                have H1 := Lib.hid (HStep2.out W0 W t mb HRn.out (by rw [HL.out]; exact hlt) hci)
                rw [hci] at qI
                have HC := Lib.hid (HBe.out wr HB.out t hlt)
                clear hci HRn
                go_wp2_with fail
                refine HC.out.mono ?_
                rintro e w3 ⟨v, rfl, hnm, hb3⟩
                obtain ⟨ab, cb, rfl, _, _, hnr, _⟩ := nums_row hnm
                have HR3 := Lib.hid (HR.out.below hb3 (Nat.le_refl _))
                have HRI3 := Lib.hid (HRI.out.below hb3 (Nat.le_refl _))
                have HB3 := Lib.hid (HB.out.trans (hb3.mono HB.out.size))
                have HN3 := Lib.hid hnr
                have HMt := Lib.hid (HMx.out t hlt)
                have hl2 := beh_len l t
                have HTk := Lib.hid (fun j hj => maxL_take (wf W) (ms := behL l t) (j := j) hj)
                have HTa : Hid (maxL (wf W) ((behL l t).take (behL l t).length) = maxL (wf W) (behL l t)) := by show _ = _; rw [List.take_length]
                have HT0 : Hid (1 + maxL (wf W) ((behL l t).take 0) = 1) := rfl
                clear hnm hb3 hnr HC HR HRI HB hd qI
                generalize hNL : (behL l t).length = p at *
                have HNL := Lib.hid hNL
                clear hNL
                obtain ⟨wq, hwq⟩ : ∃ wq : World, wq = wr := ⟨_, rfl⟩
                subst hwq
                go_wp2_with fail
                go_loopw [12, 14] (fun u i wr => ∃ (j : Nat), j ≤ p ∧ u = .int .u32 ((1 + maxL (wf W) ((behL l t).take j) : Nat) : Int) ∧ i = .int .i64 j ∧ 1 + maxL (wf W) ((behL l t).take j) ≤ n + 2 ∧ wr = w3) (fun _ i _ => p - (intOf i).toNat)
                case atStart => exact ⟨0, by omega, by rw [HT0.out]; rfl, rfl, by rw [HT0.out]; omega, rfl⟩
                case round =>
                  obtain ⟨j, hj, rfl, rfl, hub, rfl⟩ := hrel
                  by_cases hjp : j < p
                  · have hd : decide ((j : Int) < (p : Int)) = true := decide_eq_true (by omega)
                    obtain ⟨bv, ov, rfl, hcv⟩ := HN3.out.at j hjp
                    have hmem : (behL l t).getD j 0 ∈ behL l t := getD_mem 0 (by rw [HNL.out]; exact hjp)
                    have hmn : (behL l t).getD j 0 < n := by have := HMt.out _ hmem; have := HL.out; omega
                    have HTj := Lib.hid (HTk.out j hjp)
                    have qm := HR3.out.at (k := (behL l t).getD j 0) (by omega)
                    have hsm := HSmW.out.1 ((behL l t).getD j 0) (by rw [HL.out]; exact hmn)
                    rw [HL.out] at hsm
                    generalize (behL l t).getD j 0 = m at *
                    have HUb : Hid (1 + maxL (wf W) ((behL l t).take (j + 1)) ≤ n + 2) := by show _ ≤ _; rw [HTj.out]; omega
                    obtain ⟨M2, hM2⟩ : ∃ M2, maxL (wf W) ((behL l t).take (j + 1)) = M2 := ⟨_, rfl⟩
                    have HM2 := Lib.hid hM2
                    rw [hM2] at HTj HUb
                    clear hM2
                    generalize maxL (wf W) ((behL l t).take j) = M at *
                    generalize wf W m = x at *
                    have m0 : (0 : Int) ≤ m := by omega
                    have m1 : (m : Int) < n := by omega
                    have j0 : (0 : Int) ≤ j := by omega
                    have j1 : (j : Int) < p := by omega
                    have hwx : IntKind.u32.wrap ((x : Int) + 1) = ((x + 1 : Nat) : Int) := by simp [IntKind.wrap, IntKind.bits, IntKind.signed]; omega
                    by_cases hgt : 1 + M < x + 1
                    · have e1 : decide (((1 + M : Nat) : Int) < ((x + 1 : Nat) : Int)) = true := decide_eq_true (by omega)
                      have e2 : decide (1 + M < x + 1) = true := decide_eq_true (by omega)
                      have HV : Hid (((x + 1 : Nat) : Int) = ((1 + M2 : Nat) : Int)) := by have := HTj.out; show _ = _; omega
                      clear hgt hmem
                      generalize x + 1 = x1 at *
                      generalize 1 + M = M1 at *
                      go_wp2_with fail
                      exact ⟨⟨j + 1, by omega, by rw [HM2.out, HV.out], by simp, by rw [HM2.out]; exact HUb.out, trivial⟩, by simp [intOf]; omega⟩
                    · have e1 : decide (((1 + M : Nat) : Int) < ((x + 1 : Nat) : Int)) = false := decide_eq_false (by omega)
                      have e2 : decide (1 + M < x + 1) = false := decide_eq_false (by omega)
                      have HV : Hid (((1 + M : Nat) : Int) = ((1 + M2 : Nat) : Int)) := by have := HTj.out; show _ = _; omega
                      clear hgt hmem
                      generalize x + 1 = x1 at *
                      generalize 1 + M = M1 at *
                      go_wp2_with fail
                      exact ⟨⟨j + 1, by omega, by rw [HM2.out, HV.out], by simp, by rw [HM2.out]; exact HUb.out, trivial⟩, by simp [intOf]; omega⟩
                  · obtain rfl : j = p := by omega
                    have hd : decide ((j : Int) < (j : Int)) = false := decide_eq_false (by omega)
                    rw [HTa.out] at hub ⊢
                    have qt := HR3.out.at (k := t) (by omega)
                    have ft := HR3.out.free t
                    have HR4 := Lib.hid (HR3.out.set t (1 + maxL (wf W) (behL l t)))
                    have HRI4 := Lib.hid (HRI3.out.other (urow_brow HR3.out HRI3.out) t (.int .u32 ((1 + maxL (wf W) (behL l t) : Nat) : Int)))
                    have HB4 := Lib.hid (HB3.out.setCell (p := ⟨X, t, none⟩) HXw.out (.int .u32 ((1 + maxL (wf W) (behL l t) : Nat) : Int)))
                    clear HTk HTa HT0 hjp HN3 HR3 HRI3 HB3 HSmW
                    generalize 1 + maxL (wf W) (behL l t) = V at *
                    have hnb : (((V : Nat) : Int) != ((wf W t : Nat) : Int)) = (V != wf W t) := by
                      rw [Bool.eq_iff_iff]; simp only [bne_iff_ne, ne_eq]; omega
                    generalize wf W t = y at *
                    generalize hbq : (V != y) = bq at *
                    clear hbq
                    cases mb with
                    | true =>
                      simp only [Bool.true_or] at H1
                      go_wp2_with fail
                      exact ⟨⟨true, W.set t V, t + 1, by omega, rfl, by simp, HR4.out, H1.out, HRI4.out, HB4.out⟩, by simp [intOf]; omega⟩
                    | false =>
                      simp only [Bool.false_or] at H1
                      go_wp2_with fail
                      exact ⟨⟨bq, W.set t V, t + 1, by omega, rfl, by simp, HR4.out, H1.out, HRI4.out, HB4.out⟩, by simp [intOf]; omega⟩
            · obtain rfl : t = n := by omega
              have hd : decide ((t : Int) < (t : Int)) = false := decide_eq_false (by omega)
              have HSu2 := Lib.hid (usum_row HR.out)
              have HSb := Lib.hid HSmW.out.2
              rw [HL.out] at HSb
              clear hlt hlW HSmW
              go_wp2_with fail
              refine ⟨⟨mb, W, rfl, HR.out, HRn.out.pre, fun e => ?_, HRI.out, HB.out⟩, ?_⟩
              · subst e
                have hr := HRn.out
                rw [(HRn.out.quiet rfl).1]
                exact HDone2.out W0 W (by rw [HL.out]; exact hr)
              · rw [HSu.out, HSu2.out]
                have hb := HSb.out
                generalize t * (t + 1) = Q at *
                cases mb with
                | false => rw [(HRn.out.quiet rfl).1]; simp
                | true => have := HRn.out.moved rfl; simp; omega
end Cst
end Go.Proofs.YtjoiogdckbaeaaaDoor
