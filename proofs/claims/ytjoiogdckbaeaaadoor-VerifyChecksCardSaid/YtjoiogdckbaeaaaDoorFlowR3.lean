/- The document's own answers: what is come to. -/
import Derived.Test.YtjoiogdckbaeaaaDoorFlowR2
import Derived.Test.YtjoiogdckbaeaaaDoorFlowM
namespace Go.Proofs.YtjoiogdckbaeaaaDoor
open Go.ChangeShapes Go.WideShapes Go.ChangeAt Go.RowKit
namespace Flw
open Isa
set_option linter.unusedVariables false
set_option linter.unusedSimpArgs false
/-- how many bools of a block are false -/
def isF : Value → Nat
  | .bool b => if b then 0 else 1
  | _ => 0
def fls : Option Obj → Nat
  | some (.cells cs _ _) => (cs.toList.map isF).sum
  | _ => 0
theorem fls_row {w : World} {o : Nat} {l : List Bool} (h : BRow w o l) : fls (w.heap[o]?) = fcount l := by
  have h' : w.heap[o]? = some (.cells (bls l).toArray 4 (0, 0)) := h
  rw [h']
  show (((bls l).toArray).toList.map isF).sum = _
  rw [List.toList_toArray]
  clear h h'
  induction l with
  | nil => rfl
  | cons b r ih =>
    unfold bls at ih ⊢
    simp only [List.map_cons, List.sum_cons, fcount]
    rw [ih]
    rfl
theorem nums_row {S : Nat} {l : List Nat} {w : World} {v : Value} (h : numsP S l w v) : ∃ a c, v = .slice a l.length c ∧ l.length ≤ c ∧ c ≤ maxLen ∧ NRow w a l.length l ∧ ∀ b off, a = some ⟨b, off, none⟩ → S ≤ b := by
  have h' : w.ownsRow S 3 1 v l.length (nums l) := h
  obtain ⟨a, c, rfl, h1, h2, h3⟩ := own_nrow h'
  refine ⟨a, c, rfl, h1, h2, h3, fun b off e => ?_⟩
  subst e
  exact (World.ownsRow.lt h' b rfl).1
theorem nrow_set {w : World} {a : Option Addr} {n : Nat} {l : List Nat} (h : NRow w a n l) {o : Nat} (hne : ∀ b off, a = some ⟨b, off, none⟩ → b ≠ o) (k : Nat) (u : Value) : NRow (w.setCell ⟨o, k, none⟩ u) a n l := by
  obtain ⟨h1, h2⟩ := h
  refine ⟨h1, ?_⟩
  rcases h2 with h2 | ⟨b, off, rfl, hc⟩
  · exact .inl h2
  · exact .inr ⟨b, off, rfl, fun j hj => (World.cell?_of_block (setCell_blk w b o k u (hne b off rfl))).trans (hc j hj)⟩
set_option maxHeartbeats 6400000 in
theorem rcome_any (l : List Iv) (a : Option Addr) (n c : Nat) (hf : Fine l) (w : World) (h : IRow w a n l) : Calls Tryd.prog 20 #[.slice a n c] w fun e w' =>
    ∃ O, e = .returned (.slice (some ⟨O, 0, none⟩) n n) ∧ w.heap.size ≤ O ∧ BRow w' O ((List.range n).map (comeB l)) ∧ Below w.heap.size w w' := by
  have hln : l.length = n := h.1
  have HL := Lib.hid hln
  have HF := Lib.hid hf
  have HW := Lib.hid h.2.1
  have hn16 : n ≤ 16384 := by have := hf.most; omega
  have hn0 : 0 < n := by have := hf.some; omega
  have HBe := Lib.hid (fun W (hb : Below w.heap.size w W) k (hk : k < n) => rbehind_any l a n c (by omega) k hk W (h.below hb (Nat.le_refl _)))
  have hmk := run_make_bools w n (by omega)
  have HR0 := Lib.hid (brow_new w (List.replicate n false))
  have HB0 := Lib.hid ((Below.refl w.heap.size w).alloc (Nat.le_refl _) (.cells (bls (List.replicate n false)).toArray 4))
  have HMx := Lib.hid (fun (k : Nat) (hk : k < n) m (hm : m ∈ behL l k) => beh_lt hf h.2.1 (by omega) hm)
  clear h hf hln
  go_enter Tryd.func20, Tryd.ntmps20
  go_upto_region 2 with fail
  clear hmk
  generalize w.alloc (.cells (bls (List.replicate n false)).toArray 4) = w1 at *
  obtain ⟨O, hO⟩ : ∃ O, w.heap.size = O := ⟨_, rfl⟩
  have HO : Hid (w.heap.size ≤ O) := by show _ ≤ _; omega
  rw [hO] at HR0 ⊢
  have HOe := Lib.hid hO
  clear hO
  have hlr : (List.replicate n false).length = n := List.length_replicate
  have q0 := HR0.out.at (k := 0) (by rw [hlr]; exact hn0)
  have f0 := HR0.out.free 0
  have HR1 := Lib.hid (HR0.out.set 0 true)
  have HB1 := Lib.hid (HB0.out.setCell (p := ⟨O, 0, none⟩) HO.out (.bool true))
  have HS0 : Hid (∀ j, ((List.replicate n false).set 0 true).getD j false = true → Come l j) := fun j hj => by
    rw [getD_set (by rw [hlr]; exact hn0)] at hj
    split at hj
    · rename_i e; rw [← e]; exact .zero
    · rw [List.getD_eq_getElem?_getD, List.getElem?_replicate] at hj
      split at hj <;> simp at hj
  have HT0 : Hid (((List.replicate n false).set 0 true).getD 0 false = true) := by
    show _ = _
    rw [getD_set (by rw [hlr]; exact hn0), if_pos rfl]
  have HLn : Hid (((List.replicate n false).set 0 true).length = n) := by show _ = _; rw [List.length_set]; exact hlr
  generalize (List.replicate n false).getD 0 false = z0 at *
  generalize (List.replicate n false).set 0 true = B1 at *
  clear HR0 HB0 hlr
  go_upto_region 3 with fail
  generalize w1.setCell ⟨O, 0, none⟩ (.bool true) = w2 at *
  clear q0 f0
  go_wp2_with fail
  go_loopw [4] (fun m wr => ∃ (mb : Bool) (B : List Bool), m = .bool mb ∧ BRow wr O B ∧ B.length = n ∧ B.getD 0 false = true ∧ (∀ j, B.getD j false = true → Come l j) ∧ (mb = false → B = (List.range n).map (comeB l)) ∧ Below w.heap.size w wr) (fun m wr => 2 * fls (wr.heap[O]?) + (match m with | .bool true => 1 | _ => 0))
  case atStart => exact ⟨true, B1, rfl, HR1.out, HLn.out, HT0.out, HS0.out, (fun e => by cases e), HB1.out⟩
  case round =>
    obtain ⟨mb, B0, rfl, hrow, hlen, h0, hs, hend, hbel⟩ := hrel
    have HR := Lib.hid hrow
    have HB := Lib.hid hbel
    have H0 := Lib.hid h0
    have HEnd := Lib.hid hend
    have HMid := Lib.hid (Mid.start hlen hs)
    clear hrow hlen hs hend hbel h0 HR1 HB1 HS0 HT0 HLn
    obtain ⟨wo, hwo⟩ : ∃ wo : World, wo = wr := ⟨_, rfl⟩
    subst hwo
    cases mb with
    | false =>
      have hR := HR.out
      rw [HEnd.out rfl] at hR
      have HR2 := Lib.hid hR
      clear hR HEnd HR
      go_wp2_with fail
      go_ret
      exact ⟨O, rfl, HO.out, HR2.out, HB.out⟩
    | true =>
      clear HEnd
      have HFl := Lib.hid (fls_row HR.out)
      go_wp2_with fail
      go_loopw [4, 5] (fun m i wr => ∃ (mb : Bool) (B : List Bool) (t : Nat), t ≤ n ∧ m = .bool mb ∧ i = .int .i64 t ∧ BRow wr O B ∧ Mid l B0 B n t mb ∧ Below w.heap.size w wr) (fun _ i _ => n - (intOf i).toNat)
      case atStart => exact ⟨false, B0, 0, by omega, rfl, rfl, HR.out, HMid.out, HB.out⟩
      case round =>
        obtain ⟨mb, B, t, ht, rfl, rfl, hrow, hmid, hbel⟩ := hrel
        have HR := Lib.hid hrow
        have HB := Lib.hid hbel
        have HMd := Lib.hid hmid
        clear hrow hmid hbel
        by_cases hlt : t < n
        · have hd : decide ((t : Int) < (n : Int)) = true := decide_eq_true (by omega)
          have HC := Lib.hid (HBe.out wr HB.out t hlt)
          go_wp2_with fail
          refine HC.out.mono ?_
          rintro e w3 ⟨v, rfl, hnm, hb3⟩
          obtain ⟨av, cv, rfl, _, _, hnr, hge⟩ := nums_row hnm
          have HR3 := Lib.hid (HR.out.below hb3 (Nat.le_refl _))
          have HB3 := Lib.hid (HB.out.trans (hb3.mono HB.out.size))
          have HN3 := Lib.hid hnr
          have HNe : Hid (∀ b off, av = some ⟨b, off, none⟩ → b ≠ O) := fun b off e => by
            have h1 := hge b off e
            have h2 := HR.out.lt
            omega
          have HI3 := Lib.hid HMd.out.inn
          have HMt := Lib.hid (HMx.out t hlt)
          have hl2 := beh_len l t
          clear hnm hb3 hnr hge HC HR HB HMd hd
          generalize hNL : (behL l t).length = q at *
          have HNL := Lib.hid hNL
          clear hNL
          go_wp2_with fail
          go_loopw [4, 7] (fun m i wr => ∃ (mb : Bool) (B : List Bool) (j : Nat), j ≤ q ∧ m = .bool mb ∧ i = .int .i64 j ∧ BRow wr O B ∧ Inn l B0 B n t j mb ∧ NRow wr av q (behL l t) ∧ Below w.heap.size w wr) (fun _ i _ => q - (intOf i).toNat)
          case atStart => exact ⟨mb, B, 0, by omega, rfl, rfl, HR3.out, HI3.out, HN3.out, HB3.out⟩
          case round =>
            obtain ⟨mb, B, j, hj, rfl, rfl, hrow, hin, hnr, hbel⟩ := hrel
            have HR := Lib.hid hrow
            have HB := Lib.hid hbel
            have HI := Lib.hid hin
            have HN := Lib.hid hnr
            have hlB := hin.len
            clear hrow hin hnr hbel
            by_cases hjq : j < q
            · have hd : decide ((j : Int) < (q : Int)) = true := decide_eq_true (by omega)
              have k0 : (0 : Int) ≤ t := by omega
              have k1 : (t : Int) < n := by omega
              have qt := HR.out.at (k := t) (by omega)
              cases hbt : B.getD t false with
              | false =>
                have HD := Lib.hid (HI.out.done (.inr hbt))
                rw [hbt] at qt
                clear hbt HI hlB HN
                go_wp2_with fail
                exact ⟨⟨mb, B, t + 1, by omega, rfl, by simp, HR.out, HD.out, HB.out⟩, by simp [intOf]; omega⟩
              | true =>
                obtain ⟨bv, ov, rfl, hcv⟩ := HN.out.at j hjq
                have hmem : (behL l t).getD j 0 ∈ behL l t := getD_mem 0 (by rw [HNL.out]; exact hjq)
                have hmn : (behL l t).getD j 0 < n := by have := HMt.out _ hmem; have := HL.out; omega
                have HSt := Lib.hid (HI.out.step (by rw [HNL.out]; exact hjq) hmn hbt)
                rw [hbt] at qt
                have qm := HR.out.at (k := (behL l t).getD j 0) (by omega)
                have hbv := HNe.out bv ov rfl
                generalize (behL l t).getD j 0 = m at *
                have fm := HR.out.free m
                have HR4 := Lib.hid (HR.out.set m true)
                have HB4 := Lib.hid (HB.out.setCell (p := ⟨O, m, none⟩) HO.out (.bool true))
                have HN4 := Lib.hid (nrow_set HN.out (o := O) (fun b off e => HNe.out b off e) m (.bool true))
                have m0 : (0 : Int) ≤ m := by omega
                have m1 : (m : Int) < n := by omega
                have j0 : (0 : Int) ≤ j := by omega
                have j1 : (j : Int) < q := by omega
                clear hbt HI hlB HN hmem
                cases hbm : B.getD m false with
                | true =>
                  rw [hbm] at qm HSt
                  simp only [Bool.not_true, Bool.or_false] at HSt
                  clear hbm
                  cases mb with
                  | true =>
                    go_wp2_with fail
                    exact ⟨⟨true, B.set m true, j + 1, by omega, rfl, by simp, HR4.out, HSt.out, HN4.out, HB4.out⟩, by simp [intOf]; omega⟩
                  | false =>
                    go_wp2_with fail
                    exact ⟨⟨false, B.set m true, j + 1, by omega, rfl, by simp, HR4.out, HSt.out, HN4.out, HB4.out⟩, by simp [intOf]; omega⟩
                | false =>
                  rw [hbm] at qm HSt
                  simp only [Bool.not_false, Bool.or_true] at HSt
                  clear hbm
                  cases mb with
                  | true =>
                    go_wp2_with fail
                    exact ⟨⟨true, B.set m true, j + 1, by omega, rfl, by simp, HR4.out, HSt.out, HN4.out, HB4.out⟩, by simp [intOf]; omega⟩
                  | false =>
                    go_wp2_with fail
                    exact ⟨⟨true, B.set m true, j + 1, by omega, rfl, by simp, HR4.out, HSt.out, HN4.out, HB4.out⟩, by simp [intOf]; omega⟩
            · obtain rfl : j = q := by omega
              have hd : decide ((j : Int) < (j : Int)) = false := decide_eq_false (by omega)
              have HD := Lib.hid (HI.out.done (.inl (by rw [HNL.out]; exact Nat.le_refl _)))
              clear HI hlB HN
              go_wp2_with fail
              exact ⟨⟨mb, B, t + 1, by omega, rfl, by simp, HR.out, HD.out, HB.out⟩, by simp [intOf]; omega⟩
        · obtain rfl : t = n := by omega
          have hd : decide ((t : Int) < (t : Int)) = false := decide_eq_false (by omega)
          have HFl2 := Lib.hid (fls_row HR.out)
          have HMd2 := HMd
          clear hlt
          go_wp2_with fail
          refine ⟨⟨mb, B, rfl, HR.out, HMd2.out.len, HMd2.out.mono 0 H0.out, HMd2.out.sound, fun e => ?_, HB.out⟩, ?_⟩
          · subst e
            rw [(HMd2.out.quiet rfl).1]
            have hm := HMd2.out
            rw [(HMd2.out.quiet rfl).1] at hm
            exact hm.come HF.out HW.out HL.out H0.out
          · rw [HFl.out, HFl2.out]
            cases mb with
            | false => rw [(HMd2.out.quiet rfl).1]; simp
            | true => have := HMd2.out.moved rfl; simp; omega
end Flw
end Go.Proofs.YtjoiogdckbaeaaaDoor
