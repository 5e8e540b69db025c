/- The statement PortPlays holds: whatever definitions and whatever script are handed in, the call answers true, and what was handed in reads as it did. No condition. (Made by tools/gen_portplays.py.) -/
import Derived.Test.YtcapiaempfjmeaaPortR9
import Derived.Test.YtcapiaempfjmeaaPortPSt
import Derived.Deep.DeepCutAuto
import Derived.Deep.CutBlock
import Derived.Deep.RegionHeld3
namespace Go.Proofs.Ytcapiaempfjmeaa
open Go.ChangeShapes Go.WideShapes Go.ChangeAt Go.RowKit
namespace Prt
namespace Plays
set_option linter.unusedVariables false
set_option linter.unusedSimpArgs false
set_option maxHeartbeats 8000000
set_option maxRecDepth 100000
theorem walk (W : World) (a0 : Option Addr) (n0 c0 : Nat) (l : List Df) (h0 : FRow (fun k => W.heap.size ≤ k) W a0 n0 l) (hc0 : n0 ≤ c0 ∧ c0 ≤ 9223372036854775807)
    (a1 : Option Addr) (n1 c1 : Nat) (D : List Dv) (h1 : DRow (fun k => W.heap.size ≤ k) W a1 n1 D) (hc1 : n1 ≤ c1 ∧ c1 ≤ 9223372036854775807) :
    Calls Try.prog 3 #[.slice a0 n0 c0, .slice a1 n1 c1] W fun e w' => e = .returned (.bool true) ∧ Below W.heap.size W w' := by
  have hbT : ∀ {X Y : World}, Below W.heap.size W X → Below X.heap.size X Y → Below W.heap.size W Y := fun h k => h.trans (k.mono h.size)
  have HF := Lib.hid (fun (X : World) (h : Below W.heap.size W X) => h0.kept (Kept.below h))
  have HD := Lib.hid (fun (X : World) (h : Below W.heap.size W X) => h1.kept (Kept.below h))
  have HF0 := Lib.hid h0
  have HL : Hid (l.length = n0) := h0.1
  clear h0 h1
  by_cases g1 : 100 < n0
  · have e1 : decide ((100 : Int) < (n0 : Int)) = true := decide_eq_true (by omega)
    go_enter Try.func3, Try.ntmps3
    go_wp2_with (go_at_call 6; refine (known_any W).mono ?_; rintro e w1 ⟨rfl, hb1⟩)
    go_ret
    exact ⟨rfl, hb1⟩
  have e1 : decide ((100 : Int) < (n0 : Int)) = false := decide_eq_false (by omega)
  by_cases g2 : 1000 < n1
  · have e2 : decide ((1000 : Int) < (n1 : Int)) = true := decide_eq_true (by omega)
    go_enter Try.func3, Try.ntmps3
    go_wp2_with (go_at_call 6; refine (known_any W).mono ?_; rintro e w1 ⟨rfl, hb1⟩)
    go_ret
    exact ⟨rfl, hb1⟩
  have e2 : decide ((1000 : Int) < (n1 : Int)) = false := decide_eq_false (by omega)
  cases hm : mayL l with
  | false =>
    have HM := Lib.hid hm
    have HC : Hid (chkE l = 2) := by show _ = _; unfold chkE; rw [hm]; rfl
    clear hm
    go_enter Try.func3, Try.ntmps3
    go_wp2_with (go_at_call 6; refine (known_any W).mono ?_; rintro e w1 ⟨rfl, hb1⟩)
    refine (new_no (c := c0) (HF.out _ hb1) (by omega) HM.out).mono ?_
    rintro e w2 ⟨rfl, hb⟩
    have hb2 := hbT hb1 hb
    go_wp2_with fail
    refine (May_any (c := c0) (HF.out _ hb2) (by omega)).mono ?_
    rintro e w3 ⟨rfl, hb⟩
    have hb3 := hbT hb2 hb
    rw [HM.out]
    go_wp2_with fail
    have hck := check_any (c := c0) (HF.out _ hb3) (by omega)
    rw [HC.out] at hck
    refine hck.mono ?_
    rintro e w4 ⟨rfl, hb⟩
    have hb4 := hbT hb3 hb
    go_wp2_with fail
    go_ret
    exact ⟨rfl, hb4⟩
  | true =>
    have HM := Lib.hid hm
    have HC : Hid (chkE l = 0) := by show _ = _; unfold chkE; rw [hm]; rfl
    clear hm
    go_enter Try.func3, Try.ntmps3
    go_wp2_with (go_at_call 6; refine (known_any W).mono ?_; rintro e w1 ⟨rfl, hb1⟩)
    refine (new_any (c := c0) (HF.out _ hb1) (by omega) HM.out).mono ?_
    rintro e w2 ⟨g, rfl, hga, hpa, hb⟩
    have HB2 := Lib.hid (hbT hb1 hb)
    have HPa := Lib.hid hpa
    have HGa : Hid (W.heap.size ≤ g) := Nat.le_trans hb1.size hga
    clear hb hb1 hga hpa
    go_wp2_with fail
    refine (May_any (c := c0) (HF.out _ HB2.out) (by omega)).mono ?_
    rintro e w3 ⟨rfl, hb⟩
    have HB3 := Lib.hid (hbT HB2.out hb)
    have HPa := Lib.hid (HPa.out.below hb (Nat.le_refl _))
    clear hb HB2
    rw [HM.out]
    go_wp2_with fail
    have hck := check_any (c := c0) (HF.out _ HB3.out) (by omega)
    rw [HC.out] at hck
    refine hck.mono ?_
    rintro e w4 ⟨rfl, hb⟩
    have HB4 := Lib.hid (hbT HB3.out hb)
    have HPa := Lib.hid (HPa.out.below hb (Nat.le_refl _))
    clear hb HB3 hck HC
    go_wp2_with fail
    refine (rNew_any (HF.out _ HB4.out) HM.out).mono ?_
    rintro e w5 ⟨A, T, rfl, hr, hT, hb⟩
    have HS := Lib.hid (PS.new HPa.out hr hT hb HGa.out HB4.out)
    clear hr hT hb HB4 HPa HGa HM g1 g2 e1 e2
    generalize A.r = r at *
    go_wp2_with fail
    go_loopw [5, 66] (fun m i wr => ∃ (k g : Nat) (bs : List Bx), k ≤ n1 ∧ i = .int .i64 k ∧ m = .pointer (some ⟨g, 0, none⟩) ∧ PS W r n0 a0 c0 l g bs bs wr) (fun _ i _ => n1 - (intOf i).toNat)
    case atStart => exact ⟨0, g, _, by omega, rfl, rfl, HS.out⟩
    case round =>
      clear HS
      obtain ⟨k, g, bs, hk, rfl, rfl, hst⟩ := hrel
      have HS := Lib.hid hst
      clear hst
      by_cases hlt : k < n1
      · have k0 : (0 : Int) ≤ k := by omega
        have k1 : (k : Int) < n1 := by omega
        have hdd : decide ((k : Int) < (n1 : Int)) = true := decide_eq_true (by omega)
        have hd2 : decide (k < n1) = true := decide_eq_true hlt
        obtain ⟨b, off, rfl, _, hrow⟩ := (HD.out _ HS.out.bel).2.resolve_left (by omega)
        obtain ⟨q0, q1, q2, q3, q4⟩ := hrow k hlt
        clear hrow
        generalize D[k]! = y at *
        obtain ⟨kd, part, port, word, x, hy⟩ := y
        have HY := Lib.hid hy
        simp only at q0 q1 q2 q3 q4
        have HSv := Lib.hid (HS.out.v (cs := #[.int .i64 kd, .int .i64 part, .int .i64 port, .int .i64 word, .int .u32 x]) (below_alloc wr (.cells #[.int .i64 kd, .int .i64 part, .int .i64 port, .int .i64 word, .int .u32 x] 35)) (heap_alloc_new _ _))
        clear hy
        go_upto_block 2 with fail
        clear q0 q1 q2 q3 q4
        obtain ⟨V, hV⟩ : ∃ V, wr.heap.size = V := ⟨_, rfl⟩
        rw [hV] at HSv ⊢
        generalize wr.alloc (.cells #[.int .i64 kd, .int .i64 part, .int .i64 port, .int .i64 word, .int .u32 x] 35) = X0 at *
        clear HS hV
        go_cut [5] (fun m wx => ∃ (g : Nat) (b1 : List Bx), m = .pointer (some ⟨g, 0, none⟩) ∧ PS W r n0 a0 c0 l g b1 b1 wx)
        case first =>
          have hS := HSv.out
          clear HSv
          have hkd : kd = 0 ∨ kd = 1 ∨ kd = 2 ∨ kd = 3 ∨ kd = 4 ∨ kd = 5 ∨ kd = 6 ∨ kd = 7 ∨ (kd ≠ 0 ∧ kd ≠ 1 ∧ kd ≠ 2 ∧ kd ≠ 3 ∧ kd ≠ 4 ∧ kd ≠ 5 ∧ kd ≠ 6 ∧ kd ≠ 7) := by omega
          rcases hkd with rfl | rfl | rfl | rfl | rfl | rfl | rfl | rfl | ⟨hk0, hk1, hk2, hk3, hk4, hk5, hk6, hk7⟩
          · as_aux_lemma =>
              obtain ⟨d0, d1, d2, d3, d4⟩ := cells5 hS.v
              go_wp2_with fail
              refine (read_any hS.st.pt part port word).mono ?_
              rintro e w7 ⟨rfl, hb7⟩
              have hS7 := hS.below hb7
              obtain ⟨e0, e1, e2, e3, e4⟩ := cells5 hS7.v
              clear d0 d1 d2 d3 d4
              go_wp2_with fail
              refine (rreadPV hS7 HF0.out part port word HY.out.2.1).mono ?_
              rintro e w8 ⟨rfl, hb8⟩
              have hS8 := hS7.below hb8
              clear e0 e1 e2 e3 e4
              generalize readV bs part port word = va at *
              generalize errW rds bs part port word = ea at *
              go_wp2_with fail
              go_meet
              case rel => exact ⟨g, bs, rfl, hS8.st⟩
          · as_aux_lemma =>
              obtain ⟨d0, d1, d2, d3, d4⟩ := cells5 hS.v
              go_wp2_with fail
              refine (age_any hS.st.pt part port).mono ?_
              rintro e w7 ⟨rfl, hb7⟩
              have hS7 := hS.below hb7
              obtain ⟨e0, e1, e2, e3, e4⟩ := cells5 hS7.v
              clear d0 d1 d2 d3 d4
              go_wp2_with fail
              refine (ragePV hS7 HF0.out part port HY.out.2.1).mono ?_
              rintro e w8 ⟨rfl, hb8⟩
              have hS8 := hS7.below hb8
              clear e0 e1 e2 e3 e4
              generalize ageV bs part port = va at *
              generalize errA rds bs part port = ea at *
              go_wp2_with fail
              go_meet
              case rel => exact ⟨g, bs, rfl, hS8.st⟩
          · as_aux_lemma =>
              have hold : ∀ {Y : World} {b1 b2 : List Bx}, PV W r n0 a0 c0 l V #[.int .i64 2, .int .i64 part, .int .i64 port, .int .i64 word, .int .u32 x] g b1 b2 Y → Y.cell? ⟨V, 1, none⟩ = some (.int .i64 part) ∧ Y.cell? ⟨V, 2, none⟩ = some (.int .i64 port) ∧ Y.cell? ⟨V, 3, none⟩ = some (.int .i64 word) ∧ Y.cell? ⟨V, 4, none⟩ = some (.int .u32 x) := fun h => ⟨(cells5 h.v).2.1, (cells5 h.v).2.2.1, (cells5 h.v).2.2.2.1, (cells5 h.v).2.2.2.2⟩
              go_wp2_with fail
              go_region_held3 (fun w' => w'.cell? ⟨V, 1, none⟩ = some (.int .i64 part) ∧ w'.cell? ⟨V, 2, none⟩ = some (.int .i64 port) ∧ w'.cell? ⟨V, 3, none⟩ = some (.int .i64 word) ∧ w'.cell? ⟨V, 4, none⟩ = some (.int .u32 x)) (first | exact hold (by first | assumption | exact PV.drew (by assumption) | exact PV.drew (PV.drew (by assumption))) | go_keep) (first
                | (go_at_call 15; refine (putPV (by first | assumption | exact PV.drew (by assumption) | exact PV.drew (PV.drew (by assumption))) part port word x HY.out.2.2.2.2).mono ?_; rintro e w' ⟨rfl, hS⟩)
                | (go_at_call 16; refine (rputPV (by first | assumption | exact PV.drew (by assumption) | exact PV.drew (PV.drew (by assumption))) HF0.out part port word x HY.out.2.1 HY.out.2.2.2.2).mono ?_; rintro e w' ⟨rfl, hS⟩))
              all_goals
                go_wp2_with fail
                go_meet
                case rel => exact ⟨g, putL bs part port word x, rfl, PV.st (by first | assumption | exact PV.drew (by assumption) | exact PV.drew (PV.drew (by assumption)))⟩
          · as_aux_lemma =>
              have hold : ∀ {Y : World} {b1 b2 : List Bx}, PV W r n0 a0 c0 l V #[.int .i64 3, .int .i64 part, .int .i64 port, .int .i64 word, .int .u32 x] g b1 b2 Y → Y.cell? ⟨V, 1, none⟩ = some (.int .i64 part) ∧ Y.cell? ⟨V, 2, none⟩ = some (.int .i64 port) := fun h => ⟨(cells5 h.v).2.1, (cells5 h.v).2.2.1⟩
              go_wp2_with fail
              go_region_held3 (fun w' => w'.cell? ⟨V, 1, none⟩ = some (.int .i64 part) ∧ w'.cell? ⟨V, 2, none⟩ = some (.int .i64 port)) (first | exact hold (by first | assumption | exact PV.drew (by assumption) | exact PV.drew (PV.drew (by assumption))) | go_keep) (first
                | (go_at_call 17; refine (sendPV (by first | assumption | exact PV.drew (by assumption) | exact PV.drew (PV.drew (by assumption))) part port).mono ?_; rintro e w' ⟨rfl, hS⟩)
                | (go_at_call 18; refine (rsendPV (by first | assumption | exact PV.drew (by assumption) | exact PV.drew (PV.drew (by assumption))) HF0.out part port HY.out.2.1).mono ?_; rintro e w' ⟨rfl, hS⟩))
              all_goals
                go_wp2_with fail
                go_meet
                case rel => exact ⟨g, sendL bs part port, rfl, PV.st (by first | assumption | exact PV.drew (by assumption) | exact PV.drew (PV.drew (by assumption)))⟩
          · as_aux_lemma =>
              obtain ⟨d0, d1, d2, d3, d4⟩ := cells5 hS.v
              go_wp2_with fail
              refine (commitPV hS).mono ?_
              rintro e w7 ⟨rfl, hS7⟩
              obtain ⟨e0, e1, e2, e3, e4⟩ := cells5 hS7.v
              clear d0 d1 d2 d3 d4
              go_wp2_with fail
              refine (rcommitPV hS7).mono ?_
              rintro e w8 ⟨rfl, hS8⟩
              clear e0 e1 e2 e3 e4
              go_wp2_with fail
              go_meet
              case rel => exact ⟨g, comL bs, rfl, hS8.st⟩
          · as_aux_lemma =>
              obtain ⟨d0, d1, d2, d3, d4⟩ := cells5 hS.v
              go_wp2_with fail
              refine (unsendPV hS part).mono ?_
              rintro e w7 ⟨rfl, hS7⟩
              obtain ⟨e0, e1, e2, e3, e4⟩ := cells5 hS7.v
              clear d0 d1 d2 d3 d4
              go_wp2_with fail
              refine (runsendPV hS7 HF0.out part).mono ?_
              rintro e w8 ⟨rfl, hS8⟩
              clear e0 e1 e2 e3 e4
              go_wp2_with fail
              go_meet
              case rel => exact ⟨g, byL unsB part bs, rfl, hS8.st⟩
          · as_aux_lemma =>
              obtain ⟨d0, d1, d2, d3, d4⟩ := cells5 hS.v
              go_wp2_with fail
              refine (dropPV hS part).mono ?_
              rintro e w7 ⟨rfl, hS7⟩
              obtain ⟨e0, e1, e2, e3, e4⟩ := cells5 hS7.v
              clear d0 d1 d2 d3 d4
              go_wp2_with fail
              refine (rdropPV hS7 HF0.out part).mono ?_
              rintro e w8 ⟨rfl, hS8⟩
              clear e0 e1 e2 e3 e4
              go_wp2_with fail
              go_meet
              case rel => exact ⟨g, byL dropB part bs, rfl, hS8.st⟩
          · skip
            go_wp2_with fail
            refine (copy_any hS.st.pt).mono ?_
            rintro e w7 ⟨g', rfl, hg', hp', hb7⟩
            have HO := Lib.hid (hS.st.copied hg' hp' hb7)
            clear hS hg' hp' hb7
            go_wp2_with fail
            go_loopw [205] (fun i wx => ∃ (j : Nat) (lo : List Bx), j ≤ n0 ∧ i = .int .i64 j ∧ PO W r n0 a0 c0 l g lo g' bs bs wx) (fun i _ => n0 - (intOf i).toNat)
            case atStart => exact ⟨0, bs, by omega, rfl, HO.out⟩
            case round =>
              clear HO
              obtain ⟨j, lo, hj, rfl, hpo⟩ := hrel
              have HO := Lib.hid hpo
              clear hpo
              by_cases hjl : j < n0
              · have j0 : (0 : Int) ≤ j := by omega
                have j1 : (j : Int) < n0 := by omega
                have hjd : decide ((j : Int) < (n0 : Int)) = true := decide_eq_true (by omega)
                have hjd2 : decide (j < n0) = true := decide_eq_true hjl
                obtain ⟨bb, ob, rfl, _, hrow⟩ := (HF.out _ HO.out.st.bel).2.2.resolve_left (by omega)
                have q1 := (hrow j hjl).2.1
                have HRow := Lib.hid (fun X (h : Below W.heap.size W X) => HF.out X h)
                clear hrow
                generalize hwr : (l[j]!).wr = zw at *
                have HWr := Lib.hid hwr
                clear hwr
                go_wp2_with fail
                refine (put_any HO.out.pt zw j 0 99 (by omega)).mono ?_
                rintro e w8 ⟨rfl, hp8, hk8⟩
                have HO8 := Lib.hid (HO.out.old hp8 hk8)
                clear hp8 hk8 q1
                obtain ⟨bb2, ob2, e2, _, hrow⟩ := (HF.out _ HO8.out.st.bel).2.2.resolve_left (by omega)
                cases e2
                have q1 := (hrow j hjl).2.1
                rw [HWr.out] at q1
                clear hrow
                go_wp2_with fail
                refine (send_any HO8.out.pt zw j).mono ?_
                rintro e w9 ⟨rfl, hp9, hk9⟩
                have HO9 := Lib.hid (HO8.out.old hp9 hk9)
                clear hp9 hk9 q1
                go_wp2_with fail
                go_roundw
                case rel => exact ⟨j + 1, _, by omega, by go_num, HO9.out⟩
                case measure => simp [intOf]; omega
              · have hjd : decide ((j : Int) < (n0 : Int)) = false := decide_eq_false (by omega)
                have hjd2 : decide (j < n0) = false := decide_eq_false hjl
                go_wp2_with fail
                refine (Commit_any HO.out.pt).mono ?_
                rintro e w8 ⟨rfl, hp8, hk8⟩
                have HO8 := Lib.hid (HO.out.old hp8 hk8)
                clear hp8 hk8
                go_wp2_with fail
                go_meet
                case rel => exact ⟨g', bs, rfl, HO8.out.st⟩
          · as_aux_lemma =>
              have z0 : (kd == 0) = false := by simpa using hk0
              have z1 : (kd == 1) = false := by simpa using hk1
              have z2 : (kd == 2) = false := by simpa using hk2
              have z3 : (kd == 3) = false := by simpa using hk3
              have z4 : (kd == 4) = false := by simpa using hk4
              have z5 : (kd == 5) = false := by simpa using hk5
              have z6 : (kd == 6) = false := by simpa using hk6
              have z7 : (kd == 7) = false := by simpa using hk7
              clear hk0 hk1 hk2 hk3 hk4 hk5 hk6 hk7
              go_wp2_with fail
              go_meet
              case rel => exact ⟨g, bs, rfl, hS.st⟩
        case rest =>
          as_aux_lemma =>
            obtain ⟨g', b1, rfl, hst⟩ := hcut
            have HSt := Lib.hid hst
            clear hst HSv
            go_wp2_with fail
            refine (alikePS HSt.out).mono ?_
            rintro e w7 ⟨rfl, hb7⟩
            have HS7 := Lib.hid (HSt.out.below hb7)
            clear hb7 HSt
            go_wp2_with fail
            go_roundw
            case rel => exact ⟨k + 1, g', b1, by omega, by go_num, rfl, HS7.out⟩
            case measure => simp [intOf]; omega
      · have hdd : decide ((k : Int) < (n1 : Int)) = false := decide_eq_false (by omega)
        have hd2 : decide (k < n1) = false := decide_eq_false hlt
        go_wp2_with fail
        go_ret
        exact ⟨rfl, HS.out.bel⟩
/-- what the walk gives, for every argument -/
theorem lifted (os : Os) (started : os.Started) (H : Type) (enc : TypeId × Value → H) :
    ReturnsInHanded {} Try.checked os 3 .any (Rows.portPlaysSpec.pre6 enc Try.prog Try.f3 Rows.portPlaysRow.domain false) (Rows.portPlaysSpec.post enc Try.prog Try.f3 false true false false) := by
  refine returnsInHanded_of_change (C := Try.checked) own started (by kernel_rfl) Try.func3
    (ChangeSpec.witness6 (enc := enc) (C := Try.checked) false ⟨#[], #[.slice none 0 0, .slice none 0 0], []⟩ 8 (by kernel_rfl) (by kernel_rfl) (by kernel_rfl) (by kernel_rfl)) ?_
  intro W base args ds gs before hval0 hW hcnd _
  have hval : ∀ (j : Nat) t v, Try.f3.params[j]? = some t → args[j]? = some v → Value.okWide Try.prog W .any base t v := hval0
  have hW' := hW
  obtain ⟨p, q, hA0, hV, rfl, hfz, hnd⟩ := hW
  have hA : DataW.TrodAll enc Try.prog W 0 (fun _ => true) true Try.f3.params.toList args.toList ds p := hA0
  rw [Try.params3] at hA hval
  obtain ⟨v0, vs0, d0, ds0, p0, q0, hargs, rfl, rfl, h0, r0⟩ := trodAll_cons hA
  obtain ⟨v1, vs1, d1, ds1, p1, q1, rfl, rfl, rfl, h1, r1⟩ := trodAll_cons r0
  obtain ⟨rfl, rfl, rfl⟩ := trodAll_nil r1
  obtain rfl : args = #[v0, v1] := by cases args; simp_all
  obtain ⟨rfl, rfl⟩ := trodVars_none hV
  have k0 := h0
  have lt0 : ∀ x ∈ p0, x.block < W.heap.size := by obtain ⟨m, hm⟩ := k0; exact DataW.trod_lt m _ _ _ hm
  obtain ⟨a0, len0, cap0, rfl⟩ := okWide_slice Try.underlying22 (hval 0 22 v0 rfl rfl)
  obtain ⟨z0, w0, nc0⟩ : ∃ l, FRow (fun k => W.heap.size ≤ k) W a0 len0 l ∧ len0 ≤ cap0 ∧ cap0 ≤ 9223372036854775807 := by
    obtain ⟨fuel, hf⟩ := h0
    obtain ⟨a, n, c, l, hcs, h1, h2, h3⟩ := open_defs hf
    simp [Value.cells] at hcs
    obtain ⟨rfl, rfl, rfl⟩ := hcs
    exact ⟨l, h3, h1, h2⟩
  have k1 := h1
  have lt1 : ∀ x ∈ p1, x.block < W.heap.size := by obtain ⟨m, hm⟩ := k1; exact DataW.trod_lt m _ _ _ hm
  obtain ⟨a1, len1, cap1, rfl⟩ := okWide_slice Try.underlying23 (hval 1 23 v1 rfl rfl)
  obtain ⟨z1, w1, nc1⟩ : ∃ l, DRow (fun k => W.heap.size ≤ k) W a1 len1 l ∧ len1 ≤ cap1 ∧ cap1 ≤ 9223372036854775807 := by
    obtain ⟨fuel, hf⟩ := h1
    obtain ⟨a, n, c, l, hcs, h1, h2, h3⟩ := open_dos hf
    simp [Value.cells] at hcs
    obtain ⟨rfl, rfl, rfl⟩ := hcs
    exact ⟨l, h3, h1, h2⟩
  clear hA0 hval0
  refine (walk W a0 len0 cap0 z0 w0 nc0 a1 len1 cap1 z1 w1 nc1).mono fun e W' ⟨he, bel⟩ => ?_
  subst he
  exact ⟨_, rfl, _, _, _, [], _, [], hW', trodAll_mk1 (shut_bool Try.underlying4 _), (trodAll_cons_mk (Below.trod laidOut (by kernel_rfl) (of_decide_eq_true (by kernel_rfl)) k0 bel lt0) (trodAll_cons_mk (Below.trod laidOut (by kernel_rfl) (of_decide_eq_true (by kernel_rfl)) k1 bel lt1) trodAll_mk0)), rfl, bel.frame _, fun h => by cases h⟩

theorem proved : Rows.PortPlaysSaid :=
  OpenClaim.holds_of_wide 3 Try.f3 rfl rfl rfl rfl rfl rfl rfl ⟨rfl, rfl, rfl, rfl, rfl⟩ rfl rfl rfl rfl rfl (by kernel_rfl) Try.func3 (by kernel_rfl)
    (of_decide_eq_true (by kernel_rfl)) (by unfold Func.isWrapper; first | (rw [if_pos (by decide +kernel)]; kernel_rfl) | (rw [if_neg (by decide +kernel)]; exact ⟨rfl, rfl⟩))
    (fun os started H enc _ => lifted os started H enc)
#print axioms proved
end Plays
end Prt
end Go.Proofs.Ytcapiaempfjmeaa
