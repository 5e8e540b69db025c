/- The statement FieldPlays holds: whatever definition and whatever script are handed in, the call answers true, and what was handed in reads as it did. No condition. (Made by tools/gen_fieldplays.py.) -/
import Derived.Test.YtoighaicdakbkaaFieldPSt
import Derived.Deep.DeepCutAuto
import Derived.Deep.CutBlock
import Derived.Deep.RegionHeld3
namespace Go.Proofs.Ytoighaicdakbkaa
open Go.ChangeShapes Go.WideShapes Go.ChangeAt Go.RowKit
namespace Fld
namespace Plays
set_option linter.unusedVariables false
set_option linter.unusedSimpArgs false
section
variable {W : World} {S : Nat} {d : Df} {b : Option Addr} {c r m : Nat} {a : Fa} {vb : Nat} {cs : Array Value} {s s5 : Fv} {ri ro rj : List Int} {ps pj : List (Int × Int)} {V V' : World} {E : Int}
theorem bd {V X : World} (hb : Below V.drew.heap.size V.drew X) : Below V.heap.size V X := (Below.refl _ _).drew.trans hb
theorem bt {V X Y : World} (h : Below V.heap.size V X) (hb : Below X.heap.size X Y) : Below V.heap.size V Y := h.trans (hb.mono h.size)
theorem latchPV' (h : PV W S d b c r a vb cs s ri ro ps V) {x : Option Addr} {n cc : Nat} {l : List Int} (hr : ∀ Y, Below S W Y → NRow (fun k => S ≤ k) Y x n l) (hn : n ≤ 9223372036854775807) (hE : latchE s l = E) (hs : latchF s l = s5) :
    Calls Try.prog 11 #[.pointer (some ⟨a.g, 0, none⟩), .slice x n cc] V (Out W S d b c r a vb cs s5 ri ro ps (.int .i64 E)) := by
  subst hE
  subst hs
  exact latchPV h hr hn
theorem rlatchPV' (h : PV W S d b c r a vb cs s ri ro ps V) {x : Option Addr} {n cc : Nat} {l : List Int} (hr : ∀ Y, Below S W Y → NRow (fun k => S ≤ k) Y x n l) (hcc : x = none → cc = 0) (h16 : d.ins ≤ 16)
    (hi : (if (n : Int) = d.ins then l else ri) = rj) (hp : (if (n : Int) = d.ins then [] else ps) = pj) (hE : (if (n : Int) = d.ins then (0 : Int) else 2) = E) :
    Calls Try.prog 12 #[.pointer (some ⟨r, 0, none⟩), .slice x n cc] V (Out W S d b c r a vb cs s rj ro pj (.int .i64 E)) := by
  subst hi
  subst hp
  subst hE
  exact rlatchPV h hr hcc h16
theorem outPV' (h : PV W S d b c r a vb cs s ri ro ps V) (part n x : Int) (hE : outE s part n = E) (hs : outF s part n x = s5) :
    Calls Try.prog 15 #[.pointer (some ⟨a.g, 0, none⟩), .int .i64 part, .int .i64 n, .int .u32 x] V (Out W S d b c r a vb cs s5 ri ro ps (.int .i64 E)) := by
  subst hE
  subst hs
  exact outPV h part n x
theorem routPV' (h : PV W S d b c r a vb cs s ri ro ps V) (hl : ps.length ≤ 100000) (part n x : Int) (hp : (if refuse (part == d.wr) n d.safe.length = 0 then ps ++ [(n, x)] else ps) = pj) (hE : refuse (part == d.wr) n d.safe.length = E) :
    Calls Try.prog 16 #[.pointer (some ⟨r, 0, none⟩), .int .i64 part, .int .i64 n, .int .u32 x] V (Out W S d b c r a vb cs s ri ro pj (.int .i64 E)) := by
  subst hp
  subst hE
  exact routPV h hl part n x
theorem PS.tail (h : PS W S d b c r m a s V) : ∃ gi ci go co, ∀ Y, Below V.heap.size V Y → (Y.cell? ⟨r, 4, none⟩ = some (.slice (some ⟨gi, 0, none⟩) s.ins.length ci) ∧ Y.cell? ⟨r, 5, none⟩ = some (.slice (some ⟨go, 0, none⟩) s.outs.length co)) ∧
    NRow (fun _ => False) Y (some ⟨gi, 0, none⟩) s.ins.length s.ins ∧ NRow (fun _ => False) Y (some ⟨go, 0, none⟩) s.outs.length s.outs := by
  obtain ⟨A, ps, rfl, h2, h3, h4⟩ := h
  refine ⟨A.gi, A.ci, A.go, A.co, fun Y hb => ?_⟩
  have h5 := h4.below hb
  obtain ⟨-, -, -, -, c4, c5, -⟩ := h5.rf.c0
  exact ⟨⟨c4, c5⟩, h5.rf.ri.nrow id, h5.rf.ro.nrow id⟩
theorem PS.insT (h : PS W S d b c r m a s V) : ∀ Y, Below V.heap.size V Y → Calls Try.prog 21 #[.pointer (some ⟨a.g, 0, none⟩)] Y (GotP s.ins s.ins.length Y) := fun Y hb => insG (Fld.PS.below h hb).fr.fd rfl rfl
theorem PS.outsT (h : PS W S d b c r m a s V) : ∀ Y, Below V.heap.size V Y → Calls Try.prog 22 #[.pointer (some ⟨a.g, 0, none⟩)] Y (GotP s.outs s.outs.length Y) := fun Y hb => outsG (Fld.PS.below h hb).fr.fd rfl rfl
theorem PS.bounds (h : PS W S d b c r m a s V) (h1 : d.ins ≤ 16) (h2 : d.safe.length ≤ 16) : s.ins.length ≤ 300000 ∧ s.outs.length ≤ 300000 := by
  have h3 := (Fld.PS.fr h).si
  have h4 := (Fld.PS.fr h).fd.ok.so
  have h5 := congrArg List.length (Fld.PS.fr h).sf
  omega
end
set_option maxHeartbeats 8000000
set_option maxRecDepth 100000
theorem walk (W : World) (d : Df) (b : Option Addr) (c : Nat) (h0 : NRow (fun k => W.heap.size ≤ k) W b d.safe.length d.safe) (hd : DefB d b c)
    (a1 : Option Addr) (n1 c1 : Nat) (D1 : List Dv) (h1 : DRow (fun k => W.heap.size ≤ k) W a1 n1 D1) (hc1 : n1 ≤ c1 ∧ c1 ≤ 9223372036854775807) :
    Calls Try.prog 3 #[.agg #[.int .i64 d.ins, .slice b d.safe.length c, .int .u32 d.rd, .int .i64 d.wr], .slice a1 n1 c1] W fun e w' => e = .returned (.bool true) ∧ Below W.heap.size W w' := by
  have HD0 := Lib.hid (fun (X : World) (h : Below W.heap.size W X) => h0.kept (Kept.below h))
  have HD1 := Lib.hid (fun (X : World) (h : Below W.heap.size W X) => h1.kept (Kept.below h))
  have HDW := Lib.hid h1
  have HDB := Lib.hid hd
  have HB0 := Lib.hid (below_alloc W (.cells #[.int .i64 d.ins, .slice b d.safe.length c, .int .u32 d.rd, .int .i64 d.wr] 25))
  have HX0 := Lib.hid (heap_alloc_new W (.cells #[.int .i64 d.ins, .slice b d.safe.length c, .int .u32 d.rd, .int .i64 d.wr] 25))
  obtain ⟨S, hS⟩ : ∃ S, W.heap.size = S := ⟨_, rfl⟩
  rw [hS] at HD0 HD1 HDW HB0 HX0
  have HSz := Lib.hid hS
  have hcap := hd.cap
  clear h0 h1 hd
  go_enter Try.func3, Try.ntmps3
  rw [hS]
  go_wp2_with (rw [hS])
  clear hS
  refine (known_any _).mono ?_
  rintro e w1 ⟨rfl, hb1⟩
  have HX1 := Lib.hid ((hb1.block S (lt_of_block HX0.out)).trans HX0.out)
  have HB1 := Lib.hid (HB0.out.trans (hb1.mono (Nat.le_of_lt (lt_of_block HX0.out))))
  clear hb1 HB0 HX0
  obtain ⟨x0, x1, x2, x3⟩ := box_cells HX1.out
  by_cases g1 : 1000 < d.safe.length
  · have e1 : decide ((1000 : Int) < (d.safe.length : Int)) = true := decide_eq_true (by omega)
    go_wp2_with fail
    go_ret
    exact ⟨rfl, HB1.out⟩
  have e1 : decide ((1000 : Int) < (d.safe.length : Int)) = false := decide_eq_false (by omega)
  go_wp2_with fail
  refine (heavy_any (c := c1) (HD1.out _ HB1.out) (Nat.le_of_lt (lt_of_block HX1.out)) (by omega)).mono ?_
  rintro e w2 ⟨hv1, rfl, hh1, hb2⟩
  have HX2 := Lib.hid ((hb2.block S (lt_of_block HX1.out)).trans HX1.out)
  have HB2 := Lib.hid (HB1.out.trans (hb2.mono (Nat.le_of_lt (lt_of_block HX1.out))))
  clear hb2 x0 x1 x2 x3 HX1 HB1
  cases hv1 with
  | true =>
    go_wp2_with fail
    go_ret
    exact ⟨rfl, HB2.out⟩
  | false =>
  have hn1 : n1 ≤ 500 := hh1 rfl
  clear hh1
  obtain ⟨x0, x1, x2, x3⟩ := box_cells HX2.out
  cases hm : d.may with
  | false =>
    have HC := Lib.hid (fun W => check_any d b c (by omega) W)
    rw [hm] at HC
    simp only [Bool.false_eq_true, if_false] at HC
    have HF := Lib.hid hm
    go_wp2_with fail
    refine (new_no d b c (by omega) hm _).mono ?_
    rintro e w4 ⟨rfl, hb4⟩
    have HX4 := Lib.hid ((hb4.block S (lt_of_block HX2.out)).trans HX2.out)
    have HB4 := Lib.hid (HB2.out.trans (hb4.mono (Nat.le_of_lt (lt_of_block HX2.out))))
    clear hb4 x0 x1 x2 x3 HX2 HB2 hm
    obtain ⟨x0, x1, x2, x3⟩ := box_cells HX4.out
    go_wp2_with fail
    refine (may_ref d b c (by omega) _).mono ?_
    rintro e w5 ⟨rfl, hb5⟩
    have HX5 := Lib.hid ((hb5.block S (lt_of_block HX4.out)).trans HX4.out)
    have HB5 := Lib.hid (HB4.out.trans (hb5.mono (Nat.le_of_lt (lt_of_block HX4.out))))
    clear hb5 x0 x1 x2 x3 HX4 HB4
    rw [HF.out]
    obtain ⟨x0, x1, x2, x3⟩ := box_cells HX5.out
    go_wp2_with fail
    refine (HC.out _).mono ?_
    rintro e w6 ⟨rfl, hb6⟩
    have HB6 := Lib.hid (HB5.out.trans (hb6.mono (Nat.le_of_lt (lt_of_block HX5.out))))
    clear hb6 x0 x1 x2 x3 HX5 HB5
    go_wp2_with fail
    go_ret
    exact ⟨rfl, HB6.out⟩
  | true =>
  have HC := Lib.hid (fun W => check_any d b c (by omega) W)
  rw [hm] at HC
  simp only [if_true] at HC
  have HF := Lib.hid hm
  go_wp2_with fail
  refine (new_any d (c := c) (HD0.out _ HB2.out) HDB.out.rd.1 hm).mono ?_
  rintro e w4 ⟨a, rfl, hf4, hown4, hb4⟩
  have HM := Lib.hid (may_iff.1 hm)
  have HS4 : Hid (Fr W S d b c a.wr a (newF d) w4) :=
    ⟨hf4, fun _ h => h, fun k hk => Nat.lt_of_lt_of_le (lt_of_block HX2.out) (hown4 k (wr_own hk)), fun k hk => hf4.lt k (wr_own hk), HB2.out.trans (hb4.mono (Nat.le_of_lt (lt_of_block HX2.out))), (hb4.block S (lt_of_block HX2.out)).trans HX2.out, rfl, rfl, rfl, by
      have := HM.out; show ((List.replicate d.ins.toNat (0 : Int)).length : Int) = d.ins; simp; omega⟩
  clear hf4 hown4 hb4 HX2 HB2 x0 x1 x2 x3 hm
  obtain ⟨x0, x1, x2, x3⟩ := HS4.out.cells
  go_wp2_with fail
  refine (may_ref d b c (by omega) _).mono ?_
  rintro e w5 ⟨rfl, hb5⟩
  have HS5 := Lib.hid (HS4.out.below hb5)
  clear hb5 x0 x1 x2 x3 HS4
  rw [HF.out]
  obtain ⟨x0, x1, x2, x3⟩ := HS5.out.cells
  go_wp2_with fail
  refine (HC.out _).mono ?_
  rintro e w6 ⟨rfl, hb6⟩
  have HS6 := Lib.hid (HS5.out.below hb6)
  clear hb6 x0 x1 x2 x3 HS5 HC
  obtain ⟨x0, x1, x2, x3⟩ := HS6.out.cells
  go_wp2_with fail
  refine (rnew_any (HD0.out _ HS6.out.bel) HDB.out.nil HF.out (lt_of_block HS6.out.box)).mono ?_
  rintro e w7 ⟨A, rfl, hr, hA, hb7⟩
  have HS7 := Lib.hid (PS.new HS6.out hr hA hb7)
  clear hr hA hb7 HS6 x0 x1 x2 x3 HF
  obtain ⟨M, hM⟩ := Int.eq_ofNat_of_zero_le HM.out.1
  have HMi : Hid (d.ins = (M : Int)) := hM
  have hM16 : M ≤ 16 := by have := HM.out; omega
  replace HM : Hid (d.ins ≤ 16 ∧ d.ins ≤ 16 ∧ d.safe.length ≤ 16 ∧ d.rd ≤ 255) := ⟨HM.out.2.1, HM.out.2.1, HM.out.2.2.1, HM.out.2.2.2.1⟩
  clear hM g1 e1 hcap
  generalize A.r = r at *
  generalize newF d = s7 at *
  go_wp2_with fail
  go_loopw [5, 59] (fun m i wr => ∃ (k : Nat) (a : Fa) (s : Fv), k ≤ n1 ∧ i = .int .i64 k ∧ m = .pointer (some ⟨a.g, 0, none⟩) ∧ PS W S d b c r k a s wr) (fun _ i _ => n1 - (intOf i).toNat)
  case atStart => exact ⟨0, a, s7, by omega, rfl, rfl, HS7.out⟩
  case round =>
    clear HS7
    obtain ⟨k, a, s, hk, rfl, rfl, hst⟩ := hrel
    have HS := Lib.hid hst
    clear hst
    by_cases hlt : k < n1
    · have k0 : (0 : Int) ≤ k := by omega
      have k1 : (k : Int) < n1 := by omega
      have hdd : decide ((k : Int) < (n1 : Int)) = true := decide_eq_true (by omega)
      have hd2 : decide (k < n1) = true := decide_eq_true hlt
      obtain ⟨b1, off, rfl, hpb, hdt⟩ := HDW.out.2.resolve_left (by omega)
      obtain ⟨q0, q1, q2, q3, ba, bn, bc, q4, hbn, hbc, hrw, hnil⟩ := hdt k hlt
      have hkw := Kept.below HS.out.fr.bel
      replace q0 := hkw.cell q0 hpb
      replace q1 := hkw.cell q1 hpb
      replace q2 := hkw.cell q2 hpb
      replace q3 := hkw.cell q3 hpb
      replace q4 := hkw.cell q4 hpb
      clear hdt hkw hpb
      generalize D1[k]! = y at *
      obtain ⟨kd, part, n, x, yl, hy⟩ := y
      have HY := Lib.hid hy
      simp only at q0 q1 q2 q3 q4 hrw
      have HRL : Hid (∀ Y, Below S W Y → NRow (fun k => S ≤ k) Y ba bn yl) := fun Y h => hrw.kept (Kept.below h)
      have HRD : Hid (∀ Y, Below S W Y → NRow (fun k => S ≤ k) Y b d.safe.length d.safe) := HD0.out
      have HYl : Hid (yl.length = bn) := hrw.1
      have HNil := Lib.hid hnil
      have HN1 : Hid (bn ≤ 9223372036854775807) := by show _ ≤ _; omega
      have HFd : Hid (s.safe = d.safe ∧ (s.ins.length : Int) = d.ins ∧ s.rd = d.rd ∧ s.wr = d.wr ∧ s.ok) := ⟨HS.out.fr.sf, HS.out.fr.si, HS.out.fr.rd, HS.out.fr.wq, HS.out.fr.fd.ok⟩
      obtain ⟨ps, hpl, hpm, hSv⟩ := HS.out.v #[.int .i64 kd, .int .i64 part, .int .i64 n, .int .u32 x, .slice ba bn bc]
      have HSv := Lib.hid hSv
      have HPm := Lib.hid hpm
      clear hy hrw hnil hSv hpm
      go_upto_block 2 with fail
      clear q0 q1 q2 q3 q4
      obtain ⟨vb, hV⟩ : ∃ V, wr.heap.size = V := ⟨_, rfl⟩
      rw [hV] at HSv ⊢
      generalize wr.alloc (.cells #[.int .i64 kd, .int .i64 part, .int .i64 n, .int .u32 x, .slice ba bn bc] 38) = X0 at *
      clear HS hV
      go_cut [5] (fun m wx => ∃ (a : Fa) (s : Fv), m = .pointer (some ⟨a.g, 0, none⟩) ∧ PS W S d b c r (k + 1) a s wx)
      case first =>
        have hS := HSv.out
        have hpm := HPm.out
        clear HSv HPm
        have hkd : kd = 0 ∨ kd = 1 ∨ kd = 2 ∨ kd = 3 ∨ kd = 4 ∨ (kd ≠ 0 ∧ kd ≠ 1 ∧ kd ≠ 2 ∧ kd ≠ 3 ∧ kd ≠ 4) := by omega
        rcases hkd with rfl | rfl | rfl | rfl | rfl | ⟨hk0, hk1, hk2, hk3, hk4⟩
        · as_aux_lemma =>
            obtain ⟨q1, q2, q3, q4⟩ := latch_link (n := bn) hpm HFd.out.1 HFd.out.2.1 HYl.out
            obtain ⟨E, hE⟩ : ∃ E, latchE s yl = E := ⟨_, rfl⟩
            obtain ⟨s5, hs5⟩ : ∃ s5, latchF s yl = s5 := ⟨_, rfl⟩
            obtain ⟨rj, hrj⟩ : ∃ rj, (if (bn : Int) = d.ins then yl else s.ins) = rj := ⟨_, rfl⟩
            obtain ⟨pj, hpj⟩ : ∃ pj, (if (bn : Int) = d.ins then [] else ps) = pj := ⟨_, rfl⟩
            have HE := Lib.hid hE
            have HE2 : Hid ((if (bn : Int) = d.ins then (0 : Int) else 2) = E) := q1.symm.trans hE
            have HS5 := Lib.hid hs5
            have HRJ := Lib.hid hrj
            have HPJ := Lib.hid hpj
            have HPl : Hid (pj.length ≤ k + 1) := by show _ ≤ _; rw [← hpj]; split <;> (first | omega | (simp; done) | (simp; omega))
            rw [hrj, hs5] at q2
            rw [hs5] at q3
            rw [hpj, hs5] at q4
            have HQ := Lib.hid (And.intro q2 (And.intro q3 q4))
            clear hE hs5 hrj hpj q1 q2 q3 q4 hpm hpl
            have hold : ∀ {Y : World} {s' : Fv} {ri' ro' : List Int} {ps' : List (Int × Int)}, PV W S d b c r a vb #[.int .i64 0, .int .i64 part, .int .i64 n, .int .u32 x, .slice ba bn bc] s' ri' ro' ps' Y → Y.cell? ⟨vb, 4, none⟩ = some (.slice ba bn bc) := fun h => (five h.v).2.2.2.2
            go_wp2_with fail
            go_region_held3 (fun w' => w'.cell? ⟨vb, 4, none⟩ = some (.slice ba bn bc)) (first | exact hold (by first | assumption | exact PV.drew (by assumption) | exact PV.drew (PV.drew (by assumption))) | go_keep) (first
              | (go_at_call 11; refine (latchPV' (by first | assumption | exact PV.drew (by assumption) | exact PV.drew (PV.drew (by assumption))) HRL.out HN1.out HE.out HS5.out).mono ?_; rintro e w' ⟨rfl, hS⟩)
              | (go_at_call 12; refine (rlatchPV' (by first | assumption | exact PV.drew (by assumption) | exact PV.drew (PV.drew (by assumption))) HRL.out HNil.out HM.out.2.1 HRJ.out HPJ.out HE2.out).mono ?_; rintro e w' ⟨rfl, hS⟩))
            all_goals
              go_wp2_with fail
              go_meet
              case rel => exact ⟨a, s5, rfl, PV.st' (by first | assumption | exact PV.drew (by assumption) | exact PV.drew (PV.drew (by assumption))) HQ.out.1 HQ.out.2.1 HPl.out HQ.out.2.2⟩
        · as_aux_lemma =>
            obtain ⟨d0, d1, d2, d3, d4⟩ := five hS.v
            have HL := Lib.hid (in_link HFd.out.2.2.1 part n)
            go_wp2_with fail
            refine (in_any hS.fr.fd part n).mono ?_
            rintro e w7 ⟨rfl, hb7⟩
            have hS7 := hS.below hb7
            rw [HL.out.1, HL.out.2]
            obtain ⟨e0, e1, e2, e3, e4⟩ := five hS7.v
            clear d0 d1 d2 d3 d4
            go_wp2_with fail
            refine (rinPV hS7 ⟨HDB.out.rd.1, HM.out.2.2.2⟩ part n HY.out.2.1).mono ?_
            rintro e w8 ⟨rfl, hw8⟩
            subst hw8
            clear e0 e1 e2 e3 e4
            generalize rinV d s.ins part n = va at *
            generalize rinE d s.ins part n = ea at *
            go_wp2_with fail
            go_meet
            case rel => exact ⟨a, s, rfl, hS7.st (by omega) hpm⟩
        · as_aux_lemma =>
            obtain ⟨q1, q2, q3, q4⟩ := out_link hpm HFd.out.2.2.2.2 HFd.out.1 HFd.out.2.2.2.1 part n x
            obtain ⟨E, hE⟩ : ∃ E, outE s part n = E := ⟨_, rfl⟩
            obtain ⟨s5, hs5⟩ : ∃ s5, outF s part n x = s5 := ⟨_, rfl⟩
            obtain ⟨pj, hpj⟩ : ∃ pj, (if refuse (part == d.wr) n d.safe.length = 0 then ps ++ [(n, x)] else ps) = pj := ⟨_, rfl⟩
            have HE := Lib.hid hE
            have HE2 : Hid (refuse (part == d.wr) n d.safe.length = E) := q1.symm.trans hE
            have HS5 := Lib.hid hs5
            have HPJ := Lib.hid hpj
            have HPl : Hid (pj.length ≤ k + 1) := by show _ ≤ _; rw [← hpj]; split <;> (first | omega | (simp; done) | (simp; omega))
            have HPk : Hid (ps.length ≤ 100000) := by show _ ≤ _; omega
            rw [hs5] at q2 q3
            rw [hpj, hs5] at q4
            have HQ := Lib.hid (And.intro q2 (And.intro q3 q4))
            clear hE hs5 hpj q1 q2 q3 q4 hpm hpl
            have hold : ∀ {Y : World} {s' : Fv} {ri' ro' : List Int} {ps' : List (Int × Int)}, PV W S d b c r a vb #[.int .i64 2, .int .i64 part, .int .i64 n, .int .u32 x, .slice ba bn bc] s' ri' ro' ps' Y → Y.cell? ⟨vb, 1, none⟩ = some (.int .i64 part) ∧ Y.cell? ⟨vb, 2, none⟩ = some (.int .i64 n) ∧ Y.cell? ⟨vb, 3, none⟩ = some (.int .u32 x) := fun h => ⟨(five h.v).2.1, (five h.v).2.2.1, (five h.v).2.2.2.1⟩
            go_wp2_with fail
            go_region_held3 (fun w' => w'.cell? ⟨vb, 1, none⟩ = some (.int .i64 part) ∧ w'.cell? ⟨vb, 2, none⟩ = some (.int .i64 n) ∧ w'.cell? ⟨vb, 3, none⟩ = some (.int .u32 x)) (first | exact hold (by first | assumption | exact PV.drew (by assumption) | exact PV.drew (PV.drew (by assumption))) | go_keep) (first
              | (go_at_call 15; refine (outPV' (by first | assumption | exact PV.drew (by assumption) | exact PV.drew (PV.drew (by assumption))) part n x HE.out HS5.out).mono ?_; rintro e w' ⟨rfl, hS⟩)
              | (go_at_call 16; refine (routPV' (by first | assumption | exact PV.drew (by assumption) | exact PV.drew (PV.drew (by assumption))) HPk.out part n x HPJ.out HE2.out).mono ?_; rintro e w' ⟨rfl, hS⟩))
            all_goals
              go_wp2_with fail
              go_meet
              case rel => exact ⟨a, s5, rfl, PV.st' (by first | assumption | exact PV.drew (by assumption) | exact PV.drew (PV.drew (by assumption))) HQ.out.1 HQ.out.2.1 HPl.out HQ.out.2.2⟩
        · as_aux_lemma =>
            have HL := Lib.hid (fun ok => com_link hpm HFd.out.1 ok)
            obtain ⟨d0, d1, d2, d3, d4⟩ := five hS.v
            go_wp2_with fail
            refine (comPV hS _).mono ?_
            rintro e w7 ⟨rfl, hS7⟩
            obtain ⟨e0, e1, e2, e3, e4⟩ := five hS7.v
            clear d0 d1 d2 d3 d4
            go_wp2_with fail
            refine (rcomPV hS7 HRD.out HDB.out.nil HM.out.2.2.1 (by omega) _).mono ?_
            rintro e w8 ⟨rfl, hS8⟩
            clear e0 e1 e2 e3 e4
            go_wp2_with fail
            go_meet
            case rel => exact ⟨a, _, rfl, PV.st' hS8 (HL.out _).1 (HL.out _).2.1 (by simp) (HL.out _).2.2⟩
        · as_aux_lemma =>
            go_wp2_with fail
            refine (copy_any hS.fr.fd).mono ?_
            rintro e w7 ⟨a', rfl, h1, h2, h3, h4, h5⟩
            have HO := Lib.hid ((hS.st hpl hpm).copied h1 h2 h3 h4 h5)
            clear h1 h2 h3 h4 h5 hS
            obtain ⟨x0, x1, x2, x3⟩ := HO.out.st.fr.cells
            rw [HMi.out] at x0
            have hmk := run_make_nums w7 M (by omega)
            go_wp2_with fail
            have HO7 := Lib.hid (HO.out.below (below_alloc w7 (.cells (nums (List.replicate M 0)).toArray 23)))
            have hrow : NRow a.wr (w7.alloc (.cells (nums (List.replicate M 0)).toArray 23)) (some ⟨w7.heap.size, 0, none⟩) M (List.replicate M 0) := by
              have := num_row (p := a.wr) (heap_alloc_new w7 (.cells (nums (List.replicate M 0)).toArray 23)) (fun e => by have := HO.out.fd.lt _ (wr_own e); omega)
              rwa [List.length_replicate] at this
            refine (latch_any HO7.out.fd hrow (by omega)).mono ?_
            rintro e w8 ⟨rfl, hf8, hk8⟩
            have HO8 := Lib.hid (HO7.out.old hf8 hk8)
            clear hf8 hk8 HO HO7 x0 x1 x2 x3 hmk hrow
            obtain ⟨x0, x1, x2, x3⟩ := HO8.out.st.fr.cells
            generalize latchE s (List.replicate M 0) = e8 at *
            generalize latchF s (List.replicate M 0) = s8 at *
            go_wp2_with fail
            refine (out_any HO8.out.fd d.wr 0 77).mono ?_
            rintro e w9 ⟨rfl, hf9, hk9⟩
            have HO9 := Lib.hid (HO8.out.old hf9 hk9)
            clear hf9 hk9 HO8 x0 x1 x2 x3
            generalize outE s8 d.wr 0 = e9 at *
            generalize outF s8 d.wr 0 77 = s9 at *
            go_wp2_with fail
            refine (commit_any HO9.out.fd true).mono ?_
            rintro e w10 ⟨rfl, hf10, hk10⟩
            have HO10 := Lib.hid (HO9.out.old hf10 hk10)
            clear hf10 hk10 HO9
            go_wp2_with fail
            go_meet
            case rel => exact ⟨a', s, rfl, HO10.out.st.more (by omega)⟩
        · as_aux_lemma =>
            have z0 : (kd == 0) = false := by simpa using hk0
            have z1 : (kd == 1) = false := by simpa using hk1
            have z2 : (kd == 2) = false := by simpa using hk2
            have z3 : (kd == 3) = false := by simpa using hk3
            have z4 : (kd == 4) = false := by simpa using hk4
            clear hk0 hk1 hk2 hk3 hk4
            go_wp2_with fail
            go_meet
            case rel => exact ⟨a, s, rfl, hS.st (by omega) hpm⟩
      case rest =>
        as_aux_lemma =>
          obtain ⟨a', s', rfl, hst⟩ := hcut
          have HSt := Lib.hid hst
          obtain ⟨gi, ci, go, co, htl⟩ := PS.tail hst
          have HT := Lib.hid htl
          have HGI := Lib.hid (PS.insT hst)
          have HGO := Lib.hid (PS.outsT hst)
          have HBd := Lib.hid (PS.bounds hst HM.out.1 HM.out.2.2.1)
          have HTB := Lib.hid (fun Y hb => (hst.below (V' := Y) hb))
          clear hst htl HSt
          go_wp2_with fail
          go_region_held3 (fun w' => w'.cell? ⟨r, 4, none⟩ = some (.slice (some ⟨gi, 0, none⟩) s'.ins.length ci) ∧ w'.cell? ⟨r, 5, none⟩ = some (.slice (some ⟨go, 0, none⟩) s'.outs.length co)) (first | exact (HT.out _ (by first | assumption | exact (Below.refl _ _).drew | exact Below.refl _ _)).1 | go_keep) (first
            | (go_at_call 21; refine (HGI.out _ (by first | assumption | exact (Below.refl _ _).drew | exact Below.refl _ _)).mono ?_; rintro e w9 ⟨g9, rfl, hg9, hl9, hr9, hb9⟩; replace hb9 := bd hb9)
            | (go_at_call 20; with_reducible refine (same_any hr9 (HT.out _ hb9).2.1 HBd.out.1).mono ?_; rintro e w10 ⟨rfl, hb10⟩; replace hb10 := bt hb9 hb10; clear hr9 hg9 hl9)
            | (go_at_call 22; refine (HGO.out _ hb10).mono ?_; rintro e w11 ⟨g11, rfl, hg11, hl11, hr11, hb11⟩; replace hb11 := bt hb10 hb11)
            | (go_at_call 20; with_reducible refine (same_any hr11 (HT.out _ hb11).2.2 HBd.out.2).mono ?_; rintro e w12 ⟨rfl, hb12⟩; replace hb12 := bt hb11 hb12; clear hr11 hg11 hl11))
          all_goals
            rename_i hK _
            refine hK _ _ ?_
            go_wp2_with fail
            go_roundw
            case rel => exact ⟨k + 1, a', s', by omega, by go_num, rfl, HTB.out _ hb12⟩
            case measure => simp [intOf]; omega
    · have hdd : decide ((k : Int) < (n1 : Int)) = false := decide_eq_false (by omega)
      have hd2 : decide (k < n1) = false := decide_eq_false hlt
      go_wp2_with fail
      go_ret
      exact ⟨rfl, HS.out.fr.bel⟩
/-- what the walk gives, for every argument -/
theorem lifted (os : Os) (started : os.Started) (H : Type) (enc : TypeId × Value → H) :
    ReturnsInHanded {} Try.checked os 3 .any (Rows.fieldPlaysSpec.pre6 enc Try.prog Try.f3 Rows.fieldPlaysRow.domain false) (Rows.fieldPlaysSpec.post enc Try.prog Try.f3 false true false false) := by
  refine returnsInHanded_of_change (C := Try.checked) own started (by kernel_rfl) Try.func3
    (ChangeSpec.witness6 (enc := enc) (C := Try.checked) false ⟨#[], #[.agg #[.int .i64 0, .slice none 0 0, .int .u32 0, .int .i64 0], .slice none 0 0], []⟩ 8 (by kernel_rfl) (by kernel_rfl) (by kernel_rfl) (by kernel_rfl)) ?_
  intro W base args ds gs before hval0 hW hcnd _
  have hval : ∀ (j : Nat) t v, Try.f3.params[j]? = some t → args[j]? = some v → Value.okWide Try.prog W .any base t v := hval0
  have hW' := hW
  obtain ⟨p, q, hA0, hV, rfl, hfz, hnd⟩ := hW
  have hA : DataW.TrodAll enc Try.prog W 0 (fun _ => true) true Try.f3.params.toList args.toList ds p := hA0
  rw [Try.params3] at hA hval
  obtain ⟨v0, vs0, d0, ds0, p0, q0, hargs, rfl, rfl, h0, r0⟩ := trodAll_cons hA
  obtain ⟨v1, vs1, d1, ds1, p1, q1, rfl, rfl, rfl, h1, r1⟩ := trodAll_cons r0
  obtain ⟨rfl, rfl, rfl⟩ := trodAll_nil r1
  obtain rfl : args = #[v0, v1] := by cases args; simp_all
  obtain ⟨rfl, rfl⟩ := trodVars_none hV
  have k0 := h0
  have lt0 : ∀ x ∈ p0, x.block < W.heap.size := by obtain ⟨m, hm⟩ := k0; exact DataW.trod_lt m _ _ _ hm
  obtain ⟨c0, rfl, _⟩ := okWide_struct Try.underlying25 (hval 0 25 v0 rfl rfl)
  obtain ⟨z0, a0, cap0, rfl, w0, nc0⟩ : ∃ (d : Df) (a : Option Addr) (c : Nat), c0 = #[.int .i64 d.ins, .slice a d.safe.length c, .int .u32 d.rd, .int .i64 d.wr] ∧ NRow (fun k => W.heap.size ≤ k) W a d.safe.length d.safe ∧ DefB d a c := by
    obtain ⟨fuel, hf⟩ := h0
    obtain ⟨d, a, c, hcs, h1, h2, h3, h4, h5, h6, h7⟩ := open_fdef hf
    simp [Value.cells] at hcs
    exact ⟨d, a, c, by cases c0; simp_all, h3, ⟨⟨h1, h2⟩, h4, h5, h6, h7⟩⟩
  have k1 := h1
  have lt1 : ∀ x ∈ p1, x.block < W.heap.size := by obtain ⟨m, hm⟩ := k1; exact DataW.trod_lt m _ _ _ hm
  obtain ⟨a1, len1, cap1, rfl⟩ := okWide_slice Try.underlying26 (hval 1 26 v1 rfl rfl)
  obtain ⟨z1, w1, nc1⟩ : ∃ l, DRow (fun k => W.heap.size ≤ k) W a1 len1 l ∧ len1 ≤ cap1 ∧ cap1 ≤ 9223372036854775807 := by
    obtain ⟨fuel, hf⟩ := h1
    obtain ⟨a, n, c, l, hcs, h1, h2, h3⟩ := open_dos hf
    simp [Value.cells] at hcs
    obtain ⟨rfl, rfl, rfl⟩ := hcs
    exact ⟨l, h3, h1, h2⟩
  clear hA0 hval0
  refine (walk W z0 a0 cap0 w0 nc0 a1 len1 cap1 z1 w1 nc1).mono fun e W' ⟨he, bel⟩ => ?_
  subst he
  exact ⟨_, rfl, _, _, _, [], _, [], hW', trodAll_mk1 (shut_bool Try.underlying4 _), (trodAll_cons_mk (Below.trod laidOut (by kernel_rfl) (of_decide_eq_true (by kernel_rfl)) k0 bel lt0) (trodAll_cons_mk (Below.trod laidOut (by kernel_rfl) (of_decide_eq_true (by kernel_rfl)) k1 bel lt1) trodAll_mk0)), rfl, bel.frame _, fun h => by cases h⟩

theorem proved : Rows.FieldPlaysSaid :=
  OpenClaim.holds_of_wide 3 Try.f3 rfl rfl rfl rfl rfl rfl rfl ⟨rfl, rfl, rfl, rfl, rfl⟩ rfl rfl rfl rfl rfl (by kernel_rfl) Try.func3 (by kernel_rfl)
    (of_decide_eq_true (by kernel_rfl)) (by unfold Func.isWrapper; first | (rw [if_pos (by decide +kernel)]; kernel_rfl) | (rw [if_neg (by decide +kernel)]; exact ⟨rfl, rfl⟩))
    (fun os started H enc _ => lifted os started H enc)
#print axioms proved
end Plays
end Fld
end Go.Proofs.Ytoighaicdakbkaa
