/- The statement FieldFrame holds: whatever definition, scripts, words and bool are handed in, the call answers true, and what was handed in reads as it did. No condition. (Made by tools/gen_fieldframe.py.) -/
import Derived.Test.YtoighaicdakbkaaFieldFr
import Derived.Deep.DeepCutAuto
import Derived.Deep.CutBlock
import Derived.Deep.RegionHeld3
namespace Go.Proofs.Ytoighaicdakbkaa
open Go.ChangeShapes Go.WideShapes Go.ChangeAt Go.RowKit
namespace Fld
namespace Frame
set_option linter.unusedVariables false
set_option linter.unusedSimpArgs false
set_option maxHeartbeats 8000000
set_option maxRecDepth 100000
theorem walk (W : World) (d : Df) (b : Option Addr) (c : Nat) (h0 : NRow (fun k => W.heap.size ≤ k) W b d.safe.length d.safe) (hd : DefB d b c)
    (a1 : Option Addr) (n1 c1 : Nat) (D1 : List Dv) (h1 : DRow (fun k => W.heap.size ≤ k) W a1 n1 D1) (hc1 : n1 ≤ c1 ∧ c1 ≤ 9223372036854775807)
    (a2 : Option Addr) (n2 c2 : Nat) (l2 : List Int) (h2 : NRow (fun k => W.heap.size ≤ k) W a2 n2 l2) (hc2 : n2 ≤ c2 ∧ c2 ≤ 9223372036854775807)
    (a3 : Option Addr) (n3 c3 : Nat) (D3 : List Dv) (h3 : DRow (fun k => W.heap.size ≤ k) W a3 n3 D3) (hc3 : n3 ≤ c3 ∧ c3 ≤ 9223372036854775807) (ok : Bool) :
    Calls Try.prog 4 #[.agg #[.int .i64 d.ins, .slice b d.safe.length c, .int .u32 d.rd, .int .i64 d.wr], .slice a1 n1 c1, .slice a2 n2 c2, .slice a3 n3 c3, .bool ok] W fun e w' => e = .returned (.bool true) ∧ Below W.heap.size W w' := by
  have HD0 := Lib.hid (fun (X : World) (h : Below W.heap.size W X) => h0.kept (Kept.below h))
  have HD1 := Lib.hid (fun (X : World) (h : Below W.heap.size W X) => h1.kept (Kept.below h))
  have HD2 := Lib.hid (fun (X : World) (h : Below W.heap.size W X) => h2.kept (Kept.below h))
  have HD3 := Lib.hid (fun (X : World) (h : Below W.heap.size W X) => h3.kept (Kept.below h))
  have HL2 : Hid (l2.length = n2) := h2.1
  have HDB := Lib.hid hd
  have HB0 := Lib.hid (below_alloc W (.cells #[.int .i64 d.ins, .slice b d.safe.length c, .int .u32 d.rd, .int .i64 d.wr] 25))
  have HX0 := Lib.hid (heap_alloc_new W (.cells #[.int .i64 d.ins, .slice b d.safe.length c, .int .u32 d.rd, .int .i64 d.wr] 25))
  obtain ⟨S, hS⟩ : ∃ S, W.heap.size = S := ⟨_, rfl⟩
  rw [hS] at HD0 HD1 HD2 HD3 HB0 HX0
  have HSz := Lib.hid hS
  have hcap := hd.cap
  clear h0 h1 h2 h3 hd
  go_enter Try.func4, Try.ntmps4
  rw [hS]
  go_wp2_with (rw [hS])
  clear hS
  refine (known_any _).mono ?_
  rintro e w1 ⟨rfl, hb1⟩
  have HX1 := Lib.hid ((hb1.block S (lt_of_block HX0.out)).trans HX0.out)
  have HB1 := Lib.hid (HB0.out.trans (hb1.mono (Nat.le_of_lt (lt_of_block HX0.out))))
  clear hb1 HB0 HX0
  obtain ⟨x0, x1, x2, x3⟩ := box_cells HX1.out
  by_cases g1 : 1000 < d.safe.length
  · have e1 : decide ((1000 : Int) < (d.safe.length : Int)) = true := decide_eq_true (by omega)
    go_wp2_with fail
    go_ret
    exact ⟨rfl, HB1.out⟩
  have e1 : decide ((1000 : Int) < (d.safe.length : Int)) = false := decide_eq_false (by omega)
  go_wp2_with fail
  refine (heavy_any (c := c1) (HD1.out _ HB1.out) (Nat.le_of_lt (lt_of_block HX1.out)) (by omega)).mono ?_
  rintro e w2 ⟨hv1, rfl, hh1, hb2⟩
  have HX2 := Lib.hid ((hb2.block S (lt_of_block HX1.out)).trans HX1.out)
  have HB2 := Lib.hid (HB1.out.trans (hb2.mono (Nat.le_of_lt (lt_of_block HX1.out))))
  clear hb2 x0 x1 x2 x3
  cases hv1 with
  | true =>
    go_wp2_with fail
    go_ret
    exact ⟨rfl, HB2.out⟩
  | false =>
  have hn1 : n1 ≤ 500 := hh1 rfl
  clear hh1
  go_wp2_with fail
  refine (heavy_any (c := c3) (HD3.out _ HB2.out) (Nat.le_of_lt (lt_of_block HX2.out)) (by omega)).mono ?_
  rintro e w3 ⟨hv3, rfl, hh3, hb3⟩
  have HX3 := Lib.hid ((hb3.block S (lt_of_block HX2.out)).trans HX2.out)
  have HB3 := Lib.hid (HB2.out.trans (hb3.mono (Nat.le_of_lt (lt_of_block HX2.out))))
  clear hb3 HX1 HX2 HB1 HB2
  cases hv3 with
  | true =>
    go_wp2_with fail
    go_ret
    exact ⟨rfl, HB3.out⟩
  | false =>
  have hn3 : n3 ≤ 500 := hh3 rfl
  clear hh3
  obtain ⟨x0, x1, x2, x3⟩ := box_cells HX3.out
  cases hm : d.may with
  | false =>
    go_wp2_with fail
    refine (new_no d b c (by omega) hm _).mono ?_
    rintro e w4 ⟨rfl, hb4⟩
    go_wp2_with fail
    go_ret
    exact ⟨rfl, HB3.out.trans (hb4.mono (Nat.le_of_lt (lt_of_block HX3.out)))⟩
  | true =>
  go_wp2_with fail
  refine (new_any d (c := c) (HD0.out _ HB3.out) HDB.out.rd.1 hm).mono ?_
  rintro e w4 ⟨a, rfl, hf4, hown4, hb4⟩
  have HM := Lib.hid (may_iff.1 hm)
  have HS4 : Hid (Fr W S d b c a.wr a (newF d) w4) :=
    ⟨hf4, fun _ h => h, fun k hk => Nat.lt_of_lt_of_le (lt_of_block HX3.out) (hown4 k (wr_own hk)), fun k hk => hf4.lt k (wr_own hk), HB3.out.trans (hb4.mono (Nat.le_of_lt (lt_of_block HX3.out))), (hb4.block S (lt_of_block HX3.out)).trans HX3.out, rfl, rfl, rfl, by
      have := HM.out; show ((List.replicate d.ins.toNat (0 : Int)).length : Int) = d.ins; simp; omega⟩
  clear hf4 hown4 hb4 HX3 HB3 x0 x1 x2 x3 hm
  have hN16 : d.safe.length ≤ 16 := HM.out.2.2.1
  generalize newF d = s4 at *
  go_wp2_with fail
  -- what came ahead
  go_loopw [44] (fun i wr => ∃ (k : Nat) (s : Fv), k ≤ n1 ∧ i = .int .i64 k ∧ Fr W S d b c a.wr a s wr) (fun i _ => n1 - (intOf i).toNat)
  case atStart => exact ⟨0, s4, by omega, rfl, HS4.out⟩
  case round =>
    clear HS4
    obtain ⟨k, s, hk, rfl, hst⟩ := hrel
    have HS := Lib.hid hst
    clear hst
    by_cases hlt : k < n1
    · have k0 : (0 : Int) ≤ k := by omega
      have k1 : (k : Int) < n1 := by omega
      have hdd : decide ((k : Int) < (n1 : Int)) = true := decide_eq_true (by omega)
      have hd2 : decide (k < n1) = true := decide_eq_true hlt
      as_aux_lemma =>
        obtain ⟨b1, off, rfl, q0, q1, q2, q3, ba, bn, bc, q4, -, -, -, -⟩ := (HD1.out _ HS.out.bel).at hlt
        generalize D1[k]! = y at *
        obtain ⟨kd, part, n, x, yl, hy⟩ := y
        simp only at q0 q1 q2 q3 q4
        have HSv := Lib.hid (HS.out.v #[.int .i64 kd, .int .i64 part, .int .i64 n, .int .u32 x, .slice ba bn bc])
        go_wp2_with fail
        refine (outV HSv.out part n x).mono ?_
        rintro e w5 ⟨rfl, hV, -⟩
        obtain ⟨d0, d1, d2, d3, d4⟩ := five hV.v
        have HV := Lib.hid hV
        clear hV HSv q0 q1 q2 q3 q4 d1 d2 d3 d4
        generalize outE s part n = E at *
        generalize outF s part n x = s5 at *
        go_wp2_with fail
        refine (commitV HV.out _).mono ?_
        rintro e w6 ⟨rfl, hV, -⟩
        have HV6 := Lib.hid hV.fr
        clear hV HV d0
        go_wp2_with fail
        go_roundw
        case rel => exact ⟨k + 1, _, by omega, by go_num, HV6.out⟩
        case measure => simp [intOf]; omega
    · have hdd : decide ((k : Int) < (n1 : Int)) = false := decide_eq_false (by omega)
      have hd2 : decide (k < n1) = false := decide_eq_false hlt
      go_wp2_with fail
      have hso : s.outs.length = d.safe.length := HS.out.fd.ok.so.trans (congrArg List.length HS.out.sf)
      refine (outsG HS.out.fd rfl hso).mono ?_
      rintro e w7 ⟨bo, rfl, hge, hlo, hrow, hb⟩
      have HS7 := Lib.hid (HS.out.below hb)
      have HR7 : Hid (NRow a.wr w7 (some ⟨bo, 0, none⟩) d.safe.length s.outs) := hrow.imp (fun k _ hk => HS.out.lt k hk)
      clear hb hrow hge hlo hdd hd2 HS
      go_wp2_with fail
      refine (latch_any (c := c2) HS7.out.fd ((HD2.out _ HS7.out.bel).imp (fun k _ hk => Nat.le_of_lt (HS7.out.far k (HS7.out.sub k hk)))) (by omega)).mono ?_
      rintro e w8 ⟨rfl, hf8, hk8⟩
      have HS8 := Lib.hid (HS7.out.write hf8 hk8 (latch_alike _ _))
      have HR8 := Lib.hid (HR7.out.kept hk8)
      have HSi := Lib.hid HS7.out.si
      clear hf8 hk8 HS7 HR7
      obtain ⟨x0, x1, x2, x3⟩ := HS8.out.cells
      by_cases hl : l2.length = s.ins.length
      case neg =>
        have hE : latchE s l2 = 2 := by unfold latchE; rw [if_neg hl]
        have hne : ((n2 : Int) != d.ins) = true := by
          have h1 := HL2.out
          have h2 := HSi.out
          simp; omega
        rw [hE]
        go_wp2_with fail
        go_ret
        exact ⟨rfl, HS8.out.bel⟩
      case pos =>
      have hE : latchE s l2 = 0 := by unfold latchE; rw [if_pos hl]
      have HF8 : Hid ((latchF s l2).outs = s.outs ∧ (latchF s l2).ins = l2 ∧ merge (latchF s l2).safe (latchF s l2).puts = d.safe) := by
        have hsf := HS8.out.sf
        unfold latchF at hsf ⊢
        rw [if_pos hl] at hsf ⊢
        exact ⟨rfl, rfl, by simp only; rw [merge_none _ _ rfl]; exact hsf⟩
      rw [hE]
      have HSo := Lib.hid hso
      clear hE hl HSi hso
      generalize s.outs = o0 at *
      generalize latchF s l2 = s8 at *
      clear s
      obtain ⟨bw, cw, w9, hrun, hO, hbw, hb9⟩ := app_new (c := c) w8 (HD0.out _ HS8.out.bel) (by omega) HDB.out.nil 22
      have y1 : (w8.alloc (.cells #[] 23)).cell? ⟨S, 1, none⟩ = some (.slice b d.safe.length c) := (box_cells (HS8.out.below (below_alloc _ _)).box).2.1
      go_wp2_with (at_builtin; refine wpList_append_run rfl (.tmp 73) (.tmp 75) 22 22 rfl _ _ _ w9 22 rfl rfl rfl hrun ?_)
      have HBwn : Hid (¬ a.own bw) := fun h => by have := HS8.out.fd.lt _ h; omega
      have HBww : Hid (¬ a.wr bw) := fun h => HBwn.out (wr_own h)
      have HS9 := Lib.hid ((HS8.out.below hb9).more (g := bw) (by have := lt_of_block HS8.out.box; omega) hO.lt)
      have HR9 : Hid (NRow (fun k => a.wr k ∨ k = bw) w9 (some ⟨bo, 0, none⟩) d.safe.length o0) := by
        have hlo : d.safe.length = 0 ∨ bo < w8.heap.size := by
          rcases HR8.out.2 with h | ⟨g, off, e, _, hc⟩
          · exact .inl h
          · cases e
            by_cases h0 : d.safe.length = 0
            · exact .inl h0
            · exact .inr (World.block_lt_of_cell? _ _ (hc 0 (by omega)))
        obtain ⟨r1, r2⟩ := HR8.out.below hb9 (Nat.le_refl _)
        refine ⟨r1, ?_⟩
        rcases r2 with h | ⟨g, off, e, hp, hc⟩
        · exact .inl h
        · rcases hlo with h | h
          · exact .inl h
          · cases e
            exact .inr ⟨bo, 0, rfl, fun x => x.elim hp (fun e => by omega), hc⟩
      have HO9 : Hid (ORow w9 bw cw (merge s8.safe s8.puts)) := by rw [HF8.out.2.2]; exact hO
      clear x0 x1 x2 x3 y1 hrun hO hbw hb9 HS8 HR8
      have HPw : Hid (∀ k, k = bw → (fun k => a.wr k ∨ k = bw) k) := fun k hk => .inr hk
      go_wp2_with fail
      clear hk
      -- the frame
      go_loopw [79] (fun i wr => ∃ (k : Nat) (s : Fv), k ≤ n3 ∧ i = .int .i64 k ∧ Fr W S d b c (fun k => a.wr k ∨ k = bw) a s wr ∧ s.outs = o0 ∧ s.ins = l2 ∧ ORow wr bw cw (merge s.safe s.puts) ∧ NRow (fun k => a.wr k ∨ k = bw) wr (some ⟨bo, 0, none⟩) d.safe.length o0) (fun i _ => n3 - (intOf i).toNat)
      case atStart => exact ⟨0, s8, by omega, rfl, HS9.out, HF8.out.1, HF8.out.2.1, HO9.out, HR9.out⟩
      case round =>
        clear HS9 HR9 HO9 HF8
        obtain ⟨k, s, hk, rfl, hst, hso, hsi, hO, hR⟩ := hrel
        have HS := Lib.hid hst
        have HO := Lib.hid hO
        have HR := Lib.hid hR
        have HI := Lib.hid (And.intro hso hsi)
        clear hst hO hR hso hsi
        by_cases hlt : k < n3
        · have k0 : (0 : Int) ≤ k := by omega
          have k1 : (k : Int) < n3 := by omega
          have hdd : decide ((k : Int) < (n3 : Int)) = true := decide_eq_true (by omega)
          have hd2 : decide (k < n3) = true := decide_eq_true hlt
          obtain ⟨b3, off, rfl, q0, q1, q2, q3, ba, bn, bc, q4, -, -, -, -⟩ := (HD3.out _ HS.out.bel).at hlt
          generalize D3[k]! = y at *
          obtain ⟨kd, part, n, x, yl, hy⟩ := y
          have HY := Lib.hid hy
          simp only at q0 q1 q2 q3 q4
          have HSv := Lib.hid (HS.out.v #[.int .i64 kd, .int .i64 part, .int .i64 n, .int .u32 x, .slice ba bn bc])
          have HO1 := Lib.hid (HO.out.below (below_alloc wr (.cells #[.int .i64 kd, .int .i64 part, .int .i64 n, .int .u32 x, .slice ba bn bc] 38)))
          have HR1 := Lib.hid (HR.out.below (below_alloc wr (.cells #[.int .i64 kd, .int .i64 part, .int .i64 n, .int .u32 x, .slice ba bn bc] 38)) (Nat.le_refl _))
          clear hy HS HO HR
          go_wp2_with fail
          clear q0 q1 q2 q3 q4
          obtain ⟨vb, hvb⟩ : ∃ V, wr.heap.size = V := ⟨_, rfl⟩
          rw [hvb] at HSv ⊢
          generalize wr.alloc (.cells #[.int .i64 kd, .int .i64 part, .int .i64 n, .int .u32 x, .slice ba bn bc] 38) = X0 at *
          clear hvb
          have HE : Hid (outE s part n = refuse (part == s.wr) n s.safe.length) := rfl
          have HFo : Hid ((outF s part n x).outs = o0 ∧ (outF s part n x).ins = l2) := by
            show _ ∧ _; unfold outF; split <;> exact HI.out
          have HEq : Hid (outE s part n = 0 → merge (outF s part n x).safe (outF s part n x).puts = (merge s.safe s.puts).set n.toNat x) := fun hE => by
            unfold outF
            rw [if_pos hE]
            exact merge_set _ _ _ _ HSv.out.fr.fd.ok.sp
          have HNe : Hid (outE s part n ≠ 0 → outF s part n x = s) := fun hE => by unfold outF; rw [if_neg hE]
          have HMl : Hid ((merge s.safe s.puts).length = d.safe.length) := (merge_len _ _ HSv.out.fr.fd.ok.sp).trans (congrArg List.length HSv.out.fr.sf)
          have HW : Hid (s.wr = d.wr ∧ s.safe = d.safe) := ⟨HSv.out.fr.wq, HSv.out.fr.sf⟩
          refine (outV HSv.out part n x).mono ?_
          rintro e w5 ⟨rfl, hV, hk5⟩
          have HV := Lib.hid hV
          have HO5 := Lib.hid (HO1.out.kept hk5 HBww.out)
          have HR5 := Lib.hid (HR1.out.kept (hk5.mono (fun k _ h => .inl h)))
          clear hV hk5 HSv HO1 HR1
          go_upto_if 91 with fail
          go_cut [] (fun wx => ∃ s', FV W S d b c (fun k => a.wr k ∨ k = bw) a vb #[.int .i64 kd, .int .i64 part, .int .i64 n, .int .u32 x, .slice ba bn bc] s' wx ∧ s'.outs = o0 ∧ s'.ins = l2 ∧ ORow wx bw cw (merge s'.safe s'.puts) ∧ NRow (fun k => a.wr k ∨ k = bw) wx (some ⟨bo, 0, none⟩) d.safe.length o0)
          case first =>
            by_cases hE : outE s part n = 0
            · have hE2 := hE
              rw [HE.out] at hE2
              obtain ⟨hp, hn0, hn1⟩ := refuse_zero.1 hE2
              rw [HW.out.1] at hp
              rw [HW.out.2] at hn1
              obtain ⟨nk, rfl⟩ := Int.eq_ofNat_of_zero_le hn0
              have hp' : (part != d.wr) = false := by simp at hp ⊢; exact hp
              have e2 : decide ((nk : Int) < 0) = false := decide_eq_false (by omega)
              have e3 : decide ((d.safe.length : Int) ≤ (nk : Int)) = false := decide_eq_false (by omega)
              have e4 : decide (d.safe.length ≤ nk) = false := decide_eq_false (by omega)
              have hFm := HEq.out hE
              rw [Int.toNat_natCast] at hFm
              have HFm := Lib.hid hFm
              have hnk : nk < d.safe.length := by omega
              have hbt : (outE s part nk == 0) = true := by simpa using hE
              obtain ⟨d0, d1, d2, d3, d4⟩ := five HV.out.v
              obtain ⟨x0, x1, x2, x3⟩ := HV.out.fr.cells
              obtain ⟨z0, z1⟩ := HO5.out.cell nk (by rw [HMl.out]; exact hnk)
              have HSet := Lib.hid (HO5.out.set nk x (by rw [HMl.out]; exact hnk))
              clear hp hE2 hFm hE HE HEq HNe
              generalize outF s part nk x = s5 at *
              generalize outE s part nk = E at *
              go_wp2_with fail
              go_meet
              case rel => exact ⟨s5, HV.out.other (.inr rfl) HBwn.out _ _, HFo.out.1, HFo.out.2, by rw [HFm.out]; exact HSet.out, HR5.out.kept ((Kept.refl (fun k => a.wr k ∨ k = bw) _).setCell (.inl (.inr rfl)) _)⟩
            · have hne : (outE s part n == 0) = false := by simpa using hE
              have hFm := HNe.out hE
              rw [hFm] at HV
              clear hFm HFo HE hE HEq HNe
              generalize outE s part n = E at *
              go_wp2_with fail
              go_meet
              case rel => exact ⟨s, HV.out, HI.out.1, HI.out.2, HO5.out, HR5.out⟩
          case rest =>
            clear HV HO5 HR5 HI HE HFo HEq HNe HMl HW
            obtain ⟨s', hV, ho', hi', hO, hR⟩ := hcut
            have HV := Lib.hid hV
            have HO := Lib.hid hO
            have HR := Lib.hid hR
            have HI := Lib.hid (And.intro ho' hi')
            obtain ⟨d0, d1, d2, d3, d4⟩ := five hV.v
            clear hV hO hR ho' hi'
            have HL2s : Hid (s'.ins.length = n2) := by show _ = _; rw [HI.out.2]; exact HL2.out
            go_wp2_with fail
            refine (in_any HV.out.fr.fd part n).mono ?_
            rintro e w6 ⟨rfl, hb6⟩
            have HV6 := Lib.hid (HV.out.below hb6)
            have HO6 := Lib.hid (HO.out.below hb6)
            have HR6 := Lib.hid (HR.out.below hb6 (Nat.le_refl _))
            clear hb6 d0 d1 d2 d3 d4 HV HO HR
            obtain ⟨d0, d1, d2, d3, d4⟩ := five HV6.out.v
            have HQ : Hid (inE s' part n = refuse (bit s'.rd part) n s'.ins.length) := rfl
            have HQv : Hid (inE s' part n = 0 → inV s' part n = s'.ins.getD n.toNat 0) := fun h => by unfold inV; rw [if_pos h]
            rw [HI.out.2] at HQv
            rw [HL2s.out] at HQ
            have hso : s'.outs.length = d.safe.length := HV6.out.fr.fd.ok.so.trans (congrArg List.length HV6.out.fr.sf)
            by_cases hE : inE s' part n = 0
            · have hE2 := hE
              rw [HQ.out] at hE2
              obtain ⟨-, hn0, hn1⟩ := refuse_zero.1 hE2
              obtain ⟨nk, rfl⟩ := Int.eq_ofNat_of_zero_le hn0
              have hnk : nk < n2 := by omega
              have hv := HQv.out hE
              rw [Int.toNat_natCast] at hv
              have e2 : decide ((nk : Int) < 0) = false := decide_eq_false (by omega)
              have e3 : decide ((n2 : Int) ≤ (nk : Int)) = false := decide_eq_false (by omega)
              have e4 : decide (n2 ≤ nk) = false := decide_eq_false (by omega)
              obtain ⟨b2, off2, rfl, _, hc2'⟩ := (HD2.out _ HV6.out.fr.bel).2.resolve_left (by omega)
              have z0 := hc2' nk hnk
              rw [hE, hv]
              clear hc2' hE2 hv HQ HQv
              generalize l2.getD nk 0 = xv at *
              go_wp2_with fail
              refine (outsG (n := d.safe.length) HV6.out.fr.fd HI.out.1 (by rw [← HI.out.1]; exact hso)).mono ?_
              rintro e w7 ⟨g7, rfl, hg7, hl7, hr7, hb7⟩
              have HV7 := Lib.hid (HV6.out.below hb7)
              have HO7 := Lib.hid (HO6.out.below hb7)
              have HR7 := Lib.hid (HR6.out.below hb7 (Nat.le_refl _))
              clear hb7 hg7 hl7 HV6 HO6 HR6 d0 d1 d2 d3 d4
              go_wp2_with fail
              refine (same_any hr7 HR7.out (by omega)).mono ?_
              rintro e w8 ⟨rfl, hb8⟩
              have HV8 := Lib.hid (HV7.out.below hb8)
              have HO8 := Lib.hid (HO7.out.below hb8)
              have HR8 := Lib.hid (HR7.out.below hb8 (Nat.le_refl _))
              clear hb8 hr7 HV7 HO7 HR7
              go_wp2_with fail
              refine (insG HV8.out.fr.fd HI.out.2 HL2.out).mono ?_
              rintro e w9 ⟨g9, rfl, hg9, hl9, hr9, hb9⟩
              have HV9 := Lib.hid (HV8.out.below hb9)
              have HO9 := Lib.hid (HO8.out.below hb9)
              have HR9 := Lib.hid (HR8.out.below hb9 (Nat.le_refl _))
              clear hb9 hg9 hl9 HV8 HO8 HR8
              go_wp2_with fail
              refine (same_any hr9 (HD2.out _ HV9.out.fr.bel) (by have := HL2.out; have := HL2s.out; have := HV9.out.fr.fd.ok.si; omega)).mono ?_
              rintro e w10 ⟨rfl, hb10⟩
              have HV10 := Lib.hid (HV9.out.below hb10)
              have HO10 := Lib.hid (HO9.out.below hb10)
              have HR10 := Lib.hid (HR9.out.below hb10 (Nat.le_refl _))
              clear hb10 hr9 HV9 HO9 HR9
              go_wp2_with fail
              go_roundw
              case rel => exact ⟨k + 1, s', by omega, by go_num, HV10.out.fr, HI.out.1, HI.out.2, HO10.out, HR10.out⟩
              case measure => simp [intOf]; omega
            · have hne : (inE s' part n == 0) = false := by simpa using hE
              clear hE HQ HQv
              generalize inE s' part n = E at *
              generalize inV s' part n = xv at *
              go_wp2_with fail
              refine (outsG (n := d.safe.length) HV6.out.fr.fd HI.out.1 (by rw [← HI.out.1]; exact hso)).mono ?_
              rintro e w7 ⟨g7, rfl, hg7, hl7, hr7, hb7⟩
              have HV7 := Lib.hid (HV6.out.below hb7)
              have HO7 := Lib.hid (HO6.out.below hb7)
              have HR7 := Lib.hid (HR6.out.below hb7 (Nat.le_refl _))
              clear hb7 hg7 hl7 HV6 HO6 HR6 d0 d1 d2 d3 d4
              go_wp2_with fail
              refine (same_any hr7 HR7.out (by omega)).mono ?_
              rintro e w8 ⟨rfl, hb8⟩
              have HV8 := Lib.hid (HV7.out.below hb8)
              have HO8 := Lib.hid (HO7.out.below hb8)
              have HR8 := Lib.hid (HR7.out.below hb8 (Nat.le_refl _))
              clear hb8 hr7 HV7 HO7 HR7
              go_wp2_with fail
              refine (insG HV8.out.fr.fd HI.out.2 HL2.out).mono ?_
              rintro e w9 ⟨g9, rfl, hg9, hl9, hr9, hb9⟩
              have HV9 := Lib.hid (HV8.out.below hb9)
              have HO9 := Lib.hid (HO8.out.below hb9)
              have HR9 := Lib.hid (HR8.out.below hb9 (Nat.le_refl _))
              clear hb9 hg9 hl9 HV8 HO8 HR8
              go_wp2_with fail
              refine (same_any hr9 (HD2.out _ HV9.out.fr.bel) (by have := HL2.out; have := HL2s.out; have := HV9.out.fr.fd.ok.si; omega)).mono ?_
              rintro e w10 ⟨rfl, hb10⟩
              have HV10 := Lib.hid (HV9.out.below hb10)
              have HO10 := Lib.hid (HO9.out.below hb10)
              have HR10 := Lib.hid (HR9.out.below hb10 (Nat.le_refl _))
              clear hb10 hr9 HV9 HO9 HR9
              go_wp2_with fail
              go_roundw
              case rel => exact ⟨k + 1, s', by omega, by go_num, HV10.out.fr, HI.out.1, HI.out.2, HO10.out, HR10.out⟩
              case measure => simp [intOf]; omega
        · have hdd : decide ((k : Int) < (n3 : Int)) = false := decide_eq_false (by omega)
          have hd2 : decide (k < n3) = false := decide_eq_false hlt
          go_wp2_with fail
          refine (commitR HS.out ok).mono ?_
          rintro e w5 ⟨rfl, hS5, hk5⟩
          have HS5 := Lib.hid hS5
          have HO5 := Lib.hid (HO.out.kept hk5 HBww.out)
          have hml : (merge s.safe s.puts).length = d.safe.length := (merge_len _ _ HS.out.fd.ok.sp).trans (congrArg List.length HS.out.sf)
          have hsf := HS.out.sf
          clear hS5 hk5 HS HO HR HI
          obtain ⟨x0, x1, x2, x3⟩ := HS5.out.cells
          have HL : Hid ((comF (comF s ok) true).outs = d.safe) := by
            show merge s.safe (List.replicate s.safe.length none) = d.safe
            rw [merge_none _ _ rfl]; exact hsf
          cases ok with
          | true =>
            have HO6 : Hid (NRow (fun _ => False) w5 (some ⟨bw, 0, none⟩) d.safe.length (merge s.safe s.puts)) := by have := HO5.out.nrow (p := fun _ => False) id; rwa [hml] at this
            have HOu : Hid ((comF s true).outs = merge s.safe s.puts) := rfl
            have HMl := Lib.hid hml
            clear hml hsf x0 x1 x2 x3
            go_wp2_with fail
            refine (outsG (n := d.safe.length) HS5.out.fd HOu.out (by first | exact HMl.out | rfl)).mono ?_
            rintro e w6 ⟨g6, rfl, hg6, hl6, hr6, hb6⟩
            have HS6 := Lib.hid (HS5.out.below hb6)
            have HO6 := Lib.hid (HO6.out.below hb6 (Nat.le_refl _))
            clear hb6 hg6 hl6 HS5
            go_wp2_with fail
            refine (same_any hr6 HO6.out (by omega)).mono ?_
            rintro e w7 ⟨rfl, hb7⟩
            have HS7 := Lib.hid (HS6.out.below hb7)
            clear hb7 hr6 HS6 HO6 HO5
            go_wp2_with fail
            refine (commitR HS7.out true).mono ?_
            rintro e w8 ⟨rfl, hS8, -⟩
            have HS8 := Lib.hid hS8
            have HC8 := Lib.hid (fun Y (hb : Below w8.heap.size w8 Y) => (HS8.out.below hb).cells)
            have HD8 := Lib.hid (fun Y (hb : Below w8.heap.size w8 Y) => HD0.out _ (HS8.out.below hb).bel)
            have HBe := Lib.hid (fun Y (hb : Below w8.heap.size w8 Y) => (HS8.out.below hb).bel)
            have HG8 := Lib.hid (fun Y (hb : Below w8.heap.size w8 Y) => outsG (HS8.out.below hb).fd HL.out rfl)
            clear hS8 HS7
            go_upto_region 35 with fail
            go_region_held3 (fun w' => w'.cell? ⟨S, 1, none⟩ = some (.slice b d.safe.length c)) (first | exact (HC8.out _ (by first | assumption | exact (Below.refl _ _).drew | exact Below.refl _ _)).2.1 | go_keep) (first
              | (go_at_call 22; refine (HG8.out _ (by first | assumption | exact (Below.refl _ _).drew | exact Below.refl _ _)).mono ?_; rintro e w9 ⟨g9, rfl, hg9, hl9, hr9, hb9⟩; replace hb9 : Below w8.heap.size w8 w9 := (Below.refl _ _).drew.trans hb9)
              | (go_at_call 20; refine (same_any hr9 (HD8.out _ hb9) (by omega)).mono ?_; rintro e w10 ⟨rfl, hb10⟩; replace hb10 : Below w8.heap.size w8 w10 := hb9.trans (hb10.mono hb9.size)))
            all_goals
              rename_i hK _
              refine hK _ _ ?_
              go_wp2_with fail
              go_ret
              exact ⟨rfl, HBe.out _ hb10⟩
          | false =>
            have HO6 := Lib.hid (HD0.out _ HS5.out.bel)
            have HOu : Hid ((comF s false).outs = d.safe) := hsf
            clear hml hsf
            go_wp2_with fail
            clear x0 x1 x2 x3
            refine (outsG (n := d.safe.length) HS5.out.fd HOu.out (by first | exact HMl.out | rfl)).mono ?_
            rintro e w6 ⟨g6, rfl, hg6, hl6, hr6, hb6⟩
            have HS6 := Lib.hid (HS5.out.below hb6)
            have HO6 := Lib.hid (HO6.out.below hb6 (Nat.le_refl _))
            clear hb6 hg6 hl6 HS5
            go_wp2_with fail
            refine (same_any hr6 HO6.out (by omega)).mono ?_
            rintro e w7 ⟨rfl, hb7⟩
            have HS7 := Lib.hid (HS6.out.below hb7)
            clear hb7 hr6 HS6 HO6 HO5
            go_wp2_with fail
            refine (commitR HS7.out true).mono ?_
            rintro e w8 ⟨rfl, hS8, -⟩
            have HS8 := Lib.hid hS8
            have HC8 := Lib.hid (fun Y (hb : Below w8.heap.size w8 Y) => (HS8.out.below hb).cells)
            have HD8 := Lib.hid (fun Y (hb : Below w8.heap.size w8 Y) => HD0.out _ (HS8.out.below hb).bel)
            have HBe := Lib.hid (fun Y (hb : Below w8.heap.size w8 Y) => (HS8.out.below hb).bel)
            have HG8 := Lib.hid (fun Y (hb : Below w8.heap.size w8 Y) => outsG (HS8.out.below hb).fd HL.out rfl)
            clear hS8 HS7
            go_upto_region 35 with fail
            go_region_held3 (fun w' => w'.cell? ⟨S, 1, none⟩ = some (.slice b d.safe.length c)) (first | exact (HC8.out _ (by first | assumption | exact (Below.refl _ _).drew | exact Below.refl _ _)).2.1 | go_keep) (first
              | (go_at_call 22; refine (HG8.out _ (by first | assumption | exact (Below.refl _ _).drew | exact Below.refl _ _)).mono ?_; rintro e w9 ⟨g9, rfl, hg9, hl9, hr9, hb9⟩; replace hb9 : Below w8.heap.size w8 w9 := (Below.refl _ _).drew.trans hb9)
              | (go_at_call 20; refine (same_any hr9 (HD8.out _ hb9) (by omega)).mono ?_; rintro e w10 ⟨rfl, hb10⟩; replace hb10 : Below w8.heap.size w8 w10 := hb9.trans (hb10.mono hb9.size)))
            all_goals
              rename_i hK _
              refine hK _ _ ?_
              go_wp2_with fail
              go_ret
              exact ⟨rfl, HBe.out _ hb10⟩
/-- what the walk gives, for every argument -/
theorem lifted (os : Os) (started : os.Started) (H : Type) (enc : TypeId × Value → H) :
    ReturnsInHanded {} Try.checked os 4 .any (Rows.fieldFrameSpec.pre6 enc Try.prog Try.f4 Rows.fieldFrameRow.domain false) (Rows.fieldFrameSpec.post enc Try.prog Try.f4 false true false false) := by
  refine returnsInHanded_of_change (C := Try.checked) own started (by kernel_rfl) Try.func4
    (ChangeSpec.witness6 (enc := enc) (C := Try.checked) false ⟨#[], #[.agg #[.int .i64 0, .slice none 0 0, .int .u32 0, .int .i64 0], .slice none 0 0, .slice none 0 0, .slice none 0 0, .bool false], []⟩ 8 (by kernel_rfl) (by kernel_rfl) (by kernel_rfl) (by kernel_rfl)) ?_
  intro W base args ds gs before hval0 hW hcnd _
  have hval : ∀ (j : Nat) t v, Try.f4.params[j]? = some t → args[j]? = some v → Value.okWide Try.prog W .any base t v := hval0
  have hW' := hW
  obtain ⟨p, q, hA0, hV, rfl, hfz, hnd⟩ := hW
  have hA : DataW.TrodAll enc Try.prog W 0 (fun _ => true) true Try.f4.params.toList args.toList ds p := hA0
  rw [Try.params4] at hA hval
  obtain ⟨v0, vs0, d0, ds0, p0, q0, hargs, rfl, rfl, h0, r0⟩ := trodAll_cons hA
  obtain ⟨v1, vs1, d1, ds1, p1, q1, rfl, rfl, rfl, h1, r1⟩ := trodAll_cons r0
  obtain ⟨v2, vs2, d2, ds2, p2, q2, rfl, rfl, rfl, h2, r2⟩ := trodAll_cons r1
  obtain ⟨v3, vs3, d3, ds3, p3, q3, rfl, rfl, rfl, h3, r3⟩ := trodAll_cons r2
  obtain ⟨v4, vs4, d4, ds4, p4, q4, rfl, rfl, rfl, h4, r4⟩ := trodAll_cons r3
  obtain ⟨rfl, rfl, rfl⟩ := trodAll_nil r4
  obtain rfl : args = #[v0, v1, v2, v3, v4] := by cases args; simp_all
  obtain ⟨rfl, rfl⟩ := trodVars_none hV
  have k0 := h0
  have lt0 : ∀ x ∈ p0, x.block < W.heap.size := by obtain ⟨m, hm⟩ := k0; exact DataW.trod_lt m _ _ _ hm
  obtain ⟨c0, rfl, _⟩ := okWide_struct Try.underlying25 (hval 0 25 v0 rfl rfl)
  obtain ⟨z0, a0, cap0, rfl, w0, nc0⟩ : ∃ (d : Df) (a : Option Addr) (c : Nat), c0 = #[.int .i64 d.ins, .slice a d.safe.length c, .int .u32 d.rd, .int .i64 d.wr] ∧ NRow (fun k => W.heap.size ≤ k) W a d.safe.length d.safe ∧ DefB d a c := by
    obtain ⟨fuel, hf⟩ := h0
    obtain ⟨d, a, c, hcs, h1, h2, h3, h4, h5, h6, h7⟩ := open_fdef hf
    simp [Value.cells] at hcs
    exact ⟨d, a, c, by cases c0; simp_all, h3, ⟨⟨h1, h2⟩, h4, h5, h6, h7⟩⟩
  have k1 := h1
  have lt1 : ∀ x ∈ p1, x.block < W.heap.size := by obtain ⟨m, hm⟩ := k1; exact DataW.trod_lt m _ _ _ hm
  obtain ⟨a1, len1, cap1, rfl⟩ := okWide_slice Try.underlying26 (hval 1 26 v1 rfl rfl)
  obtain ⟨z1, w1, nc1⟩ : ∃ l, DRow (fun k => W.heap.size ≤ k) W a1 len1 l ∧ len1 ≤ cap1 ∧ cap1 ≤ 9223372036854775807 := by
    obtain ⟨fuel, hf⟩ := h1
    obtain ⟨a, n, c, l, hcs, h1, h2, h3⟩ := open_dos hf
    simp [Value.cells] at hcs
    obtain ⟨rfl, rfl, rfl⟩ := hcs
    exact ⟨l, h3, h1, h2⟩
  have k2 := h2
  have lt2 : ∀ x ∈ p2, x.block < W.heap.size := by obtain ⟨m, hm⟩ := k2; exact DataW.trod_lt m _ _ _ hm
  obtain ⟨a2, len2, cap2, rfl⟩ := okWide_slice Try.underlying22 (hval 2 22 v2 rfl rfl)
  obtain ⟨z2, w2, nc2⟩ : ∃ l, NRow (fun k => W.heap.size ≤ k) W a2 len2 l ∧ len2 ≤ cap2 ∧ cap2 ≤ 9223372036854775807 := by
    obtain ⟨fuel, hf⟩ := h2
    obtain ⟨a, n, c, l, hcs, h1, h2, h3, h4⟩ := open_nums hf
    simp [Value.cells] at hcs
    obtain ⟨rfl, rfl, rfl⟩ := hcs
    exact ⟨l, h3, h1, h2⟩
  have k3 := h3
  have lt3 : ∀ x ∈ p3, x.block < W.heap.size := by obtain ⟨m, hm⟩ := k3; exact DataW.trod_lt m _ _ _ hm
  obtain ⟨a3, len3, cap3, rfl⟩ := okWide_slice Try.underlying26 (hval 3 26 v3 rfl rfl)
  obtain ⟨z3, w3, nc3⟩ : ∃ l, DRow (fun k => W.heap.size ≤ k) W a3 len3 l ∧ len3 ≤ cap3 ∧ cap3 ≤ 9223372036854775807 := by
    obtain ⟨fuel, hf⟩ := h3
    obtain ⟨a, n, c, l, hcs, h1, h2, h3⟩ := open_dos hf
    simp [Value.cells] at hcs
    obtain ⟨rfl, rfl, rfl⟩ := hcs
    exact ⟨l, h3, h1, h2⟩
  obtain ⟨z4, rfl, rfl, rfl⟩ := open_bool Try.underlying4 (hval 4 4 v4 rfl rfl) h4
  clear hA0 hval0
  refine (walk W z0 a0 cap0 w0 nc0 a1 len1 cap1 z1 w1 nc1 a2 len2 cap2 z2 w2 nc2 a3 len3 cap3 z3 w3 nc3 z4).mono fun e W' ⟨he, bel⟩ => ?_
  subst he
  exact ⟨_, rfl, _, _, _, [], _, [], hW', trodAll_mk1 (shut_bool Try.underlying4 _), (trodAll_cons_mk (Below.trod laidOut (by kernel_rfl) (of_decide_eq_true (by kernel_rfl)) k0 bel lt0) (trodAll_cons_mk (Below.trod laidOut (by kernel_rfl) (of_decide_eq_true (by kernel_rfl)) k1 bel lt1) (trodAll_cons_mk (Below.trod laidOut (by kernel_rfl) (of_decide_eq_true (by kernel_rfl)) k2 bel lt2) (trodAll_cons_mk (Below.trod laidOut (by kernel_rfl) (of_decide_eq_true (by kernel_rfl)) k3 bel lt3) (trodAll_cons_mk (shut_bool Try.underlying4 _) trodAll_mk0))))), rfl, bel.frame _, fun h => by cases h⟩

theorem proved : Rows.FieldFrameSaid :=
  OpenClaim.holds_of_wide 4 Try.f4 rfl rfl rfl rfl rfl rfl rfl ⟨rfl, rfl, rfl, rfl, rfl⟩ rfl rfl rfl rfl rfl (by kernel_rfl) Try.func4 (by kernel_rfl)
    (of_decide_eq_true (by kernel_rfl)) (by unfold Func.isWrapper; first | (rw [if_pos (by decide +kernel)]; kernel_rfl) | (rw [if_neg (by decide +kernel)]; exact ⟨rfl, rfl⟩))
    (fun os started H enc _ => lifted os started H enc)
#print axioms proved
end Frame
end Fld
end Go.Proofs.Ytoighaicdakbkaa
