/- MemPlays: the walk. (Made by tools/gen_memplays.py.) -/
import Derived.Test.YthpimoinognkhaaMemPlaysSt
import Derived.Deep.DeepCutAuto
import Derived.Deep.CutBlock
import Derived.Deep.RegionHeld3
namespace Go.Proofs.Ythpimoinognkhaa
open Go.ChangeShapes Go.WideShapes Go.ChangeAt Go.RowKit
namespace Ram
namespace Plays
set_option linter.unusedVariables false
set_option linter.unusedSimpArgs false
set_option maxHeartbeats 4000000
set_option maxRecDepth 100000
theorem walk (W : World) (s : Int) (hs : 0 ≤ s ∧ s ≤ 4294967295) (ar : Option Addr) (nr cr : Nat) (l : List Rg) (hr : RRow (fun k => W.heap.size ≤ k) W ar nr l) (hrc : nr ≤ cr ∧ cr ≤ 9223372036854775807)
    (ad : Option Addr) (nd cd : Nat) (D : List Dv) (hd : DRow (fun k => W.heap.size ≤ k) W ad nd D) (hdc : nd ≤ cd ∧ cd ≤ 9223372036854775807) :
    Calls Try.prog 3 #[.int .u32 s, .slice ar nr cr, .slice ad nd cd] W fun e w' => e = .returned (.bool true) ∧ Below W.heap.size W w' := by
  obtain ⟨s, rfl⟩ := Int.eq_ofNat_of_zero_le hs.1
  have hbT : ∀ {X Y : World}, Below W.heap.size W X → Below X.heap.size X Y → Below W.heap.size W Y := fun h k => h.trans (k.mono h.size)
  have HDB := Lib.hid (fun (X : World) (h : Below W.heap.size W X) => hd.kept (Kept.below h))
  have HRB := Lib.hid (fun (X : World) (h : Below W.heap.size W X) => hr.kept (Kept.below h))
  have HHv := Lib.hid (fun (X : World) (h : Below W.heap.size W X) => heavy_any (c := cd) ((hd.kept (Kept.below h)).imp' (q := fun k => X.heap.size ≤ k) (fun k hk => Nat.le_trans h.size hk)) (by omega))
  clear hd hr
  by_cases hbig : 3000 < s ∧ s ≤ 262144
  · have e1 : decide ((3000 : Int) < (s : Int)) = true := by simp; omega
    have e2 : decide ((s : Int) ≤ 262144) = true := by simp; omega
    go_enter Try.func3, Try.ntmps3
    go_wp2_with (go_at_call 6; refine (known_any W).mono ?_; rintro e w1 ⟨rfl, hb1⟩)
    go_ret
    exact ⟨rfl, hb1⟩
  have hb12 : (decide ((3000 : Int) < (s : Int)) && decide ((s : Int) ≤ 262144)) = false := by simp; omega
  by_cases h5 : nr ≤ 50
  rotate_left
  · have e5 : decide ((50 : Int) < (nr : Int)) = true := by simp; omega
    by_cases hsm : 3000 < s
    · have e1 : decide ((3000 : Int) < (s : Int)) = true := by simp; omega
      have e2 : decide ((s : Int) ≤ 262144) = false := by simp; omega
      go_enter Try.func3, Try.ntmps3
      go_wp2_with (go_at_call 6; refine (known_any W).mono ?_; rintro e w1 ⟨rfl, hb1⟩)
      go_ret
      exact ⟨rfl, hb1⟩
    · have e1 : decide ((3000 : Int) < (s : Int)) = false := by simp; omega
      go_enter Try.func3, Try.ntmps3
      go_wp2_with (go_at_call 6; refine (known_any W).mono ?_; rintro e w1 ⟨rfl, hb1⟩)
      go_ret
      exact ⟨rfl, hb1⟩
  have e5 : decide ((50 : Int) < (nr : Int)) = false := by simp; omega
  clear hb12
  by_cases hsm : 3000 < s
  · have e1 : decide ((3000 : Int) < (s : Int)) = true := by simp; omega
    have e2 : decide ((s : Int) ≤ 262144) = false := by simp; omega
    have e3 : ((0 : Int) != (s : Int)) = true := by simp; omega
    go_enter Try.func3, Try.ntmps3
    go_wp2_with (go_at_call 6; refine (known_any W).mono ?_; rintro e w1 ⟨rfl, hb1⟩)
    refine (HHv.out w1 hb1).mono ?_
    rintro e w2 ⟨b, rfl, hn, hb2⟩
    have hb3 := hbT hb1 hb2
    cases b with
    | true =>
      go_wp2_with fail
      go_ret
      exact ⟨rfl, hb3⟩
    | false =>
      go_wp2_with (first
        | (go_at_call 8; refine (new_great (s : Int) (by omega) _).mono ?_; rintro e w4 ⟨rfl, rfl⟩)
        | (go_at_call 9; refine (rnew_great (s : Int) (by omega) _).mono ?_; rintro e w5 ⟨rfl, rfl⟩)
        | (go_at_call 10; refine (size_nil _).mono ?_; rintro e w6 ⟨rfl, rfl⟩))
      go_ret
      exact ⟨rfl, hb3⟩
  have e1 : decide ((3000 : Int) < (s : Int)) = false := by simp; omega
  go_enter Try.func3, Try.ntmps3
  go_wp2_with (go_at_call 6; refine (known_any W).mono ?_; rintro e w1 ⟨rfl, hb1⟩)
  refine (HHv.out w1 hb1).mono ?_
  rintro e w2 ⟨b, rfl, hn, hb2⟩
  have HB2 := Lib.hid (hbT hb1 hb2)
  clear hb1 hb2
  cases b with
  | true =>
    go_wp2_with fail
    go_ret
    exact ⟨rfl, HB2.out⟩
  | false =>
    have hn200 := hn rfl
    clear hn
    go_wp2_with fail
    refine (new_any s (by omega) w2).mono ?_
    rintro e w3 ⟨gm, dm, rfl, hg, hd, hm, hb1⟩
    have HM := Lib.hid hm
    have HB3 := Lib.hid (hbT HB2.out hb1)
    have HGM : Hid (W.heap.size ≤ gm ∧ W.heap.size ≤ dm ∧ gm < w3.heap.size ∧ dm < w3.heap.size) := by have := HB2.out.size; exact ⟨by omega, by omega, hm.2.2.1, hm.2.2.2.1⟩
    clear hg hd hm hb1
    go_wp2_with fail
    refine (rnew_any s (by omega) w3).mono ?_
    rintro e w4 ⟨gr, dr, rfl, hg, hd, hm, hb1⟩
    have HSt : Hid (St W w4 gm dm gr dr (List.replicate s 0) (List.replicate s 0)) := by
      obtain ⟨q1, q2, q3, q4⟩ := HGM.out
      have := HB3.out.size
      exact ⟨HM.out.below hb1 (Nat.le_refl _), hm, hbT HB3.out hb1, q1, q2, by omega, by omega, by omega, by omega, by omega⟩
    clear hg hd hm hb1 HM HB3 HB2 HGM
    have HSz := Lib.hid (size_any HSt.out.m)
    rw [List.length_replicate] at HSz
    go_wp2_with (go_at_call 10; refine HSz.out.mono ?_; rintro e w6 ⟨rfl, rfl⟩)
    go_loopw [7, 79] (fun m i wr => ∃ (k gm dm : Nat) (bs : List Int), k ≤ nd ∧ i = .int .i64 k ∧ m = .pointer (some ⟨gm, 0, none⟩) ∧ bs.length = s ∧ St W wr gm dm gr dr bs bs) (fun _ i _ => nd - (intOf i).toNat)
    case atStart => exact ⟨0, gm, dm, _, by omega, rfl, rfl, List.length_replicate, HSt.out⟩
    case round =>
      clear HSt HSz
      obtain ⟨k, gm, dm, bs, hk, rfl, rfl, hbs, hst⟩ := hrel
      have HS := Lib.hid hst
      have HL := Lib.hid hbs
      clear hst hbs
      by_cases hlt : k < nd
      · have k0 : (0 : Int) ≤ k := by omega
        have k1 : (k : Int) < nd := by omega
        have hd : decide ((k : Int) < (nd : Int)) = true := by simp; omega
        obtain ⟨b, off, rfl, c0, c1, c2, c3, ba, bn, bc, c4, h5, h6, hbr⟩ := (HDB.out W (Below.refl _ _)).at hlt
        have hbW := World.block_lt_of_cell? _ _ c0
        have hup : ∀ {o : Nat} {v : Value}, W.cell? ⟨b, o, none⟩ = some v → wr.cell? ⟨b, o, none⟩ = some v := fun h => (World.cell?_of_block (HS.out.bel.block b hbW)).trans h
        replace c0 := hup c0
        replace c1 := hup c1
        replace c2 := hup c2
        replace c3 := hup c3
        replace c4 := hup c4
        generalize D[k]! = y at *
        obtain ⟨kd, a, n, x, yb, ⟨hyk, hya, hyn, hyx⟩⟩ := y
        simp only at c0 c1 c2 c3 hbr
        have HSv : Hid (Sv W (wr.alloc (.cells #[.int .i64 kd, .int .u32 (a : Int), .int .u32 (n : Int), .int .u32 x, .slice ba bn bc] 37)) gm dm gr dr wr.heap.size #[.int .i64 kd, .int .u32 (a : Int), .int .u32 (n : Int), .int .u32 x, .slice ba bn bc] bs bs) := by
          have q1 := HS.out.m.2.2.2.1
          have q2 := HS.out.r.2.2.2.1
          exact ⟨HS.out.below (below_alloc _ _), heap_alloc_new _ _, by omega, by omega, HS.out.bel.size⟩
        have HBr := Lib.hid hbr
        have hbn : bn ≤ 9223372036854775807 := by omega
        clear hbr hup hbW
        go_upto_block 2 with fail
        clear c0 c1 c2 c3 c4
        obtain ⟨V, hV⟩ : ∃ V, wr.heap.size = V := ⟨_, rfl⟩
        rw [hV] at HSv ⊢
        generalize wr.alloc (.cells #[.int .i64 kd, .int .u32 (a : Int), .int .u32 (n : Int), .int .u32 x, .slice ba bn bc] 37) = X0 at *
        clear HS hV
        go_cut [7] (fun m wx => ∃ (gm dm : Nat) (b1 : List Int), m = .pointer (some ⟨gm, 0, none⟩) ∧ b1.length = s ∧ St W wx gm dm gr dr b1 b1)
        case first =>
          have hS := HSv.out
          clear HSv
          obtain ⟨n8, hn8, h8⟩ : ∃ n8 : Nat, n8 ≤ 255 ∧ (n : Int) % 256 = (n8 : Int) := ⟨n % 256, by omega, by omega⟩
          have h8' : IntKind.u8.wrap (n : Int) = (n8 : Int) := by rw [← h8]; simp [IntKind.wrap, IntKind.bits, IntKind.signed]
          have hkd : kd = 0 ∨ kd = 1 ∨ kd = 2 ∨ kd = 3 ∨ kd = 4 ∨ kd = 5 ∨ kd = 6 ∨ (kd ≠ 0 ∧ kd ≠ 1 ∧ kd ≠ 2 ∧ kd ≠ 3 ∧ kd ≠ 4 ∧ kd ≠ 5 ∧ kd ≠ 6) := by omega
          rcases hkd with rfl | rfl | rfl | rfl | rfl | rfl | rfl | ⟨hk0, hk1, hk2, hk3, hk4, hk5, hk6⟩
          · as_aux_lemma =>
              have hold : ∀ {Y : World} {b1 b2 : List Int}, Sv W Y gm dm gr dr V #[.int .i64 0, .int .u32 (a : Int), .int .u32 (n : Int), .int .u32 x, .slice ba bn bc] b1 b2 → Y.cell? ⟨V, 1, none⟩ = some (.int .u32 (a : Int)) ∧ Y.cell? ⟨V, 2, none⟩ = some (.int .u32 (n : Int)) := fun h => ⟨(cells5 h.v).2.1, (cells5 h.v).2.2.1⟩
              go_wp2_with fail
              go_region_held3 (fun w' => w'.cell? ⟨V, 1, none⟩ = some (.int .u32 (a : Int)) ∧ w'.cell? ⟨V, 2, none⟩ = some (.int .u32 (n : Int))) (first | exact hold (by first | assumption | exact Sv.drew (by assumption) | exact Sv.drew (Sv.drew (by assumption))) | go_keep) (first
                | (go_at_call 11; refine (zeroSv (by first | assumption | exact Sv.drew (by assumption) | exact Sv.drew (Sv.drew (by assumption))) a n hya hyn).mono ?_; rintro e w' ⟨rfl, hS⟩)
                | (go_at_call 12; refine (rzeroSv (by first | assumption | exact Sv.drew (by assumption) | exact Sv.drew (Sv.drew (by assumption))) a n hya hyn).mono ?_; rintro e w' ⟨rfl, hS⟩))
              all_goals
                go_wp2_with fail
                go_meet
                case rel => exact ⟨gm, dm, zeroM bs a n, rfl, by rw [zeroM_len]; exact HL.out, Sv.st (by first | assumption | exact Sv.drew (by assumption) | exact Sv.drew (Sv.drew (by assumption)))⟩
          · as_aux_lemma =>
              have hold : ∀ {Y : World} {b1 b2 : List Int}, Sv W Y gm dm gr dr V #[.int .i64 1, .int .u32 (a : Int), .int .u32 (n : Int), .int .u32 x, .slice ba bn bc] b1 b2 → Y.cell? ⟨V, 1, none⟩ = some (.int .u32 (a : Int)) ∧ Y.cell? ⟨V, 4, none⟩ = some (.slice ba bn bc) := fun h => ⟨(cells5 h.v).2.1, (cells5 h.v).2.2.2.2⟩
              go_wp2_with fail
              go_region_held3 (fun w' => w'.cell? ⟨V, 1, none⟩ = some (.int .u32 (a : Int)) ∧ w'.cell? ⟨V, 4, none⟩ = some (.slice ba bn bc)) (first | exact hold (by first | assumption | exact Sv.drew (by assumption) | exact Sv.drew (Sv.drew (by assumption))) | go_keep) (first
                | (go_at_call 13; refine (putSv (by first | assumption | exact Sv.drew (by assumption) | exact Sv.drew (Sv.drew (by assumption))) a bn bc hya hbn HBr.out).mono ?_; rintro e w' ⟨rfl, hS⟩)
                | (go_at_call 14; refine (rputSv (by first | assumption | exact Sv.drew (by assumption) | exact Sv.drew (Sv.drew (by assumption))) a bn bc hya hbn HBr.out).mono ?_; rintro e w' ⟨rfl, hS⟩))
              all_goals
                go_wp2_with fail
                go_meet
                case rel => exact ⟨gm, dm, putM bs a yb, rfl, by rw [putM_len]; exact HL.out, Sv.st (by first | assumption | exact Sv.drew (by assumption) | exact Sv.drew (Sv.drew (by assumption)))⟩
          · as_aux_lemma =>
              obtain ⟨d0, d1, d2, d3, d4⟩ := cells5 hS.v
              go_wp2_with fail
              refine (get_any hS.st.m a n hya hyn).mono ?_
              rintro e w7 ⟨v, rfl, ht, hb7⟩
              obtain ⟨va, vn, rfl, hrow⟩ := ht.srow (getM_by hS.st.m.1)
              have hS7 := hS.below hb7
              obtain ⟨e0, e1, e2, e3, e4⟩ := cells5 hS7.v
              clear d0 d1 d2 d3 d4 ht
              go_wp2_with fail
              refine (rget_any hS7.st.r a n hya hyn).mono ?_
              rintro e w8 ⟨ua, un', uc, rfl, hrow2, hb8⟩
              have hS8 := hS7.below hb8
              have hc1 : (convert 35 9 (.slice va vn vn)).run Try.prog w8 = .ok (.string (strOfNums (getM bs a n))) w8 := row_str vn (hrow.below hb8 (Nat.le_refl _))
              have hc2 : (convert 35 9 (.slice ua un' uc)).run Try.prog w8 = .ok (.string (strOfNums (getM bs a n))) w8 := row_str uc hrow2
              clear hrow hrow2 e0 e1 e2 e3 e4
              generalize strOfNums (getM bs a n) = str at *
              go_wp2_with fail
              go_meet
              case rel => exact ⟨gm, dm, bs, rfl, HL.out, hS8.st⟩
          · as_aux_lemma =>
              obtain ⟨d0, d1, d2, d3, d4⟩ := cells5 hS.v
              have hld := load_any (cr := cr) hS.st.m (HRB.out _ hS.st.bel) (by omega) a n8 hya hn8
              have HLD := Lib.hid hld
              clear hld
              go_wp2_with fail
              refine HLD.out.mono ?_
              rintro e w7 ⟨rfl, hb7⟩
              have hS7 := hS.below hb7
              obtain ⟨e0, e1, e2, e3, e4⟩ := cells5 hS7.v
              clear d0 d1 d2 d3 d4
              go_wp2_with fail
              refine (rload_any (cr := cr) hS7.st.r (HRB.out _ hS7.st.bel) (by omega) a n8 hya hn8).mono ?_
              rintro e w8 ⟨rfl, hb8⟩
              have hS8 := hS7.below hb8
              clear e0 e1 e2 e3 e4
              go_wp2_with fail
              go_meet
              case rel => exact ⟨gm, dm, bs, rfl, HL.out, hS8.st⟩
          · as_aux_lemma =>
              have hold : ∀ {Y : World} {b1 b2 : List Int}, Sv W Y gm dm gr dr V #[.int .i64 4, .int .u32 (a : Int), .int .u32 (n : Int), .int .u32 x, .slice ba bn bc] b1 b2 → Y.cell? ⟨V, 1, none⟩ = some (.int .u32 (a : Int)) ∧ Y.cell? ⟨V, 2, none⟩ = some (.int .u32 (n : Int)) ∧ Y.cell? ⟨V, 3, none⟩ = some (.int .u32 x) := fun h => ⟨(cells5 h.v).2.1, (cells5 h.v).2.2.1, (cells5 h.v).2.2.2.1⟩
              have hrr := HRB.out W (Below.refl _ _)
              have HRR := Lib.hid hrr
              clear hrr
              go_wp2_with fail
              go_region_held3 (fun w' => w'.cell? ⟨V, 1, none⟩ = some (.int .u32 (a : Int)) ∧ w'.cell? ⟨V, 2, none⟩ = some (.int .u32 (n : Int)) ∧ w'.cell? ⟨V, 3, none⟩ = some (.int .u32 x)) (first | exact hold (by first | assumption | exact Sv.drew (by assumption) | exact Sv.drew (Sv.drew (by assumption))) | go_keep) (first
                | (go_at_call 19; refine (storeSv (cr := cr) (by first | assumption | exact Sv.drew (by assumption) | exact Sv.drew (Sv.drew (by assumption))) HRR.out (by omega) a n8 x hya hn8 hyx).mono ?_; rintro e w' ⟨rfl, hS⟩)
                | (go_at_call 20; refine (rstoreSv (cr := cr) (by first | assumption | exact Sv.drew (by assumption) | exact Sv.drew (Sv.drew (by assumption))) HRR.out (by omega) a n8 x hya hn8 hyx).mono ?_; rintro e w' ⟨rfl, hS⟩))
              all_goals
                go_wp2_with fail
                go_meet
                case rel => exact ⟨gm, dm, storeM bs l a n8 x, rfl, by rw [storeM_len]; exact HL.out, Sv.st (by first | assumption | exact Sv.drew (by assumption) | exact Sv.drew (Sv.drew (by assumption)))⟩
          · as_aux_lemma =>
              obtain ⟨d0, d1, d2, d3, d4⟩ := cells5 hS.v
              go_wp2_with fail
              refine (fetch_any (cr := cr) hS.st.m (HRB.out _ hS.st.bel) (by omega) a hya).mono ?_
              rintro e w7 ⟨v, rfl, ht, hb7⟩
              obtain ⟨va, vn, rfl, hrow⟩ := ht.srow (fetchM_by hS.st.m.1)
              have hS7 := hS.below hb7
              obtain ⟨e0, e1, e2, e3, e4⟩ := cells5 hS7.v
              clear d0 d1 d2 d3 d4 ht
              go_wp2_with fail
              refine (rfetch_any (cr := cr) hS7.st.r (HRB.out _ hS7.st.bel) (by omega) a hya).mono ?_
              rintro e w8 ⟨ua, un', uc, rfl, hrow2, hb8⟩
              have hS8 := hS7.below hb8
              have hc1 : (convert 35 9 (.slice va vn vn)).run Try.prog w8 = .ok (.string (strOfNums (fetchM bs l a))) w8 := row_str vn (hrow.below hb8 (Nat.le_refl _))
              have hc2 : (convert 35 9 (.slice ua un' uc)).run Try.prog w8 = .ok (.string (strOfNums (fetchM bs l a))) w8 := row_str uc hrow2
              clear hrow hrow2 e0 e1 e2 e3 e4
              generalize strOfNums (fetchM bs l a) = str at *
              go_wp2_with fail
              go_meet
              case rel => exact ⟨gm, dm, bs, rfl, HL.out, hS8.st⟩
          · as_aux_lemma =>
              go_wp2_with fail
              refine (copy_any hS.st.m).mono ?_
              rintro e w7 ⟨g', d', rfl, hg', hd', hm', hb7⟩
              have hS7 := hS.below hb7
              go_wp2_with fail
              refine (zero_any hS7.st.m 0 s (by omega) (by omega)).mono ?_
              rintro e w8 ⟨rfl, _, hk8⟩
              have hT := hS.st.turn hg' hd' hm' hb7 hk8 (bz := bs)
              go_wp2_with fail
              go_meet
              case rel => exact ⟨g', d', bs, rfl, HL.out, hT⟩
          · as_aux_lemma =>
              have z0 : (kd == 0) = false := by simpa using hk0
              have z1 : (kd == 1) = false := by simpa using hk1
              have z2 : (kd == 2) = false := by simpa using hk2
              have z3 : (kd == 3) = false := by simpa using hk3
              have z4 : (kd == 4) = false := by simpa using hk4
              have z5 : (kd == 5) = false := by simpa using hk5
              have z6 : (kd == 6) = false := by simpa using hk6
              clear hk0 hk1 hk2 hk3 hk4 hk5 hk6
              go_wp2_with fail
              go_meet
              case rel => exact ⟨gm, dm, bs, rfl, HL.out, hS.st⟩
        case rest =>
          as_aux_lemma =>
            obtain ⟨g', d', b1, rfl, hl, hst⟩ := hcut
            have hget := get_any hst.m 0 s (by omega) (by omega)
            rw [hl, range_all', show getM b1 0 s = b1 from by rw [← hl, getM_all']] at hget
            have HGet := Lib.hid hget
            have HSt := Lib.hid hst
            have HLb := Lib.hid hl
            clear hget hst hl HSv HL
            go_wp2_with fail
            refine HGet.out.mono ?_
            rintro e w7 ⟨v, rfl, ht, hb7⟩
            obtain ⟨va, vn, rfl, hrow⟩ := ht.srow HSt.out.m.1
            have HS7 := Lib.hid (HSt.out.below hb7)
            obtain ⟨ra, rc, q0, hrow2⟩ := all_row HS7.out.r
            have hc1 : ∀ q, (convert 35 9 (.slice va vn vn)).run Try.prog (w7.drewN q) = .ok (.string (strOfNums b1)) (w7.drewN q) := fun q => row_str vn (srow_drewN hrow q)
            have hc2 : ∀ q, (convert 35 9 (.slice ra b1.length rc)).run Try.prog (w7.drewN q) = .ok (.string (strOfNums b1)) (w7.drewN q) := fun q => row_str rc (srow_drewN hrow2 q)
            clear hrow hrow2 ht hb7
            generalize strOfNums b1 = str at *
            go_wp2_with fail
            go_quiet (fail)
            go_wp2_with fail
            go_roundw
            case rel => exact ⟨k + 1, g', d', b1, by omega, by go_num, rfl, HLb.out, HS7.out.below (below_drewN (Below.refl _ _) _)⟩
            case measure => simp [intOf]; omega
      · have hd : decide ((k : Int) < (nd : Int)) = false := by simp; omega
        go_wp2_with fail
        go_ret
        exact ⟨rfl, HS.out.bel⟩
end Plays
end Ram
end Go.Proofs.Ythpimoinognkhaa
