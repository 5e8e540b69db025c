/- The statement WireBack holds: whatever values come in, the call answers true, and what was handed in reads as it did. No conditions beyond the statement's own. -/
import Derived.Test.YtimhppgepiikbaaWireB1
import Derived.Test.YtimhppgepiikbaaWireP
import Derived.Test.YtimhppgepiikbaaWireGreat
import Derived.ShutString
import Derived.ChangeOld
namespace Go.Proofs.Ytimhppgepiikbaa.wireBack
open Go.ChangeShapes Go.WideShapes Go.ChangeAt Go.RowKit Wire
set_option linter.unusedVariables false
theorem own : ownKnob Try.prog.godebug = none := by kernel_rfl
theorem laidOut : laidOutB Try.prog = true := by kernel_rfl
theorem bytes_of {p : Nat → Prop} {w : World} (f : F) : ∀ {b o : Nat}, FIn p w b o f → Bytes f := by
  induction f with
  | nil => intro _ _ _; trivial
  | cons k n i bs sub next ihs ihn =>
    intro b o h
    obtain ⟨_, _, _, _, ⟨ba, bn, bc, _, _, _, h6⟩, ⟨la, ln, lc, _, _, _, g4, g5⟩, _, hn⟩ := h
    refine ⟨h6.2.1, ?_, ihn hn⟩
    rcases g5 with g5 | ⟨b', o', _, g5⟩
    · cases sub with
      | nil => trivial
      | cons => simp [F.len] at g4; omega
    · exact ihs g5
theorem bytes_row {p : Nat → Prop} {w : World} {a : Option Addr} {n : Nat} {f : F} (h : FRow p w a n f) : Bytes f := by
  obtain ⟨h1, h2⟩ := h
  rcases h2 with h2 | ⟨b, o, _, h2⟩
  · cases f with
    | nil => trivial
    | cons => simp [F.len] at h1; omega
  · exact bytes_of f h2
/-- what the law's two loops stand on -/
structure Fit (f : F) : Prop where
  plain : Plain f
  nums : Nums f
  good : Wire.Good f
  small : Small f
theorem Fit.at {f : F} (h : Fit f) {t : Nat} {k n i : Int} {b : List Int} {sub : F} (hd : f.drop t = .cons k n i b sub (f.drop (t + 1))) : PlainV k n i b sub ∧ ((0 ≤ n ∧ n ≤ 18446744073709551615) ∧ Nums sub) ∧ ¬ bad k i sub ∧ (k = 7 → Wire.Good sub) ∧ b.length ≤ 200000 ∧ Small sub := by
  have h1 := h.plain.drop f t
  have h2 := h.nums.drop f t
  have h3 := h.good.drop f t
  have h4 := h.small.drop f t
  rw [hd] at h1 h2 h3 h4
  exact ⟨h1.1, ⟨h2.1, h2.2.1⟩, h3.1, h3.2.2, h4.1, h4.2.1⟩
theorem enc_at {f : F} {t : Nat} {L : List Int} {p : Nat} {k n i : Int} {b : List Int} {sub : F} (hd : f.drop t = .cons k n i b sub (f.drop (t + 1))) (h : L.drop p = enc (f.drop t)) : L.drop p = encV k n i b sub ++ enc (f.drop (t + 1)) := by
  rw [h, hd]; simp [enc, encV]
def BackOK (g : Nat) (W : World) (k n i : Int) (b : List Int) (sub : F) (s1 : RS) (r : Ending) (w' : World) : Prop :=
  ∃ ba bn bc la ln lc, r = .returned (.agg #[.int .i64 k, .int .u64 n, .int .i64 i, .slice ba bn bc, .slice la ln lc]) ∧ SRow (fun _ => False) w' ba bn b ∧ FRow (fun _ => False) w' la ln sub ∧ ln ≤ lc ∧ lc ≤ 9223372036854775807 ∧ RSt (fun _ => False) g w' s1 ∧ Kept (· = g) W w'
theorem read_back {g : Nat} {W : World} {k n i : Int} {b : List Int} {sub : F} {s s1 : RS} {kv : Value} (hv : rdVal k sub s = (n, i, b, sub)) (hs : rdVs k sub s = s1) (h : Calls Try.prog 13 #[.pointer (some ⟨g, 0, none⟩), kv] W (BackPost g W k sub s)) :
    Calls Try.prog 13 #[.pointer (some ⟨g, 0, none⟩), kv] W (BackOK g W k n i b sub s1) := by
  refine h.mono ?_
  rintro r w' ⟨ba, bn, bc, la, ln, lc, h1, h2, h3, h4, h5, h6, h7⟩
  rw [hv] at h1 h2 h3
  rw [hs] at h6
  exact ⟨ba, bn, bc, la, ln, lc, h1, h2, h3, h4, h5, h6, h7⟩
theorem same_eq {k n i : Int} {b : List Int} {f : F} {ba la ba' la' : Option Addr} {bn bc ln lc bn' bc' ln' lc' : Nat} {w : World} (h1 : SRow (fun _ => False) w ba bn b) (h2 : FRow (fun _ => False) w la ln f) (h3 : ln ≤ lc) (h4 : lc ≤ 9223372036854775807) (h5 : SRow (fun _ => False) w ba' bn' b) (h6 : FRow (fun _ => False) w la' ln' f) (h7 : ln' ≤ lc') (h8 : lc' ≤ 9223372036854775807) :
    Calls Try.prog 12 #[.agg #[.int .i64 k, .int .u64 n, .int .i64 i, .slice ba bn bc, .slice la ln lc], .agg #[.int .i64 k, .int .u64 n, .int .i64 i, .slice ba' bn' bc', .slice la' ln' lc']] w fun r w' => r = .returned (.bool true) ∧ Below w.heap.size w w' := by
  refine (same_any (f.size + 1) f (Nat.lt_succ_self _) w k n i k n i b b f ba la ba' la' bn bc ln lc bn' bc' ln' lc' h1 h2 h3 h4 h5 h6 h7 h8).mono ?_
  rintro r w' ⟨sb, rfl, hsb, hb⟩
  rw [hsb.2 ⟨rfl, rfl, rfl, rfl, rfl⟩]
  exact ⟨rfl, hb⟩
set_option maxHeartbeats 8000000 in
set_option maxRecDepth 100000 in
theorem walk (a : Option Addr) (n c : Nat) (f : F) (w : World) (hc : n ≤ c) (hm : c ≤ 9223372036854775807) (hr : FRow (fun _ => False) w a n f) :
    Calls Try.prog 4 #[.slice a n c] w fun e w' => e = .returned (.bool true) ∧ Below w.heap.size w w' := by
  have HR := Lib.hid hr
  have HBy := Lib.hid (bytes_row hr)
  have HNu := Lib.hid (nums_row hr)
  clear hr
  go_enter Try.func4, Try.ntmps4
  go_wp2_with fail
  refine (known_any w).mono ?_
  rintro r w1 ⟨rfl, hb1⟩
  have B1 := Lib.hid hb1
  have HR1 := Lib.hid (HR.out.kept (Kept.of_below hb1))
  clear hb1
  have hG := great_any _ (f.size + 1) f (by omega) w1 a n c 0 HR1.out hc hm (by omega) (by omega)
  cases hg : great f 0 0 with
  | true =>
    rw [hg] at hG
    have HG := Lib.hid hG
    clear hG hg
    go_wp2_with fail
    refine HG.out.mono ?_
    rintro r w2 ⟨rfl, rfl⟩
    go_wp2_with fail
    go_ret
    exact ⟨rfl, B1.out⟩
  | false =>
    rw [hg] at hG
    have HG := Lib.hid hG
    have HSm := Lib.hid (small_great f 0 0 (by omega) hg)
    have HWR := Lib.hid (wF_rF f [] HSm.out HBy.out (by simp))
    clear hG hg
    go_wp2_with fail
    refine HG.out.mono ?_
    rintro r w2 ⟨rfl, rfl⟩
    go_wp2_with fail
    refine (plain_any (f.size + 1) f (by omega) w1 a n c HR1.out hc hm).mono ?_
    rintro r w2 ⟨pb, rfl, hpb, hb2⟩
    have HPb := Lib.hid hpb
    have B2 := Lib.hid (B1.out.trans (hb2.mono B1.out.size))
    have HR2 := Lib.hid (HR1.out.kept (Kept.of_below hb2))
    clear hpb hb2 HR1 B1
    cases pb with
    | false =>
      go_wp2_with fail
      go_ret
      exact ⟨rfl, B2.out⟩
    | true =>
      go_wp2_with fail
      have hW0 := wst_new (w := w2) (Nat.le_refl w2.heap.size)
      have hB3 : Below w2.heap.size w2 (w2.alloc (.cells #[.slice none 0 0, .int .i64 0] 29)) := (Below.refl _ _).alloc (Nat.le_refl _) _
      have hR3 : FRow (fun k => w2.heap.size ≤ k) (w2.alloc (.cells #[.slice none 0 0, .int .i64 0] 29)) a n f := (HR2.out.imp (q := fun k => w2.heap.size ≤ k) (fun k hk h => by omega)).kept (Kept.below hB3)
      refine (write_any w2.heap.size w2.heap.size f _ _ a n c hB3.size hW0 hR3 hc hm).mono ?_
      rintro r w3 ⟨rfl, h1, h2⟩
      rw [HWR.out] at h1
      have H3 := Lib.hid h1
      have hb3 := hB3.trans h2
      have HR3 := Lib.hid (HR2.out.kept (Kept.of_below hb3))
      have B3 := Lib.hid (B2.out.trans (hb3.mono B2.out.size))
      have HFst := Lib.hid (rF_fst f [])
      have HEnc := Lib.hid (rF_enc f [])
      have HLen := Lib.hid (rF_len f [] (by simp))
      clear hW0 hB3 hR3 h1 h2 hb3 HWR HR2 B2
      generalize rF f [] = S at *
      obtain ⟨L, E⟩ := S
      simp only [List.nil_append] at HFst HEnc HLen
      go_wp2_with fail
      refine (done_any _ _ w3 _ H3.out HFst.out).mono ?_
      rintro r w4 ⟨v, rfl, a4, n4, c4, rfl, h1, h2, h3, h4, h5⟩
      unfold maxLen at h3
      have HA4 := Lib.hid h1
      have HR4 := Lib.hid (HR3.out.kept (Kept.of_below h5))
      have B4 := Lib.hid (B3.out.trans (h5.mono B3.out.size))
      have hnl : L.length = n4 := h1.1
      have HNil := Lib.hid h4
      clear h1 h4 h5 H3 HR3 B3
      by_cases hE : E = 0
      · subst hE
        have HE := Lib.hid (HEnc.out rfl)
        have HNl := Lib.hid hnl
        have hn6 : n4 ≤ 524288 := by have := HLen.out; omega
        have HFit : Hid (Fit f) := ⟨HPb.out trivial, HNu.out, HE.out.2, HSm.out⟩
        clear hnl
        go_wp2_with fail
        refine (from_any _ w4 a4 n4 c4 L HA4.out (by omega) (fun h => ⟨by have := HNil.out h; omega, HNil.out h⟩)).mono ?_
        rintro r w5 ⟨g, rfl, hg, h1, h5⟩
        have HRd := Lib.hid (h1.more (q' := fun _ => False) (fun k _ h => h.elim))
        have Hg : Hid (w.heap.size ≤ g) := Nat.le_trans B4.out.size hg
        have HF5 : Hid (FRow (· = g) w5 a n f) := (HR4.out.imp (q := (· = g)) (fun k hk e => by omega)).kept (Kept.of_below h5)
        have HA5 : Hid (SRow (· = g) w5 a4 n4 L) := (HA4.out.imp (q := (· = g)) (fun k hk e => by omega)).kept (Kept.of_below h5)
        have B5 := Lib.hid (B4.out.trans (h5.mono B4.out.size))
        clear hg h1 h5 HR4 HA4 B4
        go_wp2_with fail
        go_loopw [39] (fun j wr => ∃ t p : Nat, t ≤ n ∧ j = .int .i64 t ∧ RSt (fun _ => False) g wr ⟨L, p, 0⟩ ∧ L.drop p = enc (f.drop t) ∧ Kept (· = g) w5 wr) (fun j _ => n - (intOf j).toNat)
        case atStart => exact ⟨0, 0, by omega, rfl, HRd.out, by rw [F.drop_zero, ← HE.out.1]; rfl, Kept.refl _ _⟩
        case round =>
          obtain ⟨t, p, ht, rfl, hrs, hdp, hkp⟩ := hrel
          have HRs := Lib.hid hrs
          have HDp := Lib.hid hdp
          have HK := Lib.hid hkp
          have hlg := hrs.lt
          clear hrs hdp hkp
          by_cases hlt : t < n
          · have k0 : (0 : Int) ≤ t := by omega
            have k1 : (t : Int) < n := by omega
            have hd : decide ((t : Int) < (n : Int)) = true := by simp; omega
            obtain ⟨hlen, hrow⟩ := HF5.out.kept HK.out
            rcases hrow with hrow | ⟨bb, o, rfl, hin⟩
            · omega
            obtain ⟨x, nn, ii, bs, sub, hdr⟩ := f.drop_cons t (by omega)
            have h1 := FIn.drop f t hin
            rw [hdr] at h1
            obtain ⟨_, g0, g1, g2, ⟨ca, cn, cc, g3, _, _, b3⟩, ⟨ea, en, ec, g4, l1, l2, l3⟩, _, _⟩ := h1
            have hat := HFit.out.at hdr
            have hen := enc_at hdr HDp.out
            have hvs := vs_back hat.1 hat.2.1 hat.2.2.1 hat.2.2.2.1 hat.2.2.2.2.1 hat.2.2.2.2.2 hen
            have hvl := val_back hat.1 hat.2.1 hat.2.2.1 hat.2.2.2.1 hat.2.2.2.2.1 hat.2.2.2.2.2 hen
            have HNx := Lib.hid (drop_more hen)
            have hb8 : Below wr.heap.size wr (wr.alloc (.cells #[.int .i64 x, .int .u64 nn, .int .i64 ii, .slice ca cn cc, .slice ea en ec] 39)).drew := ((Below.refl _ _).alloc (Nat.le_refl _) _).drew
            have HSr := Lib.hid (b3.kept (Kept.of_below hb8))
            have HFr := Lib.hid (FRow.kept (show FRow (· = g) wr ea en sub from l3) (Kept.of_below hb8))
            have HX : Hid ((wr.alloc (.cells #[.int .i64 x, .int .u64 nn, .int .i64 ii, .slice ca cn cc, .slice ea en ec] 39)).drew.heap[wr.heap.size]? = some (.cells #[.int .i64 x, .int .u64 nn, .int .i64 ii, .slice ca cn cc, .slice ea en ec] 39 (0, 0))) := heap_alloc_new _ _
            have HR8 := Lib.hid (HRs.out.kept hb8)
            have HKd := Lib.hid (kind_any g (wr.alloc (.cells #[.int .i64 x, .int .u64 nn, .int .i64 ii, .slice ca cn cc, .slice ea en ec] 39)).drew x nn ii bs sub ca ea cn cc en ec hat.1 (HFr.out.imp (fun _ _ h => h.elim)) l1 l2)
            have HVs := Lib.hid hvs
            have HVl := Lib.hid hvl
            have HK8 : Hid (Kept (· = g) w5 (wr.alloc (.cells #[.int .i64 x, .int .u64 nn, .int .i64 ii, .slice ca cn cc, .slice ea en ec] 39)).drew) := HK.out.trans (Kept.of_below hb8)
            have hVg : wr.heap.size ≠ g := by omega
            clear hlen hin hdr b3 l3 hat hen hvs hvl hb8
            go_wp2_with fail
            go_region_with (first
              | (go_at_call 14; refine HKd.out.mono ?_; rintro r w6 ⟨kv, rfl, hb6, hread⟩; have HX6 := Lib.hid ((hb6.block _ (lt_of_block HX.out)).trans HX.out); have HSr6 := Lib.hid (HSr.out.kept (Kept.of_below hb6)); have HFr6 := Lib.hid (HFr.out.kept (Kept.of_below hb6)); have HK6 := Lib.hid (HK8.out.trans (Kept.of_below hb6)); have HRead := Lib.hid (read_back HVl.out HVs.out (hread _ (HR8.out.kept hb6))); have x0 := cell_of_row _ _ 0 _ _ _ HX6.out; have x1 := cell_of_row _ _ 1 _ _ _ HX6.out; have x2 := cell_of_row _ _ 2 _ _ _ HX6.out; have x3 := cell_of_row _ _ 3 _ _ _ HX6.out; have x4 := cell_of_row _ _ 4 _ _ _ HX6.out; simp only [List.getElem?_toArray, List.getElem?_cons_zero, List.getElem?_cons_succ] at x0 x1 x2 x3 x4; clear hb6 hread)
              | (go_at_call 13; refine HRead.out.mono ?_; rintro r w7 ⟨ra, rn, rc, qa, qn, qc, rfl, h1, h2, h3, h4, h5, h6⟩; have HX7 := Lib.hid ((h6.block _ (lt_of_block HX6.out) hVg).trans HX6.out); have HK7 := Lib.hid (HK6.out.trans h6); have HSame := Lib.hid (fun (kk : Int) (n1 i1 : Int) => same_eq (k := kk) (n := n1) (i := i1) (bc := rc) (bc' := cc) h1 h2 h3 h4 ((HSr6.out.kept h6).imp (fun _ _ h => h.elim)) ((HFr6.out.kept h6).imp (fun _ _ h => h.elim)) l1 l2); have HR7 := Lib.hid h5; have y0 := cell_of_row _ _ 0 _ _ _ HX7.out; have y1 := cell_of_row _ _ 1 _ _ _ HX7.out; have y2 := cell_of_row _ _ 2 _ _ _ HX7.out; have y3 := cell_of_row _ _ 3 _ _ _ HX7.out; have y4 := cell_of_row _ _ 4 _ _ _ HX7.out; simp only [List.getElem?_toArray, List.getElem?_cons_zero, List.getElem?_cons_succ] at y0 y1 y2 y3 y4; clear h1 h2 h5 h6)
              | (go_at_call 12; refine (HSame.out _ _ _).mono ?_; rintro r w8 ⟨rfl, hb8⟩; have HR9 := Lib.hid (HR7.out.kept hb8); have HK9 := Lib.hid (HK7.out.trans (Kept.of_below hb8)); clear hb8))
            all_goals
              go_wp2_with fail
              go_roundw
              case rel => exact ⟨t + 1, p + (encV x nn ii bs sub).length, by omega, by go_num, HR9.out, HNx.out, HK9.out⟩
              case measure => simp [intOf]; omega
          · have hd : decide ((t : Int) < (n : Int)) = false := by simp; omega
            have hnil : L.drop p = [] := by
              have := HDp.out
              rw [F.drop_all f t (by have := HF5.out.1; omega)] at this
              exact this
            have hpl : L.length ≤ p := List.drop_eq_nil_iff.1 hnil
            have hpu : p ≤ L.length := by
              obtain ⟨v, _, _, _, hdd⟩ := HRs.out
              obtain ⟨_, n', _, _, hs, hpn, _⟩ := hdd rfl
              have := hs.1
              simp only at this hpn
              omega
            obtain rfl : p = n4 := by have := HNl.out; omega
            have HEnd : Hid (RS.theEnd ⟨L, p, 0⟩ = 0) := by show _ = _; simp only [RS.theEnd, if_true]; rw [if_neg (by omega)]
            have HPl : Hid (L.length = p) := by show _ = _; omega
            have B8 : Hid (Below w.heap.size w wr) := B5.out.trans (HK.out.toBelow B5.out.size (fun k hk e => by have := Hg.out; omega))
            have HA8 := Lib.hid (HA5.out.kept HK.out)
            have HF8 := Lib.hid (HF5.out.kept HK.out)
            have HRs8 := HRs
            clear hnil hpl hpu B5 HA5 HF5
            have hend := rend_any g wr _ HRs.out
            rw [HEnd.out] at hend
            have HEn := Lib.hid hend
            clear hend
            go_wp2_with fail
            refine HEn.out.mono ?_
            rintro r w9 ⟨rfl, q1, rfl⟩
            have B9 : Hid (Below w.heap.size w (wr.drewN q1)) := below_drewN B8.out q1
            have HA9 : Hid (SRow (· = g) (wr.drewN q1) a4 p L) := HA8.out
            have HF9 : Hid (FRow (· = g) (wr.drewN q1) a n f) := HF8.out.kept (Kept.of_below (below_drewN (Below.refl _ _) q1))
            have HRs9 := Lib.hid (HRs8.out.kept (below_drewN (Below.refl _ _) q1))
            generalize wr.drewN q1 = W9 at *
            go_wp2_with fail
            refine (rat_any g W9 _ HRs9.out).mono ?_
            rintro r w10 ⟨rfl, rfl⟩
            by_cases hz : p = 0
            · have HZ := Lib.hid hz
              have dz : ((p : Int) == 0) = true := by simpa using hz
              have dz2 : (p == 0) = true := by simpa using hz
              clear hz
              go_wp2_with fail
              go_ret
              exact ⟨rfl, B9.out⟩
            · have dz : ((p : Int) == 0) = false := by simpa using hz
              have dz2 : (p == 0) = false := by simpa using hz
              have p0 : (0 : Int) ≤ (p : Int) - 1 := by omega
              obtain ⟨a', hcut, hs', hne'⟩ := head_any HA9.out (p - 1) ((p : Int) - 1) (by omega) (by omega) h2 (by omega)
              have HS' := Lib.hid hs'
              have HNe' := Lib.hid hne'
              have HZ := Lib.hid hz
              clear hz hs' hne'
              go_wp2_with fail
              clear hcut
              refine (from_any _ W9 a' (p - 1) c4 (L.take (p - 1)) HS'.out (by omega) (fun h => absurd h HNe'.out)).mono ?_
              rintro r w10 ⟨g2, rfl, hg2, h1, h5⟩
              have HRd2 := Lib.hid (h1.more (q' := fun _ => False) (fun k _ h => h.elim))
              have Hg2 : Hid (w.heap.size ≤ g2) := Nat.le_trans B9.out.size hg2
              have HF10 : Hid (FRow (· = g2) w10 a n f) := (FRow.imp (q := (· = g2)) (FRow.imp (q := fun _ => False) HF9.out (fun _ _ h => h.elim)) (fun k hk e => by omega)).kept (Kept.of_below h5)
              have B10 := Lib.hid (B9.out.trans (h5.mono B9.out.size))
              clear hg2 h1 h5 HF9 HA9 B9 HRs9
              go_wp2_with fail
              go_loopw [72] (fun j wr => ∃ (t : Nat) (s' : RS), t ≤ n ∧ j = .int .i64 t ∧ RSt (fun _ => False) g2 wr s' ∧ rdS f ⟨L.take (p - 1), 0, 0⟩ = rdS (f.drop t) s' ∧ Kept (· = g2) w10 wr) (fun j _ => n - (intOf j).toNat)
              case atStart => exact ⟨0, _, by omega, rfl, HRd2.out, by rw [F.drop_zero], Kept.refl _ _⟩
              case round =>
                obtain ⟨t, s', ht, rfl, hrs, hrd, hkp⟩ := hrel
                have HRs := Lib.hid hrs
                have HRq := Lib.hid hrd
                have HK := Lib.hid hkp
                clear hrs hrd hkp
                by_cases hlt : t < n
                · have k0 : (0 : Int) ≤ t := by omega
                  have k1 : (t : Int) < n := by omega
                  have hd : decide ((t : Int) < (n : Int)) = true := by simp; omega
                  obtain ⟨hlen, hrow⟩ := HF10.out.kept HK.out
                  rcases hrow with hrow | ⟨bb, o, rfl, hin⟩
                  · omega
                  obtain ⟨x, nn, ii, bs, sub, hdr⟩ := f.drop_cons t (by omega)
                  have h1 := FIn.drop f t hin
                  rw [hdr] at h1
                  obtain ⟨_, g0, g1, g2', ⟨ca, cn, cc, g3, _, _, _⟩, ⟨ea, en, ec, g4, l1, l2, l3⟩, _, _⟩ := h1
                  have hat := HFit.out.at hdr
                  have hb8 : Below wr.heap.size wr (wr.alloc (.cells #[.int .i64 x, .int .u64 nn, .int .i64 ii, .slice ca cn cc, .slice ea en ec] 39)) := (Below.refl _ _).alloc (Nat.le_refl _) _
                  have HFr := Lib.hid (FRow.kept (FRow.imp (q := fun _ => False) (show FRow (· = g2) wr ea en sub from l3) (fun _ _ h => h.elim)) (Kept.of_below hb8))
                  have HR8 := Lib.hid (HRs.out.kept hb8)
                  have HKd := Lib.hid (kind_any g2 (wr.alloc (.cells #[.int .i64 x, .int .u64 nn, .int .i64 ii, .slice ca cn cc, .slice ea en ec] 39)) x nn ii bs sub ca ea cn cc en ec hat.1 HFr.out l1 l2)
                  have HK8 : Hid (Kept (· = g2) w10 (wr.alloc (.cells #[.int .i64 x, .int .u64 nn, .int .i64 ii, .slice ca cn cc, .slice ea en ec] 39))) := HK.out.trans (Kept.of_below hb8)
                  have HRn : Hid (rdS f ⟨L.take (p - 1), 0, 0⟩ = rdS (f.drop (t + 1)) (rdVs x sub s')) := by show _ = _; rw [HRq.out, hdr]; rfl
                  clear hlen hin hdr l3 hat hb8
                  go_wp2_with fail
                  refine HKd.out.mono ?_
                  rintro r w11 ⟨kv, rfl, hb6, hread⟩
                  have HRead := Lib.hid (hread _ (HR8.out.kept hb6))
                  have HK11 := Lib.hid (HK8.out.trans (Kept.of_below hb6))
                  clear hb6 hread
                  go_wp2_with fail
                  refine HRead.out.mono ?_
                  rintro r w12 ⟨_, _, _, _, _, _, rfl, _, _, _, _, h5, h6⟩
                  have HR12 := Lib.hid h5
                  have HK12 := Lib.hid (HK11.out.trans h6)
                  clear h5 h6
                  go_wp2_with fail
                  go_roundw
                  case rel => exact ⟨t + 1, _, by omega, by go_num, HR12.out, HRn.out, HK12.out⟩
                  case measure => simp [intOf]; omega
                · have hd : decide ((t : Int) < (n : Int)) = false := by simp; omega
                  have hS : rdS f ⟨L.take (p - 1), 0, 0⟩ = s' := by
                    rw [HRq.out, F.drop_all f t (by have := HF10.out.1; omega)]; rfl
                  have hrel0 : Rel L (p - 1) ⟨L, 0, 0⟩ ⟨L.take (p - 1), 0, 0⟩ := ⟨rfl, rfl, Or.inr ⟨rfl, rfl, rfl⟩⟩
                  have hsh := rdS_short f L [] (p - 1) 0 _ HFit.out.plain HFit.out.nums HFit.out.good HFit.out.small (by rw [List.append_nil, ← HE.out.1]; rfl) hrel0
                  rw [hS] at hsh
                  have he : s'.e = 40 := by
                    rcases hsh.2.2 with h | ⟨h1, h2', h3'⟩
                    · exact h
                    · exfalso
                      obtain ⟨v, _, _, _, hdd⟩ := HRs.out
                      obtain ⟨_, n', _, _, hs, hpn, _⟩ := hdd h3'
                      have e1 := hs.1
                      rw [h1, List.length_take] at e1
                      have e2 := HPl.out
                      have e3 : (enc f).length = p := by rw [← HE.out.1]; exact e2
                      simp only [e3] at h2'
                      have := HZ.out
                      omega
                  have B11 : Hid (Below w.heap.size w wr) := B10.out.trans (HK.out.toBelow B10.out.size (fun k hk e => by have := Hg2.out; omega))
                  have hErr := rerr_any g2 wr s' HRs.out
                  rw [he] at hErr
                  have HErr := Lib.hid hErr
                  clear hS hrel0 hsh he hErr
                  go_wp2_with fail
                  refine HErr.out.mono ?_
                  rintro r w11 ⟨rfl, rfl⟩
                  go_wp2_with fail
                  go_ret
                  exact ⟨rfl, B11.out⟩
      · have hd : (E != 0) = true := by simpa using hE
        have hL0 : n4 = 0 := by rw [← hnl, HFst.out hE]; rfl
        subst hL0
        clear hE hnl
        go_wp2_with fail
        go_ret
        exact ⟨rfl, B4.out⟩

/-- what the walk gives, for every argument -/
theorem lifted (os : Os) (started : os.Started) (H : Type) (enc : TypeId × Value → H) :
    ReturnsInHanded {} Try.checked os 4 .any (Rows.wireBackSpec.pre6 enc Try.prog Try.f4 Rows.wireBackRow.domain false) (Rows.wireBackSpec.post enc Try.prog Try.f4 false true false false) := by
  refine returnsInHanded_of_change (C := Try.checked) own started (by kernel_rfl) Try.func4
    (ChangeSpec.witness6 (enc := enc) (C := Try.checked) false ⟨#[], #[.slice none 0 0], []⟩ 8 (by kernel_rfl) (by kernel_rfl) (by kernel_rfl) (by kernel_rfl)) ?_
  intro W base args ds gs before hval0 hW hcnd _
  have hval : ∀ (j : Nat) t v, Try.f4.params[j]? = some t → args[j]? = some v → Value.okWide Try.prog W .any base t v := hval0
  have hW' := hW
  obtain ⟨p, q, hA0, hV, rfl, hfz, hnd⟩ := hW
  have hA : DataW.TrodAll enc Try.prog W 0 (fun _ => true) true Try.f4.params.toList args.toList ds p := hA0
  rw [Try.params4] at hA hval
  obtain ⟨v0, vs0, d0, ds0, p0, q0, hargs, rfl, rfl, h0, r0⟩ := trodAll_cons hA
  obtain ⟨rfl, rfl, rfl⟩ := trodAll_nil r0
  obtain rfl : args = #[v0] := by cases args; simp_all
  obtain ⟨rfl, rfl⟩ := trodVars_none hV
  obtain ⟨a0, len0, cap0, rfl⟩ := okWide_slice Try.underlying22 (hval 0 22 v0 rfl rfl)
  have k0 := h0
  have lt0 : ∀ x ∈ p0, x.block < W.heap.size := by obtain ⟨m, hm⟩ := k0; exact DataW.trod_lt m _ _ _ hm
  obtain ⟨z0, w0, w1, w2⟩ : ∃ f, len0 ≤ cap0 ∧ cap0 ≤ 9223372036854775807 ∧ FRow (fun _ => False) W a0 len0 f := by
    obtain ⟨fuel, hf⟩ := h0
    obtain ⟨a, n, c, f, hcs, h1, h2, h3⟩ := open_vals fuel _ _ hf
    simp [Value.cells] at hcs
    obtain ⟨rfl, rfl, rfl⟩ := hcs
    exact ⟨f, h1, h2, h3⟩
  clear hA0 hval0
  refine (walk a0 len0 cap0 z0 W w0 w1 w2).mono fun e W' ⟨he, bel⟩ => ?_
  subst he
  exact ⟨_, rfl, _, _, _, [], _, [], hW', trodAll_mk1 (shut_bool Try.underlying4 _), (trodAll_cons_mk (Below.trod laidOut (by kernel_rfl) (of_decide_eq_true (by kernel_rfl)) k0 bel lt0) trodAll_mk0), rfl, bel.frame _, fun h => by cases h⟩

theorem proved : Rows.WireBackSaid :=
  OpenClaim.holds_of_wide 4 Try.f4 rfl rfl rfl rfl rfl rfl rfl ⟨rfl, rfl, rfl, rfl, rfl⟩ rfl rfl rfl rfl rfl (by kernel_rfl) Try.func4 (by kernel_rfl)
    (of_decide_eq_true (by kernel_rfl)) (by unfold Func.isWrapper; first | (rw [if_pos (by decide +kernel)]; kernel_rfl) | (rw [if_neg (by decide +kernel)]; exact ⟨rfl, rfl⟩))
    (fun os started H enc _ => lifted os started H enc)
#print axioms proved
end Go.Proofs.Ytimhppgepiikbaa.wireBack
