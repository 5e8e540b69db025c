/- plain: whether values are as they are read. -/
import Derived.Test.YtimhppgepiikbaaWireS
import Derived.Test.YtimhppgepiikbaaWireMath4
import Derived.RegionTactic
import Derived.ChangeAlike
import Derived.Laws.BitsLemmas
import Derived.WalkSmall
namespace Go.Proofs.Ytimhppgepiikbaa
open Go.ChangeShapes Go.WideShapes Go.ChangeAt Go.RowKit
namespace Wire
set_option linter.unusedVariables false
def PlainPost (f : F) (w : World) (r : Ending) (w' : World) : Prop := ∃ pb, r = .returned (.bool pb) ∧ (pb = true → Plain f) ∧ Below w.heap.size w w'
def PlainOK (f : F) : Prop := ∀ (w : World) (a : Option Addr) (n c : Nat), FRow (fun _ => False) w a n f → n ≤ c → c ≤ 9223372036854775807 → Calls Try.prog 10 #[.slice a n c] w (PlainPost f w)
theorem plain_no {f : F} {w w' : World} (hb : Below w.heap.size w w') : PlainPost f w (.returned (.bool false)) w' := ⟨false, rfl, (fun h => by cases h), hb⟩
theorem plain_next {f : F} {q : Nat} {x nn ii : Int} {bs : List Int} {sub : F} (h : Plain (f.drop q) → Plain f) (hd : f.drop q = .cons x nn ii bs sub (f.drop (q + 1))) (hv : PlainV x nn ii bs sub) : Plain (f.drop (q + 1)) → Plain f := fun hp => h (by rw [hd]; exact ⟨hv, hp⟩)
/-- the first one's kind -/
def F.kind1 : F → Int
  | .nil => 0
  | .cons k _ _ _ _ _ => k
theorem mask_any (i : Nat) (hi : i ≤ 64) (nn : Int) (h0 : 0 ≤ nn) (h1 : nn ≤ 18446744073709551615) : bits .and .u64 nn (2 ^ i - 1) = nn % 2 ^ i :=
  bits_mask .u64 64 (by decide) (fun n h0 h1 => by simp only [IntKind.wrap, IntKind.bits, IntKind.signed]; exact Int.emod_eq_of_lt h0 h1) i hi nn h0 (by omega)
theorem mask_1 (nn : Int) (h0 : 0 ≤ nn) (h1 : nn ≤ 18446744073709551615) : bits .and .u64 nn 255 < 256 := by
  have := mask_any 8 (by omega) nn h0 h1
  rw [show (2 : Int) ^ 8 - 1 = 255 from by decide, show (2 : Int) ^ 8 = 256 from by decide] at this
  omega
theorem mask_2 (nn : Int) (h0 : 0 ≤ nn) (h1 : nn ≤ 18446744073709551615) : bits .and .u64 nn 65535 < 65536 := by
  have := mask_any 16 (by omega) nn h0 h1
  rw [show (2 : Int) ^ 16 - 1 = 65535 from by decide, show (2 : Int) ^ 16 = 65536 from by decide] at this
  omega
theorem mask_4 (nn : Int) (h0 : 0 ≤ nn) (h1 : nn ≤ 18446744073709551615) : bits .and .u64 nn 4294967295 < 4294967296 := by
  have := mask_any 32 (by omega) nn h0 h1
  rw [show (2 : Int) ^ 32 - 1 = 4294967295 from by decide, show (2 : Int) ^ 32 = 4294967296 from by decide] at this
  omega
set_option maxHeartbeats 8000000 in
set_option maxRecDepth 100000 in
theorem plain_any : ∀ (m : Nat) (f : F), f.size < m → PlainOK f := by
  intro m
  induction m with
  | zero => intro f hf; omega
  | succ m ih =>
    intro f hf w a n c hr hc hm
    have HR := Lib.hid hr
    have HF := Lib.hid hf
    have HI := Lib.hid ih
    clear hr hf ih
    go_enter Try.func10, Try.ntmps10
    go_wp2_with fail
    go_loopw [10] (fun j wr => ∃ q : Nat, q ≤ n ∧ j = .int .i64 q ∧ (Plain (f.drop q) → Plain f) ∧ Below w.heap.size w wr) (fun j _ => n - (intOf j).toNat)
    case atStart => exact ⟨0, by omega, rfl, by rw [F.drop_zero]; exact id, Below.refl _ _⟩
    case round =>
      obtain ⟨q, hq, rfl, hpl, hbel⟩ := hrel
      have HP := Lib.hid hpl
      have HB := Lib.hid hbel
      clear hpl hbel
      by_cases hlt : q < n
      · have k0 : (0 : Int) ≤ q := by omega
        have k1 : (q : Int) < n := by omega
        have hd : decide ((q : Int) < (n : Int)) = true := by simp; omega
        obtain ⟨hlen, hrow⟩ := HR.out.kept (Kept.of_below HB.out)
        rcases hrow with hrow | ⟨bb, o, rfl, hin⟩
        · omega
        obtain ⟨x, nn, ii, bs, sub, hdr⟩ := f.drop_cons q (by omega)
        have h1 := FIn.drop f q hin
        have hsz := f.drop_size q
        rw [hdr] at h1 hsz
        simp only [F.size] at hsz
        obtain ⟨_, g0, g1, g2, ⟨ca, cn, cc, g3, b1, b2, b3⟩, ⟨ea, en, ec, g4, l1, l2, l3⟩, ⟨⟨x0, x1⟩, ⟨nn0, nn1⟩, _⟩, _⟩ := h1
        have HRow := Lib.hid b3
        have HSub := Lib.hid (show FRow (fun _ => False) wr ea en sub from l3)
        have HDr := Lib.hid hdr
        have HSz := Lib.hid hsz
        have hnl : FRow (fun _ => False) wr none 0 .nil := ⟨rfl, Or.inl rfl⟩
        clear hlen hin hdr hsz b3 l3
        have HSm : Hid (∀ (W : World) (k' n' i' : Int) (b' : List Int) (ba' : Option Addr) (bn' bc' : Nat), Below wr.heap.size wr W → SRow (fun _ => False) W ba' bn' b' → Calls Try.prog 12 #[.agg #[.int .i64 k', .int .u64 n', .int .i64 i', .slice ba' bn' bc', .slice none 0 0], .agg #[.int .i64 x, .int .u64 nn, .int .i64 ii, .slice ca cn cc, .slice ea en ec]] W (fun r w' => ∃ sb, r = .returned (.bool sb) ∧ (sb = true ↔ SameEq k' n' i' b' .nil x nn ii bs sub) ∧ Below wr.heap.size wr w')) := by
          intro W k' n' i' b' ba' bn' bc' hb hs
          refine (same_any (F.size .nil + 1) .nil (Nat.lt_succ_self _) W k' n' i' x nn ii b' bs sub ba' none ca ea bn' bc' 0 0 cn cc en ec hs ⟨rfl, Or.inl rfl⟩ (Nat.le_refl _) (by omega) (HRow.out.kept (Kept.of_below hb)) (HSub.out.kept (Kept.of_below hb)) l1 l2).mono ?_
          rintro r w' ⟨sb, h1, h2, h3⟩
          exact ⟨sb, h1, h2, hb.trans (h3.mono hb.size)⟩
        have hno : ∀ (W : World), SRow (fun _ => False) W none 0 [] := fun W => ⟨rfl, by simp, Or.inl rfl⟩
        have HNo := Lib.hid hno
        clear hno hnl
        by_cases h1 : x = 1
        · subst h1
          have HMk := Lib.hid (mask_1 nn nn0 nn1)
          go_wp2_with fail
          go_region
          clear b1 b2
          go_wp2_with fail
          refine (HSm.out _ 1 (bits .and .u64 nn 255) 0 [] none 0 0 ?_ ?_).mono ?_
          · first | exact ((Below.refl _ _).alloc (Nat.le_refl _) _).alloc (by simp) _ | exact (((Below.refl _ _).alloc (Nat.le_refl _) _).alloc (by simp) _).drew | exact (((Below.refl _ _).alloc (Nat.le_refl _) _).drew).alloc (by simp) _
          · exact HNo.out _
          rintro r w1 ⟨sb, rfl, hsb, hb1⟩
          have HB1 := Lib.hid (HB.out.trans (hb1.mono HB.out.size))
          have HSb := Lib.hid hsb
          clear hsb hb1
          cases sb with
          | true =>
            have HN := Lib.hid (plain_next HP.out HDr.out (by obtain ⟨_, e1, e2, e3, e4⟩ := HSb.out.1 rfl; exact Or.inl ⟨e4.symm, Or.inl ⟨rfl, by rw [← e1]; exact HMk.out, e2.symm, e3.symm⟩⟩))
            go_wp2_with fail
            go_roundw
            case rel => exact ⟨q + 1, by omega, by go_num, HN.out, HB1.out⟩
            case measure => simp [intOf]; omega
          | false =>
            go_wp2_with fail
            go_ret
            exact plain_no HB1.out
        by_cases h2 : x = 2
        · subst h2
          have HMk := Lib.hid (mask_2 nn nn0 nn1)
          go_wp2_with fail
          go_region
          clear b1 b2
          go_wp2_with fail
          refine (HSm.out _ 2 (bits .and .u64 nn 65535) 0 [] none 0 0 ?_ ?_).mono ?_
          · first | exact ((Below.refl _ _).alloc (Nat.le_refl _) _).alloc (by simp) _ | exact (((Below.refl _ _).alloc (Nat.le_refl _) _).alloc (by simp) _).drew | exact (((Below.refl _ _).alloc (Nat.le_refl _) _).drew).alloc (by simp) _
          · exact HNo.out _
          rintro r w1 ⟨sb, rfl, hsb, hb1⟩
          have HB1 := Lib.hid (HB.out.trans (hb1.mono HB.out.size))
          have HSb := Lib.hid hsb
          clear hsb hb1
          cases sb with
          | true =>
            have HN := Lib.hid (plain_next HP.out HDr.out (by obtain ⟨_, e1, e2, e3, e4⟩ := HSb.out.1 rfl; exact Or.inl ⟨e4.symm, Or.inr (Or.inl ⟨rfl, by rw [← e1]; exact HMk.out, e2.symm, e3.symm⟩)⟩))
            go_wp2_with fail
            go_roundw
            case rel => exact ⟨q + 1, by omega, by go_num, HN.out, HB1.out⟩
            case measure => simp [intOf]; omega
          | false =>
            go_wp2_with fail
            go_ret
            exact plain_no HB1.out
        by_cases h4 : x = 4
        · subst h4
          have HMk := Lib.hid (mask_4 nn nn0 nn1)
          go_wp2_with fail
          go_region
          clear b1 b2
          go_wp2_with fail
          refine (HSm.out _ 4 (bits .and .u64 nn 4294967295) 0 [] none 0 0 ?_ ?_).mono ?_
          · first | exact ((Below.refl _ _).alloc (Nat.le_refl _) _).alloc (by simp) _ | exact (((Below.refl _ _).alloc (Nat.le_refl _) _).alloc (by simp) _).drew | exact (((Below.refl _ _).alloc (Nat.le_refl _) _).drew).alloc (by simp) _
          · exact HNo.out _
          rintro r w1 ⟨sb, rfl, hsb, hb1⟩
          have HB1 := Lib.hid (HB.out.trans (hb1.mono HB.out.size))
          have HSb := Lib.hid hsb
          clear hsb hb1
          cases sb with
          | true =>
            have HN := Lib.hid (plain_next HP.out HDr.out (by obtain ⟨_, e1, e2, e3, e4⟩ := HSb.out.1 rfl; exact Or.inl ⟨e4.symm, Or.inr (Or.inr (Or.inl ⟨rfl, by rw [← e1]; exact HMk.out, e2.symm, e3.symm⟩))⟩))
            go_wp2_with fail
            go_roundw
            case rel => exact ⟨q + 1, by omega, by go_num, HN.out, HB1.out⟩
            case measure => simp [intOf]; omega
          | false =>
            go_wp2_with fail
            go_ret
            exact plain_no HB1.out
        by_cases h8 : x = 8
        · subst h8
          go_wp2_with fail
          refine (HSm.out _ 8 nn 0 [] none 0 0 ?_ ?_).mono ?_
          · first | exact ((Below.refl _ _).alloc (Nat.le_refl _) _).alloc (by simp) _ | exact (((Below.refl _ _).alloc (Nat.le_refl _) _).alloc (by simp) _).drew | exact (((Below.refl _ _).alloc (Nat.le_refl _) _).drew).alloc (by simp) _
          · exact HNo.out _
          rintro r w1 ⟨sb, rfl, hsb, hb1⟩
          have HB1 := Lib.hid (HB.out.trans (hb1.mono HB.out.size))
          have HSb := Lib.hid hsb
          clear hsb hb1
          cases sb with
          | true =>
            have HN := Lib.hid (plain_next HP.out HDr.out (by obtain ⟨_, e1, e2, e3, e4⟩ := HSb.out.1 rfl; exact Or.inl ⟨e4.symm, Or.inr (Or.inr (Or.inr (Or.inl ⟨rfl, e2.symm, e3.symm⟩)))⟩))
            go_wp2_with fail
            go_roundw
            case rel => exact ⟨q + 1, by omega, by go_num, HN.out, HB1.out⟩
            case measure => simp [intOf]; omega
          | false =>
            go_wp2_with fail
            go_ret
            exact plain_no HB1.out
        by_cases h5 : x = 5
        · subst h5
          go_wp2_with fail
          refine (HSm.out _ 5 0 ii [] none 0 0 ?_ ?_).mono ?_
          · first | exact ((Below.refl _ _).alloc (Nat.le_refl _) _).alloc (by simp) _ | exact (((Below.refl _ _).alloc (Nat.le_refl _) _).alloc (by simp) _).drew | exact (((Below.refl _ _).alloc (Nat.le_refl _) _).drew).alloc (by simp) _
          · exact HNo.out _
          rintro r w1 ⟨sb, rfl, hsb, hb1⟩
          have HB1 := Lib.hid (HB.out.trans (hb1.mono HB.out.size))
          have HSb := Lib.hid hsb
          clear hsb hb1
          cases sb with
          | true =>
            have HN := Lib.hid (plain_next HP.out HDr.out (by obtain ⟨_, e1, e2, e3, e4⟩ := HSb.out.1 rfl; exact Or.inl ⟨e4.symm, Or.inr (Or.inr (Or.inr (Or.inr (Or.inl ⟨rfl, e1.symm, e3.symm⟩))))⟩))
            go_wp2_with fail
            go_roundw
            case rel => exact ⟨q + 1, by omega, by go_num, HN.out, HB1.out⟩
            case measure => simp [intOf]; omega
          | false =>
            go_wp2_with fail
            go_ret
            exact plain_no HB1.out
        by_cases h6 : x = 6
        · subst h6
          go_wp2_with fail
          refine (HSm.out _ 6 0 0 bs ca cn cc ?_ ?_).mono ?_
          · first | exact ((Below.refl _ _).alloc (Nat.le_refl _) _).alloc (by simp) _ | exact (((Below.refl _ _).alloc (Nat.le_refl _) _).alloc (by simp) _).drew | exact (((Below.refl _ _).alloc (Nat.le_refl _) _).drew).alloc (by simp) _
          · exact HRow.out.kept (Kept.of_below (by first | exact ((Below.refl _ _).alloc (Nat.le_refl _) _).alloc (by simp) _ | exact (((Below.refl _ _).alloc (Nat.le_refl _) _).alloc (by simp) _).drew | exact (((Below.refl _ _).alloc (Nat.le_refl _) _).drew).alloc (by simp) _))
          rintro r w1 ⟨sb, rfl, hsb, hb1⟩
          have HB1 := Lib.hid (HB.out.trans (hb1.mono HB.out.size))
          have HSb := Lib.hid hsb
          clear hsb hb1
          cases sb with
          | true =>
            have HN := Lib.hid (plain_next HP.out HDr.out (by obtain ⟨_, e1, e2, e3, e4⟩ := HSb.out.1 rfl; exact Or.inl ⟨e4.symm, Or.inr (Or.inr (Or.inr (Or.inr (Or.inr ⟨rfl, e1.symm, e2.symm⟩))))⟩))
            go_wp2_with fail
            go_roundw
            case rel => exact ⟨q + 1, by omega, by go_num, HN.out, HB1.out⟩
            case measure => simp [intOf]; omega
          | false =>
            go_wp2_with fail
            go_ret
            exact plain_no HB1.out
        by_cases h7 : x = 7
        · subst h7
          obtain ⟨wo, rfl⟩ : ∃ wo : World, wo = wr := ⟨_, rfl⟩
          go_wp2_with fail
          have HBW : Hid (Below wo.heap.size wo ((wo.alloc (.cells #[.int .i64 7, .int .u64 nn, .int .i64 ii, .slice ca cn cc, .slice ea en ec] 39)).alloc (.cells #[.int .i64 7, .int .u64 0, .int .i64 0, .slice none 0 0, .slice none 0 0] 39))) := ((Below.refl _ _).alloc (Nat.le_refl _) _).alloc (by simp) _
          have HV : Hid (((wo.alloc (.cells #[.int .i64 7, .int .u64 nn, .int .i64 ii, .slice ca cn cc, .slice ea en ec] 39)).alloc (.cells #[.int .i64 7, .int .u64 0, .int .i64 0, .slice none 0 0, .slice none 0 0] 39)).heap[wo.heap.size]? = some (.cells #[.int .i64 7, .int .u64 nn, .int .i64 ii, .slice ca cn cc, .slice ea en ec] 39 (0, 0))) := heap_alloc2_old _ _ _
          have HC : Hid (((wo.alloc (.cells #[.int .i64 7, .int .u64 nn, .int .i64 ii, .slice ca cn cc, .slice ea en ec] 39)).alloc (.cells #[.int .i64 7, .int .u64 0, .int .i64 0, .slice none 0 0, .slice none 0 0] 39)).heap[wo.heap.size + 1]? = some (.cells #[.int .i64 7, .int .u64 0, .int .i64 0, .slice none 0 0, .slice none 0 0] 39 (0, 0))) := heap_alloc2_new _ _ _
          obtain ⟨W2, hW2⟩ : ∃ X, X = ((wo.alloc (.cells #[.int .i64 7, .int .u64 nn, .int .i64 ii, .slice ca cn cc, .slice ea en ec] 39)).alloc (.cells #[.int .i64 7, .int .u64 0, .int .i64 0, .slice none 0 0, .slice none 0 0] 39)) := ⟨_, rfl⟩
          rw [← hW2] at HBW HV HC ⊢
          clear hW2 g0 g1 g2 g3 g4
          obtain ⟨V, hV⟩ : ∃ V, V = wo.heap.size := ⟨_, rfl⟩
          rw [← hV] at HV HC ⊢
          have hVle : wo.heap.size ≤ V + 1 := by omega
          clear hV
          have HSub2 := Lib.hid (HSub.out.kept (Kept.of_below HBW.out))
          go_loopw [52] (fun j wr => ∃ t : Nat, t ≤ en ∧ j = .int .i64 t ∧ (AllK sub.kind1 (sub.drop t) → AllK sub.kind1 sub) ∧ (0 < t → ¬ sub.kind1 = 7) ∧ Below W2.heap.size W2 wr) (fun j _ => en - (intOf j).toNat)
          case atStart => exact ⟨0, by omega, rfl, by rw [F.drop_zero]; exact id, by omega, Below.refl _ _⟩
          case round =>
            obtain ⟨t, ht, rfl, hak, h7, hbel2⟩ := hrel
            have HAk := Lib.hid hak
            have H7 := Lib.hid h7
            have HB2 := Lib.hid hbel2
            have hv2 := (hbel2.block V (lt_of_block HV.out)).trans HV.out
            have hc2 := (hbel2.block (V + 1) (lt_of_block HC.out)).trans HC.out
            have HV2 := Lib.hid hv2
            have HC2 := Lib.hid hc2
            have c4 : wr.cell? ⟨V, 4, none⟩ = some (.slice ea en ec) := by rw [cell_of_row _ _ _ _ _ _ hv2]; rfl
            clear hak h7 hbel2 hv2 hc2
            by_cases hlt2 : t < en
            · have t0 : (0 : Int) ≤ t := by omega
              have t1 : (t : Int) < en := by omega
              have hd2 : decide ((t : Int) < (en : Int)) = true := by simp; omega
              have n0 : (0 : Int) < en := by omega
              have n0' : 0 < en := by omega
              obtain ⟨hlen, hrow⟩ := HSub2.out.kept (Kept.of_below HB2.out)
              rcases hrow with hrow | ⟨b1, o1, rfl, hin⟩
              · omega
              obtain ⟨y, yn, yi, ybs, ysub, hdr⟩ := sub.drop_cons t (by omega)
              have h1 := FIn.drop sub t hin
              rw [hdr] at h1 HAk
              have hfirst : wr.cell? ⟨b1, o1, none⟩ = some (.int .i64 sub.kind1) := by
                cases sub with
                | nil => simp [F.len] at hlen; omega
                | cons => exact hin.2.1
              obtain ⟨_, g0, g1, g2, ⟨xa, xn, xc, g3, _, _, _⟩, ⟨za, zn, zc, g4, _, _, _⟩, _, _⟩ := h1
              have hlb : b1 < wr.heap.size := World.block_lt_of_cell? _ _ hfirst
              have hlV := World.block_lt_of_cell? _ _ c4
              clear hlen hin hdr
              generalize sub.kind1 = K at *
              by_cases hy : y = K
              · subst hy
                by_cases hy7 : y = 7
                · subst hy7
                  go_wp2_with fail
                  go_quiet (fail)
                  go_wp2_with fail
                  go_ret
                  exact plain_no (below_drewN ((HB.out.trans (HBW.out.mono HB.out.size)).trans ((HB2.out.alloc HB2.out.size _).mono (Nat.le_trans HB.out.size HBW.out.size))) nq)
                · have dy : (y == 7) = false := by simpa using hy7
                  have HY := Lib.hid hy7
                  clear hy7
                  go_wp2_with fail
                  go_quiet (fail)
                  go_wp2_with fail
                  go_roundw
                  case rel => exact ⟨t + 1, by omega, by go_num, fun h => HAk.out ⟨rfl, h⟩, fun _ => HY.out, below_drewN (HB2.out.alloc HB2.out.size _) nq⟩
                  case measure => simp [intOf]; omega
              · have dy : (y != K) = true := by simpa using hy
                clear hy
                go_wp2_with fail
                go_quiet (fail)
                go_wp2_with fail
                go_ret
                exact plain_no (below_drewN ((HB.out.trans (HBW.out.mono HB.out.size)).trans ((HB2.out.alloc HB2.out.size _).mono (Nat.le_trans HB.out.size HBW.out.size))) nq)
            · have hd2 : decide ((t : Int) < (en : Int)) = false := by simp; omega
              have HAll : Hid (AllK sub.kind1 sub) := HAk.out (by rw [F.drop_all sub t (by have := HSub.out.1; omega)]; trivial)
              have HSub3 := Lib.hid (HSub2.out.kept (Kept.of_below HB2.out))
              have HPl := Lib.hid (HI.out sub (by have := HF.out; have := HSz.out; omega) wr ea en ec HSub3.out l1 l2)
              have HBo : Hid (Below wo.heap.size wo wr) := HBW.out.trans (HB2.out.mono HBW.out.size)
              go_wp2_with fail
              refine HPl.out.mono ?_
              rintro r w3 ⟨pb, rfl, hpb, hb3⟩
              have HPb := Lib.hid hpb
              have HV3 := Lib.hid ((hb3.block V (lt_of_block HV2.out)).trans HV2.out)
              have hc3 := (hb3.block (V + 1) (lt_of_block HC2.out)).trans HC2.out
              have HC3 := Lib.hid hc3
              have HB3 := Lib.hid (HBo.out.trans (hb3.mono HBo.out.size))
              clear hpb hb3 c4
              cases pb with
              | false =>
                go_wp2_with fail
                go_ret
                exact plain_no (HB.out.trans (HB3.out.mono HB.out.size))
              | true =>
                have c4 : w3.cell? ⟨V, 4, none⟩ = some (.slice ea en ec) := by rw [cell_of_row _ _ _ _ _ _ HV3.out]; rfl
                have v0 : w3.cell? ⟨V, 0, none⟩ = some (.int .i64 7) := by rw [cell_of_row _ _ _ _ _ _ HV3.out]; rfl
                have v1 : w3.cell? ⟨V, 1, none⟩ = some (.int .u64 nn) := by rw [cell_of_row _ _ _ _ _ _ HV3.out]; rfl
                have v2 : w3.cell? ⟨V, 2, none⟩ = some (.int .i64 ii) := by rw [cell_of_row _ _ _ _ _ _ HV3.out]; rfl
                have v3 : w3.cell? ⟨V, 3, none⟩ = some (.slice ca cn cc) := by rw [cell_of_row _ _ _ _ _ _ HV3.out]; rfl
                have u0 : w3.cell? ⟨V + 1, 0, none⟩ = some (.int .i64 7) := by rw [cell_of_row _ _ _ _ _ _ HC3.out]; rfl
                have u1 : w3.cell? ⟨V + 1, 1, none⟩ = some (.int .u64 0) := by rw [cell_of_row _ _ _ _ _ _ HC3.out]; rfl
                have u2 : w3.cell? ⟨V + 1, 2, none⟩ = some (.int .i64 0) := by rw [cell_of_row _ _ _ _ _ _ HC3.out]; rfl
                have u3 : w3.cell? ⟨V + 1, 3, none⟩ = some (.slice none 0 0) := by rw [cell_of_row _ _ _ _ _ _ HC3.out]; rfl
                have u4 : w3.cell? ⟨V + 1, 4, none⟩ = some (.slice none 0 0) := by rw [cell_of_row _ _ _ _ _ _ HC3.out]; rfl
                have f4 := row_free HC3.out 4
                have HB4 : Hid (Below wo.heap.size wo (w3.setCell ⟨V + 1, 4, none⟩ (.slice ea en ec))) := HB3.out.setCell hVle _
                have HFl : Hid (Flat sub) := by
                  have hle := HSub.out.1
                  by_cases e0 : en = 0
                  · cases sub with
                    | nil => trivial
                    | cons => simp [F.len] at hle; omega
                  · exact flat_of sub _ (H7.out (by omega)) HAll.out (HPb.out rfl)
                have HSame := Lib.hid (same_any (sub.size + 1) sub (Nat.lt_succ_self _) (w3.setCell ⟨V + 1, 4, none⟩ (.slice ea en ec)) 7 0 0 7 nn ii [] bs sub none ea ca ea 0 0 en ec cn cc en ec (HNo.out _) (HSub.out.kept (Kept.of_below HB4.out)) l1 l2 (HRow.out.kept (Kept.of_below HB4.out)) (HSub.out.kept (Kept.of_below HB4.out)) l1 l2)
                go_wp2_with fail
                refine HSame.out.mono ?_
                rintro r w5 ⟨sb, rfl, hsb, hb5⟩
                have HSb := Lib.hid hsb
                have HB5 := Lib.hid (HB.out.trans ((HB4.out.trans (hb5.mono HB4.out.size)).mono HB.out.size))
                clear hsb hb5
                cases sb with
                | true =>
                  have HN := Lib.hid (plain_next HP.out HDr.out (by obtain ⟨_, e1, e2, e3, _⟩ := HSb.out.1 rfl; exact Or.inr ⟨rfl, e1.symm, e2.symm, e3.symm, HFl.out, _, HAll.out⟩))
                  clear v0 v1 v2 v3 u0 u1 u2 u3 u4 f4 c4
                  go_wp2_with fail
                  go_roundw
                  case rel => exact ⟨q + 1, by omega, by go_num, HN.out, HB5.out⟩
                  case measure => simp [intOf]; omega
                | false =>
                  go_wp2_with fail
                  go_ret
                  exact plain_no HB5.out
        have d1 : (x == 1) = false := by simpa using h1
        have d2 : (x == 2) = false := by simpa using h2
        have d4 : (x == 4) = false := by simpa using h4
        have d8 : (x == 8) = false := by simpa using h8
        have d5 : (x == 5) = false := by simpa using h5
        have d6 : (x == 6) = false := by simpa using h6
        have d7 : (x == 7) = false := by simpa using h7
        clear h1 h2 h4 h8 h5 h6 h7
        have HBn : Hid (Below w.heap.size w ((wr.alloc (.cells #[.int .i64 x, .int .u64 nn, .int .i64 ii, .slice ca cn cc, .slice ea en ec] 39)).alloc (.cells #[.int .i64 x, .int .u64 0, .int .i64 0, .slice none 0 0, .slice none 0 0] 39))) := (HB.out.alloc HB.out.size _).alloc (by have := HB.out.size; simp; omega) _
        go_wp2_with fail
        go_ret
        exact plain_no HBn.out
      · have hd : decide ((q : Int) < (n : Int)) = false := by simp; omega
        have HA : Hid (Plain f) := HP.out (by rw [F.drop_all f q (by have := HR.out.1; omega)]; trivial)
        go_wp2_with fail
        go_ret
        exact ⟨true, rfl, fun _ => HA.out, HB.out⟩
end Wire
end Go.Proofs.Ytimhppgepiikbaa
