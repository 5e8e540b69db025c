/- The document's own answer: values written behind bytes. -/
import Derived.Test.YtimhppgepiikbaaWireR2
import Derived.Test.YtimhppgepiikbaaWireMath2
namespace Go.Proofs.Ytimhppgepiikbaa
open Go.ChangeShapes Go.WideShapes Go.ChangeAt Go.RowKit
namespace Wire
set_option linter.unusedVariables false
def RefPost (B : Nat) (f : F) (l : List Int) (w : World) (r : Ending) (w' : World) : Prop :=
  ∃ va vn vc, r = .returned (.tuple #[.slice va vn vc, .int .i64 (rF f l).2]) ∧ OwnV w' B (.slice va vn vc) vn (rF f l).1 ∧ vn ≤ 524288 ∧ Below B w w'
def RefOK (B : Nat) (f : F) : Prop := ∀ (w : World) (l : List Int) (va a : Option Addr) (vn vc n c : Nat), B ≤ w.heap.size → OwnV w B (.slice va vn vc) vn l → vn ≤ 524288 → FRow (fun k => B ≤ k) w a n f → Small f → n ≤ c → c ≤ 9223372036854775807 →
  Calls Try.prog 9 #[.slice va vn vc, .slice a n c] w (RefPost B f l w)
theorem owned_row {w : World} {B n c : Nat} {a : Option Addr} {l : List Int} (ho : OwnV w B (.slice a n c) n l) (hby : ∀ z ∈ l, 0 ≤ z ∧ z ≤ 255) : SRow (fun b => b < B) w a n l ∧ (a = none → n = 0 ∧ c = 0) ∧ n ≤ c ∧ c ≤ maxLen := own_parts ho hby
theorem ref_err {B : Nat} {f : F} {l : List Int} {w w' : World} {e : Int} (h : rF f l = ([], e)) (hb : Below B w w') : RefPost B f l w (.returned (.tuple #[.slice none 0 0, .int .i64 e])) w' :=
  ⟨none, 0, 0, by rw [h], by rw [h]; exact World.ownsRow_nil _ _ _ _, by omega, hb⟩
theorem below_from {B : Nat} {w w1 w2 : World} (h1 : Below B w w1) (h2 : Below B w w2) (hs : w1.heap.size ≤ w2.heap.size) : Below B w1 w2 := ⟨h2.os.trans h1.os.symm, h2.tape.trans h1.tape.symm, h2.output.trans h1.output.symm, hs, fun k hk => (h2.block k hk).trans (h1.block k hk).symm⟩
set_option maxHeartbeats 8000000 in
set_option maxRecDepth 100000 in
theorem ref_any (B : Nat) : ∀ (m : Nat) (f : F), f.size < m → RefOK B f := by
  intro m
  induction m with
  | zero => intro f hf; omega
  | succ m ih =>
    intro f hf w l va a vn vc n c hB ho hvn hr hsm hc hm
    have HO0 := Lib.hid ho
    have HR := Lib.hid hr
    have HF := Lib.hid hf
    have HI := Lib.hid ih
    have HSm := Lib.hid hsm
    have HVn := Lib.hid hvn
    clear ho hr hf ih hsm hvn
    go_enter Try.func9, Try.ntmps9
    go_wp2_with fail
    go_loopw [0, 6] (fun v i wr => ∃ (k : Nat) (t : List Int) (ua : Option Addr) (un uc : Nat), k ≤ n ∧ i = .int .i64 k ∧ v = .slice ua un uc ∧ OwnV wr B (.slice ua un uc) un t ∧ un ≤ 524288 ∧ rF f l = rF (f.drop k) t ∧ Below B w wr) (fun _ i _ => n - (intOf i).toNat)
    case atStart => exact ⟨0, l, va, vn, vc, by omega, rfl, rfl, HO0.out, HVn.out, by rw [F.drop_zero], Below.refl _ _⟩
    case round =>
      obtain ⟨k, t, ua, un, uc, hk, rfl, rfl, hown, hun, hq, hbel⟩ := hrel
      have HO := Lib.hid hown
      have HB := Lib.hid hbel
      have HQ := Lib.hid hq
      clear hown hbel hq HO0 HVn
      by_cases hlt : k < n
      · have k0 : (0 : Int) ≤ k := by omega
        have k1 : (k : Int) < n := by omega
        have hd : decide ((k : Int) < (n : Int)) = true := by simp; omega
        obtain ⟨hlen, hrow⟩ := HR.out.kept (Kept.below HB.out)
        rcases hrow with hrow | ⟨bb, o, rfl, hin⟩
        · omega
        obtain ⟨x, nn, ii, bs, sub, hdr⟩ := f.drop_cons k (by omega)
        have hin' := FIn.drop f k hin
        have hsz := f.drop_size k
        have hsm' := HSm.out.drop f k
        rw [hdr] at hin' hsz hsm'
        simp only [F.size] at hsz
        obtain ⟨hbl, hssub, _⟩ := hsm'
        obtain ⟨_, g0, g1, g2, ⟨ba, bn, bc, g3, b1, b2, b3⟩, ⟨la, ln, lc, g4, l1, l2, l3, l4⟩, ⟨⟨x0, x1⟩, ⟨nn0, nn1⟩, ⟨ii0, ii1⟩⟩, _⟩ := hin'
        have hA : Below B wr (wr.alloc (.cells #[.int .i64 x, .int .u64 nn, .int .i64 ii, .slice ba bn bc, .slice la ln lc] 39)) := (Below.refl _ _).alloc (Nat.le_trans hB HB.out.size) _
        have hbn : bn ≤ 200000 := by have := b3.1; omega
        have HFr := Lib.hid (FRow.kept (show FRow (fun k => B ≤ k) wr la ln sub from ⟨l3, l4⟩) (Kept.below hA))
        have HBy := Lib.hid (b3.kept (Kept.below hA))
        have HBA := Lib.hid (HB.out.trans hA)
        have HOa := Lib.hid (HO.out.alloc (.cells #[.int .i64 x, .int .u64 nn, .int .i64 ii, .slice ba bn bc, .slice la ln lc] 39))
        have HSub := Lib.hid (HI.out sub (by have := HF.out; omega))
        have HSS := Lib.hid hssub
        have HUl := Lib.hid HO.out.length
        rw [hdr] at HQ
        clear hlen hin hdr hsz b3 l3 l4 hA hssub hbl HO
        obtain ⟨W0, hW0⟩ : ∃ W0, W0 = wr.alloc (.cells #[.int .i64 x, .int .u64 nn, .int .i64 ii, .slice ba bn bc, .slice la ln lc] 39) := ⟨_, rfl⟩
        have HW0 := Lib.hid hW0
        clear hW0
        by_cases h1 : x = 1
        · subst h1
          have HV : Hid ((wr.alloc (.cells #[.int .i64 1, .int .u64 nn, .int .i64 ii, .slice ba bn bc, .slice la ln lc] 39)).heap[wr.heap.size]? = some (.cells #[.int .i64 1, .int .u64 nn, .int .i64 ii, .slice ba bn bc, .slice la ln lc] 39 (0, 0))) := heap_alloc_new _ _
          go_wp2_with fail
          refine (low_gen _ nn 1 nn0 nn1 (by omega)).mono ?_
          rintro r w1 ⟨ma, mn, mc, rfl, hmn, hm1, _, hm3⟩
          have HM := Lib.hid hm1
          have HB1 := Lib.hid hm3
          have hmb : mn ≤ 300000 := by omega
          clear hm1 hm3 hmn
          have HBd : Hid (¬ bad 1 ii sub) := by intro h; rcases h with ⟨h, _⟩ | ⟨h, _⟩ <;> cases h
          have HMo : Hid (moreB 1 nn ii bs sub = le 1 nn) := rfl
          have HML := Lib.hid HM.out.1
          by_cases hov : 524288 < un + mn
          · have dov : decide ((524288 : Int) < (un : Int) + (mn : Int)) = true := by simp; omega
            have HE : Hid (rF f l = ([], 3)) := by show _ = _; rw [HQ.out]; exact rF_over HBd.out HMo.out (by rw [HUl.out, HML.out]; exact hov)
            clear hov
            go_wp2_with fail
            go_ret2
            exact ref_err HE.out (HBA.out.trans (HB1.out.mono (Nat.le_trans hB HBA.out.size)))
          · have dov : decide ((524288 : Int) < (un : Int) + (mn : Int)) = false := by simp; omega
            obtain ⟨va', vc', w2, hrun, hown2, hbel2, hv2, hsz2⟩ := tail_step (mc := mc) HV.out HB1.out HBA.out (Nat.le_trans hB HBA.out.size) HOa.out HM.out (by omega)
            have hlen2 : un + mn ≤ 524288 := by omega
            have HE : Hid (rF f l = rF (f.drop (k + 1)) (t ++ (le 1 nn))) := by show _ = _; rw [HQ.out]; exact rF_step HBd.out HMo.out (by rw [HUl.out, HML.out]; exact hov) (by omega)
            have cc0 : w2.cell? ⟨wr.heap.size, 0, none⟩ = some (.int .i64 1) := by rw [cell_of_row _ _ _ _ _ _ hv2]; rfl
            have HO2 := Lib.hid hown2
            have HB2 := Lib.hid hbel2
            clear hov hown2 hbel2 hv2 hsz2
            go_wp2_with (at_builtin; refine wpList_append_run rfl (.tmp 80) (.tmp 81) 26 26 rfl _ _ _ w2 26 rfl rfl rfl hrun ?_)
            go_roundw
            case rel => exact ⟨k + 1, t ++ (le 1 nn), va', un + mn, vc', by omega, by go_num, rfl, HO2.out, hlen2, HE.out, HB2.out⟩
            case measure => simp [intOf]; omega
        by_cases h2 : x = 2
        · subst h2
          have HV : Hid ((wr.alloc (.cells #[.int .i64 2, .int .u64 nn, .int .i64 ii, .slice ba bn bc, .slice la ln lc] 39)).heap[wr.heap.size]? = some (.cells #[.int .i64 2, .int .u64 nn, .int .i64 ii, .slice ba bn bc, .slice la ln lc] 39 (0, 0))) := heap_alloc_new _ _
          go_wp2_with fail
          refine (low_gen _ nn 2 nn0 nn1 (by omega)).mono ?_
          rintro r w1 ⟨ma, mn, mc, rfl, hmn, hm1, _, hm3⟩
          have HM := Lib.hid hm1
          have HB1 := Lib.hid hm3
          have hmb : mn ≤ 300000 := by omega
          clear hm1 hm3 hmn
          have HBd : Hid (¬ bad 2 ii sub) := by intro h; rcases h with ⟨h, _⟩ | ⟨h, _⟩ <;> cases h
          have HMo : Hid (moreB 2 nn ii bs sub = le 2 nn) := rfl
          have HML := Lib.hid HM.out.1
          by_cases hov : 524288 < un + mn
          · have dov : decide ((524288 : Int) < (un : Int) + (mn : Int)) = true := by simp; omega
            have HE : Hid (rF f l = ([], 3)) := by show _ = _; rw [HQ.out]; exact rF_over HBd.out HMo.out (by rw [HUl.out, HML.out]; exact hov)
            clear hov
            go_wp2_with fail
            go_ret2
            exact ref_err HE.out (HBA.out.trans (HB1.out.mono (Nat.le_trans hB HBA.out.size)))
          · have dov : decide ((524288 : Int) < (un : Int) + (mn : Int)) = false := by simp; omega
            obtain ⟨va', vc', w2, hrun, hown2, hbel2, hv2, hsz2⟩ := tail_step (mc := mc) HV.out HB1.out HBA.out (Nat.le_trans hB HBA.out.size) HOa.out HM.out (by omega)
            have hlen2 : un + mn ≤ 524288 := by omega
            have HE : Hid (rF f l = rF (f.drop (k + 1)) (t ++ (le 2 nn))) := by show _ = _; rw [HQ.out]; exact rF_step HBd.out HMo.out (by rw [HUl.out, HML.out]; exact hov) (by omega)
            have cc0 : w2.cell? ⟨wr.heap.size, 0, none⟩ = some (.int .i64 2) := by rw [cell_of_row _ _ _ _ _ _ hv2]; rfl
            have HO2 := Lib.hid hown2
            have HB2 := Lib.hid hbel2
            clear hov hown2 hbel2 hv2 hsz2
            go_wp2_with (at_builtin; refine wpList_append_run rfl (.tmp 80) (.tmp 81) 26 26 rfl _ _ _ w2 26 rfl rfl rfl hrun ?_)
            go_roundw
            case rel => exact ⟨k + 1, t ++ (le 2 nn), va', un + mn, vc', by omega, by go_num, rfl, HO2.out, hlen2, HE.out, HB2.out⟩
            case measure => simp [intOf]; omega
        by_cases h4 : x = 4
        · subst h4
          have HV : Hid ((wr.alloc (.cells #[.int .i64 4, .int .u64 nn, .int .i64 ii, .slice ba bn bc, .slice la ln lc] 39)).heap[wr.heap.size]? = some (.cells #[.int .i64 4, .int .u64 nn, .int .i64 ii, .slice ba bn bc, .slice la ln lc] 39 (0, 0))) := heap_alloc_new _ _
          go_wp2_with fail
          refine (low_gen _ nn 4 nn0 nn1 (by omega)).mono ?_
          rintro r w1 ⟨ma, mn, mc, rfl, hmn, hm1, _, hm3⟩
          have HM := Lib.hid hm1
          have HB1 := Lib.hid hm3
          have hmb : mn ≤ 300000 := by omega
          clear hm1 hm3 hmn
          have HBd : Hid (¬ bad 4 ii sub) := by intro h; rcases h with ⟨h, _⟩ | ⟨h, _⟩ <;> cases h
          have HMo : Hid (moreB 4 nn ii bs sub = le 4 nn) := rfl
          have HML := Lib.hid HM.out.1
          by_cases hov : 524288 < un + mn
          · have dov : decide ((524288 : Int) < (un : Int) + (mn : Int)) = true := by simp; omega
            have HE : Hid (rF f l = ([], 3)) := by show _ = _; rw [HQ.out]; exact rF_over HBd.out HMo.out (by rw [HUl.out, HML.out]; exact hov)
            clear hov
            go_wp2_with fail
            go_ret2
            exact ref_err HE.out (HBA.out.trans (HB1.out.mono (Nat.le_trans hB HBA.out.size)))
          · have dov : decide ((524288 : Int) < (un : Int) + (mn : Int)) = false := by simp; omega
            obtain ⟨va', vc', w2, hrun, hown2, hbel2, hv2, hsz2⟩ := tail_step (mc := mc) HV.out HB1.out HBA.out (Nat.le_trans hB HBA.out.size) HOa.out HM.out (by omega)
            have hlen2 : un + mn ≤ 524288 := by omega
            have HE : Hid (rF f l = rF (f.drop (k + 1)) (t ++ (le 4 nn))) := by show _ = _; rw [HQ.out]; exact rF_step HBd.out HMo.out (by rw [HUl.out, HML.out]; exact hov) (by omega)
            have cc0 : w2.cell? ⟨wr.heap.size, 0, none⟩ = some (.int .i64 4) := by rw [cell_of_row _ _ _ _ _ _ hv2]; rfl
            have HO2 := Lib.hid hown2
            have HB2 := Lib.hid hbel2
            clear hov hown2 hbel2 hv2 hsz2
            go_wp2_with (at_builtin; refine wpList_append_run rfl (.tmp 80) (.tmp 81) 26 26 rfl _ _ _ w2 26 rfl rfl rfl hrun ?_)
            go_roundw
            case rel => exact ⟨k + 1, t ++ (le 4 nn), va', un + mn, vc', by omega, by go_num, rfl, HO2.out, hlen2, HE.out, HB2.out⟩
            case measure => simp [intOf]; omega
        by_cases h8 : x = 8
        · subst h8
          have HV : Hid ((wr.alloc (.cells #[.int .i64 8, .int .u64 nn, .int .i64 ii, .slice ba bn bc, .slice la ln lc] 39)).heap[wr.heap.size]? = some (.cells #[.int .i64 8, .int .u64 nn, .int .i64 ii, .slice ba bn bc, .slice la ln lc] 39 (0, 0))) := heap_alloc_new _ _
          go_wp2_with fail
          refine (low_gen _ nn 8 nn0 nn1 (by omega)).mono ?_
          rintro r w1 ⟨ma, mn, mc, rfl, hmn, hm1, _, hm3⟩
          have HM := Lib.hid hm1
          have HB1 := Lib.hid hm3
          have hmb : mn ≤ 300000 := by omega
          clear hm1 hm3 hmn
          have HBd : Hid (¬ bad 8 ii sub) := by intro h; rcases h with ⟨h, _⟩ | ⟨h, _⟩ <;> cases h
          have HMo : Hid (moreB 8 nn ii bs sub = le 8 nn) := rfl
          have HML := Lib.hid HM.out.1
          by_cases hov : 524288 < un + mn
          · have dov : decide ((524288 : Int) < (un : Int) + (mn : Int)) = true := by simp; omega
            have HE : Hid (rF f l = ([], 3)) := by show _ = _; rw [HQ.out]; exact rF_over HBd.out HMo.out (by rw [HUl.out, HML.out]; exact hov)
            clear hov
            go_wp2_with fail
            go_ret2
            exact ref_err HE.out (HBA.out.trans (HB1.out.mono (Nat.le_trans hB HBA.out.size)))
          · have dov : decide ((524288 : Int) < (un : Int) + (mn : Int)) = false := by simp; omega
            obtain ⟨va', vc', w2, hrun, hown2, hbel2, hv2, hsz2⟩ := tail_step (mc := mc) HV.out HB1.out HBA.out (Nat.le_trans hB HBA.out.size) HOa.out HM.out (by omega)
            have hlen2 : un + mn ≤ 524288 := by omega
            have HE : Hid (rF f l = rF (f.drop (k + 1)) (t ++ (le 8 nn))) := by show _ = _; rw [HQ.out]; exact rF_step HBd.out HMo.out (by rw [HUl.out, HML.out]; exact hov) (by omega)
            have cc0 : w2.cell? ⟨wr.heap.size, 0, none⟩ = some (.int .i64 8) := by rw [cell_of_row _ _ _ _ _ _ hv2]; rfl
            have HO2 := Lib.hid hown2
            have HB2 := Lib.hid hbel2
            clear hov hown2 hbel2 hv2 hsz2
            go_wp2_with (at_builtin; refine wpList_append_run rfl (.tmp 80) (.tmp 81) 26 26 rfl _ _ _ w2 26 rfl rfl rfl hrun ?_)
            go_roundw
            case rel => exact ⟨k + 1, t ++ (le 8 nn), va', un + mn, vc', by omega, by go_num, rfl, HO2.out, hlen2, HE.out, HB2.out⟩
            case measure => simp [intOf]; omega
        by_cases h5 : x = 5
        · subst h5
          have HV : Hid ((wr.alloc (.cells #[.int .i64 5, .int .u64 nn, .int .i64 ii, .slice ba bn bc, .slice la ln lc] 39)).heap[wr.heap.size]? = some (.cells #[.int .i64 5, .int .u64 nn, .int .i64 ii, .slice ba bn bc, .slice la ln lc] 39 (0, 0))) := heap_alloc_new _ _
          by_cases lo : ii < -2147483648
          · have dlo : decide (ii < -2147483648) = true := by simp; omega
            have HE : Hid (rF f l = ([], 2)) := by show _ = _; rw [HQ.out]; exact rF_bad (Or.inl ⟨rfl, Or.inl lo⟩)
            go_wp2_with fail
            go_ret2
            exact ref_err HE.out HBA.out
          have dlo : decide (ii < -2147483648) = false := by simp; omega
          by_cases hi : 2147483647 < ii
          · have dhi : decide ((2147483647 : Int) < ii) = true := by simp; omega
            have HE : Hid (rF f l = ([], 2)) := by show _ = _; rw [HQ.out]; exact rF_bad (Or.inl ⟨rfl, Or.inr hi⟩)
            go_wp2_with fail
            go_ret2
            exact ref_err HE.out HBA.out
          have dhi : decide ((2147483647 : Int) < ii) = false := by simp; omega
          have HBd0 : Hid (¬ bad 5 ii sub) := by intro h; rcases h with ⟨_, h⟩ | ⟨h, _⟩; omega; cases h
          have lo' : -2147483648 ≤ ii := by omega
          have hi' : ii ≤ 2147483647 := by omega
          clear lo hi
          by_cases hneg : ii < 0
          · have dn : decide (ii < 0) = true := by simp; omega
            have HMo0 : Hid (moreB 5 nn ii bs sub = le 4 (ii + 4294967296)) := by show le 4 (if ii < 0 then ii + 4294967296 else ii) = _; rw [if_pos hneg]
            go_wp2_with fail
            refine (low_gen _ (ii + 4294967296) 4 (by omega) (by omega) (by omega)).mono ?_
            rintro r w1 ⟨ma, mn, mc, rfl, hmn, hm1, _, hm3⟩
            have HM := Lib.hid hm1
            have HB1 := Lib.hid hm3
            have hmb : mn ≤ 300000 := by omega
            clear hm1 hm3 hmn
            have HBd : Hid (¬ bad 5 ii sub) := HBd0.out
            have HMo : Hid (moreB 5 nn ii bs sub = le 4 (ii + 4294967296)) := HMo0.out
            have HML := Lib.hid HM.out.1
            by_cases hov : 524288 < un + mn
            · have dov : decide ((524288 : Int) < (un : Int) + (mn : Int)) = true := by simp; omega
              have HE : Hid (rF f l = ([], 3)) := by show _ = _; rw [HQ.out]; exact rF_over HBd.out HMo.out (by rw [HUl.out, HML.out]; exact hov)
              clear hov
              go_wp2_with fail
              go_ret2
              exact ref_err HE.out (HBA.out.trans (HB1.out.mono (Nat.le_trans hB HBA.out.size)))
            · have dov : decide ((524288 : Int) < (un : Int) + (mn : Int)) = false := by simp; omega
              obtain ⟨va', vc', w2, hrun, hown2, hbel2, hv2, hsz2⟩ := tail_step (mc := mc) HV.out HB1.out HBA.out (Nat.le_trans hB HBA.out.size) HOa.out HM.out (by omega)
              have hlen2 : un + mn ≤ 524288 := by omega
              have HE : Hid (rF f l = rF (f.drop (k + 1)) (t ++ (le 4 (ii + 4294967296)))) := by show _ = _; rw [HQ.out]; exact rF_step HBd.out HMo.out (by rw [HUl.out, HML.out]; exact hov) (by omega)
              have cc0 : w2.cell? ⟨wr.heap.size, 0, none⟩ = some (.int .i64 5) := by rw [cell_of_row _ _ _ _ _ _ hv2]; rfl
              have HO2 := Lib.hid hown2
              have HB2 := Lib.hid hbel2
              clear hov hown2 hbel2 hv2 hsz2
              go_wp2_with (at_builtin; refine wpList_append_run rfl (.tmp 80) (.tmp 81) 26 26 rfl _ _ _ w2 26 rfl rfl rfl hrun ?_)
              go_roundw
              case rel => exact ⟨k + 1, t ++ (le 4 (ii + 4294967296)), va', un + mn, vc', by omega, by go_num, rfl, HO2.out, hlen2, HE.out, HB2.out⟩
              case measure => simp [intOf]; omega
          · have dn : decide (ii < 0) = false := by simp; omega
            have HMo0 : Hid (moreB 5 nn ii bs sub = le 4 ii) := by show le 4 (if ii < 0 then ii + 4294967296 else ii) = _; rw [if_neg hneg]
            have hpos : 0 ≤ ii := by omega
            clear hneg
            go_wp2_with fail
            refine (low_gen _ ii 4 (by omega) (by omega) (by omega)).mono ?_
            rintro r w1 ⟨ma, mn, mc, rfl, hmn, hm1, _, hm3⟩
            have HM := Lib.hid hm1
            have HB1 := Lib.hid hm3
            have hmb : mn ≤ 300000 := by omega
            clear hm1 hm3 hmn
            have HBd : Hid (¬ bad 5 ii sub) := HBd0.out
            have HMo : Hid (moreB 5 nn ii bs sub = le 4 ii) := HMo0.out
            have HML := Lib.hid HM.out.1
            by_cases hov : 524288 < un + mn
            · have dov : decide ((524288 : Int) < (un : Int) + (mn : Int)) = true := by simp; omega
              have HE : Hid (rF f l = ([], 3)) := by show _ = _; rw [HQ.out]; exact rF_over HBd.out HMo.out (by rw [HUl.out, HML.out]; exact hov)
              clear hov
              go_wp2_with fail
              go_ret2
              exact ref_err HE.out (HBA.out.trans (HB1.out.mono (Nat.le_trans hB HBA.out.size)))
            · have dov : decide ((524288 : Int) < (un : Int) + (mn : Int)) = false := by simp; omega
              obtain ⟨va', vc', w2, hrun, hown2, hbel2, hv2, hsz2⟩ := tail_step (mc := mc) HV.out HB1.out HBA.out (Nat.le_trans hB HBA.out.size) HOa.out HM.out (by omega)
              have hlen2 : un + mn ≤ 524288 := by omega
              have HE : Hid (rF f l = rF (f.drop (k + 1)) (t ++ (le 4 ii))) := by show _ = _; rw [HQ.out]; exact rF_step HBd.out HMo.out (by rw [HUl.out, HML.out]; exact hov) (by omega)
              have cc0 : w2.cell? ⟨wr.heap.size, 0, none⟩ = some (.int .i64 5) := by rw [cell_of_row _ _ _ _ _ _ hv2]; rfl
              have HO2 := Lib.hid hown2
              have HB2 := Lib.hid hbel2
              clear hov hown2 hbel2 hv2 hsz2
              go_wp2_with (at_builtin; refine wpList_append_run rfl (.tmp 80) (.tmp 81) 26 26 rfl _ _ _ w2 26 rfl rfl rfl hrun ?_)
              go_roundw
              case rel => exact ⟨k + 1, t ++ (le 4 ii), va', un + mn, vc', by omega, by go_num, rfl, HO2.out, hlen2, HE.out, HB2.out⟩
              case measure => simp [intOf]; omega
        by_cases h6 : x = 6
        · subst h6
          have HV : Hid ((wr.alloc (.cells #[.int .i64 6, .int .u64 nn, .int .i64 ii, .slice ba bn bc, .slice la ln lc] 39)).heap[wr.heap.size]? = some (.cells #[.int .i64 6, .int .u64 nn, .int .i64 ii, .slice ba bn bc, .slice la ln lc] 39 (0, 0))) := heap_alloc_new _ _
          have hcB : (wr.alloc (.cells #[.int .i64 6, .int .u64 nn, .int .i64 ii, .slice ba bn bc, .slice la ln lc] 39)).cell? ⟨wr.heap.size, 3, none⟩ = some (.slice ba bn bc) := by rw [cell_of_row _ _ _ _ _ _ HV.out]; rfl
          have HBn : Hid (bs.length = bn) := HBy.out.1
          have HLow := Lib.hid (low6 (bc := bc) (Below.drew (Below.refl _ (wr.alloc (.cells #[.int .i64 6, .int .u64 nn, .int .i64 ii, .slice ba bn bc, .slice la ln lc] 39)))) HBy.out hbn)
          have hwr : IntKind.u64.wrap (bn : Int) = bn := by simp [IntKind.wrap, IntKind.bits, IntKind.signed]; omega
          go_wp2_with fail
          go_region_law (first
            | (refine step_append_run rfl (.tmp 59) (.tmp 61) 26 26 rfl _ _ _ w3 26 rfl rfl rfl hrun3 ?_; clear hrun3)
            | (go_simp; go_at_call 30; refine HLow.out.mono ?_; rintro r w1 ⟨ma0, mn0, mc0, rfl, ma, mn, mc, w3, hrun3, hmb, hM, hb3, hb01⟩; have HM := Lib.hid hM; have HB1 := Lib.hid hb3; have hcC := (hb01.cell (p := ⟨wr.heap.size, 3, none⟩) (by simp)).trans hcB; clear hM hb3 hb01))
          all_goals
            clear hwr hcB
            have HBd : Hid (¬ bad 6 ii sub) := by intro h; rcases h with ⟨h, _⟩ | ⟨h, _⟩ <;> cases h
            have HMo : Hid (moreB 6 nn ii bs sub = le 4 bn ++ bs) := by show le 4 bs.length ++ bs = _; rw [HBn.out]
            have HML := Lib.hid HM.out.1
            by_cases hov : 524288 < un + mn
            · have dov : decide ((524288 : Int) < (un : Int) + (mn : Int)) = true := by simp; omega
              have HE : Hid (rF f l = ([], 3)) := by show _ = _; rw [HQ.out]; exact rF_over HBd.out HMo.out (by rw [HUl.out, HML.out]; exact hov)
              clear hov
              go_wp2_with fail
              go_ret2
              exact ref_err HE.out (HBA.out.trans (HB1.out.mono (Nat.le_trans hB HBA.out.size)))
            · have dov : decide ((524288 : Int) < (un : Int) + (mn : Int)) = false := by simp; omega
              obtain ⟨va', vc', w2, hrun, hown2, hbel2, hv2, hsz2⟩ := tail_step (mc := mc) HV.out HB1.out HBA.out (Nat.le_trans hB HBA.out.size) HOa.out HM.out (by omega)
              have hlen2 : un + mn ≤ 524288 := by omega
              have HE : Hid (rF f l = rF (f.drop (k + 1)) (t ++ (le 4 bn ++ bs))) := by show _ = _; rw [HQ.out]; exact rF_step HBd.out HMo.out (by rw [HUl.out, HML.out]; exact hov) (by omega)
              have cc0 : w2.cell? ⟨wr.heap.size, 0, none⟩ = some (.int .i64 6) := by rw [cell_of_row _ _ _ _ _ _ hv2]; rfl
              have HO2 := Lib.hid hown2
              have HB2 := Lib.hid hbel2
              clear hov hown2 hbel2 hv2 hsz2
              go_wp2_with (at_builtin; refine wpList_append_run rfl (.tmp 80) (.tmp 81) 26 26 rfl _ _ _ w2 26 rfl rfl rfl hrun ?_)
              go_roundw
              case rel => exact ⟨k + 1, t ++ (le 4 bn ++ bs), va', un + mn, vc', by omega, by go_num, rfl, HO2.out, hlen2, HE.out, HB2.out⟩
              case measure => simp [intOf]; omega
        by_cases h7 : x = 7
        · subst h7
          have HV : Hid ((wr.alloc (.cells #[.int .i64 7, .int .u64 nn, .int .i64 ii, .slice ba bn bc, .slice la ln lc] 39)).heap[wr.heap.size]? = some (.cells #[.int .i64 7, .int .u64 nn, .int .i64 ii, .slice ba bn bc, .slice la ln lc] 39 (0, 0))) := heap_alloc_new _ _
          have HLn : Hid (sub.len = ln) := HFr.out.1
          by_cases hbig : 65535 < ln
          · have dbig : decide ((65535 : Int) < (ln : Int)) = true := by simp; omega
            have HE : Hid (rF f l = ([], 2)) := by show _ = _; rw [HQ.out]; exact rF_bad (Or.inr ⟨rfl, by rw [HLn.out]; exact hbig⟩)
            clear hbig
            go_wp2_with fail
            go_ret2
            exact ref_err HE.out HBA.out
          have dbig : decide ((65535 : Int) < (ln : Int)) = false := by simp; omega
          have HBd0 : Hid (¬ bad 7 ii sub) := by intro h; rcases h with ⟨h, _⟩ | ⟨_, h⟩; cases h; rw [HLn.out] at h; omega
          clear hbig
          go_wp2_with fail
          refine (low_gen _ (ln : Int) 2 (by omega) (by omega) (by omega)).mono ?_
          rintro r w1 ⟨ma, mn, mc, rfl, hmn, hm1, _, hm3⟩
          have HM := Lib.hid hm1
          have HB1 := Lib.hid hm3
          have hmb : mn ≤ 300000 := by omega
          clear hm1 hm3 hmn
          have HBd : Hid (¬ bad 7 ii sub) := HBd0.out
          have HMo : Hid (moreB 7 nn ii bs sub = le 2 ln) := by show le 2 sub.len = _; rw [HLn.out]
          have HML := Lib.hid HM.out.1
          by_cases hov : 524288 < un + mn
          · have dov : decide ((524288 : Int) < (un : Int) + (mn : Int)) = true := by simp; omega
            have HE : Hid (rF f l = ([], 3)) := by show _ = _; rw [HQ.out]; exact rF_over HBd.out HMo.out (by rw [HUl.out, HML.out]; exact hov)
            clear hov
            go_wp2_with fail
            go_ret2
            exact ref_err HE.out (HBA.out.trans (HB1.out.mono (Nat.le_trans hB HBA.out.size)))
          · have dov : decide ((524288 : Int) < (un : Int) + (mn : Int)) = false := by simp; omega
            obtain ⟨va', vc', w2, hrun, hown2, hbel2, hv2, hsz2⟩ := tail_step (mc := mc) HV.out HB1.out HBA.out (Nat.le_trans hB HBA.out.size) HOa.out HM.out (by omega)
            have hlen2 : un + mn ≤ 524288 := by omega
            have HNo : Hid (¬ 524288 < t.length + (le 2 ln).length) := by show ¬ _; rw [HUl.out, HML.out]; exact hov
            have cc0 : w2.cell? ⟨wr.heap.size, 0, none⟩ = some (.int .i64 7) := by rw [cell_of_row _ _ _ _ _ _ hv2]; rfl
            have cc4 : w2.cell? ⟨wr.heap.size, 4, none⟩ = some (.slice la ln lc) := by rw [cell_of_row _ _ _ _ _ _ hv2]; rfl
            have hbA2 := below_from HBA.out hbel2 hsz2
            have HFr2 := Lib.hid (HFr.out.kept (Kept.below hbA2))
            have HO2 := Lib.hid hown2
            have HB2 := Lib.hid hbel2
            clear hov hown2 hbel2 hv2 hsz2 hbA2
            go_wp2_with (at_builtin; refine wpList_append_run rfl (.tmp 80) (.tmp 81) 26 26 rfl _ _ _ w2 26 rfl rfl rfl hrun ?_)
            refine (HSub.out w2 (t ++ (le 2 ln)) va' la (un + mn) vc' ln lc (Nat.le_trans hB HB2.out.size) HO2.out hlen2 HFr2.out HSS.out l1 l2).mono ?_
            rintro r w3 ⟨va3, vn3, vc3, rfl, ho3, hn3, hb3⟩
            have HO3 := Lib.hid ho3
            have HB3 := Lib.hid (HB2.out.trans hb3)
            clear ho3 hb3 cc0 cc4
            by_cases he : (rF sub (t ++ (le 2 ln))).2 = 0
            · have HE : Hid (rF f l = rF (f.drop (k + 1)) (rF sub (t ++ (le 2 ln))).1) := by show _ = _; rw [HQ.out]; exact rF_list HBd.out HMo.out HNo.out he
              rw [he]
              clear he
              go_wp2_with fail
              go_roundw
              case rel => exact ⟨k + 1, _, va3, vn3, vc3, by omega, by go_num, rfl, HO3.out, hn3, HE.out, HB3.out⟩
              case measure => simp [intOf]; omega
            · have HE : Hid (rF f l = ([], (rF sub (t ++ (le 2 ln))).2)) := by show _ = _; rw [HQ.out]; exact rF_list_err HBd.out HMo.out HNo.out he
              have de : ((rF sub (t ++ (le 2 ln))).2 != 0) = true := by simpa using he
              clear he
              generalize (rF sub (t ++ (le 2 ln))).2 = e3 at *
              go_wp2_with fail
              go_ret2
              exact ref_err HE.out HB3.out
        have d1 : (x == 1) = false := by simpa using h1
        have d2 : (x == 2) = false := by simpa using h2
        have d4 : (x == 4) = false := by simpa using h4
        have d8 : (x == 8) = false := by simpa using h8
        have d5 : (x == 5) = false := by simpa using h5
        have d6 : (x == 6) = false := by simpa using h6
        have d7 : (x == 7) = false := by simpa using h7
        have HV : Hid ((wr.alloc (.cells #[.int .i64 x, .int .u64 nn, .int .i64 ii, .slice ba bn bc, .slice la ln lc] 39)).heap[wr.heap.size]? = some (.cells #[.int .i64 x, .int .u64 nn, .int .i64 ii, .slice ba bn bc, .slice la ln lc] 39 (0, 0))) := heap_alloc_new _ _
        have HBd : Hid (¬ bad x ii sub) := by intro h; rcases h with ⟨h, _⟩ | ⟨h, _⟩ <;> omega
        have HMo : Hid (moreB x nn ii bs sub = []) := by show _ = _; unfold moreB; rw [if_neg h1, if_neg h2, if_neg h4, if_neg h8, if_neg h5, if_neg h6, if_neg h7]
        have HE : Hid (rF f l = rF (f.drop (k + 1)) t) := by show _ = _; rw [HQ.out, rF_step HBd.out HMo.out (by rw [HUl.out]; simp; omega) h7, List.append_nil]
        have dov : decide ((524288 : Int) < (un : Int)) = false := by simp; omega
        have dov2 : decide (524288 < un) = false := by simp; omega
        obtain ⟨va', vc', w2, hrun, hown2, hbel2, hv2, hsz2⟩ := tail_step (p := fun _ => True) (ma := none) (mc := 0) (mn := 0) (M := []) HV.out (Below.refl _ _) HBA.out (Nat.le_trans hB HBA.out.size) HOa.out ⟨rfl, by simp, Or.inl rfl⟩ (by omega)
        have cc0 : w2.cell? ⟨wr.heap.size, 0, none⟩ = some (.int .i64 x) := by rw [cell_of_row _ _ _ _ _ _ hv2]; rfl
        rw [Nat.add_zero] at hrun hown2
        rw [List.append_nil] at hown2
        have HO2 := Lib.hid hown2
        have HB2 := Lib.hid hbel2
        clear hown2 hbel2 hv2 hsz2 h1 h2 h4 h8 h5 h6 h7
        go_wp2_with (at_builtin; refine wpList_append_run rfl (.tmp 80) (.tmp 81) 26 26 rfl _ _ _ w2 26 rfl rfl rfl hrun ?_)
        go_roundw
        case rel => exact ⟨k + 1, t, va', un, vc', by omega, by go_num, rfl, HO2.out, hun, HE.out, HB2.out⟩
        case measure => simp [intOf]; omega
      · have hd : decide ((k : Int) < (n : Int)) = false := by simp; omega
        have HA : Hid (rF f l = (t, 0)) := by show _ = _; rw [HQ.out, F.drop_all f k (by have := HR.out.1; omega)]; rfl
        go_wp2_with fail
        go_ret2
        exact ⟨ua, un, uc, by rw [HA.out]; rfl, by rw [HA.out]; exact HO.out, hun, HB.out⟩
end Wire
end Go.Proofs.Ytimhppgepiikbaa
