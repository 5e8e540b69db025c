/- MemOwn, where the store is refused. -/
import Derived.Test.YthpimoinognkhaaMemOpen
namespace Go.Proofs.Ythpimoinognkhaa
open Go.ChangeShapes Go.WideShapes Go.ChangeAt Go.RowKit
namespace Ram
set_option linter.unusedVariables false
set_option linter.unusedSimpArgs false
theorem put_zeros {n : Nat} {B : List Int} (h : B.length = n) : putM (List.replicate n 0) 0 B = B := by
  unfold putM
  rw [List.length_replicate, h, show there 0 n n = true from by simp [there], if_pos rfl, put_all _ _ (by simp [h])]
theorem getM_all (B : List Int) : getM B 0 B.length = B := by
  unfold getM
  rw [show there 0 B.length B.length = true from by simp [there], if_pos rfl, get_all]
theorem range_all (n : Nat) : rangeE 0 n n = 0 := rangeE_ok (by simp [there])
theorem Told.row {w : World} {B : Nat} {v : Value} {l : List Int} (h : Told w B v l) : ∃ a, v = .slice a l.length l.length ∧ (l ≠ [] → ∃ k, a = some ⟨k, 0, Option.none⟩ ∧ B ≤ k ∧ w.heap[k]? = some (.cells (ints .u8 l) 5 (0, 0))) := by
  rcases h with ⟨rfl, rfl⟩ | ⟨k, h0, rfl, hk, hc⟩
  · exact ⟨Option.none, rfl, fun h => absurd rfl h⟩
  · exact ⟨_, rfl, fun _ => ⟨k, rfl, hk, hc⟩⟩
theorem wordE_no {l : List Rg} {a n : Nat} {r : Int} {L : Nat} (h : (wordB n && lets l a n r L) = false) : wordE l a n r L ≠ 0 := by
  unfold wordE boundsE
  cases h1 : wordB n with
  | false => simp
  | true => rw [h1] at h; simp at h; simp [h]
set_option maxHeartbeats 4000000 in
set_option maxRecDepth 100000 in
theorem own_no (W : World) (ab : Option Addr) (nb cb : Nat) (B : List Int) (hb : SRow (fun k => W.heap.size ≤ k) W ab nb B) (ar : Option Addr) (nr cr : Nat) (l : List Rg) (hr : RRow (fun k => W.heap.size ≤ k) W ar nr l)
    (a n : Nat) (x : Int) (ha : a ≤ 4294967295) (hn : n ≤ 255) (hx : 0 ≤ x ∧ x ≤ 4294967295) (h3 : nb ≤ 3000) (h5 : nr ≤ 50) (hok : (wordB n && lets l a n 2 nb) = false) :
    Calls Try.prog 4 #[.slice ab nb cb, .slice ar nr cr, .int .u32 (a : Int), .int .u8 (n : Int), .int .u32 x] W fun e w' => e = .returned (.bool true) ∧ Below W.heap.size W w' := by
  have hB := hb.1
  have HBy := Lib.hid hb.2.1
  have e3 : decide ((3000 : Int) < (nb : Int)) = false := by simp; omega
  have e5 : decide ((50 : Int) < (nr : Int)) = false := by simp; omega
  have w1 : IntKind.u32.wrap (nb : Int) = nb := by simp [IntKind.wrap, IntKind.bits, IntKind.signed]; omega
  have w2 : IntKind.u32.wrap (n : Int) = n := by simp [IntKind.wrap, IntKind.bits, IntKind.signed]; omega
  have w3 : IntKind.u64.wrap (n : Int) = n := by simp [IntKind.wrap, IntKind.bits, IntKind.signed]; omega
  have w4 : IntKind.u64.wrap (a : Int) = a := by simp [IntKind.wrap, IntKind.bits, IntKind.signed]; omega
  have w5 : IntKind.u64.wrap (nb : Int) = nb := by simp [IntKind.wrap, IntKind.bits, IntKind.signed]; omega
  have w6 : IntKind.u64.wrap ((a : Int) + n) = a + n := by simp [IntKind.wrap, IntKind.bits, IntKind.signed]; omega
  have hbT : ∀ {X Y : World}, Below W.heap.size W X → Below X.heap.size X Y → Below W.heap.size W Y := fun h k => h.trans (k.mono h.size)
  have HSB := Lib.hid (fun (X : World) (h : Below W.heap.size W X) => hb.kept (Kept.below h))
  have HRB := Lib.hid (fun (X : World) (h : Below W.heap.size W X) => hr.kept (Kept.below h))
  have HE := Lib.hid (wordE_no hok)
  have HBL := Lib.hid hB
  clear hb hr hB
  go_enter Try.func4, Try.ntmps4
  go_wp2_with fail
  refine (known_any W).mono ?_
  rintro e w1 ⟨rfl, hb1⟩
  have HB := Lib.hid hb1
  clear hb1
  go_wp2_with fail
  refine (new_any nb (by omega) w1).mono ?_
  rintro e w2 ⟨g, d, rfl, hg, hd, hm, hb1⟩
  have HG : Hid (W.heap.size ≤ g ∧ W.heap.size ≤ d) := ⟨by have := HB.out.size; omega, by have := HB.out.size; omega⟩
  have HB2 := Lib.hid (hbT HB.out hb1)
  have HM := Lib.hid hm
  clear hg hd hm hb1 HB
  go_wp2_with fail
  refine (put_any HM.out 0 nb cb (by omega) (by omega) (l := B) ((HSB.out w2 HB2.out).imp fun k _ hk => by have := HG.out; omega)).mono ?_
  rintro e w3 ⟨rfl, hm, hk⟩
  have HB3 := Lib.hid (HB2.out.trans (hk.toBelow HB2.out.size (fun k hk e => by have := HG.out; omega)))
  rw [put_zeros HBL.out] at hm
  have HM3 := Lib.hid hm
  clear hm hk HM HB2
  rw [List.length_replicate, range_all]
  go_wp2_with fail
  refine (store_any (cr := cr) HM3.out (HRB.out w3 HB3.out) (by omega) a n x ha hn hx).mono ?_
  rintro e w4 ⟨rfl, hm, hk⟩
  have HB4 := Lib.hid (HB3.out.trans (hk.toBelow HB3.out.size (fun k hk e => by have := HG.out; omega)))
  rw [show storeM B l a n x = B from by unfold storeM; rw [HBL.out, if_neg (by rw [hok]; simp)]] at hm
  have HM4 := Lib.hid hm
  clear hm hk HM3 HB3
  rw [HBL.out]
  go_wp2_with fail
  have hget := get_any HM4.out 0 nb (by omega) (by omega)
  rw [HBL.out, range_all, show getM B 0 nb = B from by rw [← HBL.out, getM_all]] at hget
  refine hget.mono ?_
  rintro e w5 ⟨v, rfl, ht, hb1⟩
  obtain ⟨av, rfl, hv⟩ := ht.row
  rw [HBL.out]
  have HV := Lib.hid hv
  have HB5 := Lib.hid (hbT HB4.out hb1)
  have HM5 := Lib.hid (HM4.out.below hb1 (Nat.le_refl _))
  clear ht hv hb1 HB4 HM4 hget
  go_wp2_with fail
  refine (find_any (c := cr) (HRB.out w5 HB5.out) (by omega) a n 2 (by omega) (by omega) (by omega)).mono ?_
  rintro e w6 ⟨rfl, hb1⟩
  have HB6 := Lib.hid (hbT HB5.out hb1)
  have HM6 := Lib.hid (HM5.out.below hb1 (Nat.le_refl _))
  have HV6 : Hid (B ≠ [] → ∃ k, av = some ⟨k, 0, none⟩ ∧ w6.heap[k]? = some (.cells (ints .u8 B) 5 (0, 0))) := fun h => by
    obtain ⟨k, e, _, hc⟩ := HV.out h
    exact ⟨k, e, (hb1.block k (lt_of_block hc)).trans hc⟩
  clear hb1 HB5 HM5 HV
  generalize wordE l a n 2 nb = E at *
  have ee : (E == 0) = false := by simpa using HE.out
  have HM : Hid ((fnd l a n 2).isSome = true → n = 1 ∨ n = 2 ∨ n = 4 → ¬ (a + n ≤ nb)) := fun h1 h2 h3 => by
    have h4 : wordB n = true := by unfold wordB; exact decide_eq_true h2
    unfold lets at hok
    rw [h4, h1, decide_eq_true h3] at hok
    cases hok
  clear hok
  by_cases hw : n = 1 ∨ n = 2 ∨ n = 4
  · rcases hw with rfl | rfl | rfl
    · have HM1 : Hid ((fnd l a 1 2).isSome = true → ¬ (a + 1 ≤ nb)) := fun h => HM.out h (by omega)
      have ef : ((fnd l a ((1 : Nat) : Int) 2)) = fnd l a 1 2 := rfl
      rw [ef]
      have w6' : IntKind.u64.wrap ((a : Int) + 1) = a + 1 := by simp [IntKind.wrap, IntKind.bits, IntKind.signed]; omega
      have w2' : IntKind.u32.wrap 1 = 1 := by decide
      have w3' : IntKind.u64.wrap 1 = 1 := by decide
      clear HM ef w2 w3 w6
      generalize hs : fnd l a 1 2 = o at *
      clear hs
      cases o with
      | none =>
        clear HM1
        go_wp2_with fail
        go_loopw [108] (fun i wr => ∃ k : Nat, k ≤ nb ∧ i = .int .i64 k ∧ Below w6.heap.size w6 wr) (fun i _ => nb - (intOf i).toNat)
        case atStart => exact ⟨0, by omega, rfl, Below.refl _ _⟩
        case round =>
          obtain ⟨k, hk, rfl, hbel⟩ := hrel
          have HBl := Lib.hid hbel
          clear hbel
          by_cases hlt : k < nb
          · have k0 : (0 : Int) ≤ k := by omega
            have k1 : (k : Int) < nb := by omega
            have hd : decide ((k : Int) < (nb : Int)) = true := by simp; omega
            obtain ⟨kb, rfl, hc⟩ := HV6.out (by rintro rfl; have := HBL.out; simp at this; omega)
            have g1 := row_cell ((HBl.out.block kb (lt_of_block hc)).trans hc) k (by rw [HBL.out]; exact hlt)
            obtain ⟨_, _, hrow⟩ := HSB.out wr (hbT HB6.out HBl.out)
            obtain ⟨rb, off, rfl, _, hcell⟩ := hrow.resolve_left (by omega)
            have g2 := hcell k hlt
            clear hrow hcell hc
            generalize B.getD k 0 = z at *
            go_wp2_with fail
            go_quiet (fail)
            go_wp2_with fail
            go_roundw
            case rel => exact ⟨k + 1, by omega, by go_num, below_drewN HBl.out _⟩
            case measure => simp [intOf]; omega
          · have hd : decide ((k : Int) < (nb : Int)) = false := by simp; omega
            go_wp2_with fail
            refine (load_any (cr := cr) (HM6.out.below HBl.out (Nat.le_refl _)) (HRB.out wr (hbT HB6.out HBl.out)) (by omega) a 1 ha (by omega)).mono ?_
            rintro e w7 ⟨rfl, hb1⟩
            have HB7 := Lib.hid (hbT (hbT HB6.out HBl.out) hb1)
            clear hb1
            go_wp2_with fail
            all_goals (go_ret; exact ⟨rfl, HB7.out⟩)
      | some oi =>
        have hf : decide ((a : Int) + 1 ≤ (nb : Int)) = false := by have := HM1.out rfl; simp; omega
        clear HM1
        go_wp2_with fail
        go_loopw [108] (fun i wr => ∃ k : Nat, k ≤ nb ∧ i = .int .i64 k ∧ Below w6.heap.size w6 wr) (fun i _ => nb - (intOf i).toNat)
        case atStart => exact ⟨0, by omega, rfl, Below.refl _ _⟩
        case round =>
          obtain ⟨k, hk, rfl, hbel⟩ := hrel
          have HBl := Lib.hid hbel
          clear hbel
          by_cases hlt : k < nb
          · have k0 : (0 : Int) ≤ k := by omega
            have k1 : (k : Int) < nb := by omega
            have hd : decide ((k : Int) < (nb : Int)) = true := by simp; omega
            obtain ⟨kb, rfl, hc⟩ := HV6.out (by rintro rfl; have := HBL.out; simp at this; omega)
            have g1 := row_cell ((HBl.out.block kb (lt_of_block hc)).trans hc) k (by rw [HBL.out]; exact hlt)
            obtain ⟨_, _, hrow⟩ := HSB.out wr (hbT HB6.out HBl.out)
            obtain ⟨rb, off, rfl, _, hcell⟩ := hrow.resolve_left (by omega)
            have g2 := hcell k hlt
            clear hrow hcell hc
            generalize B.getD k 0 = z at *
            go_wp2_with fail
            go_quiet (fail)
            go_wp2_with fail
            go_roundw
            case rel => exact ⟨k + 1, by omega, by go_num, below_drewN HBl.out _⟩
            case measure => simp [intOf]; omega
          · have hd : decide ((k : Int) < (nb : Int)) = false := by simp; omega
            go_wp2_with fail
            refine (load_any (cr := cr) (HM6.out.below HBl.out (Nat.le_refl _)) (HRB.out wr (hbT HB6.out HBl.out)) (by omega) a 1 ha (by omega)).mono ?_
            rintro e w7 ⟨rfl, hb1⟩
            have HB7 := Lib.hid (hbT (hbT HB6.out HBl.out) hb1)
            clear hb1
            go_wp2_with fail
            all_goals (go_ret; exact ⟨rfl, HB7.out⟩)
    · have HM1 : Hid ((fnd l a 2 2).isSome = true → ¬ (a + 2 ≤ nb)) := fun h => HM.out h (by omega)
      have ef : ((fnd l a ((2 : Nat) : Int) 2)) = fnd l a 2 2 := rfl
      rw [ef]
      have w6' : IntKind.u64.wrap ((a : Int) + 2) = a + 2 := by simp [IntKind.wrap, IntKind.bits, IntKind.signed]; omega
      have w2' : IntKind.u32.wrap 2 = 2 := by decide
      have w3' : IntKind.u64.wrap 2 = 2 := by decide
      clear HM ef w2 w3 w6
      generalize hs : fnd l a 2 2 = o at *
      clear hs
      cases o with
      | none =>
        clear HM1
        go_wp2_with fail
        go_loopw [108] (fun i wr => ∃ k : Nat, k ≤ nb ∧ i = .int .i64 k ∧ Below w6.heap.size w6 wr) (fun i _ => nb - (intOf i).toNat)
        case atStart => exact ⟨0, by omega, rfl, Below.refl _ _⟩
        case round =>
          obtain ⟨k, hk, rfl, hbel⟩ := hrel
          have HBl := Lib.hid hbel
          clear hbel
          by_cases hlt : k < nb
          · have k0 : (0 : Int) ≤ k := by omega
            have k1 : (k : Int) < nb := by omega
            have hd : decide ((k : Int) < (nb : Int)) = true := by simp; omega
            obtain ⟨kb, rfl, hc⟩ := HV6.out (by rintro rfl; have := HBL.out; simp at this; omega)
            have g1 := row_cell ((HBl.out.block kb (lt_of_block hc)).trans hc) k (by rw [HBL.out]; exact hlt)
            obtain ⟨_, _, hrow⟩ := HSB.out wr (hbT HB6.out HBl.out)
            obtain ⟨rb, off, rfl, _, hcell⟩ := hrow.resolve_left (by omega)
            have g2 := hcell k hlt
            clear hrow hcell hc
            generalize B.getD k 0 = z at *
            go_wp2_with fail
            go_quiet (fail)
            go_wp2_with fail
            go_roundw
            case rel => exact ⟨k + 1, by omega, by go_num, below_drewN HBl.out _⟩
            case measure => simp [intOf]; omega
          · have hd : decide ((k : Int) < (nb : Int)) = false := by simp; omega
            go_wp2_with fail
            refine (load_any (cr := cr) (HM6.out.below HBl.out (Nat.le_refl _)) (HRB.out wr (hbT HB6.out HBl.out)) (by omega) a 2 ha (by omega)).mono ?_
            rintro e w7 ⟨rfl, hb1⟩
            have HB7 := Lib.hid (hbT (hbT HB6.out HBl.out) hb1)
            clear hb1
            go_wp2_with fail
            all_goals (go_ret; exact ⟨rfl, HB7.out⟩)
      | some oi =>
        have hf : decide ((a : Int) + 2 ≤ (nb : Int)) = false := by have := HM1.out rfl; simp; omega
        clear HM1
        go_wp2_with fail
        go_loopw [108] (fun i wr => ∃ k : Nat, k ≤ nb ∧ i = .int .i64 k ∧ Below w6.heap.size w6 wr) (fun i _ => nb - (intOf i).toNat)
        case atStart => exact ⟨0, by omega, rfl, Below.refl _ _⟩
        case round =>
          obtain ⟨k, hk, rfl, hbel⟩ := hrel
          have HBl := Lib.hid hbel
          clear hbel
          by_cases hlt : k < nb
          · have k0 : (0 : Int) ≤ k := by omega
            have k1 : (k : Int) < nb := by omega
            have hd : decide ((k : Int) < (nb : Int)) = true := by simp; omega
            obtain ⟨kb, rfl, hc⟩ := HV6.out (by rintro rfl; have := HBL.out; simp at this; omega)
            have g1 := row_cell ((HBl.out.block kb (lt_of_block hc)).trans hc) k (by rw [HBL.out]; exact hlt)
            obtain ⟨_, _, hrow⟩ := HSB.out wr (hbT HB6.out HBl.out)
            obtain ⟨rb, off, rfl, _, hcell⟩ := hrow.resolve_left (by omega)
            have g2 := hcell k hlt
            clear hrow hcell hc
            generalize B.getD k 0 = z at *
            go_wp2_with fail
            go_quiet (fail)
            go_wp2_with fail
            go_roundw
            case rel => exact ⟨k + 1, by omega, by go_num, below_drewN HBl.out _⟩
            case measure => simp [intOf]; omega
          · have hd : decide ((k : Int) < (nb : Int)) = false := by simp; omega
            go_wp2_with fail
            refine (load_any (cr := cr) (HM6.out.below HBl.out (Nat.le_refl _)) (HRB.out wr (hbT HB6.out HBl.out)) (by omega) a 2 ha (by omega)).mono ?_
            rintro e w7 ⟨rfl, hb1⟩
            have HB7 := Lib.hid (hbT (hbT HB6.out HBl.out) hb1)
            clear hb1
            go_wp2_with fail
            all_goals (go_ret; exact ⟨rfl, HB7.out⟩)
    · have HM1 : Hid ((fnd l a 4 2).isSome = true → ¬ (a + 4 ≤ nb)) := fun h => HM.out h (by omega)
      have ef : ((fnd l a ((4 : Nat) : Int) 2)) = fnd l a 4 2 := rfl
      rw [ef]
      have w6' : IntKind.u64.wrap ((a : Int) + 4) = a + 4 := by simp [IntKind.wrap, IntKind.bits, IntKind.signed]; omega
      have w2' : IntKind.u32.wrap 4 = 4 := by decide
      have w3' : IntKind.u64.wrap 4 = 4 := by decide
      clear HM ef w2 w3 w6
      generalize hs : fnd l a 4 2 = o at *
      clear hs
      cases o with
      | none =>
        clear HM1
        go_wp2_with fail
        go_loopw [108] (fun i wr => ∃ k : Nat, k ≤ nb ∧ i = .int .i64 k ∧ Below w6.heap.size w6 wr) (fun i _ => nb - (intOf i).toNat)
        case atStart => exact ⟨0, by omega, rfl, Below.refl _ _⟩
        case round =>
          obtain ⟨k, hk, rfl, hbel⟩ := hrel
          have HBl := Lib.hid hbel
          clear hbel
          by_cases hlt : k < nb
          · have k0 : (0 : Int) ≤ k := by omega
            have k1 : (k : Int) < nb := by omega
            have hd : decide ((k : Int) < (nb : Int)) = true := by simp; omega
            obtain ⟨kb, rfl, hc⟩ := HV6.out (by rintro rfl; have := HBL.out; simp at this; omega)
            have g1 := row_cell ((HBl.out.block kb (lt_of_block hc)).trans hc) k (by rw [HBL.out]; exact hlt)
            obtain ⟨_, _, hrow⟩ := HSB.out wr (hbT HB6.out HBl.out)
            obtain ⟨rb, off, rfl, _, hcell⟩ := hrow.resolve_left (by omega)
            have g2 := hcell k hlt
            clear hrow hcell hc
            generalize B.getD k 0 = z at *
            go_wp2_with fail
            go_quiet (fail)
            go_wp2_with fail
            go_roundw
            case rel => exact ⟨k + 1, by omega, by go_num, below_drewN HBl.out _⟩
            case measure => simp [intOf]; omega
          · have hd : decide ((k : Int) < (nb : Int)) = false := by simp; omega
            go_wp2_with fail
            refine (load_any (cr := cr) (HM6.out.below HBl.out (Nat.le_refl _)) (HRB.out wr (hbT HB6.out HBl.out)) (by omega) a 4 ha (by omega)).mono ?_
            rintro e w7 ⟨rfl, hb1⟩
            have HB7 := Lib.hid (hbT (hbT HB6.out HBl.out) hb1)
            clear hb1
            go_wp2_with fail
            all_goals (go_ret; exact ⟨rfl, HB7.out⟩)
      | some oi =>
        have hf : decide ((a : Int) + 4 ≤ (nb : Int)) = false := by have := HM1.out rfl; simp; omega
        clear HM1
        go_wp2_with fail
        go_loopw [108] (fun i wr => ∃ k : Nat, k ≤ nb ∧ i = .int .i64 k ∧ Below w6.heap.size w6 wr) (fun i _ => nb - (intOf i).toNat)
        case atStart => exact ⟨0, by omega, rfl, Below.refl _ _⟩
        case round =>
          obtain ⟨k, hk, rfl, hbel⟩ := hrel
          have HBl := Lib.hid hbel
          clear hbel
          by_cases hlt : k < nb
          · have k0 : (0 : Int) ≤ k := by omega
            have k1 : (k : Int) < nb := by omega
            have hd : decide ((k : Int) < (nb : Int)) = true := by simp; omega
            obtain ⟨kb, rfl, hc⟩ := HV6.out (by rintro rfl; have := HBL.out; simp at this; omega)
            have g1 := row_cell ((HBl.out.block kb (lt_of_block hc)).trans hc) k (by rw [HBL.out]; exact hlt)
            obtain ⟨_, _, hrow⟩ := HSB.out wr (hbT HB6.out HBl.out)
            obtain ⟨rb, off, rfl, _, hcell⟩ := hrow.resolve_left (by omega)
            have g2 := hcell k hlt
            clear hrow hcell hc
            generalize B.getD k 0 = z at *
            go_wp2_with fail
            go_quiet (fail)
            go_wp2_with fail
            go_roundw
            case rel => exact ⟨k + 1, by omega, by go_num, below_drewN HBl.out _⟩
            case measure => simp [intOf]; omega
          · have hd : decide ((k : Int) < (nb : Int)) = false := by simp; omega
            go_wp2_with fail
            refine (load_any (cr := cr) (HM6.out.below HBl.out (Nat.le_refl _)) (HRB.out wr (hbT HB6.out HBl.out)) (by omega) a 4 ha (by omega)).mono ?_
            rintro e w7 ⟨rfl, hb1⟩
            have HB7 := Lib.hid (hbT (hbT HB6.out HBl.out) hb1)
            clear hb1
            go_wp2_with fail
            all_goals (go_ret; exact ⟨rfl, HB7.out⟩)
  · have e1 : ((n : Int) == 1) = false := by simp; omega
    have e2 : ((n : Int) == 2) = false := by simp; omega
    have e4 : ((n : Int) == 4) = false := by simp; omega
    clear HM hw
    generalize hs : fnd l a n 2 = o at *
    clear hs
    go_wp2_with fail
    go_loopw [108] (fun i wr => ∃ k : Nat, k ≤ nb ∧ i = .int .i64 k ∧ Below w6.heap.size w6 wr) (fun i _ => nb - (intOf i).toNat)
    case atStart => exact ⟨0, by omega, rfl, Below.refl _ _⟩
    case round =>
      obtain ⟨k, hk, rfl, hbel⟩ := hrel
      have HBl := Lib.hid hbel
      clear hbel
      by_cases hlt : k < nb
      · have k0 : (0 : Int) ≤ k := by omega
        have k1 : (k : Int) < nb := by omega
        have hd : decide ((k : Int) < (nb : Int)) = true := by simp; omega
        obtain ⟨kb, rfl, hc⟩ := HV6.out (by rintro rfl; have := HBL.out; simp at this; omega)
        have g1 := row_cell ((HBl.out.block kb (lt_of_block hc)).trans hc) k (by rw [HBL.out]; exact hlt)
        obtain ⟨_, _, hrow⟩ := HSB.out wr (hbT HB6.out HBl.out)
        obtain ⟨rb, off, rfl, _, hcell⟩ := hrow.resolve_left (by omega)
        have g2 := hcell k hlt
        clear hrow hcell hc
        generalize B.getD k 0 = z at *
        go_wp2_with fail
        go_quiet (fail)
        go_wp2_with fail
        go_roundw
        case rel => exact ⟨k + 1, by omega, by go_num, below_drewN HBl.out _⟩
        case measure => simp [intOf]; omega
      · have hd : decide ((k : Int) < (nb : Int)) = false := by simp; omega
        go_wp2_with fail
        refine (load_any (cr := cr) (HM6.out.below HBl.out (Nat.le_refl _)) (HRB.out wr (hbT HB6.out HBl.out)) (by omega) a n ha (by omega)).mono ?_
        rintro e w7 ⟨rfl, hb1⟩
        have HB7 := Lib.hid (hbT (hbT HB6.out HBl.out) hb1)
        clear hb1
        go_wp2_with fail
        all_goals (go_ret; exact ⟨rfl, HB7.out⟩)
end Ram
end Go.Proofs.Ythpimoinognkhaa
