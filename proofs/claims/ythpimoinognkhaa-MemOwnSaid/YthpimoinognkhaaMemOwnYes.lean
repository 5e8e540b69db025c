/- MemOwn, where a word is stored. (Made by tools/gen_memown.py.) -/
import Derived.Test.YthpimoinognkhaaMemOwnNo
namespace Go.Proofs.Ythpimoinognkhaa
open Go.ChangeShapes Go.WideShapes Go.ChangeAt Go.RowKit
namespace Ram
set_option linter.unusedVariables false
set_option linter.unusedSimpArgs false
theorem and_mask (x : Int) (k : Nat) (hk : k ≤ 32) (hx : 0 ≤ x ∧ x ≤ 4294967295) : bits .and .u32 x ((2 ^ k - 1 : Nat) : Int) = x % ((2 ^ k : Nat) : Int) := by
  obtain ⟨X, rfl⟩ := Int.eq_ofNat_of_zero_le hx.1
  have hle : 2 ^ k ≤ 4294967296 := Nat.le_trans (Nat.pow_le_pow_right (n := 2) (by omega) hk) (by decide)
  have hb := (bits_nat .u32 32 (by decide) (fun n h0 h1 => by simp only [IntKind.wrap, IntKind.bits, IntKind.signed]; exact Int.emod_eq_of_lt h0 h1) X (2 ^ k - 1) (by omega) (by omega)).1
  rw [hb, Nat.and_two_pow_sub_one_eq_mod]
  rfl
theorem mask1 (x : Int) (hx : 0 ≤ x ∧ x ≤ 4294967295) : bits .and .u32 x 255 = x % 256 := and_mask x 8 (by omega) hx
theorem mask2 (x : Int) (hx : 0 ≤ x ∧ x ≤ 4294967295) : bits .and .u32 x 65535 = x % 65536 := and_mask x 16 (by omega) hx
theorem mask4 (x : Int) (hx : 0 ≤ x ∧ x ≤ 4294967295) : bits .and .u32 x 4294967295 = x % 4294967296 := and_mask x 32 (by omega) hx
set_option maxHeartbeats 4000000 in
set_option maxRecDepth 100000 in
theorem own_ok1 (W : World) (ab : Option Addr) (nb cb : Nat) (B : List Int) (hb : SRow (fun k => W.heap.size ≤ k) W ab nb B) (ar : Option Addr) (nr cr : Nat) (l : List Rg) (hr : RRow (fun k => W.heap.size ≤ k) W ar nr l)
    (a : Nat) (x : Int) (ha : a ≤ 4294967295) (hx : 0 ≤ x ∧ x ≤ 4294967295) (h3 : nb ≤ 3000) (h5 : nr ≤ 50) (hok : lets l a 1 2 nb = true) :
    Calls Try.prog 4 #[.slice ab nb cb, .slice ar nr cr, .int .u32 (a : Int), .int .u8 1, .int .u32 x] W fun e w' => e = .returned (.bool true) ∧ Below W.heap.size W w' := by
  have hB := hb.1
  have HBy := Lib.hid hb.2.1
  have e3 : decide ((3000 : Int) < (nb : Int)) = false := by simp; omega
  have e5 : decide ((50 : Int) < (nr : Int)) = false := by simp; omega
  have w1 : IntKind.u32.wrap (nb : Int) = nb := by simp [IntKind.wrap, IntKind.bits, IntKind.signed]; omega
  have w2 : IntKind.u32.wrap 1 = 1 := by decide
  have w3 : IntKind.u64.wrap 1 = 1 := by decide
  have w4 : IntKind.u64.wrap (a : Int) = a := by simp [IntKind.wrap, IntKind.bits, IntKind.signed]; omega
  have w5 : IntKind.u64.wrap (nb : Int) = nb := by simp [IntKind.wrap, IntKind.bits, IntKind.signed]; omega
  have w6 : IntKind.u64.wrap ((a : Int) + 1) = a + 1 := by simp [IntKind.wrap, IntKind.bits, IntKind.signed]; omega
  have hbT : ∀ {X Y : World}, Below W.heap.size W X → Below X.heap.size X Y → Below W.heap.size W Y := fun h k => h.trans (k.mono h.size)
  have HSB := Lib.hid (fun (X : World) (h : Below W.heap.size W X) => hb.kept (Kept.below h))
  have HRB := Lib.hid (fun (X : World) (h : Below W.heap.size W X) => hr.kept (Kept.below h))
  have hle := lets_le hok
  have HBL := Lib.hid hB
  have HSt : Hid (storeM B l a 1 x = put B a (low 1 x)) := by show _ = _; unfold storeM; rw [hB, hok]; rfl
  have HE : Hid (wordE l a 1 2 nb = 0) := by show _ = _; unfold wordE boundsE; rw [hok]; rfl
  have HF : Hid ((fnd l a 1 2).isSome = true) := by show _ = _; unfold lets at hok; simp at hok; exact hok.1
  have HPL : Hid ((put B a (low 1 x)).length = nb) := by show _ = _; rw [put_len _ _ _ (by rw [low_len]; omega)]; exact hB
  have HAt : Hid (∀ i, (put B a (low 1 x)).getD i 0 = if a ≤ i ∧ i < a + 1 then (low 1 x).getD (i - a) 0 else B.getD i 0) := fun i => by
    have := put_at B a (low 1 x) i (by rw [low_len]; omega)
    rw [low_len] at this
    exact this
  have HLd : Hid (loadM (put B a (low 1 x)) l a 1 = if lets l a 1 1 nb then x % 256 else 0) := by
    show _ = _
    have e := get_put B a (low 1 x) (by rw [low_len]; omega)
    rw [low_len] at e
    unfold loadM
    rw [HPL.out, e, un_low _ _ hx.1]
    rfl
  have HMk := Lib.hid (mask1 x hx)
  clear hb hr hB hok
  go_enter Try.func4, Try.ntmps4
  go_wp2_with fail
  refine (known_any W).mono ?_
  rintro e w1 ⟨rfl, hb1⟩
  have HB := Lib.hid hb1
  clear hb1
  go_wp2_with fail
  refine (new_any nb (by omega) w1).mono ?_
  rintro e w2 ⟨g, d, rfl, hg, hd, hm, hb1⟩
  have HG : Hid (W.heap.size ≤ g ∧ W.heap.size ≤ d) := ⟨by have := HB.out.size; omega, by have := HB.out.size; omega⟩
  have HB2 := Lib.hid (hbT HB.out hb1)
  have HM := Lib.hid hm
  clear hg hd hm hb1 HB
  go_wp2_with fail
  refine (put_any HM.out 0 nb cb (by omega) (by omega) (l := B) ((HSB.out w2 HB2.out).imp fun k _ hk => by have := HG.out; omega)).mono ?_
  rintro e w3 ⟨rfl, hm, hk⟩
  have HB3 := Lib.hid (HB2.out.trans (hk.toBelow HB2.out.size (fun k hk e => by have := HG.out; omega)))
  rw [put_zeros HBL.out] at hm
  have HM3 := Lib.hid hm
  clear hm hk HM HB2
  rw [List.length_replicate, range_all]
  go_wp2_with fail
  have hst := store_any (cr := cr) HM3.out (HRB.out w3 HB3.out) (by omega) a 1 x ha (by omega) hx
  rw [HBL.out, HSt.out, HE.out] at hst
  refine hst.mono ?_
  rintro e w4 ⟨rfl, hm, hk⟩
  have HB4 := Lib.hid (HB3.out.trans (hk.toBelow HB3.out.size (fun k hk e => by have := HG.out; omega)))
  have HM4 := Lib.hid hm
  clear hm hk HM3 HB3 hst HSt HE
  go_wp2_with fail
  generalize put B a (low 1 x) = B2 at *
  have hget := get_any HM4.out 0 nb (by omega) (by omega)
  rw [HPL.out, range_all, show getM B2 0 nb = B2 from by rw [← HPL.out, getM_all]] at hget
  refine hget.mono ?_
  rintro e w5 ⟨v, rfl, ht, hb1⟩
  obtain ⟨av, rfl, hv⟩ := ht.row
  rw [HPL.out]
  have HV := Lib.hid hv
  have HB5 := Lib.hid (hbT HB4.out hb1)
  have HM5 := Lib.hid (HM4.out.below hb1 (Nat.le_refl _))
  clear ht hv hb1 HB4 HM4 hget
  go_wp2_with fail
  refine (find_any (c := cr) (HRB.out w5 HB5.out) (by omega) a 1 2 (by omega) (by omega) (by omega)).mono ?_
  rintro e w6 ⟨rfl, hb1⟩
  have HB6 := Lib.hid (hbT HB5.out hb1)
  have HM6 := Lib.hid (HM5.out.below hb1 (Nat.le_refl _))
  have HV6 : Hid (B2 ≠ [] → ∃ k, av = some ⟨k, 0, Option.none⟩ ∧ w6.heap[k]? = some (.cells (ints .u8 B2) 5 (0, 0))) := fun h => by
    obtain ⟨k, e, _, hc⟩ := HV.out h
    exact ⟨k, e, (hb1.block k (lt_of_block hc)).trans hc⟩
  clear hb1 HB5 HM5 HV
  obtain ⟨oi, hoi⟩ : ∃ oi, fnd l a 1 2 = some oi := Option.isSome_iff_exists.1 HF.out
  rw [hoi]
  clear hoi HF
  have hf : decide ((a : Int) + 1 ≤ (nb : Int)) = true := by simp; omega
  have HLe := Lib.hid hle
  clear hle
  go_wp2_with fail
  go_loopw [108] (fun i wr => ∃ k : Nat, k ≤ nb ∧ i = .int .i64 k ∧ Below w6.heap.size w6 wr) (fun i _ => nb - (intOf i).toNat)
  case atStart => exact ⟨0, by omega, rfl, Below.refl _ _⟩
  case round =>
    obtain ⟨k, hk, rfl, hbel⟩ := hrel
    have HBl := Lib.hid hbel
    clear hbel hf
    by_cases hlt : k < nb
    · have k0 : (0 : Int) ≤ k := by omega
      have k1 : (k : Int) < nb := by omega
      have hd : decide ((k : Int) < (nb : Int)) = true := by simp; omega
      have u1 : IntKind.u64.wrap (k : Int) = k := by simp [IntKind.wrap, IntKind.bits, IntKind.signed]; omega
      obtain ⟨kb, rfl, hc⟩ := HV6.out (by rintro rfl; have := HPL.out; simp at this; omega)
      have g1 := row_cell ((HBl.out.block kb (lt_of_block hc)).trans hc) k (by rw [HPL.out]; exact hlt)
      rw [HAt.out k] at g1
      obtain ⟨_, _, hrow⟩ := HSB.out wr (hbT HB6.out HBl.out)
      obtain ⟨rb, off, rfl, _, hcell⟩ := hrow.resolve_left (by omega)
      have g2 := hcell k hlt
      clear hrow hcell hc
      generalize B.getD k 0 = z at *
      by_cases c1 : a ≤ k
      · have d1 : decide ((a : Int) ≤ (k : Int)) = true := by simp; omega
        have n1 : decide (a ≤ k) = true := by simp; omega
        by_cases c2 : k < a + 1
        · have d2 : decide ((k : Int) < (a : Int) + 1) = true := by simp; omega
          have n2 : decide (k < a + 1) = true := by simp; omega
          obtain ⟨j, hj⟩ : ∃ j, k = a + j := ⟨k - a, by omega⟩
          have hj4 : j < 1 := by omega
          rw [if_pos ⟨c1, c2⟩, show k - a = j by omega, low_at 1 j x hj4, show (256 : Int) ^ j = 2 ^ (8 * j) from by rw [Int.pow_mul]; rfl] at g1
          have v0 : IntKind.u32.wrap (k : Int) = k := by simp [IntKind.wrap, IntKind.bits, IntKind.signed]; omega
          have v1 : IntKind.u32.wrap ((k : Int) - a) = (j : Int) := by rw [show (k : Int) - a = j by omega]; simp [IntKind.wrap, IntKind.bits, IntKind.signed]; omega
          have v2 : IntKind.u32.wrap (8 * (j : Int)) = 8 * (j : Int) := by simp [IntKind.wrap, IntKind.bits, IntKind.signed]; omega
          have HJ := Lib.hid hj
          clear c1 c2 hj
          go_wp2_with fail
          go_quiet (fail)
          go_wp2_with fail
          go_roundw
          case rel => exact ⟨k + 1, by omega, by go_num, below_drewN HBl.out _⟩
          case measure => simp [intOf]; omega
        · have d2 : decide ((k : Int) < (a : Int) + 1) = false := by simp; omega
          have n2 : decide (k < a + 1) = false := by simp; omega
          rw [if_neg (by omega)] at g1
          clear c1 c2
          go_wp2_with fail
          go_quiet (fail)
          go_wp2_with fail
          go_roundw
          case rel => exact ⟨k + 1, by omega, by go_num, below_drewN HBl.out _⟩
          case measure => simp [intOf]; omega
      · have d1 : decide ((a : Int) ≤ (k : Int)) = false := by simp; omega
        have n1 : decide (a ≤ k) = false := by simp; omega
        rw [if_neg (by omega)] at g1
        clear c1
        go_wp2_with fail
        go_quiet (fail)
        go_wp2_with fail
        go_roundw
        case rel => exact ⟨k + 1, by omega, by go_num, below_drewN HBl.out _⟩
        case measure => simp [intOf]; omega
    · have hd : decide ((k : Int) < (nb : Int)) = false := by simp; omega
      go_wp2_with fail
      have hld := load_any (cr := cr) (HM6.out.below HBl.out (Nat.le_refl _)) (HRB.out wr (hbT HB6.out HBl.out)) (by omega) a 1 ha (by omega)
      rw [HPL.out, HLd.out] at hld
      cases hl1 : lets l a 1 1 nb with
      | true =>
        rw [show wordE l a 1 1 nb = 0 from by unfold wordE boundsE; rw [hl1]; rfl, hl1] at hld
        refine hld.mono ?_
        rintro e w7 ⟨rfl, hb1⟩
        have HB7 := Lib.hid (hbT (hbT HB6.out HBl.out) hb1)
        clear hb1 hld
        have hmk := HMk.out
        go_wp2_with fail
        go_ret
        exact ⟨by simp, HB7.out⟩
      | false =>
        rw [show wordE l a 1 1 nb = 60 from by unfold wordE boundsE; rw [hl1]; rfl, hl1] at hld
        refine hld.mono ?_
        rintro e w7 ⟨rfl, hb1⟩
        have HB7 := Lib.hid (hbT (hbT HB6.out HBl.out) hb1)
        clear hb1 hld
        go_wp2_with fail
        go_ret
        exact ⟨rfl, HB7.out⟩
set_option maxHeartbeats 4000000 in
set_option maxRecDepth 100000 in
theorem own_ok2 (W : World) (ab : Option Addr) (nb cb : Nat) (B : List Int) (hb : SRow (fun k => W.heap.size ≤ k) W ab nb B) (ar : Option Addr) (nr cr : Nat) (l : List Rg) (hr : RRow (fun k => W.heap.size ≤ k) W ar nr l)
    (a : Nat) (x : Int) (ha : a ≤ 4294967295) (hx : 0 ≤ x ∧ x ≤ 4294967295) (h3 : nb ≤ 3000) (h5 : nr ≤ 50) (hok : lets l a 2 2 nb = true) :
    Calls Try.prog 4 #[.slice ab nb cb, .slice ar nr cr, .int .u32 (a : Int), .int .u8 2, .int .u32 x] W fun e w' => e = .returned (.bool true) ∧ Below W.heap.size W w' := by
  have hB := hb.1
  have HBy := Lib.hid hb.2.1
  have e3 : decide ((3000 : Int) < (nb : Int)) = false := by simp; omega
  have e5 : decide ((50 : Int) < (nr : Int)) = false := by simp; omega
  have w1 : IntKind.u32.wrap (nb : Int) = nb := by simp [IntKind.wrap, IntKind.bits, IntKind.signed]; omega
  have w2 : IntKind.u32.wrap 2 = 2 := by decide
  have w3 : IntKind.u64.wrap 2 = 2 := by decide
  have w4 : IntKind.u64.wrap (a : Int) = a := by simp [IntKind.wrap, IntKind.bits, IntKind.signed]; omega
  have w5 : IntKind.u64.wrap (nb : Int) = nb := by simp [IntKind.wrap, IntKind.bits, IntKind.signed]; omega
  have w6 : IntKind.u64.wrap ((a : Int) + 2) = a + 2 := by simp [IntKind.wrap, IntKind.bits, IntKind.signed]; omega
  have hbT : ∀ {X Y : World}, Below W.heap.size W X → Below X.heap.size X Y → Below W.heap.size W Y := fun h k => h.trans (k.mono h.size)
  have HSB := Lib.hid (fun (X : World) (h : Below W.heap.size W X) => hb.kept (Kept.below h))
  have HRB := Lib.hid (fun (X : World) (h : Below W.heap.size W X) => hr.kept (Kept.below h))
  have hle := lets_le hok
  have HBL := Lib.hid hB
  have HSt : Hid (storeM B l a 2 x = put B a (low 2 x)) := by show _ = _; unfold storeM; rw [hB, hok]; rfl
  have HE : Hid (wordE l a 2 2 nb = 0) := by show _ = _; unfold wordE boundsE; rw [hok]; rfl
  have HF : Hid ((fnd l a 2 2).isSome = true) := by show _ = _; unfold lets at hok; simp at hok; exact hok.1
  have HPL : Hid ((put B a (low 2 x)).length = nb) := by show _ = _; rw [put_len _ _ _ (by rw [low_len]; omega)]; exact hB
  have HAt : Hid (∀ i, (put B a (low 2 x)).getD i 0 = if a ≤ i ∧ i < a + 2 then (low 2 x).getD (i - a) 0 else B.getD i 0) := fun i => by
    have := put_at B a (low 2 x) i (by rw [low_len]; omega)
    rw [low_len] at this
    exact this
  have HLd : Hid (loadM (put B a (low 2 x)) l a 2 = if lets l a 2 1 nb then x % 65536 else 0) := by
    show _ = _
    have e := get_put B a (low 2 x) (by rw [low_len]; omega)
    rw [low_len] at e
    unfold loadM
    rw [HPL.out, e, un_low _ _ hx.1]
    rfl
  have HMk := Lib.hid (mask2 x hx)
  clear hb hr hB hok
  go_enter Try.func4, Try.ntmps4
  go_wp2_with fail
  refine (known_any W).mono ?_
  rintro e w1 ⟨rfl, hb1⟩
  have HB := Lib.hid hb1
  clear hb1
  go_wp2_with fail
  refine (new_any nb (by omega) w1).mono ?_
  rintro e w2 ⟨g, d, rfl, hg, hd, hm, hb1⟩
  have HG : Hid (W.heap.size ≤ g ∧ W.heap.size ≤ d) := ⟨by have := HB.out.size; omega, by have := HB.out.size; omega⟩
  have HB2 := Lib.hid (hbT HB.out hb1)
  have HM := Lib.hid hm
  clear hg hd hm hb1 HB
  go_wp2_with fail
  refine (put_any HM.out 0 nb cb (by omega) (by omega) (l := B) ((HSB.out w2 HB2.out).imp fun k _ hk => by have := HG.out; omega)).mono ?_
  rintro e w3 ⟨rfl, hm, hk⟩
  have HB3 := Lib.hid (HB2.out.trans (hk.toBelow HB2.out.size (fun k hk e => by have := HG.out; omega)))
  rw [put_zeros HBL.out] at hm
  have HM3 := Lib.hid hm
  clear hm hk HM HB2
  rw [List.length_replicate, range_all]
  go_wp2_with fail
  have hst := store_any (cr := cr) HM3.out (HRB.out w3 HB3.out) (by omega) a 2 x ha (by omega) hx
  rw [HBL.out, HSt.out, HE.out] at hst
  refine hst.mono ?_
  rintro e w4 ⟨rfl, hm, hk⟩
  have HB4 := Lib.hid (HB3.out.trans (hk.toBelow HB3.out.size (fun k hk e => by have := HG.out; omega)))
  have HM4 := Lib.hid hm
  clear hm hk HM3 HB3 hst HSt HE
  go_wp2_with fail
  generalize put B a (low 2 x) = B2 at *
  have hget := get_any HM4.out 0 nb (by omega) (by omega)
  rw [HPL.out, range_all, show getM B2 0 nb = B2 from by rw [← HPL.out, getM_all]] at hget
  refine hget.mono ?_
  rintro e w5 ⟨v, rfl, ht, hb1⟩
  obtain ⟨av, rfl, hv⟩ := ht.row
  rw [HPL.out]
  have HV := Lib.hid hv
  have HB5 := Lib.hid (hbT HB4.out hb1)
  have HM5 := Lib.hid (HM4.out.below hb1 (Nat.le_refl _))
  clear ht hv hb1 HB4 HM4 hget
  go_wp2_with fail
  refine (find_any (c := cr) (HRB.out w5 HB5.out) (by omega) a 2 2 (by omega) (by omega) (by omega)).mono ?_
  rintro e w6 ⟨rfl, hb1⟩
  have HB6 := Lib.hid (hbT HB5.out hb1)
  have HM6 := Lib.hid (HM5.out.below hb1 (Nat.le_refl _))
  have HV6 : Hid (B2 ≠ [] → ∃ k, av = some ⟨k, 0, Option.none⟩ ∧ w6.heap[k]? = some (.cells (ints .u8 B2) 5 (0, 0))) := fun h => by
    obtain ⟨k, e, _, hc⟩ := HV.out h
    exact ⟨k, e, (hb1.block k (lt_of_block hc)).trans hc⟩
  clear hb1 HB5 HM5 HV
  obtain ⟨oi, hoi⟩ : ∃ oi, fnd l a 2 2 = some oi := Option.isSome_iff_exists.1 HF.out
  rw [hoi]
  clear hoi HF
  have hf : decide ((a : Int) + 2 ≤ (nb : Int)) = true := by simp; omega
  have HLe := Lib.hid hle
  clear hle
  go_wp2_with fail
  go_loopw [108] (fun i wr => ∃ k : Nat, k ≤ nb ∧ i = .int .i64 k ∧ Below w6.heap.size w6 wr) (fun i _ => nb - (intOf i).toNat)
  case atStart => exact ⟨0, by omega, rfl, Below.refl _ _⟩
  case round =>
    obtain ⟨k, hk, rfl, hbel⟩ := hrel
    have HBl := Lib.hid hbel
    clear hbel hf
    by_cases hlt : k < nb
    · have k0 : (0 : Int) ≤ k := by omega
      have k1 : (k : Int) < nb := by omega
      have hd : decide ((k : Int) < (nb : Int)) = true := by simp; omega
      have u1 : IntKind.u64.wrap (k : Int) = k := by simp [IntKind.wrap, IntKind.bits, IntKind.signed]; omega
      obtain ⟨kb, rfl, hc⟩ := HV6.out (by rintro rfl; have := HPL.out; simp at this; omega)
      have g1 := row_cell ((HBl.out.block kb (lt_of_block hc)).trans hc) k (by rw [HPL.out]; exact hlt)
      rw [HAt.out k] at g1
      obtain ⟨_, _, hrow⟩ := HSB.out wr (hbT HB6.out HBl.out)
      obtain ⟨rb, off, rfl, _, hcell⟩ := hrow.resolve_left (by omega)
      have g2 := hcell k hlt
      clear hrow hcell hc
      generalize B.getD k 0 = z at *
      by_cases c1 : a ≤ k
      · have d1 : decide ((a : Int) ≤ (k : Int)) = true := by simp; omega
        have n1 : decide (a ≤ k) = true := by simp; omega
        by_cases c2 : k < a + 2
        · have d2 : decide ((k : Int) < (a : Int) + 2) = true := by simp; omega
          have n2 : decide (k < a + 2) = true := by simp; omega
          obtain ⟨j, hj⟩ : ∃ j, k = a + j := ⟨k - a, by omega⟩
          have hj4 : j < 2 := by omega
          rw [if_pos ⟨c1, c2⟩, show k - a = j by omega, low_at 2 j x hj4, show (256 : Int) ^ j = 2 ^ (8 * j) from by rw [Int.pow_mul]; rfl] at g1
          have v0 : IntKind.u32.wrap (k : Int) = k := by simp [IntKind.wrap, IntKind.bits, IntKind.signed]; omega
          have v1 : IntKind.u32.wrap ((k : Int) - a) = (j : Int) := by rw [show (k : Int) - a = j by omega]; simp [IntKind.wrap, IntKind.bits, IntKind.signed]; omega
          have v2 : IntKind.u32.wrap (8 * (j : Int)) = 8 * (j : Int) := by simp [IntKind.wrap, IntKind.bits, IntKind.signed]; omega
          have HJ := Lib.hid hj
          clear c1 c2 hj
          go_wp2_with fail
          go_quiet (fail)
          go_wp2_with fail
          go_roundw
          case rel => exact ⟨k + 1, by omega, by go_num, below_drewN HBl.out _⟩
          case measure => simp [intOf]; omega
        · have d2 : decide ((k : Int) < (a : Int) + 2) = false := by simp; omega
          have n2 : decide (k < a + 2) = false := by simp; omega
          rw [if_neg (by omega)] at g1
          clear c1 c2
          go_wp2_with fail
          go_quiet (fail)
          go_wp2_with fail
          go_roundw
          case rel => exact ⟨k + 1, by omega, by go_num, below_drewN HBl.out _⟩
          case measure => simp [intOf]; omega
      · have d1 : decide ((a : Int) ≤ (k : Int)) = false := by simp; omega
        have n1 : decide (a ≤ k) = false := by simp; omega
        rw [if_neg (by omega)] at g1
        clear c1
        go_wp2_with fail
        go_quiet (fail)
        go_wp2_with fail
        go_roundw
        case rel => exact ⟨k + 1, by omega, by go_num, below_drewN HBl.out _⟩
        case measure => simp [intOf]; omega
    · have hd : decide ((k : Int) < (nb : Int)) = false := by simp; omega
      go_wp2_with fail
      have hld := load_any (cr := cr) (HM6.out.below HBl.out (Nat.le_refl _)) (HRB.out wr (hbT HB6.out HBl.out)) (by omega) a 2 ha (by omega)
      rw [HPL.out, HLd.out] at hld
      cases hl1 : lets l a 2 1 nb with
      | true =>
        rw [show wordE l a 2 1 nb = 0 from by unfold wordE boundsE; rw [hl1]; rfl, hl1] at hld
        refine hld.mono ?_
        rintro e w7 ⟨rfl, hb1⟩
        have HB7 := Lib.hid (hbT (hbT HB6.out HBl.out) hb1)
        clear hb1 hld
        have hmk := HMk.out
        go_wp2_with fail
        go_ret
        exact ⟨by simp, HB7.out⟩
      | false =>
        rw [show wordE l a 2 1 nb = 60 from by unfold wordE boundsE; rw [hl1]; rfl, hl1] at hld
        refine hld.mono ?_
        rintro e w7 ⟨rfl, hb1⟩
        have HB7 := Lib.hid (hbT (hbT HB6.out HBl.out) hb1)
        clear hb1 hld
        go_wp2_with fail
        go_ret
        exact ⟨rfl, HB7.out⟩
set_option maxHeartbeats 4000000 in
set_option maxRecDepth 100000 in
theorem own_ok4 (W : World) (ab : Option Addr) (nb cb : Nat) (B : List Int) (hb : SRow (fun k => W.heap.size ≤ k) W ab nb B) (ar : Option Addr) (nr cr : Nat) (l : List Rg) (hr : RRow (fun k => W.heap.size ≤ k) W ar nr l)
    (a : Nat) (x : Int) (ha : a ≤ 4294967295) (hx : 0 ≤ x ∧ x ≤ 4294967295) (h3 : nb ≤ 3000) (h5 : nr ≤ 50) (hok : lets l a 4 2 nb = true) :
    Calls Try.prog 4 #[.slice ab nb cb, .slice ar nr cr, .int .u32 (a : Int), .int .u8 4, .int .u32 x] W fun e w' => e = .returned (.bool true) ∧ Below W.heap.size W w' := by
  have hB := hb.1
  have HBy := Lib.hid hb.2.1
  have e3 : decide ((3000 : Int) < (nb : Int)) = false := by simp; omega
  have e5 : decide ((50 : Int) < (nr : Int)) = false := by simp; omega
  have w1 : IntKind.u32.wrap (nb : Int) = nb := by simp [IntKind.wrap, IntKind.bits, IntKind.signed]; omega
  have w2 : IntKind.u32.wrap 4 = 4 := by decide
  have w3 : IntKind.u64.wrap 4 = 4 := by decide
  have w4 : IntKind.u64.wrap (a : Int) = a := by simp [IntKind.wrap, IntKind.bits, IntKind.signed]; omega
  have w5 : IntKind.u64.wrap (nb : Int) = nb := by simp [IntKind.wrap, IntKind.bits, IntKind.signed]; omega
  have w6 : IntKind.u64.wrap ((a : Int) + 4) = a + 4 := by simp [IntKind.wrap, IntKind.bits, IntKind.signed]; omega
  have hbT : ∀ {X Y : World}, Below W.heap.size W X → Below X.heap.size X Y → Below W.heap.size W Y := fun h k => h.trans (k.mono h.size)
  have HSB := Lib.hid (fun (X : World) (h : Below W.heap.size W X) => hb.kept (Kept.below h))
  have HRB := Lib.hid (fun (X : World) (h : Below W.heap.size W X) => hr.kept (Kept.below h))
  have hle := lets_le hok
  have HBL := Lib.hid hB
  have HSt : Hid (storeM B l a 4 x = put B a (low 4 x)) := by show _ = _; unfold storeM; rw [hB, hok]; rfl
  have HE : Hid (wordE l a 4 2 nb = 0) := by show _ = _; unfold wordE boundsE; rw [hok]; rfl
  have HF : Hid ((fnd l a 4 2).isSome = true) := by show _ = _; unfold lets at hok; simp at hok; exact hok.1
  have HPL : Hid ((put B a (low 4 x)).length = nb) := by show _ = _; rw [put_len _ _ _ (by rw [low_len]; omega)]; exact hB
  have HAt : Hid (∀ i, (put B a (low 4 x)).getD i 0 = if a ≤ i ∧ i < a + 4 then (low 4 x).getD (i - a) 0 else B.getD i 0) := fun i => by
    have := put_at B a (low 4 x) i (by rw [low_len]; omega)
    rw [low_len] at this
    exact this
  have HLd : Hid (loadM (put B a (low 4 x)) l a 4 = if lets l a 4 1 nb then x % 4294967296 else 0) := by
    show _ = _
    have e := get_put B a (low 4 x) (by rw [low_len]; omega)
    rw [low_len] at e
    unfold loadM
    rw [HPL.out, e, un_low _ _ hx.1]
    rfl
  have HMk := Lib.hid (mask4 x hx)
  clear hb hr hB hok
  go_enter Try.func4, Try.ntmps4
  go_wp2_with fail
  refine (known_any W).mono ?_
  rintro e w1 ⟨rfl, hb1⟩
  have HB := Lib.hid hb1
  clear hb1
  go_wp2_with fail
  refine (new_any nb (by omega) w1).mono ?_
  rintro e w2 ⟨g, d, rfl, hg, hd, hm, hb1⟩
  have HG : Hid (W.heap.size ≤ g ∧ W.heap.size ≤ d) := ⟨by have := HB.out.size; omega, by have := HB.out.size; omega⟩
  have HB2 := Lib.hid (hbT HB.out hb1)
  have HM := Lib.hid hm
  clear hg hd hm hb1 HB
  go_wp2_with fail
  refine (put_any HM.out 0 nb cb (by omega) (by omega) (l := B) ((HSB.out w2 HB2.out).imp fun k _ hk => by have := HG.out; omega)).mono ?_
  rintro e w3 ⟨rfl, hm, hk⟩
  have HB3 := Lib.hid (HB2.out.trans (hk.toBelow HB2.out.size (fun k hk e => by have := HG.out; omega)))
  rw [put_zeros HBL.out] at hm
  have HM3 := Lib.hid hm
  clear hm hk HM HB2
  rw [List.length_replicate, range_all]
  go_wp2_with fail
  have hst := store_any (cr := cr) HM3.out (HRB.out w3 HB3.out) (by omega) a 4 x ha (by omega) hx
  rw [HBL.out, HSt.out, HE.out] at hst
  refine hst.mono ?_
  rintro e w4 ⟨rfl, hm, hk⟩
  have HB4 := Lib.hid (HB3.out.trans (hk.toBelow HB3.out.size (fun k hk e => by have := HG.out; omega)))
  have HM4 := Lib.hid hm
  clear hm hk HM3 HB3 hst HSt HE
  go_wp2_with fail
  generalize put B a (low 4 x) = B2 at *
  have hget := get_any HM4.out 0 nb (by omega) (by omega)
  rw [HPL.out, range_all, show getM B2 0 nb = B2 from by rw [← HPL.out, getM_all]] at hget
  refine hget.mono ?_
  rintro e w5 ⟨v, rfl, ht, hb1⟩
  obtain ⟨av, rfl, hv⟩ := ht.row
  rw [HPL.out]
  have HV := Lib.hid hv
  have HB5 := Lib.hid (hbT HB4.out hb1)
  have HM5 := Lib.hid (HM4.out.below hb1 (Nat.le_refl _))
  clear ht hv hb1 HB4 HM4 hget
  go_wp2_with fail
  refine (find_any (c := cr) (HRB.out w5 HB5.out) (by omega) a 4 2 (by omega) (by omega) (by omega)).mono ?_
  rintro e w6 ⟨rfl, hb1⟩
  have HB6 := Lib.hid (hbT HB5.out hb1)
  have HM6 := Lib.hid (HM5.out.below hb1 (Nat.le_refl _))
  have HV6 : Hid (B2 ≠ [] → ∃ k, av = some ⟨k, 0, Option.none⟩ ∧ w6.heap[k]? = some (.cells (ints .u8 B2) 5 (0, 0))) := fun h => by
    obtain ⟨k, e, _, hc⟩ := HV.out h
    exact ⟨k, e, (hb1.block k (lt_of_block hc)).trans hc⟩
  clear hb1 HB5 HM5 HV
  obtain ⟨oi, hoi⟩ : ∃ oi, fnd l a 4 2 = some oi := Option.isSome_iff_exists.1 HF.out
  rw [hoi]
  clear hoi HF
  have hf : decide ((a : Int) + 4 ≤ (nb : Int)) = true := by simp; omega
  have HLe := Lib.hid hle
  clear hle
  go_wp2_with fail
  go_loopw [108] (fun i wr => ∃ k : Nat, k ≤ nb ∧ i = .int .i64 k ∧ Below w6.heap.size w6 wr) (fun i _ => nb - (intOf i).toNat)
  case atStart => exact ⟨0, by omega, rfl, Below.refl _ _⟩
  case round =>
    obtain ⟨k, hk, rfl, hbel⟩ := hrel
    have HBl := Lib.hid hbel
    clear hbel hf
    by_cases hlt : k < nb
    · have k0 : (0 : Int) ≤ k := by omega
      have k1 : (k : Int) < nb := by omega
      have hd : decide ((k : Int) < (nb : Int)) = true := by simp; omega
      have u1 : IntKind.u64.wrap (k : Int) = k := by simp [IntKind.wrap, IntKind.bits, IntKind.signed]; omega
      obtain ⟨kb, rfl, hc⟩ := HV6.out (by rintro rfl; have := HPL.out; simp at this; omega)
      have g1 := row_cell ((HBl.out.block kb (lt_of_block hc)).trans hc) k (by rw [HPL.out]; exact hlt)
      rw [HAt.out k] at g1
      obtain ⟨_, _, hrow⟩ := HSB.out wr (hbT HB6.out HBl.out)
      obtain ⟨rb, off, rfl, _, hcell⟩ := hrow.resolve_left (by omega)
      have g2 := hcell k hlt
      clear hrow hcell hc
      generalize B.getD k 0 = z at *
      by_cases c1 : a ≤ k
      · have d1 : decide ((a : Int) ≤ (k : Int)) = true := by simp; omega
        have n1 : decide (a ≤ k) = true := by simp; omega
        by_cases c2 : k < a + 4
        · have d2 : decide ((k : Int) < (a : Int) + 4) = true := by simp; omega
          have n2 : decide (k < a + 4) = true := by simp; omega
          obtain ⟨j, hj⟩ : ∃ j, k = a + j := ⟨k - a, by omega⟩
          have hj4 : j < 4 := by omega
          rw [if_pos ⟨c1, c2⟩, show k - a = j by omega, low_at 4 j x hj4, show (256 : Int) ^ j = 2 ^ (8 * j) from by rw [Int.pow_mul]; rfl] at g1
          have v0 : IntKind.u32.wrap (k : Int) = k := by simp [IntKind.wrap, IntKind.bits, IntKind.signed]; omega
          have v1 : IntKind.u32.wrap ((k : Int) - a) = (j : Int) := by rw [show (k : Int) - a = j by omega]; simp [IntKind.wrap, IntKind.bits, IntKind.signed]; omega
          have v2 : IntKind.u32.wrap (8 * (j : Int)) = 8 * (j : Int) := by simp [IntKind.wrap, IntKind.bits, IntKind.signed]; omega
          have HJ := Lib.hid hj
          clear c1 c2 hj
          go_wp2_with fail
          go_quiet (fail)
          go_wp2_with fail
          go_roundw
          case rel => exact ⟨k + 1, by omega, by go_num, below_drewN HBl.out _⟩
          case measure => simp [intOf]; omega
        · have d2 : decide ((k : Int) < (a : Int) + 4) = false := by simp; omega
          have n2 : decide (k < a + 4) = false := by simp; omega
          rw [if_neg (by omega)] at g1
          clear c1 c2
          go_wp2_with fail
          go_quiet (fail)
          go_wp2_with fail
          go_roundw
          case rel => exact ⟨k + 1, by omega, by go_num, below_drewN HBl.out _⟩
          case measure => simp [intOf]; omega
      · have d1 : decide ((a : Int) ≤ (k : Int)) = false := by simp; omega
        have n1 : decide (a ≤ k) = false := by simp; omega
        rw [if_neg (by omega)] at g1
        clear c1
        go_wp2_with fail
        go_quiet (fail)
        go_wp2_with fail
        go_roundw
        case rel => exact ⟨k + 1, by omega, by go_num, below_drewN HBl.out _⟩
        case measure => simp [intOf]; omega
    · have hd : decide ((k : Int) < (nb : Int)) = false := by simp; omega
      go_wp2_with fail
      have hld := load_any (cr := cr) (HM6.out.below HBl.out (Nat.le_refl _)) (HRB.out wr (hbT HB6.out HBl.out)) (by omega) a 4 ha (by omega)
      rw [HPL.out, HLd.out] at hld
      cases hl1 : lets l a 4 1 nb with
      | true =>
        rw [show wordE l a 4 1 nb = 0 from by unfold wordE boundsE; rw [hl1]; rfl, hl1] at hld
        refine hld.mono ?_
        rintro e w7 ⟨rfl, hb1⟩
        have HB7 := Lib.hid (hbT (hbT HB6.out HBl.out) hb1)
        clear hb1 hld
        have hmk := HMk.out
        go_wp2_with fail
        go_ret
        exact ⟨by simp, HB7.out⟩
      | false =>
        rw [show wordE l a 4 1 nb = 60 from by unfold wordE boundsE; rw [hl1]; rfl, hl1] at hld
        refine hld.mono ?_
        rintro e w7 ⟨rfl, hb1⟩
        have HB7 := Lib.hid (hbT (hbT HB6.out HBl.out) hb1)
        clear hb1 hld
        go_wp2_with fail
        go_ret
        exact ⟨rfl, HB7.out⟩
end Ram
end Go.Proofs.Ythpimoinognkhaa
