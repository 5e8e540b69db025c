/- The document's own answers: a bit, one of some, bits with one more, whether an instruction is a partition's. -/
import Derived.Test.YtjoiogdckbaeaaaDoorVerMem
import Derived.Test.YtjoiogdckbaeaaaDoorCodeMay
namespace Go.Proofs.YtjoiogdckbaeaaaDoor
open Go.ChangeShapes Go.WideShapes Go.ChangeAt Go.RowKit
namespace Ver
open Isa Flw
set_option linter.unusedVariables false
set_option linter.unusedSimpArgs false
theorem half (rd : Int) (k : Nat) : rd / 2 ^ k / 2 = rd / 2 ^ (k + 1) := by
  rw [Int.pow_succ, Int.ediv_ediv_of_nonneg (Int.pow_nonneg (by omega))]
set_option maxHeartbeats 1000000 in
theorem Bit_any (rd part : Int) (hr : 0 ≤ rd ∧ rd ≤ 4294967295) (hp : -9223372036854775808 ≤ part ∧ part ≤ 9223372036854775807) (w : World) :
    Calls Tryd.prog 42 #[.int .u32 rd, .int .i64 part] w fun e w' => e = .returned (.bool (bit rd part)) ∧ w' = w := by
  by_cases h0 : part < 0
  · have e0 : decide ((0 : Int) < part) = false := decide_eq_false (by omega)
    have e1 : decide ((0 : Int) ≤ part) = false := decide_eq_false (by omega)
    have HB : Hid (bit rd part = false) := by show _ = _; unfold bit; rw [e1]; rfl
    go_enter Tryd.func42, Tryd.ntmps42
    go_wp2_with fail
    refine wp_loop_rounds 1 ?_
    rw [rounds_succ]
    go_wp2_with fail
    go_ret
    exact ⟨by rw [HB.out]; rfl, rfl⟩
  · obtain ⟨n, rfl⟩ := Int.eq_ofNat_of_zero_le (show 0 ≤ part by omega)
    have e1 : decide ((0 : Int) ≤ (n : Int)) = true := decide_eq_true (by omega)
    have HB : Hid (bit rd n = decide (rd / 2 ^ n % 2 = 1)) := by show _ = _; unfold bit; rw [e1, Int.toNat_natCast]; rfl
    go_enter Tryd.func42, Tryd.ntmps42
    go_wp2_with fail
    go_loopw [0, 5] (fun x i wr => ∃ k : Nat, k ≤ n ∧ i = .int .i64 k ∧ x = .int .u32 (rd / 2 ^ k) ∧ wr = w) (fun _ i _ => n - (intOf i).toNat)
    case atStart => exact ⟨0, by omega, rfl, by simp, rfl⟩
    case round =>
      obtain ⟨k, hk, rfl, rfl, rfl⟩ := hrel
      have HH := Lib.hid (half rd k)
      have hq : 0 ≤ rd / 2 ^ k := Int.ediv_nonneg hr.1 (Int.pow_nonneg (by omega))
      have hq2 : rd / 2 ^ k ≤ rd := Int.ediv_le_self _ hr.1
      by_cases hlt : k < n
      · have k0 : (0 : Int) ≤ k := by omega
        have k1 : (k : Int) < n := by omega
        have hd : decide ((k : Int) < (n : Int)) = true := decide_eq_true (by omega)
        have hd2 : decide (k < n) = true := decide_eq_true hlt
        obtain ⟨q, hqq⟩ : ∃ q, rd / 2 ^ k = q := ⟨_, rfl⟩
        rw [hqq] at hq hq2 HH ⊢
        clear hqq
        go_wp2_with fail
        go_roundw
        case rel => exact ⟨k + 1, by omega, by go_num, by rw [← HH.out], by first | trivial | rfl⟩
        case measure => simp [intOf]; omega
      · have hd : decide ((k : Int) < (n : Int)) = false := decide_eq_false (by omega)
        have hd2 : decide (k < n) = false := decide_eq_false hlt
        obtain rfl : k = n := by omega
        obtain ⟨q, hqq⟩ : ∃ q, rd / 2 ^ k = q := ⟨_, rfl⟩
        rw [hqq] at hq hq2 HB ⊢
        clear hqq HH
        go_wp2_with fail
        go_ret
        exact ⟨ret_bool (by rw [HB.out]; first | rfl | (rw [Bool.eq_iff_iff]; simp)), by first | trivial | rfl⟩
theorem one_any (rd part : Int) (hr : 0 ≤ rd ∧ rd ≤ 4294967295) (hp : -9223372036854775808 ≤ part ∧ part ≤ 9223372036854775807) (w : World) :
    Calls Tryd.prog 41 #[.int .u32 rd, .int .i64 part] w fun e w' => e = .returned (.bool (oneB rd part)) ∧ w' = w := by
  have HBit := Lib.hid (Bit_any rd part hr hp w)
  unfold oneB
  generalize bit rd part = bt at *
  by_cases h : part < 32
  · have hd : decide (part < 32) = true := decide_eq_true h
    rw [hd]
    clear h
    go_enter Tryd.func41, Tryd.ntmps41
    go_wp2_with fail
    refine HBit.out.mono ?_
    rintro e w1 ⟨rfl, hw⟩
    subst hw
    go_wp2_with fail
    go_ret
    exact ⟨ret_bool (by simp), rfl⟩
  · have hd : decide (part < 32) = false := decide_eq_false h
    rw [hd]
    clear h
    go_enter Tryd.func41, Tryd.ntmps41
    go_wp2_with fail
    go_ret
    exact ⟨ret_bool (by simp), rfl⟩
set_option maxHeartbeats 1000000 in
/-- bits with one more -/
theorem with_any (N j : Nat) (hN : N < 4294967296) (hj : j < 32) (hs : N + 2 ^ j < 4294967296 ∨ N.testBit j = true) (w : World) :
    Calls Tryd.prog 22 #[.int .u32 (N : Int), .int .u8 (j : Int)] w fun e w' => e = .returned (.int .u32 ((if N.testBit j = true then N else N + 2 ^ j : Nat) : Int)) ∧ w' = w := by
  have HBit := Lib.hid (Bit_any (N : Int) (j : Int) (by omega) (by omega) w)
  rw [bit_nat] at HBit
  have hcv : IntKind.i64.wrap (j : Int) = (j : Int) := by simp [IntKind.wrap, IntKind.bits, IntKind.signed]; omega
  cases hb : N.testBit j with
  | true =>
    rw [hb] at HBit
    rw [if_pos rfl]
    clear hs hb
    go_enter Tryd.func22, Tryd.ntmps22
    go_wp2_with fail
    refine HBit.out.mono ?_
    rintro e w1 ⟨rfl, hw⟩
    subst hw
    go_wp2_with fail
    go_ret
    exact ⟨rfl, rfl⟩
  | false =>
    rw [hb] at HBit hs
    rw [if_neg (by simp)]
    have hs2 : N + 2 ^ j < 4294967296 := by
      rcases hs with q | q
      · exact q
      · cases q
    have HS := Lib.hid hs2
    clear hs hb hs2
    go_enter Tryd.func22, Tryd.ntmps22
    go_wp2_with fail
    refine HBit.out.mono ?_
    rintro e w1 ⟨rfl, hw⟩
    subst hw
    go_wp2_with fail
    go_loopw [5, 6] (fun x i wr => ∃ k : Nat, k ≤ j ∧ i = .int .u8 (k : Nat) ∧ x = .int .u32 ((2 ^ k : Nat) : Int) ∧ wr = w1) (fun _ i _ => j - (intOf i).toNat)
    case atStart => exact ⟨0, by omega, rfl, by simp, rfl⟩
    case round =>
      obtain ⟨k, hk, rfl, rfl, rfl⟩ := hrel
      by_cases hlt : k < j
      · have k0 : (0 : Int) ≤ k := by omega
        have k1 : (k : Int) < j := by omega
        have hd : decide ((k : Int) < (j : Int)) = true := decide_eq_true (by omega)
        have hd2 : decide (k < j) = true := decide_eq_true hlt
        have hp : 2 ^ (k + 1) ≤ 2 ^ j := Nat.pow_le_pow_right (by omega) (by omega)
        have h32 : 2 ^ j < 4294967296 := by have := HS.out; omega
        obtain ⟨q, hq⟩ : ∃ q, 2 ^ k = q := ⟨_, rfl⟩
        have HQ : Hid (2 ^ (k + 1) = 2 * q) := by show _ = _; rw [Nat.pow_succ, hq]; omega
        rw [HQ.out] at hp
        rw [hq]
        have hwr : IntKind.u32.wrap (2 * (q : Int)) = ((2 * q : Nat) : Int) := by simp [IntKind.wrap, IntKind.bits, IntKind.signed]; omega
        have hw8 : IntKind.u8.wrap ((k : Int) + 1) = ((k + 1 : Nat) : Int) := by simp [IntKind.wrap, IntKind.bits, IntKind.signed]; omega
        clear hq hp h32
        go_wp2_with fail
        exact ⟨⟨k + 1, by omega, by first | rfl | simp, by rw [HQ.out]; first | rfl | simp, by first | trivial | rfl⟩, by simp [intOf]; omega⟩
      · have hd : decide ((k : Int) < (j : Int)) = false := decide_eq_false (by omega)
        have hd2 : decide (k < j) = false := decide_eq_false hlt
        obtain rfl : k = j := by omega
        obtain ⟨q, hq⟩ : ∃ q, 2 ^ k = q := ⟨_, rfl⟩
        rw [hq] at HS ⊢
        have hwr : IntKind.u32.wrap ((N : Int) + (q : Int)) = ((N + q : Nat) : Int) := by have := HS.out; simp [IntKind.wrap, IntKind.bits, IntKind.signed]; omega
        have HQ := Lib.hid hq
        clear hq
        go_wp2_with fail
        go_ret
        exact ⟨by rw [HQ.out]; first | rfl | (simp; done), by first | trivial | rfl⟩
theorem cells3 {X : World} {V : Nat} {v0 v1 v2 : Value} {t : TypeId} {fr : Nat × Nat} (h : X.heap[V]? = some (.cells #[v0, v1, v2] t fr)) :
    X.cell? ⟨V, 0, none⟩ = some v0 ∧ X.cell? ⟨V, 1, none⟩ = some v1 ∧ X.cell? ⟨V, 2, none⟩ = some v2 := ⟨cells_at h 0, cells_at h 1, cells_at h 2⟩
theorem cfg_cells {W : World} {S : Nat} {m : Cm} {t : TypeId} (h : W.heap[S]? = some (.cells m.cells t (0, 0))) :
    W.cell? ⟨S, 1, none⟩ = some (.slice m.ap m.np m.cp) ∧ W.cell? ⟨S, 2, none⟩ = some (.slice m.aq m.nq m.cq) ∧ W.cell? ⟨S, 3, none⟩ = some (.int .i64 m.ins) ∧ W.cell? ⟨S, 4, none⟩ = some (.slice m.sa m.ns m.cs) ∧ W.cell? ⟨S, 5, none⟩ = some (.int .u32 m.fr) ∧ W.cell? ⟨S, 6, none⟩ = some (.int .i64 m.fw) := by
  refine ⟨?_, ?_, ?_, ?_, ?_, ?_⟩ <;> (rw [cell_of_row _ _ _ _ _ _ h]; rfl)
theorem own_port {i : Iv} {part : Int} {c : Cf} (h : pOp i.op = true) (k : Nat) (hk : i.a = (k : Int)) : ownE i part c = if k < c.po.length ∧ mayP i part (c.po.getD k pz) = true then 0 else 140 := by
  unfold ownE
  rw [if_pos h, hk, Int.toNat_natCast]
  by_cases q : k < c.po.length
  · have q2 : (k : Int) < (c.po.length : Int) := by omega
    by_cases q3 : mayP i part (c.po.getD k pz) = true
    · rw [if_pos ⟨q2, q3⟩, if_pos ⟨q, q3⟩]
    · rw [if_neg (fun z => q3 z.2), if_neg (fun z => q3 z.2)]
  · rw [if_neg (fun z => q (by omega)), if_neg (fun z => q z.1)]
set_option maxRecDepth 100000 in
set_option maxHeartbeats 6400000 in
theorem rown_any (i : Iv) (hi : i.wf) (part : Int) (hp : -9223372036854775808 ≤ part ∧ part ≤ 9223372036854775807) (m : Cm) (ds : List Pd) (c : Cf) (w : World) (h : CfIn w m ds c) :
    Calls Tryd.prog 21 #[iv i, .int .i64 part, m.val] w fun e w' => e = .returned (.int .i64 (ownE i part c)) ∧ Below w.heap.size w w' := by
  obtain ⟨hop, ha, hb, hc⟩ := hi
  obtain ⟨op, a, b, cc⟩ := i
  simp only at hop ha hb hc
  obtain ⟨k, rfl⟩ := Int.eq_ofNat_of_zero_le ha.1
  obtain ⟨S, hS⟩ : ∃ S, w.heap.size = S := ⟨_, rfl⟩
  have HS := Lib.hid hS
  have HX : Hid (((w.alloc (.cells #[.int .u8 op, .int .u8 (k : Int), .int .u16 b, .int .u32 cc] 55)).alloc (.cells m.cells 33)).heap[S]? = some (.cells #[.int .u8 op, .int .u8 (k : Int), .int .u16 b, .int .u32 cc] 55 (0, 0))) := by
    show _ = _
    rw [← hS]
    exact (Below.heap_alloc _ _ _ (by simp)).trans (alloc_new w _)
  have HY : Hid (((w.alloc (.cells #[.int .u8 op, .int .u8 (k : Int), .int .u16 b, .int .u32 cc] 55)).alloc (.cells m.cells 33)).heap[S + 1]? = some (.cells m.cells 33 (0, 0))) := by
    have := alloc_new (w.alloc (.cells #[.int .u8 op, .int .u8 (k : Int), .int .u16 b, .int .u32 cc] 55)) (.cells m.cells 33)
    rwa [World.size_alloc, hS] at this
  have HB : Hid (Below S w ((w.alloc (.cells #[.int .u8 op, .int .u8 (k : Int), .int .u16 b, .int .u32 cc] 55)).alloc (.cells m.cells 33))) := by
    show Below _ _ _
    rw [← hS]
    exact ((Below.refl _ w).alloc (Nat.le_refl _) _).alloc (by simp) _
  have HZ : Hid (((w.alloc (.cells #[.int .u8 op, .int .u8 (k : Int), .int .u16 b, .int .u32 cc] 55)).alloc (.cells m.cells 33)).heap.size = S + 2) := by
    show _ = _
    rw [World.size_alloc, World.size_alloc, hS]
  have HCf := Lib.hid (fun X (hb : Below S w X) => h.below hb (by omega))
  have HC0 := Lib.hid h
  have hcv : IntKind.i64.wrap (k : Int) = (k : Int) := by simp [IntKind.wrap, IntKind.bits, IntKind.signed]; omega
  have hcb : IntKind.i64.wrap b = b := by simp [IntKind.wrap, IntKind.bits, IntKind.signed]; omega
  clear h
  unfold iv Cm.val
  unfold Cm.cells at *
  go_enter Tryd.func21, Tryd.ntmps21
  go_upto_region 1 with fail
  clear hS
  generalize (w.alloc (.cells #[.int .u8 op, .int .u8 (k : Int), .int .u16 b, .int .u32 cc] 55)).alloc (.cells #[.int .u32 m.mem, .slice m.ap m.np m.cp, .slice m.aq m.nq m.cq, .int .i64 m.ins, .slice m.sa m.ns m.cs, .int .u32 m.fr, .int .i64 m.fw, .int .u32 m.fl, .int .u32 m.fs, .slice m.al m.nl m.cl, .int .i64 m.vi, .int .u8 m.dg, .int .i64 m.rq, .int .i64 m.sg] 33) = X at *
  obtain ⟨x0, x1, x2, x3⟩ := cells4 HX.out
  obtain ⟨y1, y2, y3, y4, y5, y6⟩ := cfg_cells (m := m) HY.out
  by_cases h23 : op = 23
  · subst h23
    have HPo := own_port (i := ⟨23, (k : Int), b, cc⟩) (part := part) (c := c) rfl k rfl
    by_cases hk : k < m.nq
    · have hd : decide ((m.nq : Int) ≤ (k : Int)) = false := decide_eq_false (by omega)
      have hdN : (m.nq ≤ k) = False := eq_false (by omega)
      obtain ⟨pb, po, e1, hat, hwf⟩ := (HCf.out X HB.out).pt.at k hk
      have hkl : k < c.po.length := by have := HC0.out.pt.1; omega
      simp only [hkl, true_and] at HPo
      generalize c.po.getD k pz = d at *
      obtain ⟨dw, dr, dd⟩ := d
      unfold PtAt at hat
      simp only at hat
      obtain ⟨t0, t1, t2⟩ := hat
      rw [e1] at y2
      have k0 : (0 : Int) ≤ k := by omega
      have k1 : (k : Int) < m.nq := by omega
      have hrd : 0 ≤ dd ∧ dd ≤ 4294967295 := hwf.2.2
      have HOne := Lib.hid (fun W => one_any dd part hrd hp W)
      have HXX : Hid (Below S w (X.alloc (.cells #[.int .i64 dw, .int .i64 dr, .int .u32 dd] 48))) := HB.out.alloc (by have := HZ.out; omega) _
      obtain ⟨B1, hB1⟩ : ∃ B1, decide (dr = part) = B1 := ⟨_, rfl⟩
      have hq1 : (dr == part) = B1 := by rw [← hB1]; rfl
      obtain ⟨B3, hB3⟩ : ∃ B3, decide (b < dw) = B3 := ⟨_, rfl⟩
      have hq3 : decide (dw ≤ b) = !B3 := by rw [← hB3]; by_cases q : b < dw <;> simp [q] <;> omega
      have HR : Hid (ownE ⟨23, (k : Int), b, cc⟩ part c = if (B1 || oneB dd part) && B3 = true then 0 else 140) := by
        show _ = _
        rw [HPo]
        unfold mayP
        simp only [hB1, hB3]
        simp
      clear HPo hwf hB1 hB3 e1 hdN
      generalize oneB dd part = B2 at *
      have hx2 := alloc_new X (.cells #[.int .i64 dw, .int .i64 dr, .int .u32 dd] 48)
      have hx3 : (X.alloc (.cells #[.int .i64 dw, .int .i64 dr, .int .u32 dd] 48)).heap[S]? = _ := (Below.heap_alloc X _ _ (by have := HZ.out; omega)).trans HX.out
      have hz := HZ.out
      rw [hz] at hx2
      go_upto_region 10 with fail
      generalize X.alloc (.cells #[.int .i64 dw, .int .i64 dr, .int .u32 dd] 48) = X2 at *
      obtain ⟨u0, u1, u2⟩ := cells3 hx2
      obtain ⟨v0, v1, v2, v3⟩ := cells4 hx3
      clear x0 x1 x2 x3 y1 y2 y3 y4 y5 y6 t0 t1 t2 hx2 hx3 hz
      go_wp2_with fail
      refine (HOne.out _).mono ?_
      rintro e w1 ⟨rfl, hw⟩
      subst w1
      cases B1 <;> cases B2 <;> cases B3
      all_goals
        go_wp2_with fail
        go_ret
        exact ⟨by rw [HR.out]; rfl, by rw [HS.out]; exact HXX.out⟩
    · have hd : decide ((m.nq : Int) ≤ (k : Int)) = true := decide_eq_true (by omega)
      have hdN : (m.nq ≤ k) = True := eq_true (by omega)
      have HR : Hid (ownE ⟨23, (k : Int), b, cc⟩ part c = 140) := by
        show _ = _
        rw [HPo, if_neg (by have := HC0.out.pt.1; omega)]
      clear HPo
      go_wp2_with fail
      go_ret
      exact ⟨by rw [HR.out]; rfl, by rw [HS.out]; exact HB.out⟩
  by_cases h24 : op = 24
  · subst h24
    have HPo := own_port (i := ⟨24, (k : Int), b, cc⟩) (part := part) (c := c) rfl k rfl
    by_cases hk : k < m.nq
    · have hd : decide ((m.nq : Int) ≤ (k : Int)) = false := decide_eq_false (by omega)
      have hdN : (m.nq ≤ k) = False := eq_false (by omega)
      obtain ⟨pb, po, e1, hat, hwf⟩ := (HCf.out X HB.out).pt.at k hk
      have hkl : k < c.po.length := by have := HC0.out.pt.1; omega
      simp only [hkl, true_and] at HPo
      generalize c.po.getD k pz = d at *
      obtain ⟨dw, dr, dd⟩ := d
      unfold PtAt at hat
      simp only at hat
      obtain ⟨t0, t1, t2⟩ := hat
      rw [e1] at y2
      have k0 : (0 : Int) ≤ k := by omega
      have k1 : (k : Int) < m.nq := by omega
      have hrd : 0 ≤ dd ∧ dd ≤ 4294967295 := hwf.2.2
      have HOne := Lib.hid (fun W => one_any dd part hrd hp W)
      have HXX : Hid (Below S w (X.alloc (.cells #[.int .i64 dw, .int .i64 dr, .int .u32 dd] 48))) := HB.out.alloc (by have := HZ.out; omega) _
      obtain ⟨B1, hB1⟩ : ∃ B1, decide (dr = part) = B1 := ⟨_, rfl⟩
      have hq1 : (dr == part) = B1 := by rw [← hB1]; rfl
      obtain ⟨B3, hB3⟩ : ∃ B3, decide (b < dw) = B3 := ⟨_, rfl⟩
      have hq3 : decide (dw ≤ b) = !B3 := by rw [← hB3]; by_cases q : b < dw <;> simp [q] <;> omega
      have HR : Hid (ownE ⟨24, (k : Int), b, cc⟩ part c = if (B1 || oneB dd part) = true then 0 else 140) := by
        show _ = _
        rw [HPo]
        unfold mayP
        simp only [hB1, hB3]
        simp
      clear HPo hwf hB1 hB3 e1 hdN
      generalize oneB dd part = B2 at *
      have hx2 := alloc_new X (.cells #[.int .i64 dw, .int .i64 dr, .int .u32 dd] 48)
      have hx3 : (X.alloc (.cells #[.int .i64 dw, .int .i64 dr, .int .u32 dd] 48)).heap[S]? = _ := (Below.heap_alloc X _ _ (by have := HZ.out; omega)).trans HX.out
      have hz := HZ.out
      rw [hz] at hx2
      go_upto_region 10 with fail
      generalize X.alloc (.cells #[.int .i64 dw, .int .i64 dr, .int .u32 dd] 48) = X2 at *
      obtain ⟨u0, u1, u2⟩ := cells3 hx2
      obtain ⟨v0, v1, v2, v3⟩ := cells4 hx3
      clear x0 x1 x2 x3 y1 y2 y3 y4 y5 y6 t0 t1 t2 hx2 hx3 hz
      go_wp2_with fail
      refine (HOne.out _).mono ?_
      rintro e w1 ⟨rfl, hw⟩
      subst w1
      cases B1 <;> cases B2
      all_goals
        go_wp2_with fail
        go_ret
        exact ⟨by rw [HR.out]; rfl, by rw [HS.out]; exact HXX.out⟩
    · have hd : decide ((m.nq : Int) ≤ (k : Int)) = true := decide_eq_true (by omega)
      have hdN : (m.nq ≤ k) = True := eq_true (by omega)
      have HR : Hid (ownE ⟨24, (k : Int), b, cc⟩ part c = 140) := by
        show _ = _
        rw [HPo, if_neg (by have := HC0.out.pt.1; omega)]
      clear HPo
      go_wp2_with fail
      go_ret
      exact ⟨by rw [HR.out]; rfl, by rw [HS.out]; exact HB.out⟩
  by_cases h25 : op = 25
  · subst h25
    have HPo := own_port (i := ⟨25, (k : Int), b, cc⟩) (part := part) (c := c) rfl k rfl
    by_cases hk : k < m.nq
    · have hd : decide ((m.nq : Int) ≤ (k : Int)) = false := decide_eq_false (by omega)
      have hdN : (m.nq ≤ k) = False := eq_false (by omega)
      obtain ⟨pb, po, e1, hat, hwf⟩ := (HCf.out X HB.out).pt.at k hk
      have hkl : k < c.po.length := by have := HC0.out.pt.1; omega
      simp only [hkl, true_and] at HPo
      generalize c.po.getD k pz = d at *
      obtain ⟨dw, dr, dd⟩ := d
      unfold PtAt at hat
      simp only at hat
      obtain ⟨t0, t1, t2⟩ := hat
      rw [e1] at y2
      have k0 : (0 : Int) ≤ k := by omega
      have k1 : (k : Int) < m.nq := by omega
      have hrd : 0 ≤ dd ∧ dd ≤ 4294967295 := hwf.2.2
      have HOne := Lib.hid (fun W => one_any dd part hrd hp W)
      have HXX : Hid (Below S w (X.alloc (.cells #[.int .i64 dw, .int .i64 dr, .int .u32 dd] 48))) := HB.out.alloc (by have := HZ.out; omega) _
      obtain ⟨B1, hB1⟩ : ∃ B1, decide (dr = part) = B1 := ⟨_, rfl⟩
      have hq1 : (dr == part) = B1 := by rw [← hB1]; rfl
      obtain ⟨B3, hB3⟩ : ∃ B3, decide (b < dw) = B3 := ⟨_, rfl⟩
      have hq3 : decide (dw ≤ b) = !B3 := by rw [← hB3]; by_cases q : b < dw <;> simp [q] <;> omega
      have HR : Hid (ownE ⟨25, (k : Int), b, cc⟩ part c = if (B1) && B3 = true then 0 else 140) := by
        show _ = _
        rw [HPo]
        unfold mayP
        simp only [hB1, hB3]
        simp
      clear HPo hwf hB1 hB3 e1 hdN
      generalize oneB dd part = B2 at *
      have hx2 := alloc_new X (.cells #[.int .i64 dw, .int .i64 dr, .int .u32 dd] 48)
      have hx3 : (X.alloc (.cells #[.int .i64 dw, .int .i64 dr, .int .u32 dd] 48)).heap[S]? = _ := (Below.heap_alloc X _ _ (by have := HZ.out; omega)).trans HX.out
      have hz := HZ.out
      rw [hz] at hx2
      go_upto_region 10 with fail
      generalize X.alloc (.cells #[.int .i64 dw, .int .i64 dr, .int .u32 dd] 48) = X2 at *
      obtain ⟨u0, u1, u2⟩ := cells3 hx2
      obtain ⟨v0, v1, v2, v3⟩ := cells4 hx3
      clear x0 x1 x2 x3 y1 y2 y3 y4 y5 y6 t0 t1 t2 hx2 hx3 hz
      cases B1 <;> cases B3
      all_goals
        go_wp2_with fail
        go_ret
        exact ⟨by rw [HR.out]; rfl, by rw [HS.out]; exact HXX.out⟩
    · have hd : decide ((m.nq : Int) ≤ (k : Int)) = true := decide_eq_true (by omega)
      have hdN : (m.nq ≤ k) = True := eq_true (by omega)
      have HR : Hid (ownE ⟨25, (k : Int), b, cc⟩ part c = 140) := by
        show _ = _
        rw [HPo, if_neg (by have := HC0.out.pt.1; omega)]
      clear HPo
      go_wp2_with fail
      go_ret
      exact ⟨by rw [HR.out]; rfl, by rw [HS.out]; exact HB.out⟩
  by_cases h26 : op = 26
  · subst h26
    have HPo := own_port (i := ⟨26, (k : Int), b, cc⟩) (part := part) (c := c) rfl k rfl
    by_cases hk : k < m.nq
    · have hd : decide ((m.nq : Int) ≤ (k : Int)) = false := decide_eq_false (by omega)
      have hdN : (m.nq ≤ k) = False := eq_false (by omega)
      obtain ⟨pb, po, e1, hat, hwf⟩ := (HCf.out X HB.out).pt.at k hk
      have hkl : k < c.po.length := by have := HC0.out.pt.1; omega
      simp only [hkl, true_and] at HPo
      generalize c.po.getD k pz = d at *
      obtain ⟨dw, dr, dd⟩ := d
      unfold PtAt at hat
      simp only at hat
      obtain ⟨t0, t1, t2⟩ := hat
      rw [e1] at y2
      have k0 : (0 : Int) ≤ k := by omega
      have k1 : (k : Int) < m.nq := by omega
      have hrd : 0 ≤ dd ∧ dd ≤ 4294967295 := hwf.2.2
      have HOne := Lib.hid (fun W => one_any dd part hrd hp W)
      have HXX : Hid (Below S w (X.alloc (.cells #[.int .i64 dw, .int .i64 dr, .int .u32 dd] 48))) := HB.out.alloc (by have := HZ.out; omega) _
      obtain ⟨B1, hB1⟩ : ∃ B1, decide (dr = part) = B1 := ⟨_, rfl⟩
      have hq1 : (dr == part) = B1 := by rw [← hB1]; rfl
      obtain ⟨B3, hB3⟩ : ∃ B3, decide (b < dw) = B3 := ⟨_, rfl⟩
      have hq3 : decide (dw ≤ b) = !B3 := by rw [← hB3]; by_cases q : b < dw <;> simp [q] <;> omega
      have HR : Hid (ownE ⟨26, (k : Int), b, cc⟩ part c = if (B1) = true then 0 else 140) := by
        show _ = _
        rw [HPo]
        unfold mayP
        simp only [hB1, hB3]
        simp
      clear HPo hwf hB1 hB3 e1 hdN
      generalize oneB dd part = B2 at *
      have hx2 := alloc_new X (.cells #[.int .i64 dw, .int .i64 dr, .int .u32 dd] 48)
      have hx3 : (X.alloc (.cells #[.int .i64 dw, .int .i64 dr, .int .u32 dd] 48)).heap[S]? = _ := (Below.heap_alloc X _ _ (by have := HZ.out; omega)).trans HX.out
      have hz := HZ.out
      rw [hz] at hx2
      go_upto_region 10 with fail
      generalize X.alloc (.cells #[.int .i64 dw, .int .i64 dr, .int .u32 dd] 48) = X2 at *
      obtain ⟨u0, u1, u2⟩ := cells3 hx2
      obtain ⟨v0, v1, v2, v3⟩ := cells4 hx3
      clear x0 x1 x2 x3 y1 y2 y3 y4 y5 y6 t0 t1 t2 hx2 hx3 hz
      cases B1
      all_goals
        go_wp2_with fail
        go_ret
        exact ⟨by rw [HR.out]; rfl, by rw [HS.out]; exact HXX.out⟩
    · have hd : decide ((m.nq : Int) ≤ (k : Int)) = true := decide_eq_true (by omega)
      have hdN : (m.nq ≤ k) = True := eq_true (by omega)
      have HR : Hid (ownE ⟨26, (k : Int), b, cc⟩ part c = 140) := by
        show _ = _
        rw [HPo, if_neg (by have := HC0.out.pt.1; omega)]
      clear HPo
      go_wp2_with fail
      go_ret
      exact ⟨by rw [HR.out]; rfl, by rw [HS.out]; exact HB.out⟩
  by_cases h21 : op = 21
  · subst h21
    have hwr : 0 ≤ m.fr ∧ m.fr ≤ 4294967295 := HC0.out.wr
    have HOne := Lib.hid (fun W => one_any m.fr part hwr hp W)
    have HR : Hid (ownE ⟨21, (k : Int), b, cc⟩ part c = if decide ((k : Int) < m.ins) && oneB m.fr part = true then 0 else 141) := by
      show _ = _
      unfold ownE pOp
      rw [HC0.out.ins, HC0.out.fr]
      simp
    clear hwr
    generalize oneB m.fr part = B2 at *
    by_cases hk : (k : Int) < m.ins
    · have hd : decide (m.ins ≤ (k : Int)) = false := decide_eq_false (by omega)
      have hd2 : decide ((k : Int) < m.ins) = true := decide_eq_true hk
      rw [hd2] at HR
      clear hk hd2
      go_wp2_with fail
      refine (HOne.out _).mono ?_
      rintro e w1 ⟨rfl, hw⟩
      subst w1
      cases B2
      all_goals
        go_wp2_with fail
        go_ret
        exact ⟨by rw [HR.out]; rfl, by rw [HS.out]; exact HB.out⟩
    · have hd : decide (m.ins ≤ (k : Int)) = true := decide_eq_true (by omega)
      have hd2 : decide ((k : Int) < m.ins) = false := decide_eq_false hk
      rw [hd2] at HR
      clear hk hd2
      go_wp2_with fail
      go_ret
      exact ⟨by rw [HR.out]; rfl, by rw [HS.out]; exact HB.out⟩
  by_cases h22 : op = 22
  · subst h22
    have HR : Hid (ownE ⟨22, (k : Int), b, cc⟩ part c = if decide (k < m.ns) && decide (m.fw = part) = true then 0 else 141) := by
      show _ = _
      unfold ownE pOp
      rw [HC0.out.ns, HC0.out.fw]
      simp
    obtain ⟨B1, hB1⟩ : ∃ B1, decide (m.fw = part) = B1 := ⟨_, rfl⟩
    have hq1 : (m.fw != part) = !B1 := by rw [← hB1]; by_cases q : m.fw = part <;> simp [q]
    rw [hB1] at HR
    by_cases hk : k < m.ns
    · have hd : decide ((m.ns : Int) ≤ (k : Int)) = false := decide_eq_false (by omega)
      have hdN : (m.ns ≤ k) = False := eq_false (by omega)
      rw [decide_eq_true hk] at HR
      clear hk hB1
      cases B1
      all_goals
        go_wp2_with fail
        go_ret
        exact ⟨by rw [HR.out]; rfl, by rw [HS.out]; exact HB.out⟩
    · have hd : decide ((m.ns : Int) ≤ (k : Int)) = true := decide_eq_true (by omega)
      have hdN : (m.ns ≤ k) = True := eq_true (by omega)
      rw [decide_eq_false hk] at HR
      clear hk hB1 hq1
      go_wp2_with fail
      go_ret
      exact ⟨by rw [HR.out]; rfl, by rw [HS.out]; exact HB.out⟩
  have HR : Hid (ownE ⟨op, (k : Int), b, cc⟩ part c = 0) := by
    show _ = _
    unfold ownE pOp
    have e : (decide (23 ≤ op) && decide (op ≤ 26)) = false := by
      rw [Bool.and_eq_false_iff, decide_eq_false_iff_not, decide_eq_false_iff_not]; omega
    simp only [e]
    rw [if_neg (by simp), if_neg h21, if_neg h22]
  have n23 : (op == 23) = false := by simpa using h23
  have n24 : (op == 24) = false := by simpa using h24
  have n25 : (op == 25) = false := by simpa using h25
  have n26 : (op == 26) = false := by simpa using h26
  have n21 : (op == 21) = false := by simpa using h21
  have n22 : (op == 22) = false := by simpa using h22
  clear h23 h24 h25 h26 h21 h22
  go_wp2_with fail
  go_ret
  exact ⟨by rw [HR.out]; rfl, by rw [HS.out]; exact HB.out⟩
end Ver
end Go.Proofs.YtjoiogdckbaeaaaDoor
