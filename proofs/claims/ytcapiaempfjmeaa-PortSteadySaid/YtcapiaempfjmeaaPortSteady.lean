/- The statement PortSteady holds: whatever definitions, whatever script and whatever frame of calls are handed in, the call answers true, and what was handed in reads as it did. No condition. (Made by tools/gen_portsteady.py.) -/
import Derived.Test.YtcapiaempfjmeaaPortSent
namespace Go.Proofs.Ytcapiaempfjmeaa
open Go.ChangeShapes Go.WideShapes Go.ChangeAt Go.RowKit
namespace Prt
namespace Steady
set_option linter.unusedVariables false
set_option linter.unusedSimpArgs false
set_option maxHeartbeats 8000000
set_option maxRecDepth 100000
theorem fk_set {A B0 : Nat → Bool} {k n : Nat} {b : Bool} (h : A k = b) : ∀ j, j < n → (if j < k + 1 then A j else B0 j) = if j = k then b else (if j < k then A j else B0 j) := by
  intro j hj
  by_cases e : j = k
  · subst e; rw [if_pos (by omega), if_pos rfl, h]
  · rw [if_neg e]
    by_cases hl : j < k
    · rw [if_pos (by omega), if_pos hl]
    · rw [if_neg (by omega), if_neg hl]
theorem fk_same {A B0 : Nat → Bool} {k n : Nat} (h : A k = B0 k) : ∀ j, j < n → (if j < k then A j else B0 j) = if j < k + 1 then A j else B0 j := by
  intro j hj
  by_cases e : j = k
  · subst e; rw [if_neg (by omega), if_pos (by omega), h]
  · by_cases hl : j < k
    · rw [if_pos hl, if_pos (by omega)]
    · rw [if_neg hl, if_neg (by omega)]
theorem walk (W : World) (a0 : Option Addr) (n0 c0 : Nat) (l : List Df) (h0 : FRow (fun k => W.heap.size ≤ k) W a0 n0 l) (hc0 : n0 ≤ c0 ∧ c0 ≤ 9223372036854775807)
    (a1 : Option Addr) (n1 c1 : Nat) (D : List Dv) (h1 : DRow (fun k => W.heap.size ≤ k) W a1 n1 D) (hc1 : n1 ≤ c1 ∧ c1 ≤ 9223372036854775807)
    (a2 : Option Addr) (n2 c2 : Nat) (F : List Dv) (h2 : DRow (fun k => W.heap.size ≤ k) W a2 n2 F) (hc2 : n2 ≤ c2 ∧ c2 ≤ 9223372036854775807) :
    Calls Try.prog 4 #[.slice a0 n0 c0, .slice a1 n1 c1, .slice a2 n2 c2] W fun e w' => e = .returned (.bool true) ∧ Below W.heap.size W w' := by
  have hbT : ∀ {X Y : World}, Below W.heap.size W X → Below X.heap.size X Y → Below W.heap.size W Y := fun h k => h.trans (k.mono h.size)
  have HF := Lib.hid (fun (X : World) (h : Below W.heap.size W X) => h0.kept (Kept.below h))
  have HD := Lib.hid (fun (X : World) (h : Below W.heap.size W X) => h1.kept (Kept.below h))
  have HG := Lib.hid (fun (X : World) (h : Below W.heap.size W X) => h2.kept (Kept.below h))
  have HL : Hid (l.length = n0) := h0.1
  have HFl : Hid (F.length = n2) := h2.1
  clear h0 h1 h2
  by_cases g1 : 100 < n0
  · have e1 : decide ((100 : Int) < (n0 : Int)) = true := decide_eq_true (by omega)
    go_enter Try.func4, Try.ntmps4
    go_wp2_with (go_at_call 6; refine (known_any W).mono ?_; rintro e w1 ⟨rfl, hb1⟩)
    go_ret
    exact ⟨rfl, hb1⟩
  have e1 : decide ((100 : Int) < (n0 : Int)) = false := decide_eq_false (by omega)
  obtain ⟨sm, hsm⟩ : ∃ sm, IntKind.i64.wrap ((n1 : Int) + (n2 : Int)) = sm := ⟨_, rfl⟩
  by_cases g2 : 1000 < sm
  · have e2 : decide ((1000 : Int) < sm) = true := decide_eq_true g2
    go_enter Try.func4, Try.ntmps4
    go_wp2_with (go_at_call 6; refine (known_any W).mono ?_; rintro e w1 ⟨rfl, hb1⟩)
    go_ret
    exact ⟨rfl, hb1⟩
  have e2 : decide ((1000 : Int) < sm) = false := decide_eq_false g2
  cases hm : mayL l with
  | false =>
    have HM := Lib.hid hm
    clear hm
    go_enter Try.func4, Try.ntmps4
    go_wp2_with (go_at_call 6; refine (known_any W).mono ?_; rintro e w1 ⟨rfl, hb1⟩)
    refine (new_no (c := c0) (HF.out _ hb1) (by omega) HM.out).mono ?_
    rintro e w2 ⟨rfl, hb⟩
    have hb2 := hbT hb1 hb
    go_wp2_with fail
    go_ret
    exact ⟨rfl, hb2⟩
  | true =>
    have HM := Lib.hid hm
    clear hm
    go_enter Try.func4, Try.ntmps4
    go_wp2_with (go_at_call 6; refine (known_any W).mono ?_; rintro e w1 ⟨rfl, hb1⟩)
    refine (new_any (c := c0) (HF.out _ hb1) (by omega) HM.out).mono ?_
    rintro e w2 ⟨ga, rfl, hga, hpa, hb⟩
    have HB2 := Lib.hid (hbT hb1 hb)
    have HPa := Lib.hid hpa
    have HGa : Hid (W.heap.size ≤ ga) := Nat.le_trans hb1.size hga
    clear hb hb1 hga hpa hsm g2 e2 e1
    go_wp2_with fail
    refine (run_any HPa.out (cd := c1) ((HD.out _ HB2.out).imp fun k _ e => by have := HGa.out; omega) (by omega) true).mono ?_
    rintro e w3 ⟨rfl, hp, hk⟩
    have HPa := Lib.hid hp
    have HB3 := Lib.hid (HB2.out.trans (hk.toBelow HB2.out.size (fun k hk e => by have := HGa.out; omega)))
    clear hp hk HB2
    go_wp2_with fail
    refine (Commit_any HPa.out).mono ?_
    rintro e w4 ⟨rfl, hp, hk⟩
    have HPa : Hid (Pt w4 ga (L2 l D)) := hp
    have HB4 := Lib.hid (HB3.out.trans (hk.toBelow HB3.out.size (fun k hk e => by have := HGa.out; omega)))
    clear hp hk HB3
    go_wp2_with fail
    refine (copy_any HPa.out).mono ?_
    rintro e w5 ⟨gd, rfl, hgd, hpd, hb⟩
    have HGd : Hid (ga < gd) := Nat.lt_of_lt_of_le HPa.out.lt hgd
    have HPa := Lib.hid (HPa.out.below hb (Nat.le_refl _))
    have HPd := Lib.hid hpd
    have HB5 := Lib.hid (hbT HB4.out hb)
    clear hgd hpd hb HB4
    go_wp2_with fail
    refine (copy_any HPa.out).mono ?_
    rintro e w6 ⟨gw, rfl, hgw, hpw, hb⟩
    have HGw : Hid (gd < gw) := Nat.lt_of_lt_of_le HPd.out.lt hgw
    have HPa := Lib.hid (HPa.out.below hb (Nat.le_refl _))
    have HPd := Lib.hid (HPd.out.below hb (Nat.le_refl _))
    have HPw := Lib.hid hpw
    have HB6 := Lib.hid (hbT HB5.out hb)
    clear hgw hpw hb HB5
    go_wp2_with fail
    refine (run_any HPa.out (cd := c2) ((HG.out _ HB6.out).imp fun k _ e => by have := HGa.out; omega) (by omega) false).mono ?_
    rintro e w7 ⟨rfl, hp, hk⟩
    have HPa := Lib.hid hp
    have HPd := Lib.hid (HPd.out.kept hk (by have := HGd.out; omega))
    have HPw := Lib.hid (HPw.out.kept hk (by have := HGd.out; have := HGw.out; omega))
    have HB7 := Lib.hid (HB6.out.trans (hk.toBelow HB6.out.size (fun k hk e => by have := HGa.out; omega)))
    clear hp hk HB6
    have hmk := fun V => run_make_bools V n0 (by omega)
    have HSt : Hid (S4 W ga gd gw w7.heap.size n0 (runL false (L2 l D) F) (L2 l D) (L2 l D) (fun _ => false) (w7.alloc (.cells (Array.replicate n0 (Value.bool false)) 4))) :=
      ⟨HPa.out.below (below_alloc _ _) (Nat.le_refl _), HPd.out.below (below_alloc _ _) (Nat.le_refl _), HPw.out.below (below_alloc _ _) (Nat.le_refl _), new_bools _ _, hbT HB7.out (below_alloc _ _), HGa.out, HGd.out, HGw.out, HPw.out.lt⟩
    clear HPa HPd HPw HB7 HGa HGd HGw
    go_wp2_with (rw [hmk])
    clear hmk
    obtain ⟨gs, hgs⟩ : ∃ gs, w7.heap.size = gs := ⟨_, rfl⟩
    rw [hgs] at HSt ⊢
    generalize w7.alloc (.cells (Array.replicate n0 (Value.bool false)) 4) = w8 at *
    clear hgs
    go_loopw [66] (fun i wr => ∃ j : Nat, j ≤ n2 ∧ i = .int .i64 j ∧ S4 W ga gd gw gs n0 (runL false (L2 l D) F) (L2 l D) (L2 l D) (sB l (F.take j)) wr) (fun i _ => n2 - (intOf i).toNat)
    case atStart => exact ⟨0, by omega, rfl, HSt.out⟩
    case round =>
      clear HSt
      obtain ⟨j, hj, rfl, hst⟩ := hrel
      have HSt := Lib.hid hst
      clear hst
      by_cases hjl : j < n2
      · have j0 : (0 : Int) ≤ j := by omega
        have j1 : (j : Int) < n2 := by omega
        have hdd : decide ((j : Int) < (n2 : Int)) = true := decide_eq_true (by omega)
        have hd2 : decide (j < n2) = true := decide_eq_true hjl
        obtain ⟨b, off, rfl, _, hrow⟩ := (HG.out _ HSt.out.bel).2.resolve_left (by omega)
        obtain ⟨q0, q1, q2, q3, q4⟩ := hrow j hjl
        have HA0 := Lib.hid (fun i => sB_next l F j i (by rw [HFl.out]; exact hjl))
        clear hrow
        generalize F[j]! = y at *
        obtain ⟨kd, part, port, word, x, hy⟩ := y
        simp only at q0 q1 q2 q3 q4
        have HVx := Lib.hid (heap_alloc_new wr (.cells #[.int .i64 kd, .int .i64 part, .int .i64 port, .int .i64 word, .int .u32 x] 35))
        have HSa := Lib.hid (HSt.out.below (below_alloc wr (.cells #[.int .i64 kd, .int .i64 part, .int .i64 port, .int .i64 word, .int .u32 x] 35)))
        have HNe : Hid (gs < wr.heap.size) := HSt.out.s.lt
        obtain ⟨A, hA⟩ : ∃ A, sB l (F.take (j + 1)) = A := ⟨_, rfl⟩
        obtain ⟨B0, hB⟩ : ∃ A, sB l (F.take j) = A := ⟨_, rfl⟩
        have HEA := Lib.hid hA
        rw [hA, hB] at HA0
        rw [hB] at HSa
        clear HSt hA hB
        go_upto_block 2 with fail
        clear q0 q1 q2 q3 q4
        obtain ⟨V, hV⟩ : ∃ V, wr.heap.size = V := ⟨_, rfl⟩
        rw [hV] at HVx HNe ⊢
        generalize wr.alloc (.cells #[.int .i64 kd, .int .i64 part, .int .i64 port, .int .i64 word, .int .u32 x] 35) = X0 at *
        clear hV
        go_wp2_with fail
        go_loopw [72] (fun i wx => ∃ k : Nat, k ≤ n0 ∧ i = .int .i64 k ∧ S4 W ga gd gw gs n0 (runL false (L2 l D) F) (L2 l D) (L2 l D) (fun i => if i < k then A i else B0 i) wx ∧ wx.heap[V]? = some (.cells #[.int .i64 kd, .int .i64 part, .int .i64 port, .int .i64 word, .int .u32 x] 35 (0, 0))) (fun i _ => n0 - (intOf i).toNat)
        case atStart => exact ⟨0, by omega, rfl, HSa.out.imp (fun i _ => by simp), HVx.out⟩
        case round =>
          clear HSa HVx
          obtain ⟨k, hk, rfl, hst, hvx⟩ := hrel
          have HSt := Lib.hid hst
          have HVx := Lib.hid hvx
          clear hst hvx
          by_cases hlt : k < n0
          · have k0 : (0 : Int) ≤ k := by omega
            have k1 : (k : Int) < n0 := by omega
            have hdd : decide ((k : Int) < (n0 : Int)) = true := decide_eq_true (by omega)
            have hd2 : decide (k < n0) = true := decide_eq_true hlt
            obtain ⟨bb, ob, rfl, _, hrow⟩ := (HF.out _ HSt.out.bel).2.2.resolve_left (by omega)
            obtain ⟨q0, q1, q2⟩ := hrow k hlt
            have HAk := Lib.hid (HA0.out k)
            generalize l[k]! = d at *
            obtain ⟨z0, z1, z2⟩ := d
            simp only at q0 q1 q2
            have HVd := Lib.hid (heap_alloc_new wr (.cells #[.int .i64 z0, .int .i64 z1, .int .u32 z2] 44))
            have HSa := Lib.hid (HSt.out.below (below_alloc wr (.cells #[.int .i64 z0, .int .i64 z1, .int .u32 z2] 44)))
            have HVa := Lib.hid ((Kept.refl (fun _ => False) wr).alloc (.cells #[.int .i64 z0, .int .i64 z1, .int .u32 z2] 44) |>.same HVx.out id)
            clear HSt HVx hrow
            go_upto_block 4 with fail
            clear q0 q1 q2
            obtain ⟨U, hU⟩ : ∃ U, wr.heap.size = U := ⟨_, rfl⟩
            rw [hU] at HVd ⊢
            generalize wr.alloc (.cells #[.int .i64 z0, .int .i64 z1, .int .u32 z2] 44) = Y0 at *
            clear hU
            obtain ⟨d0, d1, d2, d3, d4⟩ := cells5 HVa.out
            obtain ⟨u0, u1, u2⟩ := cells3 HVd.out
            have hcase : (kd = 3 ∨ kd = 5 ∨ kd = 6 ∨ (kd ≠ 3 ∧ kd ≠ 5 ∧ kd ≠ 6)) := by omega
            rcases hcase with rfl | rfl | rfl | ⟨hk3, hk5, hk6⟩
            · by_cases hpo : port = (k : Int)
              · by_cases hwr : part = z1
                · have zp : (port == (k : Int)) = true := by simpa using hpo
                  have zw : (part == z1) = true := by simpa using hwr
                  have hAk : A k = true := HAk.out.trans (by simp [sentB, hpo, hwr])
                  have HS2 := Lib.hid (HSa.out.setS hlt true (fun i => if i < k + 1 then A i else B0 i) (fk_set hAk))
                  obtain ⟨hs1, hs2⟩ := HSa.out.s.cell hlt
                  have HVx2 : Hid ((Y0.setCell ⟨gs, k, none⟩ (.bool true)).heap[V]? = some (.cells #[.int .i64 3, .int .i64 part, .int .i64 port, .int .i64 word, .int .u32 x] 35 (0, 0))) := ((Kept.refl (fun j => j = gs) Y0).setCell (.inl rfl) _).same HVa.out (fun e => by have := HNe.out; omega)
                  clear hAk
                  go_wp2_with fail
                  go_roundw
                  case rel => exact ⟨k + 1, by omega, by go_num, HS2.out, HVx2.out⟩
                  case measure => simp [intOf]; omega
                · have zp : (port == (k : Int)) = true := by simpa using hpo
                  have zw : (part == z1) = false := by simpa using hwr
                  have hAk : A k = B0 k := HAk.out.trans (by simp [sentB, hpo, hwr])
                  have HS2 := Lib.hid (HSa.out.imp (f' := fun i => if i < k + 1 then A i else B0 i) (fk_same hAk))
                  have HVx2 : Hid (Y0.heap[V]? = some (.cells #[.int .i64 3, .int .i64 part, .int .i64 port, .int .i64 word, .int .u32 x] 35 (0, 0))) := HVa.out
                  clear hAk
                  go_wp2_with fail
                  go_roundw
                  case rel => exact ⟨k + 1, by omega, by go_num, HS2.out, HVx2.out⟩
                  case measure => simp [intOf]; omega
              · have zp : (port == (k : Int)) = false := by simpa using hpo
                have hAk : A k = B0 k := HAk.out.trans (by simp [sentB, hpo])
                have HS2 := Lib.hid (HSa.out.imp (f' := fun i => if i < k + 1 then A i else B0 i) (fk_same hAk))
                have HVx2 : Hid (Y0.heap[V]? = some (.cells #[.int .i64 3, .int .i64 part, .int .i64 port, .int .i64 word, .int .u32 x] 35 (0, 0))) := HVa.out
                clear hAk
                go_wp2_with fail
                go_roundw
                case rel => exact ⟨k + 1, by omega, by go_num, HS2.out, HVx2.out⟩
                case measure => simp [intOf]; omega
            · by_cases hwr : part = z1
              · have zw : (part == z1) = true := by simpa using hwr
                have hAk : A k = false := HAk.out.trans (by simp [sentB, hwr])
                have HS2 := Lib.hid (HSa.out.setS hlt false (fun i => if i < k + 1 then A i else B0 i) (fk_set hAk))
                obtain ⟨hs1, hs2⟩ := HSa.out.s.cell hlt
                have HVx2 : Hid ((Y0.setCell ⟨gs, k, none⟩ (.bool false)).heap[V]? = some (.cells #[.int .i64 5, .int .i64 part, .int .i64 port, .int .i64 word, .int .u32 x] 35 (0, 0))) := ((Kept.refl (fun j => j = gs) Y0).setCell (.inl rfl) _).same HVa.out (fun e => by have := HNe.out; omega)
                clear hAk
                go_wp2_with fail
                go_roundw
                case rel => exact ⟨k + 1, by omega, by go_num, HS2.out, HVx2.out⟩
                case measure => simp [intOf]; omega
              · have zw : (part == z1) = false := by simpa using hwr
                have hAk : A k = B0 k := HAk.out.trans (by simp [sentB, hwr])
                have HS2 := Lib.hid (HSa.out.imp (f' := fun i => if i < k + 1 then A i else B0 i) (fk_same hAk))
                have HVx2 : Hid (Y0.heap[V]? = some (.cells #[.int .i64 5, .int .i64 part, .int .i64 port, .int .i64 word, .int .u32 x] 35 (0, 0))) := HVa.out
                clear hAk
                go_wp2_with fail
                go_roundw
                case rel => exact ⟨k + 1, by omega, by go_num, HS2.out, HVx2.out⟩
                case measure => simp [intOf]; omega
            · by_cases hwr : part = z1
              · have zw : (part == z1) = true := by simpa using hwr
                have hAk : A k = false := HAk.out.trans (by simp [sentB, hwr])
                have HS2 := Lib.hid (HSa.out.setS hlt false (fun i => if i < k + 1 then A i else B0 i) (fk_set hAk))
                obtain ⟨hs1, hs2⟩ := HSa.out.s.cell hlt
                have HVx2 : Hid ((Y0.setCell ⟨gs, k, none⟩ (.bool false)).heap[V]? = some (.cells #[.int .i64 6, .int .i64 part, .int .i64 port, .int .i64 word, .int .u32 x] 35 (0, 0))) := ((Kept.refl (fun j => j = gs) Y0).setCell (.inl rfl) _).same HVa.out (fun e => by have := HNe.out; omega)
                clear hAk
                go_wp2_with fail
                go_roundw
                case rel => exact ⟨k + 1, by omega, by go_num, HS2.out, HVx2.out⟩
                case measure => simp [intOf]; omega
              · have zw : (part == z1) = false := by simpa using hwr
                have hAk : A k = B0 k := HAk.out.trans (by simp [sentB, hwr])
                have HS2 := Lib.hid (HSa.out.imp (f' := fun i => if i < k + 1 then A i else B0 i) (fk_same hAk))
                have HVx2 : Hid (Y0.heap[V]? = some (.cells #[.int .i64 6, .int .i64 part, .int .i64 port, .int .i64 word, .int .u32 x] 35 (0, 0))) := HVa.out
                clear hAk
                go_wp2_with fail
                go_roundw
                case rel => exact ⟨k + 1, by omega, by go_num, HS2.out, HVx2.out⟩
                case measure => simp [intOf]; omega
            · have z3 : (kd == 3) = false := by simpa using hk3
              have z5 : (kd == 5) = false := by simpa using hk5
              have z6 : (kd == 6) = false := by simpa using hk6
              have hAk : A k = B0 k := HAk.out.trans (by simp [sentB, hk3, hk5, hk6])
              have HS2 := Lib.hid (HSa.out.imp (f' := fun i => if i < k + 1 then A i else B0 i) (fk_same hAk))
              have HVx2 : Hid (Y0.heap[V]? = some (.cells #[.int .i64 kd, .int .i64 part, .int .i64 port, .int .i64 word, .int .u32 x] 35 (0, 0))) := HVa.out
              clear hAk
              go_wp2_with fail
              go_roundw
              case rel => exact ⟨k + 1, by omega, by go_num, HS2.out, HVx2.out⟩
              case measure => simp [intOf]; omega
          · have hdd : decide ((k : Int) < (n0 : Int)) = false := decide_eq_false (by omega)
            have hd2 : decide (k < n0) = false := decide_eq_false hlt
            go_wp2_with fail
            go_roundw
            case rel => exact ⟨j + 1, by omega, by go_num, HSt.out.imp (fun i hi => by rw [if_pos (by omega), HEA.out])⟩
            case measure => simp [intOf]; omega
      · have hdd : decide ((j : Int) < (n2 : Int)) = false := decide_eq_false (by omega)
        have hd2 : decide (j < n2) = false := decide_eq_false hjl
        have hE : F.take j = F := List.take_of_length_le (by rw [HFl.out]; omega)
        have hst := HSt.out
        rw [hE] at hst
        have HSt := Lib.hid hst
        clear hst hE
        have HLw := L2_len l D
        rw [HL.out] at HLw
        have HLp := runL_len false F (L2 l D)
        rw [HLw] at HLp
        have HFr : Hid (∀ i, i < n0 → ((runL false (L2 l D) F)[i]!).d = ((L2 l D)[i]!).d ∧ ((runL false (L2 l D) F)[i]!).m = ((L2 l D)[i]!).m ∧ ((runL false (L2 l D) F)[i]!).age = ((L2 l D)[i]!).age ∧ ((runL false (L2 l D) F)[i]!).s = sB l F i) := fun i hi => frameL l D F i (by rw [HL.out]; exact hi)
        have HDf : Hid (∀ i, i < n0 → ((L2 l D)[i]!).d = l[i]!) := fun i hi => (L2_at l D i (by rw [HL.out]; exact hi)).1
        have HLw := Lib.hid HLw
        have HLp := Lib.hid HLp
        have HCd : Hid (runL false (L2 l D) F = runL false (L2 l D) F) := rfl
        go_wp2_with fail
        refine (run_any HSt.out.d (cd := c2) ((HG.out _ HSt.out.bel).imp fun k _ e => by have := HSt.out.o; omega) (by omega) false).mono ?_
        rintro e w9 ⟨rfl, hp, hk⟩
        have HSt := Lib.hid (HSt.out.setD hp hk)
        clear hp hk
        generalize runL false (L2 l D) F = Lp at *
        generalize L2 l D = Lw at *
        generalize sB l F = fS at *
        go_wp2_with fail
        go_loopw [123] (fun i wr => ∃ k : Nat, k ≤ n0 ∧ i = .int .i64 k ∧ S4 W ga gd gw gs n0 Lp (foldK sendB (List.range k) Lp) Lw fS wr) (fun i _ => n0 - (intOf i).toNat)
        case atStart => exact ⟨0, by omega, rfl, HSt.out⟩
        case round =>
          clear HSt
          obtain ⟨k, hk, rfl, hst⟩ := hrel
          have HSt := Lib.hid hst
          clear hst
          by_cases hlt : k < n0
          · have k0 : (0 : Int) ≤ k := by omega
            have k1 : (k : Int) < n0 := by omega
            have hdd : decide ((k : Int) < (n0 : Int)) = true := decide_eq_true (by omega)
            have hd2 : decide (k < n0) = true := decide_eq_true hlt
            obtain ⟨bb, ob, rfl, _, hrow⟩ := (HF.out _ HSt.out.bel).2.2.resolve_left (by omega)
            obtain ⟨q0, q1, q2⟩ := hrow k hlt
            have hkl : k < (foldK sendB (List.range k) Lp).length := by rw [foldK_len, HLp.out]; exact hlt
            have hown := send_own (foldK sendB (List.range k) Lp) k hkl
            have hdk : ((foldK sendB (List.range k) Lp)[k]!).d = l[k]! := by
              rw [foldK_range sendB Lp k (by rw [HLp.out]; exact hlt), (HFr.out k hlt).1, HDf.out k hlt]
            have hnx := foldK_next sendB (List.range k) k Lp
            rw [← List.range_succ] at hnx
            rw [hdk, ← hnx] at hown
            have HOwn := Lib.hid hown
            obtain ⟨b1, b2, b3, b4⟩ := HFr.out k hlt
            have HSa := Lib.hid (HSt.out.below (below_alloc wr (.cells #[.int .i64 (l[k]!).w, .int .i64 (l[k]!).wr, .int .u32 (l[k]!).rd] 44)))
            have HVd := Lib.hid (heap_alloc_new wr (.cells #[.int .i64 (l[k]!).w, .int .i64 (l[k]!).wr, .int .u32 (l[k]!).rd] 44))
            have hkp : k < Lp.length := by rw [HLp.out]; exact hlt
            have hkw : k < Lw.length := by rw [HLw.out]; exact hlt
            obtain ⟨N, hN⟩ : ∃ N, (Lw[k]!).d.w.toNat = N := ⟨_, rfl⟩
            obtain ⟨M, hM⟩ : ∃ M, msgB Lw[k]! = M := ⟨_, rfl⟩
            obtain ⟨ag, hag⟩ : ∃ ag, (Lw[k]!).age = ag := ⟨_, rfl⟩
            have HM1 := Lib.hid (fun X (h : Pt X ga Lp) => message_q h hkp (N := N) (M := M) (ag := ag) (by rw [b1]; exact hN) (by rw [← hM]; unfold msgB; rw [b2, b1]) (b3.trans hag))
            have HM2 := Lib.hid (fun X (h : Pt X gw Lw) => message_q h hkw hN hM hag)
            clear hrow hkl hdk hnx hown b1 b2 b3 b4 HSt hkp hkw hN hM hag
            generalize (l[k]!).w = z0 at *
            generalize (l[k]!).wr = z1 at *
            generalize (l[k]!).rd = z2 at *
            go_wp2_with fail
            have hsd := send_any HSa.out.d z1 k
            rw [HOwn.out.1, HOwn.out.2] at hsd
            refine hsd.mono ?_
            rintro e w10 ⟨rfl, hp, hk⟩
            have HSb := Lib.hid (HSa.out.setD hp hk)
            clear hp hk hsd HSa
            go_wp2_with fail
            refine (HM1.out _ HSb.out.a).mono ?_
            rintro e w11 ⟨xa, xc, rfl, hx16, hrx, hbx⟩
            have HSc := Lib.hid (HSb.out.below hbx)
            clear HSb hbx
            go_wp2_with fail
            refine (HM2.out _ HSc.out.w).mono ?_
            rintro e w12 ⟨ya, yc, rfl, hy16, hry, hby⟩
            have HSm := Lib.hid (same_any (c := xc) (d := yc) (hrx.below hby (Nat.le_refl _)) hry (by omega))
            have HSd := Lib.hid (HSc.out.below hby)
            clear hrx hry hby HSc
            go_wp2_with (go_at_call 29; refine HSm.out.mono ?_; rintro e w13 ⟨rfl, hb13⟩)
            go_roundw
            case rel => exact ⟨k + 1, by omega, by go_num, HSd.out.below hb13⟩
            case measure => simp [intOf]; omega
          · have hdd : decide ((k : Int) < (n0 : Int)) = false := decide_eq_false (by omega)
            have hd2 : decide (k < n0) = false := decide_eq_false hlt
            obtain rfl : k = n0 := by omega
            have hfa := foldK_all sendB Lp
            rw [HLp.out] at hfa
            have hst := HSt.out
            rw [hfa] at hst
            have HSt := Lib.hid hst
            clear hst hfa hlt hd2
            go_wp2_with fail
            refine (Commit_any HSt.out.d).mono ?_
            rintro e w10 ⟨rfl, hp, hk⟩
            have HSt := Lib.hid (HSt.out.setD hp hk)
            clear hp hk
            go_wp2_with fail
            refine (Commit_any HSt.out.a).mono ?_
            rintro e w11 ⟨rfl, hp, hk⟩
            have HSt := Lib.hid (HSt.out.setA hp hk)
            clear hp hk
            go_wp2_with fail
            go_loopw [161] (fun i wr => ∃ q : Nat, q ≤ k ∧ i = .int .i64 q ∧ S4 W ga gd gw gs k (comL Lp) (comL (Lp.map sendB)) Lw fS wr) (fun i _ => k - (intOf i).toNat)
            case atStart => exact ⟨0, by omega, rfl, HSt.out⟩
            case round =>
              clear HSt
              obtain ⟨q, hq, rfl, hst⟩ := hrel
              have HSt := Lib.hid hst
              clear hst
              by_cases hlt : q < k
              · have k0 : (0 : Int) ≤ q := by omega
                have k1 : (q : Int) < k := by omega
                have hdd : decide ((q : Int) < (k : Int)) = true := decide_eq_true (by omega)
                have hd2 : decide (q < k) = true := decide_eq_true hlt
                have hqa : q < (comL Lp).length := by rw [comL_len, HLp.out]; exact hlt
                have hqd : q < (comL (Lp.map sendB)).length := by rw [comL_len, List.length_map, HLp.out]; exact hlt
                have hqw : q < Lw.length := by rw [HLw.out]; exact hlt
                have ea : (comL Lp)[q]! = comB Lp[q]! := map_at _ _ _ (by rw [HLp.out]; exact hlt)
                have ed : (comL (Lp.map sendB))[q]! = comB (sendB Lp[q]!) := by
                  unfold comL
                  rw [map_at _ _ _ (by rw [List.length_map, HLp.out]; exact hlt), map_at _ _ _ (by rw [HLp.out]; exact hlt)]
                obtain ⟨b1, b2, b3, b4⟩ := HFr.out q hlt
                obtain ⟨N, hN⟩ : ∃ N, (Lw[q]!).d.w.toNat = N := ⟨_, rfl⟩
                obtain ⟨Mw, hMw⟩ : ∃ M, msgB Lw[q]! = M := ⟨_, rfl⟩
                obtain ⟨ag, hag⟩ : ∃ ag, (Lw[q]!).age = ag := ⟨_, rfl⟩
                have hbd : 0 ≤ ag ∧ ag ≤ 255 := by rw [← hag]; exact (HSt.out.w.at hqw).age
                obtain ⟨Md, hMd⟩ : ∃ M, msgB (comB (sendB Lp[q]!)) = M := ⟨_, rfl⟩
                obtain ⟨agd, hagd⟩ : ∃ ag, (comB (sendB Lp[q]!)).age = ag := ⟨_, rfl⟩
                have HM2 := Lib.hid (fun X (h : Pt X gw Lw) => message_q h hqw hN hMw hag)
                have HM3 := Lib.hid (fun X (h : Pt X gd (comL (Lp.map sendB))) => message_q h hqd (N := N) (M := Md) (ag := agd) (by rw [ed, comB_d]; show (Lp[q]!).d.w.toNat = N; rw [b1]; exact hN) (by rw [ed]; exact hMd) (by rw [ed]; exact hagd))
                cases hfs : fS q with
                | true =>
                  rw [hfs] at b4
                  obtain ⟨s1, s2⟩ := sent_msg _ b4
                  have HM1 := Lib.hid (fun X (h : Pt X ga (comL Lp)) => message_q h hqa (N := N) (M := Md) (ag := 0) (by rw [ea, comB_d, b1]; exact hN) (by rw [ea, s2]; exact hMd) (by rw [ea]; exact s1))
                  clear hqa hqd hqw ea ed b1 b2 b3 b4 s1 s2 hN hMw hag hMd hagd
                  go_wp2_with fail
                  refine (HM1.out _ HSt.out.a).mono ?_
                  rintro e w12 ⟨xa, xc, rfl, hx16, hrx, hbx⟩
                  have HSt := Lib.hid (HSt.out.below hbx)
                  clear hbx
                  go_wp2_with fail
                  refine (HM2.out _ HSt.out.w).mono ?_
                  rintro e w13 ⟨ya, yc, rfl, hy16, hry, hby⟩
                  have HSt := Lib.hid (HSt.out.below hby)
                  have hrx := hrx.below hby (Nat.le_refl _)
                  clear hby
                  go_wp2_with fail
                  refine (HM3.out _ HSt.out.d).mono ?_
                  rintro e w14 ⟨va, vc, rfl, hv16, hrv, hbv⟩
                  have HSt := Lib.hid (HSt.out.below hbv)
                  have hrx := hrx.below hbv (Nat.le_refl _)
                  have hry := hry.below hbv (Nat.le_refl _)
                  obtain ⟨hs1, hs2⟩ := HSt.out.s.cell hlt
                  rw [hfs] at hs1
                  have HSm := Lib.hid (same_any (c := xc) (d := vc) hrx hrv (by omega))
                  clear hs2 hbv hrx hry hrv
                  go_wp2_with (go_at_call 29; refine HSm.out.mono ?_; rintro e w15 ⟨rfl, hb15⟩; obtain ⟨hs1, hs2⟩ := (HSt.out.below hb15).s.cell hlt; rw [hfs] at hs1; clear hs2)
                  go_roundw
                  case rel => exact ⟨q + 1, by omega, by go_num, HSt.out.below hb15⟩
                  case measure => simp [intOf]; omega
                | false =>
                  rw [hfs] at b4
                  obtain ⟨s1, s2⟩ := not_msg _ b4
                  have w1 : IntKind.u32.wrap (ag + 1) = ag + 1 := by simp [IntKind.wrap, IntKind.bits, IntKind.signed]; omega
                  obtain ⟨ag1, hag1⟩ : ∃ x, min (ag + 1) 255 = x := ⟨_, rfl⟩
                  have HM1 := Lib.hid (fun X (h : Pt X ga (comL Lp)) => message_q h hqa (N := N) (M := Mw) (ag := ag1) (by rw [ea, comB_d, b1]; exact hN) (by rw [ea, s2, ← hMw, b2, b1]; rfl) (by rw [ea, s1, b3, hag, hag1]))
                  clear hqa hqd hqw ea ed b1 b2 b3 b4 s1 s2 hN hMw hag hMd hagd
                  have HAg := Lib.hid hag1
                  by_cases hmi : ag + 1 ≤ 255
                  · obtain rfl : ag + 1 = ag1 := by rw [← hag1, Int.min_def, if_pos hmi]
                    clear hag1
                    go_wp2_with fail
                    refine (HM1.out _ HSt.out.a).mono ?_
                    rintro e w12 ⟨xa, xc, rfl, hx16, hrx, hbx⟩
                    have HSt := Lib.hid (HSt.out.below hbx)
                    clear hbx
                    go_wp2_with fail
                    refine (HM2.out _ HSt.out.w).mono ?_
                    rintro e w13 ⟨ya, yc, rfl, hy16, hry, hby⟩
                    have HSt := Lib.hid (HSt.out.below hby)
                    have hrx := hrx.below hby (Nat.le_refl _)
                    clear hby
                    go_wp2_with fail
                    refine (HM3.out _ HSt.out.d).mono ?_
                    rintro e w14 ⟨va, vc, rfl, hv16, hrv, hbv⟩
                    have HSt := Lib.hid (HSt.out.below hbv)
                    have hrx := hrx.below hbv (Nat.le_refl _)
                    have hry := hry.below hbv (Nat.le_refl _)
                    obtain ⟨hs1, hs2⟩ := HSt.out.s.cell hlt
                    rw [hfs] at hs1
                    have HSm := Lib.hid (same_any (c := xc) (d := yc) hrx hry (by omega))
                    clear hs2 hbv hrx hry hrv
                    go_wp2_with (go_at_call 29; refine HSm.out.mono ?_; rintro e w15 ⟨rfl, hb15⟩)
                    all_goals first | (exfalso; omega) | skip
                    go_roundw
                    case rel => exact ⟨q + 1, by omega, by go_num, HSt.out.below hb15⟩
                    case measure => simp [intOf]; omega
                  · obtain rfl : 255 = ag1 := by rw [← hag1, Int.min_def, if_neg hmi]
                    clear hag1
                    go_wp2_with fail
                    refine (HM1.out _ HSt.out.a).mono ?_
                    rintro e w12 ⟨xa, xc, rfl, hx16, hrx, hbx⟩
                    have HSt := Lib.hid (HSt.out.below hbx)
                    clear hbx
                    go_wp2_with fail
                    refine (HM2.out _ HSt.out.w).mono ?_
                    rintro e w13 ⟨ya, yc, rfl, hy16, hry, hby⟩
                    have HSt := Lib.hid (HSt.out.below hby)
                    have hrx := hrx.below hby (Nat.le_refl _)
                    clear hby
                    go_wp2_with fail
                    refine (HM3.out _ HSt.out.d).mono ?_
                    rintro e w14 ⟨va, vc, rfl, hv16, hrv, hbv⟩
                    have HSt := Lib.hid (HSt.out.below hbv)
                    have hrx := hrx.below hbv (Nat.le_refl _)
                    have hry := hry.below hbv (Nat.le_refl _)
                    obtain ⟨hs1, hs2⟩ := HSt.out.s.cell hlt
                    rw [hfs] at hs1
                    have HSm := Lib.hid (same_any (c := xc) (d := yc) hrx hry (by omega))
                    clear hs2 hbv hrx hry hrv
                    go_wp2_with (go_at_call 29; refine HSm.out.mono ?_; rintro e w15 ⟨rfl, hb15⟩)
                    all_goals first | (exfalso; omega) | skip
                    go_roundw
                    case rel => exact ⟨q + 1, by omega, by go_num, HSt.out.below hb15⟩
                    case measure => simp [intOf]; omega
              · have hdd : decide ((q : Int) < (k : Int)) = false := decide_eq_false (by omega)
                have hd2 : decide (q < k) = false := decide_eq_false hlt
                go_wp2_with fail
                go_ret
                exact ⟨rfl, HSt.out.bel⟩
/-- what the walk gives, for every argument -/
theorem lifted (os : Os) (started : os.Started) (H : Type) (enc : TypeId × Value → H) :
    ReturnsInHanded {} Try.checked os 4 .any (Rows.portSteadySpec.pre6 enc Try.prog Try.f4 Rows.portSteadyRow.domain false) (Rows.portSteadySpec.post enc Try.prog Try.f4 false true false false) := by
  refine returnsInHanded_of_change (C := Try.checked) own started (by kernel_rfl) Try.func4
    (ChangeSpec.witness6 (enc := enc) (C := Try.checked) false ⟨#[], #[.slice none 0 0, .slice none 0 0, .slice none 0 0], []⟩ 8 (by kernel_rfl) (by kernel_rfl) (by kernel_rfl) (by kernel_rfl)) ?_
  intro W base args ds gs before hval0 hW hcnd _
  have hval : ∀ (j : Nat) t v, Try.f4.params[j]? = some t → args[j]? = some v → Value.okWide Try.prog W .any base t v := hval0
  have hW' := hW
  obtain ⟨p, q, hA0, hV, rfl, hfz, hnd⟩ := hW
  have hA : DataW.TrodAll enc Try.prog W 0 (fun _ => true) true Try.f4.params.toList args.toList ds p := hA0
  rw [Try.params4] at hA hval
  obtain ⟨v0, vs0, d0, ds0, p0, q0, hargs, rfl, rfl, h0, r0⟩ := trodAll_cons hA
  obtain ⟨v1, vs1, d1, ds1, p1, q1, rfl, rfl, rfl, h1, r1⟩ := trodAll_cons r0
  obtain ⟨v2, vs2, d2, ds2, p2, q2, rfl, rfl, rfl, h2, r2⟩ := trodAll_cons r1
  obtain ⟨rfl, rfl, rfl⟩ := trodAll_nil r2
  obtain rfl : args = #[v0, v1, v2] := by cases args; simp_all
  obtain ⟨rfl, rfl⟩ := trodVars_none hV
  have k0 := h0
  have lt0 : ∀ x ∈ p0, x.block < W.heap.size := by obtain ⟨m, hm⟩ := k0; exact DataW.trod_lt m _ _ _ hm
  obtain ⟨a0, len0, cap0, rfl⟩ := okWide_slice Try.underlying22 (hval 0 22 v0 rfl rfl)
  obtain ⟨z0, w0, nc0⟩ : ∃ l, FRow (fun k => W.heap.size ≤ k) W a0 len0 l ∧ len0 ≤ cap0 ∧ cap0 ≤ 9223372036854775807 := by
    obtain ⟨fuel, hf⟩ := h0
    obtain ⟨a, n, c, l, hcs, h1, h2, h3⟩ := open_defs hf
    simp [Value.cells] at hcs
    obtain ⟨rfl, rfl, rfl⟩ := hcs
    exact ⟨l, h3, h1, h2⟩
  have k1 := h1
  have lt1 : ∀ x ∈ p1, x.block < W.heap.size := by obtain ⟨m, hm⟩ := k1; exact DataW.trod_lt m _ _ _ hm
  obtain ⟨a1, len1, cap1, rfl⟩ := okWide_slice Try.underlying23 (hval 1 23 v1 rfl rfl)
  obtain ⟨z1, w1, nc1⟩ : ∃ l, DRow (fun k => W.heap.size ≤ k) W a1 len1 l ∧ len1 ≤ cap1 ∧ cap1 ≤ 9223372036854775807 := by
    obtain ⟨fuel, hf⟩ := h1
    obtain ⟨a, n, c, l, hcs, h1, h2, h3⟩ := open_dos hf
    simp [Value.cells] at hcs
    obtain ⟨rfl, rfl, rfl⟩ := hcs
    exact ⟨l, h3, h1, h2⟩
  have k2 := h2
  have lt2 : ∀ x ∈ p2, x.block < W.heap.size := by obtain ⟨m, hm⟩ := k2; exact DataW.trod_lt m _ _ _ hm
  obtain ⟨a2, len2, cap2, rfl⟩ := okWide_slice Try.underlying23 (hval 2 23 v2 rfl rfl)
  obtain ⟨z2, w2, nc2⟩ : ∃ l, DRow (fun k => W.heap.size ≤ k) W a2 len2 l ∧ len2 ≤ cap2 ∧ cap2 ≤ 9223372036854775807 := by
    obtain ⟨fuel, hf⟩ := h2
    obtain ⟨a, n, c, l, hcs, h1, h2, h3⟩ := open_dos hf
    simp [Value.cells] at hcs
    obtain ⟨rfl, rfl, rfl⟩ := hcs
    exact ⟨l, h3, h1, h2⟩
  clear hA0 hval0
  refine (walk W a0 len0 cap0 z0 w0 nc0 a1 len1 cap1 z1 w1 nc1 a2 len2 cap2 z2 w2 nc2).mono fun e W' ⟨he, bel⟩ => ?_
  subst he
  exact ⟨_, rfl, _, _, _, [], _, [], hW', trodAll_mk1 (shut_bool Try.underlying4 _), (trodAll_cons_mk (Below.trod laidOut (by kernel_rfl) (of_decide_eq_true (by kernel_rfl)) k0 bel lt0) (trodAll_cons_mk (Below.trod laidOut (by kernel_rfl) (of_decide_eq_true (by kernel_rfl)) k1 bel lt1) (trodAll_cons_mk (Below.trod laidOut (by kernel_rfl) (of_decide_eq_true (by kernel_rfl)) k2 bel lt2) trodAll_mk0))), rfl, bel.frame _, fun h => by cases h⟩

theorem proved : Rows.PortSteadySaid :=
  OpenClaim.holds_of_wide 4 Try.f4 rfl rfl rfl rfl rfl rfl rfl ⟨rfl, rfl, rfl, rfl, rfl⟩ rfl rfl rfl rfl rfl (by kernel_rfl) Try.func4 (by kernel_rfl)
    (of_decide_eq_true (by kernel_rfl)) (by unfold Func.isWrapper; first | (rw [if_pos (by decide +kernel)]; kernel_rfl) | (rw [if_neg (by decide +kernel)]; exact ⟨rfl, rfl⟩))
    (fun os started H enc _ => lifted os started H enc)
#print axioms proved
end Steady
end Prt
end Go.Proofs.Ytcapiaempfjmeaa
