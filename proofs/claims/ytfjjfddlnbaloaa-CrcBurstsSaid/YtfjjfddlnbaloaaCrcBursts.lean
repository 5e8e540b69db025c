/- The statement CrcBursts holds: whatever the input, the call answers true, and what was handed in reads as it did. No conditions beyond the statement's own. The frame around the walk follows the guide's shell. -/
import Derived.Test.YtfjjfddlnbaloaaCrcW4
import Derived.Test.YtfjjfddlnbaloaaCrcBurstMath
import Derived.RegionTactic
import Derived.BigRegion
import Derived.Laws.AppendOwn
import Derived.OwnWalk
import Derived.WalkKit
import Derived.ProofKit
import Derived.OpenShut
import Derived.ShutString
import Derived.ChangeOld
import Derived.Below
namespace Go.Proofs.Ytfjjfddlnbaloaa.crcBursts
open Go.ChangeShapes Go.WideShapes Go.ChangeAt Go.RowKit
open Go.ChangeMaps (open_string shut_string)
set_option linter.unusedVariables false

theorem own : ownKnob Try.prog.godebug = none := by kernel_rfl
theorem laidOut : laidOutB Try.prog = true := by kernel_rfl

theorem infoByte : (Try.prog.info? 5).map (fun i => (i.zero, i.size, i.bytes)) = some (some (.int .u8 0), 1, 1) := by kernel_rfl

theorem bit_test (a : Int) (k : Nat) (h0 : 0 ≤ a) (h1 : a ≤ 4294967295) : (bits .and .u32 (a / 2 ^ k) 1 == 1) = (Crc.V a).getLsbD k := by
  have e : a / 2 ^ k = a / ((2 ^ k : Nat) : Int) := by simp
  have b0 : 0 ≤ a / 2 ^ k := Int.ediv_nonneg h0 (by have : (0 : Int) < 2 ^ k := Int.pow_pos (by omega); omega)
  have b1 : a / 2 ^ k ≤ a := Int.ediv_le_self _ h0
  rw [Crc.and1_U _ b0 (by omega)]
  have hv := Crc.V_div a k h0 (by omega)
  rw [← e] at hv
  have hl := Crc.lsb_V (a / 2 ^ k) b0 (by omega)
  rw [hv, BitVec.getLsbD_ushiftRight, Nat.add_zero] at hl
  rw [hl]
  by_cases h : a / 2 ^ k % 2 = 1 <;> simp [h]

/-- what the copy holds behind k rounds -/
def BRel (w : World) (g cap n : Nat) (l : List Int) (t : Crc.W) (at_ k : Nat) (wr : World) : Prop :=
  ∃ ys : List Int, ys.length = n ∧ (∀ z ∈ ys, 0 ≤ z ∧ z ≤ 255) ∧ wr.ownsRow w.heap.size 5 1 (.slice (some ⟨g, 0, none⟩) n cap) n (ys.map (Value.int .u8)) ∧
    (∀ r, Crc.rem r ys = Crc.rem r l ^^^ Crc.shN (8 * n - at_) (Crc.low t k)) ∧ w.heap.size ≤ g ∧ Below w.heap.size w wr

theorem pow_V : ∀ q, q < 8 → (0 ≤ (2 : Int) ^ q % 256 ∧ (2 : Int) ^ q % 256 ≤ 255) ∧ Crc.V ((2 : Int) ^ q % 256) = 1#32 <<< q := by decide

theorem brel_next {w wr : World} {g cap n : Nat} {l : List Int} {t : Crc.W} {at_ k : Nat} (h : BRel w g cap n l t at_ k wr) (hl : l.length = n) (hk : k < 32) (hat : at_ + 32 ≤ 8 * n) (hbit : t.getLsbD k = true)
    (y : Int) (hy : wr.cell? ⟨g, (at_ + k) / 8, none⟩ = some (.int .u8 y)) :
    BRel w g cap n l t at_ (k + 1) (wr.setCell ⟨g, (at_ + k) / 8, none⟩ (.int .u8 (bits .xor .u8 y (2 ^ ((at_ + k) % 8) % 256)))).drew := by
  obtain ⟨ys, y1, y2, y3, y4, y5, y6⟩ := h
  have hj : (at_ + k) / 8 < ys.length := by omega
  have ey : y = ys.getD ((at_ + k) / 8) 0 := by
    rw [y3.cellAt _ (by omega)] at hy
    simp [hj] at hy
    simp [hj, hy]
  have hr := y2 y (by rw [ey]; simp [hj])
  have hp := pow_V ((at_ + k) % 8) (by omega)
  have hx := Crc.xor8 y _ hr hp.1
  obtain ⟨s1, _⟩ := y3.stored ((at_ + k) / 8) (.int .u8 (bits .xor .u8 y (2 ^ ((at_ + k) % 8) % 256)))
  refine ⟨ys.set ((at_ + k) / 8) (bits .xor .u8 y (2 ^ ((at_ + k) % 8) % 256)), by simpa using y1, ?_, ?_, ?_, y5, (y6.setCell y5 _).drew⟩
  · intro u hu
    rcases List.mem_or_eq_of_mem_set hu with hu | rfl
    · exact y2 u hu
    · exact hx.1
  · rw [List.map_set]; exact s1
  · subst hl
    exact Crc.burst_next l ys t at_ k _ ((at_ + k) % 8) _ y1 hk hat (by omega) (by omega) hbit (by rw [hx.2, hp.2, ey]) y4

set_option maxHeartbeats 4000000 in
theorem walk (a0 : Option Addr) (len0 cap0 : Nat) (z0 : List Int) (a1 : Int) (a2 : Int) (w : World) (w0 : IsRow .u8 w a0 len0 cap0 z0) (w1 : (Lit.int .i64 a1).wf = true) (w2 : (Lit.int .u32 a2).wf = true) :
    Calls Try.prog 6 #[.slice a0 len0 cap0, .int .i64 a1, .int .u32 a2] w fun e w' => e = .returned (.bool true) ∧ Below w.heap.size w w' := by
  obtain ⟨hlen0, hcap0⟩ := w0.len
  have hi : -9223372036854775808 ≤ a1 ∧ a1 ≤ 9223372036854775807 := by simpa [Lit.wf, IntKind.min, IntKind.max, IntKind.signed, IntKind.bits] using w1
  have ht : 0 ≤ a2 ∧ a2 ≤ 4294967295 := by simpa [Lit.wf, IntKind.min, IntKind.max, IntKind.signed, IntKind.bits] using w2
  obtain ⟨i0, i1⟩ := hi
  obtain ⟨t0, t1⟩ := ht
  have HR := Lib.hid w0.row
  generalize z0.take len0 = l at *
  clear w0 w1 w2
  by_cases hbig : 100000 < len0
  · go_enter Try.func6, Try.ntmps6
    go_wp2_with fail
    refine (works_any _).mono ?_
    rintro e w1 ⟨rfl, hb1⟩
    go_wp2_with fail
    go_ret
    exact ⟨rfl, hb1⟩
  by_cases h2 : a1 < 0
  · go_enter Try.func6, Try.ntmps6
    go_wp2_with fail
    refine (works_any _).mono ?_
    rintro e w1 ⟨rfl, hb1⟩
    go_wp2_with fail
    go_ret
    exact ⟨rfl, hb1⟩
  by_cases h3 : 8 * (len0 : Int) - 32 < a1
  · go_enter Try.func6, Try.ntmps6
    go_wp2_with fail
    refine (works_any _).mono ?_
    rintro e w1 ⟨rfl, hb1⟩
    go_wp2_with fail
    go_ret
    exact ⟨rfl, hb1⟩
  by_cases h4 : a2 = 0
  · have h4' : (a2 == 0) = true := by simpa using h4
    clear h4
    go_enter Try.func6, Try.ntmps6
    go_wp2_with fail
    refine (works_any _).mono ?_
    rintro e w1 ⟨rfl, hb1⟩
    go_wp2_with fail
    go_ret
    exact ⟨rfl, hb1⟩
  have h4' : (a2 == 0) = false := by simpa using h4
  have H4 := Lib.hid h4
  clear h4
  obtain ⟨at_, rfl⟩ := Int.eq_ofNat_of_zero_le (show 0 ≤ a1 by omega)
  have hn : at_ + 32 ≤ 8 * len0 := by omega
  obtain ⟨b, off, rfl⟩ : ∃ b off, a0 = some ⟨b, off, none⟩ := by
    rcases HR.out.2.2 with h | ⟨b, off, e, _⟩
    · omega
    · exact ⟨b, off, e⟩
  obtain ⟨ti, hti, hz0, hz1, hz2⟩ := info_parts infoByte
  have HO := Lib.hid (World.ownsRow_lit (base := w.heap.size) (e := 5) (size := 1) w #[] 0 (Nat.le_refl _) (by unfold maxLen; omega) rfl)
  have HC : Hid (∀ j u, (l.map (Value.int .u8))[j]? = some u → (w.alloc (.cells #[] 5)).cell? ((⟨b, off, none⟩ : Addr).add j) = some u) := by
    intro j u hj
    obtain ⟨h1, h2, h3⟩ := HR.out.below ((Below.refl w.heap.size w).alloc (Nat.le_refl _) (.cells #[] 5)) (Nat.le_refl _)
    rcases h3 with h3 | ⟨b', off', e, hc⟩
    · omega
    · simp only [Option.some.injEq, Addr.mk.injEq] at e
      obtain ⟨rfl, rfl, _⟩ := e
      have hjl : j < l.length := by
        rcases Nat.lt_or_ge j l.length with h | h
        · exact h
        · simp [List.getElem?_eq_none (show (l.map (Value.int .u8)).length ≤ j by simpa using h)] at hj
      have ea : (⟨b, off, none⟩ : Addr).add j = ⟨b, off + j, none⟩ := by unfold Addr.add; split <;> simp_all
      rw [ea, hc j (by omega), ← hj]
      simp [hjl]
  have HL : Hid ((l.map (Value.int .u8)).length = len0 * 1) := by show _ = _; have := HR.out.1; simp; omega
  have H1 : Hid (∀ u ∈ l.map (Value.int .u8), u.oneCell' = true) := by
    intro u hu
    obtain ⟨z, _, rfl⟩ := List.mem_map.1 hu
    rfl
  go_enter Try.func6, Try.ntmps6
  go_wp2_with (at_builtin; refine wpList_append_own _ rfl (.tmp 29) (.tmp 30) 26 rfl w.heap.size 5 ti (.int .u8 0) 1 1 Try.underlying26 hti hz0 hz1 hz2 rfl (by decide) _ _ _ rfl HO.out ⟨b, off, none⟩ len0 cap0 (l.map (Value.int .u8)) rfl HL.out HC.out H1.out (by unfold maxLen; omega) (by omega) (by simp) ?_; intro v1 w1 hown hgrow hiff; clear HO HC HL H1 hiff)
  obtain ⟨g, cap, rfl, hg⟩ : ∃ g cap, v1 = .slice (some ⟨g, 0, none⟩) len0 cap ∧ w.heap.size ≤ g := by
    rcases hown.2 with ⟨_, h⟩ | ⟨g, cap, _, e, h, _⟩
    · omega
    · exact ⟨g, cap, by simpa using e, h⟩
  have HB0 : Hid (BRel w g cap len0 l (Crc.V a2) at_ 0 w1) := by
    refine ⟨l, HR.out.1, HR.out.2.1, by simpa using hown, fun r => by simp [Crc.low, Crc.shN_zero], hg, ?_⟩
    have hgrow' : (w.alloc (.cells #[] 5)).grownBy w1 (some w.heap.size) := hgrow
    exact ((Below.refl w.heap.size w).alloc (Nat.le_refl _) _).grown hgrow' (by simp) (fun k hk => by simp at hk; omega)
  clear hown hgrow hti hz0 hz1 hz2
  go_loopw [32] (fun i wr => ∃ k : Nat, k ≤ 32 ∧ i = .int .i64 k ∧ Hid (BRel w g cap len0 l (Crc.V a2) at_ k wr)) (fun i _ => 32 - (intOf i).toNat)
  case atStart => exact ⟨0, by omega, rfl, HB0⟩
  case round =>
    obtain ⟨k, hk, rfl, HB⟩ := hrel
    by_cases hlt : k < 32
    · have hd : decide ((k : Int) < 32) = true := by simp; omega
      have k0 : (0 : Int) ≤ k := by omega
      have k1 : (k : Int) < 32 := by omega
      cases hbit : (Crc.V a2).getLsbD k with
      | false =>
        have hb := bit_test a2 k t0 t1
        rw [hbit] at hb
        have HB' : Hid (BRel w g cap len0 l (Crc.V a2) at_ (k + 1) wr) := by
          obtain ⟨ys, y1, y2, y3, y4, y5⟩ := HB.out
          have := HR.out.1
          subst this
          exact ⟨ys, y1, y2, y3, Crc.burst_skip l ys _ at_ k hbit y4, y5⟩
        clear HB hbit
        go_wp2_with fail
        go_roundw
        case rel => exact ⟨k + 1, by omega, by go_num, HB'⟩
        case measure => simp [intOf]; omega
      | true =>
        have hb := bit_test a2 k t0 t1
        rw [hbit] at hb
        obtain ⟨y, hy, r0, r1⟩ : ∃ y : Int, wr.cell? ⟨g, (at_ + k) / 8, none⟩ = some (.int .u8 y) ∧ 0 ≤ y ∧ y ≤ 255 := by
          obtain ⟨ys, y1, y2, y3, _, _⟩ := HB.out
          refine ⟨ys.getD ((at_ + k) / 8) 0, ?_, y2 _ (by simp [show (at_ + k) / 8 < ys.length from by omega])⟩
          rw [y3.cellAt _ (by omega)]
          simp [show (at_ + k) / 8 < ys.length from by omega]
        have hf : wr.frozen? ⟨g, (at_ + k) / 8, none⟩ = false := by
          obtain ⟨ys, y1, y2, y3, _, _⟩ := HB.out
          exact y3.frozenAt _
        have j0 : (0 : Int) ≤ ((at_ : Int) + k) / 8 := by omega
        have j1 : ((at_ : Int) + k) / 8 < len0 := by omega
        have HB' := Lib.hid (brel_next HB.out HR.out.1 hlt hn hbit y hy)
        clear hbit HB
        go_wp2_with fail
        go_region
        go_wp2_with fail
        go_roundw
        case rel => exact ⟨k + 1, by omega, by go_num, HB'⟩
        case measure => simp [intOf]; omega
    · have hd : decide ((k : Int) < 32) = false := by simp; omega
      obtain ⟨ys, y1, y2, y3, y4, y5, y6⟩ := HB.out
      have HY : Hid (Row wr (some ⟨g, 0, none⟩) len0 ys) := ⟨y1, y2, Or.inr ⟨_, _, rfl, fun i hi => by rw [Nat.zero_add, y3.cellAt _ (by omega)]; simp [show i < ys.length from by omega]⟩⟩
      have HL := Lib.hid (HR.out.below y6 (Nat.le_refl _))
      have hq : (Crc.U (Crc.more 0#32 ys) != Crc.U (Crc.more 0#32 l)) = true := by
        obtain rfl : k = 32 := by omega
        have hl := HR.out.1
        subst hl
        have hne := Crc.burst_end l ys (Crc.V a2) at_ (fun e => H4.out (by rw [← Crc.U_V a2 t0 (by omega), e]; rfl)) y4 (~~~ 0#32)
        rw [bne_iff_ne]
        intro e
        apply hne
        have e2 := Crc.U_inj e
        unfold Crc.more at e2
        have e3 := congrArg (fun x : Crc.W => ~~~ x) e2
        simpa using e3
      have H6 := Lib.hid y6
      clear y1 y2 y3 y4 y6 HB
      go_wp2_with fail
      refine (sum_any _ _ _ ys _ (by omega) HY.out).mono ?_
      rintro e w2 ⟨rfl, hb2⟩
      go_wp2_with fail
      refine (sum_any _ _ _ l _ (by omega) (HL.out.below hb2 (Nat.le_refl _))).mono ?_
      rintro e w3 ⟨rfl, hb3⟩
      go_wp2_with fail
      refine (works_any _).mono ?_
      rintro e w4 ⟨rfl, hb4⟩
      go_wp2_with fail
      go_ret
      have hb := (H6.out.trans (hb2.mono H6.out.size)).trans (hb3.mono (Nat.le_trans H6.out.size hb2.size))
      exact ⟨rfl, hb.trans (hb4.mono hb.size)⟩

set_option maxRecDepth 100000 in
theorem lifted (os : Os) (started : os.Started) (H : Type) (enc : TypeId × Value → H) :
    ReturnsInHanded {} Try.checked os 6 .any (Rows.crcBurstsSpec.pre6 enc Try.prog Try.f6 Rows.crcBurstsRow.domain false) (Rows.crcBurstsSpec.post enc Try.prog Try.f6 false true false false) := by
  refine returnsInHanded_of_change (C := Try.checked) own started (by kernel_rfl) Try.func6
    (ChangeSpec.witness6 (enc := enc) (C := Try.checked) false ⟨#[], #[.slice none 0 0, .int .i64 0, .int .u32 0], []⟩ 8 (by kernel_rfl) (by kernel_rfl) (by kernel_rfl) (by kernel_rfl)) ?_
  intro W base args ds gs before hval0 hW hcnd _
  have hval : ∀ (j : Nat) t v, Try.f6.params[j]? = some t → args[j]? = some v → Value.okWide Try.prog W .any base t v := hval0
  have hW' := hW
  obtain ⟨p, q, hA0, hV, rfl, hfz, hnd⟩ := hW
  have hA : DataW.TrodAll enc Try.prog W 0 (fun _ => true) true Try.f6.params.toList args.toList ds p := hA0
  rw [Try.params6] at hA hval
  obtain ⟨v0, vs0, d0, ds0, p0, q0, hargs, rfl, rfl, h0, r0⟩ := trodAll_cons hA
  obtain ⟨v1, vs1, d1, ds1, p1, q1, rfl, rfl, rfl, h1, r1⟩ := trodAll_cons r0
  obtain ⟨v2, vs2, d2, ds2, p2, q2, rfl, rfl, rfl, h2, r2⟩ := trodAll_cons r1
  obtain ⟨rfl, rfl, rfl⟩ := trodAll_nil r2
  obtain rfl : args = #[v0, v1, v2] := by cases args; simp_all
  obtain ⟨rfl, rfl⟩ := trodVars_none hV
  obtain ⟨a0, len0, cap0, rfl⟩ := okWide_slice Try.underlying26 (hval 0 26 v0 rfl rfl)
  have k0 := h0
  have lt0 : ∀ x ∈ p0, x.block < W.heap.size := by obtain ⟨m, hm⟩ := k0; exact DataW.trod_lt m _ _ _ hm
  obtain ⟨z0, w0⟩ : ∃ zs, IsRow .u8 W a0 len0 cap0 zs := by
    obtain ⟨fuel, hf⟩ := h0
    rcases open_ints Try.underlying26 Try.underlying5 (by kernel_rfl) hf with ⟨hcs, _⟩ | ⟨x, l, c, zs, hcs, _, hl, hm, hz, _, hcell, hwz⟩
    · simp [Value.cells] at hcs
      obtain ⟨rfl, rfl, rfl⟩ := hcs
      exact ⟨[], .inl ⟨rfl, rfl, rfl, rfl⟩⟩
    · simp [Value.cells] at hcs
      obtain ⟨rfl, rfl, rfl⟩ := hcs
      exact ⟨zs, .inr ⟨_, rfl, hl, hm, by simpa using hz, hcell, hwz⟩⟩
  obtain ⟨a1, rfl, rfl, rfl, w1⟩ := open_int Try.underlying3 (hval 1 3 v1 rfl rfl) h1
  obtain ⟨a2, rfl, rfl, rfl, w2⟩ := open_int Try.underlying23 (hval 2 23 v2 rfl rfl) h2
  clear hA0 hval0
  refine (walk a0 len0 cap0 z0 a1 a2 W w0 w1 w2).mono fun e W' ⟨he, bel⟩ => ?_
  subst he
  exact ⟨_, rfl, _, _, _, [], _, [], hW', trodAll_mk1 (shut_bool Try.underlying4 _), (trodAll_cons_mk (Below.trod laidOut (by kernel_rfl) (of_decide_eq_true (by kernel_rfl)) k0 bel lt0) (trodAll_cons_mk (shut_int Try.underlying3 w1) (trodAll_cons_mk (shut_int Try.underlying23 w2) trodAll_mk0))), rfl, bel.frame _, fun h => by cases h⟩

theorem over : Rows.crcBurstsRow.holds Try.pinned (OpenSpec.ofChange Rows.crcBurstsSpec) :=
  OpenClaim.holds_of_wide 6 Try.f6 rfl rfl rfl rfl rfl rfl rfl ⟨rfl, rfl, rfl, rfl, rfl⟩ rfl rfl rfl rfl rfl (by kernel_rfl) Try.func6 (by kernel_rfl)
    (of_decide_eq_true (by kernel_rfl)) (by unfold Func.isWrapper; first | (rw [if_pos (by decide +kernel)]; kernel_rfl) | (rw [if_neg (by decide +kernel)]; exact ⟨rfl, rfl⟩))
    (fun os started H enc _ => lifted os started H enc)

theorem proved : Rows.CrcBurstsSaid := over
#print axioms proved
end Go.Proofs.Ytfjjfddlnbaloaa.crcBursts
