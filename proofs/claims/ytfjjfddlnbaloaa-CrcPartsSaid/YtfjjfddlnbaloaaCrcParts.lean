/- The statement CrcParts holds: whatever the input, the call answers true, and what was handed in reads as it did. No conditions beyond the statement's own. The frame around the walk follows the guide's shell. -/
import Derived.Test.YtfjjfddlnbaloaaCrcW4
import Derived.Deep.RegionWith
import Derived.WalkKit
import Derived.ProofKit
import Derived.OpenShut
import Derived.ShutString
import Derived.ChangeOld
import Derived.Below
namespace Go.Proofs.Ytfjjfddlnbaloaa.crcParts
open Go.ChangeShapes Go.WideShapes Go.ChangeAt Go.RowKit
open Go.ChangeMaps (open_string shut_string)
set_option linter.unusedVariables false

theorem own : ownKnob Try.prog.godebug = none := by kernel_rfl
theorem laidOut : laidOutB Try.prog = true := by kernel_rfl

theorem row_take {w : World} {a : Option Addr} {n : Nat} {l : List Int} (h : Row w a n l) (k : Nat) (hk : k ≤ n) : Row w a k (l.take k) := by
  obtain ⟨h1, h2, h3⟩ := h
  refine ⟨by simp; omega, fun z hz => h2 z (List.mem_of_mem_take hz), ?_⟩
  rcases h3 with h3 | ⟨b, off, rfl, hc⟩
  · exact Or.inl (by omega)
  · refine Or.inr ⟨b, off, rfl, fun i hi => ?_⟩
    have e : (l.take k).getD i 0 = l.getD i 0 := by simp [List.getD, hi]
    rw [e]; exact hc i (by omega)

theorem row_drop {w : World} {b off : Nat} {n : Nat} {l : List Int} (h : Row w (some ⟨b, off, none⟩) n l) (k : Nat) : Row w (some ⟨b, off + k, none⟩) (n - k) (l.drop k) := by
  obtain ⟨h1, h2, h3⟩ := h
  refine ⟨by simp; omega, fun z hz => h2 z (List.mem_of_mem_drop hz), ?_⟩
  rcases h3 with h3 | ⟨b', off', e, hc⟩
  · exact Or.inl (by omega)
  · simp only [Option.some.injEq, Addr.mk.injEq] at e
    obtain ⟨rfl, rfl, _⟩ := e
    refine Or.inr ⟨b, off + k, rfl, fun i hi => ?_⟩
    have e : (l.drop k).getD i 0 = l.getD (k + i) 0 := by simp [List.getD]
    rw [e, Nat.add_assoc]; exact hc (k + i) (by omega)

theorem row_none (w : World) (a : Option Addr) : Row w a 0 [] := ⟨rfl, by simp, Or.inl rfl⟩

theorem more_parts (l : List Int) (k : Nat) : (Crc.U (Crc.more (Crc.V (Crc.U (Crc.more 0#32 (l.take k)))) (l.drop k)) == Crc.U (Crc.more 0#32 l)) = true := by
  have e : Crc.more (Crc.more 0#32 (l.take k)) (l.drop k) = Crc.more 0#32 l := by
    unfold Crc.more
    rw [BitVec.not_not, ← Crc.rem_append, List.take_append_drop]
  rw [Crc.V_U, e]; exact beq_self_eq_true _

set_option maxHeartbeats 4000000 in
theorem walk (a0 : Option Addr) (len0 cap0 : Nat) (z0 : List Int) (a1 : Int) (w : World) (w0 : IsRow .u8 w a0 len0 cap0 z0) (w1 : (Lit.int .i64 a1).wf = true) :
    Calls Try.prog 5 #[.slice a0 len0 cap0, .int .i64 a1] w fun e w' => e = .returned (.bool true) ∧ Below w.heap.size w w' := by
  obtain ⟨hlen, hcap⟩ := w0.len
  have hrow := w0.row
  have HRow := Lib.hid hrow
  have hi : -9223372036854775808 ≤ a1 ∧ a1 ≤ 9223372036854775807 := by simpa [Lit.wf, IntKind.min, IntKind.max, IntKind.signed, IntKind.bits] using w1
  obtain ⟨i0, i1⟩ := hi
  clear w1 hrow
  by_cases hbig : 100000 < len0 ∨ a1 < 0 ∨ len0 < a1
  · by_cases b1 : 100000 < len0
    · go_enter Try.func5, Try.ntmps5
      go_wp2_with fail
      refine (works_any _).mono ?_
      rintro e w1 ⟨rfl, hb1⟩
      go_wp2_with fail
      go_ret
      exact ⟨rfl, hb1⟩
    · by_cases b2 : a1 < 0
      · go_enter Try.func5, Try.ntmps5
        go_wp2_with fail
        refine (works_any _).mono ?_
        rintro e w1 ⟨rfl, hb1⟩
        go_wp2_with fail
        go_ret
        exact ⟨rfl, hb1⟩
      · have b3 : (len0 : Int) < a1 := by omega
        go_enter Try.func5, Try.ntmps5
        go_wp2_with fail
        refine (works_any _).mono ?_
        rintro e w1 ⟨rfl, hb1⟩
        go_wp2_with fail
        go_ret
        exact ⟨rfl, hb1⟩
  · obtain ⟨cut, rfl⟩ := Int.eq_ofNat_of_zero_le (show 0 ≤ a1 by omega)
    have g1 : ¬ 100000 < len0 := by omega
    have g2 : cut ≤ len0 := by omega
    clear hbig
    by_cases hn0 : len0 = 0
    · subst hn0
      obtain rfl : cut = 0 := by omega
      have hq : (Crc.U (Crc.more (Crc.V (Crc.U (Crc.more 0#32 []))) []) == Crc.U (Crc.more 0#32 [])) = true := more_parts [] 0
      have hbd : Below w.heap.size w w.drew := (Below.refl _ _).drew
      clear HRow w0
      go_enter Try.func5, Try.ntmps5
      go_wp2_with fail
      go_region_with (first
        | (go_at_call 11; refine (more_any _ _ _ _ [] _ (by omega) (row_none _ _)).mono ?_; rintro e w1 ⟨rfl, hb1⟩; have hb1' := Below.trans (by assumption) (hb1.mono (Below.size (by assumption))))
        | (go_at_call 9; refine (works_any _).mono ?_; rintro e w1 ⟨rfl, hb1⟩; have hb1' := Below.trans (by assumption) (hb1.mono (Below.size (by assumption))))
        | (go_at_call 10; refine (sum_any _ _ _ [] _ (by omega) (row_none _ _)).mono ?_; rintro e w1 ⟨rfl, hb1⟩; have hb1' := Below.trans (by assumption) (hb1.mono (Below.size (by assumption)))))
      go_wp2
      go_ret
      exact ⟨rfl, by assumption⟩
    rcases w0 with ⟨rfl, rfl, rfl, rfl⟩ | ⟨x, rfl, hl, hm, hz, hcell, hwz⟩
    · omega
    · clear hcell hwz
      have c0 : (0 : Int) ≤ cut := by omega
      have c1 : (cut : Int) ≤ len0 := by omega
      have c2 : (cut : Int) ≤ cap0 := by omega
      have c3 : (len0 : Int) ≤ cap0 := by omega
      obtain ⟨b, off, rfl⟩ : ∃ b off, x = ⟨b, off, none⟩ := by
        rcases HRow.out.2.2 with h | ⟨b, off, e, _⟩
        · omega
        · exact ⟨b, off, by simpa using e⟩
      have hq := more_parts (z0.take len0) cut
      have HP := Lib.hid (row_take HRow.out cut g2)
      have HS := Lib.hid (row_drop HRow.out cut)
      have hbd : Below w.heap.size w w.drew := (Below.refl _ _).drew
      generalize z0.take len0 = l at *
      by_cases hcc : cap0 = cut
      · subst hcc
        obtain rfl : len0 = cap0 := by omega
        rw [List.take_of_length_le (by have := HRow.out.1; omega), List.drop_of_length_le (by have := HRow.out.1; omega)] at hq
        clear HP HS
        go_enter Try.func5, Try.ntmps5
        go_wp2_with fail
        go_region_with (first
          | (go_at_call 11; refine (more_any _ _ _ _ [] _ (by omega) (row_none _ _)).mono ?_; rintro e w1 ⟨rfl, hb1⟩; have hb1' := Below.trans (by assumption) (hb1.mono (Below.size (by assumption))))
          | (go_at_call 9; refine (works_any _).mono ?_; rintro e w1 ⟨rfl, hb1⟩; have hb1' := Below.trans (by assumption) (hb1.mono (Below.size (by assumption))))
          | (go_at_call 10; refine (sum_any _ _ _ l _ (by omega) ?_).mono ?_; exact HRow.out.below (by assumption) (Nat.le_refl _); rintro e w1 ⟨rfl, hb1⟩; have hb1' := Below.trans (by assumption) (hb1.mono (Below.size (by assumption)))))
        go_wp2
        go_ret
        exact ⟨rfl, by assumption⟩
      · go_enter Try.func5, Try.ntmps5
        go_wp2_with fail
        go_region_with (first
          | (go_at_call 11; refine (more_any _ _ _ _ (l.drop cut) _ (by omega) ?_).mono ?_; exact HS.out.below (by assumption) (Nat.le_refl _); rintro e w1 ⟨rfl, hb1⟩; have hb1' := Below.trans (by assumption) (hb1.mono (Below.size (by assumption))))
          | (go_at_call 9; refine (works_any _).mono ?_; rintro e w1 ⟨rfl, hb1⟩; have hb1' := Below.trans (by assumption) (hb1.mono (Below.size (by assumption))))
          | (go_at_call_of 10 (Value.slice (some ⟨b, off, none⟩) cut cap0); refine (sum_any _ _ _ (l.take cut) _ (by omega) ?_).mono ?_; exact HP.out.below (by assumption) (Nat.le_refl _); rintro e w1 ⟨rfl, hb1⟩; have hb1' := Below.trans (by assumption) (hb1.mono (Below.size (by assumption))))
          | (go_at_call_of 10 (Value.slice (some ⟨b, off, none⟩) len0 cap0); refine (sum_any _ _ _ l _ (by omega) ?_).mono ?_; exact HRow.out.below (by assumption) (Nat.le_refl _); rintro e w1 ⟨rfl, hb1⟩; have hb1' := Below.trans (by assumption) (hb1.mono (Below.size (by assumption)))))
        go_wp2
        go_ret
        exact ⟨rfl, by assumption⟩

set_option maxRecDepth 100000 in
theorem lifted (os : Os) (started : os.Started) (H : Type) (enc : TypeId × Value → H) :
    ReturnsInHanded {} Try.checked os 5 .any (Rows.crcPartsSpec.pre6 enc Try.prog Try.f5 Rows.crcPartsRow.domain false) (Rows.crcPartsSpec.post enc Try.prog Try.f5 false true false false) := by
  refine returnsInHanded_of_change (C := Try.checked) own started (by kernel_rfl) Try.func5
    (ChangeSpec.witness6 (enc := enc) (C := Try.checked) false ⟨#[], #[.slice none 0 0, .int .i64 0], []⟩ 8 (by kernel_rfl) (by kernel_rfl) (by kernel_rfl) (by kernel_rfl)) ?_
  intro W base args ds gs before hval0 hW hcnd _
  have hval : ∀ (j : Nat) t v, Try.f5.params[j]? = some t → args[j]? = some v → Value.okWide Try.prog W .any base t v := hval0
  have hW' := hW
  obtain ⟨p, q, hA0, hV, rfl, hfz, hnd⟩ := hW
  have hA : DataW.TrodAll enc Try.prog W 0 (fun _ => true) true Try.f5.params.toList args.toList ds p := hA0
  rw [Try.params5] at hA hval
  obtain ⟨v0, vs0, d0, ds0, p0, q0, hargs, rfl, rfl, h0, r0⟩ := trodAll_cons hA
  obtain ⟨v1, vs1, d1, ds1, p1, q1, rfl, rfl, rfl, h1, r1⟩ := trodAll_cons r0
  obtain ⟨rfl, rfl, rfl⟩ := trodAll_nil r1
  obtain rfl : args = #[v0, v1] := by cases args; simp_all
  obtain ⟨rfl, rfl⟩ := trodVars_none hV
  obtain ⟨a0, len0, cap0, rfl⟩ := okWide_slice Try.underlying26 (hval 0 26 v0 rfl rfl)
  have k0 := h0
  have lt0 : ∀ x ∈ p0, x.block < W.heap.size := by obtain ⟨m, hm⟩ := k0; exact DataW.trod_lt m _ _ _ hm
  obtain ⟨z0, w0⟩ : ∃ zs, IsRow .u8 W a0 len0 cap0 zs := by
    obtain ⟨fuel, hf⟩ := h0
    rcases open_ints Try.underlying26 Try.underlying5 (by kernel_rfl) hf with ⟨hcs, _⟩ | ⟨x, l, c, zs, hcs, _, hl, hm, hz, _, hcell, hwz⟩
    · simp [Value.cells] at hcs
      obtain ⟨rfl, rfl, rfl⟩ := hcs
      exact ⟨[], .inl ⟨rfl, rfl, rfl, rfl⟩⟩
    · simp [Value.cells] at hcs
      obtain ⟨rfl, rfl, rfl⟩ := hcs
      exact ⟨zs, .inr ⟨_, rfl, hl, hm, by simpa using hz, hcell, hwz⟩⟩
  obtain ⟨a1, rfl, rfl, rfl, w1⟩ := open_int Try.underlying3 (hval 1 3 v1 rfl rfl) h1
  clear hA0 hval0
  refine (walk a0 len0 cap0 z0 a1 W w0 w1).mono fun e W' ⟨he, bel⟩ => ?_
  subst he
  exact ⟨_, rfl, _, _, _, [], _, [], hW', trodAll_mk1 (shut_bool Try.underlying4 _), (trodAll_cons_mk (Below.trod laidOut (by kernel_rfl) (of_decide_eq_true (by kernel_rfl)) k0 bel lt0) (trodAll_cons_mk (shut_int Try.underlying3 w1) trodAll_mk0)), rfl, bel.frame _, fun h => by cases h⟩

theorem over : Rows.crcPartsRow.holds Try.pinned (OpenSpec.ofChange Rows.crcPartsSpec) :=
  OpenClaim.holds_of_wide 5 Try.f5 rfl rfl rfl rfl rfl rfl rfl ⟨rfl, rfl, rfl, rfl, rfl⟩ rfl rfl rfl rfl rfl (by kernel_rfl) Try.func5 (by kernel_rfl)
    (of_decide_eq_true (by kernel_rfl)) (by unfold Func.isWrapper; first | (rw [if_pos (by decide +kernel)]; kernel_rfl) | (rw [if_neg (by decide +kernel)]; exact ⟨rfl, rfl⟩))
    (fun os started H enc _ => lifted os started H enc)

theorem proved : Rows.CrcPartsSaid := over
#print axioms proved
end Go.Proofs.Ytfjjfddlnbaloaa.crcParts
