/- The statement CrcTurns holds: whatever the input, the call answers true, and what was handed in reads as it did. No conditions beyond the statement's own. The frame around the walk follows the guide's shell. -/
import Derived.Test.YtfjjfddlnbaloaaCrcW4
import Derived.Test.YtfjjfddlnbaloaaCrcTurnMath
import Derived.Deep.RegionWith
import Derived.RegionTactic
import Derived.BigRegion
import Derived.Laws.MakeOwn
import Derived.OwnWalk
import Derived.WalkKit
import Derived.ProofKit
import Derived.OpenShut
import Derived.ShutString
import Derived.ChangeOld
import Derived.Below
namespace Go.Proofs.Ytfjjfddlnbaloaa.crcTurns
open Go.ChangeShapes Go.WideShapes Go.ChangeAt Go.RowKit
open Go.ChangeMaps (open_string shut_string)
set_option linter.unusedVariables false

theorem own : ownKnob Try.prog.godebug = none := by kernel_rfl
theorem laidOut : laidOutB Try.prog = true := by kernel_rfl

/-- cells of bytes -/
def rowA (l : List Int) : Array Value := (l.map (Value.int .u8)).toArray
theorem rowA_at (l : List Int) (i : Nat) (h : i < l.length) : (rowA l)[i]? = some (.int .u8 (l.getD i 0)) := by simp [rowA, h]
theorem rowA_set (l : List Int) (i : Nat) (z : Int) : (rowA l).setIfInBounds i (.int .u8 z) = rowA (l.set i z) := by
  simp [rowA, List.map_set]
theorem made_zeros (n : Nat) : madeCells #[.int .u8 0] n = rowA (List.replicate n 0) := by
  apply Array.ext
  · simp [madeCells, rowA]
  · intro i h1 h2
    simp [madeCells, rowA, Nat.mod_one]

theorem infoByte : (Try.prog.info? 5).map (fun i => (i.zero, i.size, i.bytes)) = some (some (.int .u8 0), 1, 1) := by kernel_rfl
theorem make_bytes (w : World) (n : Nat) (h : n ≤ 100000) :
    (Instr.makeSlice 26 (.int .i64 n) (.int .i64 n)).run Try.prog w = .ok (.slice (some ⟨w.heap.size, 0, none⟩) n n) (w.alloc (.cells (rowA (List.replicate n 0)) 5)) := by
  obtain ⟨i, hi, hz, hs, hb⟩ := info_parts infoByte
  have := run_make (P := Try.prog) w 26 5 i (.int .u8 0) Try.underlying26 hi hz .i64 .i64 (n : Int) (n : Int) (by omega) (by omega) (by rw [hb]; omega) (by omega)
  rw [this, hs, Int.toNat_natCast, Nat.mul_one]
  rw [show madeCells (Value.int IntKind.u8 0).cells n = rowA (List.replicate n 0) from made_zeros n]

theorem row_take {w : World} {a : Option Addr} {n : Nat} {l : List Int} (h : Row w a n l) (k : Nat) (hk : k ≤ n) : Row w a k (l.take k) := by
  obtain ⟨h1, h2, h3⟩ := h
  refine ⟨by simp; omega, fun z hz => h2 z (List.mem_of_mem_take hz), ?_⟩
  rcases h3 with h3 | ⟨b, off, rfl, hc⟩
  · exact Or.inl (by omega)
  · refine Or.inr ⟨b, off, rfl, fun i hi => ?_⟩
    have e : (l.take k).getD i 0 = l.getD i 0 := by simp [List.getD, hi]
    rw [e]; exact hc i (by omega)

theorem min_three (n0 n1 n2 : Nat) : ∃ n : Nat, n ≤ n0 ∧ n ≤ n1 ∧ n ≤ n2 ∧ ∀ W, (Builtin.min_ #[3, 3, 3] 3 #[.int .i64 n0, .int .i64 n1, .int .i64 n2]).run Try.prog W = .ok (.int .i64 n) W := by
  refine ⟨min (min n0 n1) n2, by omega, by omega, by omega, fun W => ?_⟩
  have h : (if (n2 : Int) < (if (n1 : Int) < n0 then (n1 : Int) else n0) then (n2 : Int) else (if (n1 : Int) < n0 then (n1 : Int) else n0)) = ((min (min n0 n1) n2 : Nat) : Int) := by
    split <;> split <;> omega
  simp only [Builtin.min_, ← h]
  simp [Builtin.min2]

theorem row_at {w : World} {a : Option Addr} {n : Nat} {l : List Int} (h : Row w a n l) (k : Nat) (hk : k < n) :
    ∃ b off, a = some ⟨b, off, none⟩ ∧ w.cell? ⟨b, off + k, none⟩ = some (.int .u8 (l.getD k 0)) ∧ (0 ≤ l.getD k 0 ∧ l.getD k 0 ≤ 255) := by
  obtain ⟨h1, h2, h3⟩ := h
  rcases h3 with h3 | ⟨b, off, rfl, hc⟩
  · omega
  · exact ⟨b, off, rfl, hc k hk, h2 _ (by simp [show k < l.length from by omega])⟩

/-- what the new row holds behind k rounds -/
def TRel (w : World) (n : Nat) (l0 l1 l2 : List Int) (k : Nat) (wr : World) : Prop :=
  ∃ ys : List Int, ys.length = n ∧ (∀ z ∈ ys, 0 ≤ z ∧ z ≤ 255) ∧ (∀ j, j < k → Crc.V (ys.getD j 0) = Crc.V (l0.getD j 0) ^^^ Crc.V (l1.getD j 0) ^^^ Crc.V (l2.getD j 0)) ∧
    wr.heap[w.heap.size]? = some (.cells (rowA ys) 5 (0, 0)) ∧ Below w.heap.size w wr

theorem trel_start (w : World) (n : Nat) (l0 l1 l2 : List Int) : TRel w n l0 l1 l2 0 (w.alloc (.cells (rowA (List.replicate n 0)) 5)) := by
  refine ⟨List.replicate n 0, by simp, ?_, fun j hj => by omega, heap_alloc_new _ _, (Below.refl _ _).alloc (Nat.le_refl _) _⟩
  intro z hz
  obtain ⟨_, rfl⟩ := List.mem_replicate.1 hz
  omega

theorem trel_next {w wr : World} {n : Nat} {l0 l1 l2 : List Int} {k : Nat} (h : TRel w n l0 l1 l2 k wr) (hk : k < n) (z : Int) (hz : 0 ≤ z ∧ z ≤ 255)
    (hv : Crc.V z = Crc.V (l0.getD k 0) ^^^ Crc.V (l1.getD k 0) ^^^ Crc.V (l2.getD k 0)) : TRel w n l0 l1 l2 (k + 1) (wr.setCell ⟨w.heap.size, k, none⟩ (.int .u8 z)).drew := by
  obtain ⟨ys, h1, h2, h3, h4, h5⟩ := h
  refine ⟨ys.set k z, by simpa using h1, ?_, ?_, ?_, ?_⟩
  · intro u hu
    rcases List.mem_or_eq_of_mem_set hu with hu | rfl
    · exact h2 u hu
    · exact hz
  · intro j hj
    by_cases e : k = j
    · subst e
      rw [← hv]; congr 1; simp [show k < ys.length from by omega]
    · rw [← h3 j (by omega)]; congr 1; simp [e]
  · show (wr.setCell ⟨w.heap.size, k, none⟩ (.int .u8 z)).heap[w.heap.size]? = _
    rw [row_setCell h4, rowA_set]
  · exact (h5.setCell (Nat.le_refl _) _).drew

set_option maxHeartbeats 4000000 in
theorem walk (a0 : Option Addr) (len0 cap0 : Nat) (z0 : List Int) (a1 : Option Addr) (len1 cap1 : Nat) (z1 : List Int) (a2 : Option Addr) (len2 cap2 : Nat) (z2 : List Int) (w : World) (w0 : IsRow .u8 w a0 len0 cap0 z0) (w1 : IsRow .u8 w a1 len1 cap1 z1) (w2 : IsRow .u8 w a2 len2 cap2 z2) :
    Calls Try.prog 7 #[.slice a0 len0 cap0, .slice a1 len1 cap1, .slice a2 len2 cap2] w fun e w' => e = .returned (.bool true) ∧ Below w.heap.size w w' := by
  obtain ⟨hlen0, hcap0⟩ := w0.len
  obtain ⟨hlen1, hcap1⟩ := w1.len
  obtain ⟨hlen2, hcap2⟩ := w2.len
  obtain ⟨n, hn0, hn1, hn2, hmin⟩ := min_three len0 len1 len2
  have HR0 := Lib.hid (row_take w0.row n hn0)
  have HR1 := Lib.hid (row_take w1.row n hn1)
  have HR2 := Lib.hid (row_take w2.row n hn2)
  generalize (z0.take len0).take n = l0 at *
  generalize (z1.take len1).take n = l1 at *
  generalize (z2.take len2).take n = l2 at *
  clear w0 w1 w2
  by_cases hbig : 100000 < n
  · go_enter Try.func7, Try.ntmps7
    go_wp2_with fail
    refine (works_any _).mono ?_
    rintro e w1 ⟨rfl, hb1⟩
    go_wp2_with fail
    go_ret
    exact ⟨rfl, hb1⟩
  · have hmk := make_bytes w n (by omega)
    go_enter Try.func7, Try.ntmps7
    go_wp2_with fail
    clear hmk hmin
    go_loopw [24] (fun i wr => ∃ k : Nat, k ≤ n ∧ i = .int .i64 k ∧ TRel w n l0 l1 l2 k wr) (fun i _ => n - (intOf i).toNat)
    case atStart => exact ⟨0, by omega, rfl, trel_start w n l0 l1 l2⟩
    case round =>
      obtain ⟨k, hk, rfl, HT⟩ := hrel
      by_cases hlt : k < n
      · have hbw := HT.choose_spec.2.2.2.2
        obtain ⟨b0, o0, rfl, c0, r0⟩ := row_at (HR0.out.below hbw (Nat.le_refl _)) k hlt
        obtain ⟨b1, o1, rfl, c1, r1⟩ := row_at (HR1.out.below hbw (Nat.le_refl _)) k hlt
        obtain ⟨b2, o2, rfl, c2, r2⟩ := row_at (HR2.out.below hbw (Nat.le_refl _)) k hlt
        have cy : ∃ y : Int, wr.cell? ⟨w.heap.size, k, none⟩ = some (.int .u8 y) := by
          obtain ⟨ys, h1, _, _, h4, _⟩ := HT
          exact ⟨_, by rw [cell_of_row _ _ _ _ _ _ h4]; exact rowA_at ys k (by omega)⟩
        obtain ⟨y, cy⟩ := cy
        have fy : wr.frozen? ⟨w.heap.size, k, none⟩ = false := by
          obtain ⟨ys, _, _, _, h4, _⟩ := HT
          exact row_free h4
        have HN := Lib.hid (fun z => trel_next HT hlt z)
        clear HT hbw
        generalize l0.getD k 0 = x0 at *
        generalize l1.getD k 0 = x1 at *
        generalize l2.getD k 0 = x2 at *
        obtain ⟨r00, r01⟩ := r0
        obtain ⟨r10, r11⟩ := r1
        obtain ⟨r20, r21⟩ := r2
        have hd : decide (k < n) = true := by simp; omega
        have k0 : (0 : Int) ≤ k := by omega
        have k1 : (k : Int) < len0 := by omega
        have k2 : (k : Int) < len1 := by omega
        have k3 : (k : Int) < len2 := by omega
        have k4 : (k : Int) < n := by omega
        go_wp2_with fail
        go_region
        go_wp2_with fail
        go_roundw
        case rel =>
          have e1 := Crc.xor8 x0 x1 ⟨r00, r01⟩ ⟨r10, r11⟩
          have e2 := Crc.xor8 _ x2 e1.1 ⟨r20, r21⟩
          exact ⟨k + 1, by omega, by go_num, HN.out _ e2.1 (by rw [e2.2, e1.2])⟩
        case measure => simp [intOf]; omega
      · obtain rfl : k = n := by omega
        have hbw := HT.choose_spec.2.2.2.2
        have H0 := Lib.hid (HR0.out.below hbw (Nat.le_refl _))
        have H1 := Lib.hid (HR1.out.below hbw (Nat.le_refl _))
        have H2 := Lib.hid (HR2.out.below hbw (Nat.le_refl _))
        obtain ⟨ys, y1, y2, y3, y4, _⟩ := HT
        have HY : Hid (Row wr (some ⟨w.heap.size, 0, none⟩) k ys) := ⟨y1, y2, Or.inr ⟨_, _, rfl, fun i hi => by rw [cell_of_row _ _ _ _ _ _ y4, Nat.zero_add]; exact rowA_at ys i (by omega)⟩⟩
        have hq : (Crc.U (Crc.more 0#32 ys) == bits .xor .u32 (bits .xor .u32 (Crc.U (Crc.more 0#32 l0)) (Crc.U (Crc.more 0#32 l1))) (Crc.U (Crc.more 0#32 l2))) = true := by
          have l0n := H0.out.1
          have l1n := H1.out.1
          have l2n := H2.out.1
          rw [Crc.xor_U, Crc.xor_U, Crc.V_U, Crc.V_U, Crc.V_U, Crc.V_U]
          unfold Crc.more
          rw [← Crc.turns ys l0 l1 l2 (by omega) (by omega) (by omega) (fun j hj => y3 j (by omega))]
          exact beq_self_eq_true _
        clear y1 y2 y3 y4 HR0 HR1 HR2
        have hbd : Below wr.heap.size wr wr.drew := (Below.refl _ _).drew
        have HB := Lib.hid hbw
        clear hbw
        have hd : decide (k < k) = false := by simp
        have k0 : (0 : Int) ≤ k := by omega
        have k1 : (k : Int) ≤ cap0 := by omega
        have k2 : (k : Int) ≤ cap1 := by omega
        have k3 : (k : Int) ≤ cap2 := by omega
        go_wp2_with fail
        go_region_with (first
          | (go_at_call 9; refine (works_any _).mono ?_; rintro e w1 ⟨rfl, hb1⟩; have hb1' := Below.trans (by assumption) (hb1.mono (Below.size (by assumption))))
          | (go_at_call_of 10 w; refine (sum_any _ _ _ ys _ (by omega) ?_).mono ?_; exact HY.out.below (by assumption) (Nat.le_refl _); rintro e w1 ⟨rfl, hb1⟩; have hb1' := Below.trans (by assumption) (hb1.mono (Below.size (by assumption))))
          | (go_at_call_of 10 cap0; refine (sum_any _ _ _ l0 _ (by omega) ?_).mono ?_; exact H0.out.below (by assumption) (Nat.le_refl _); rintro e w1 ⟨rfl, hb1⟩; have hb1' := Below.trans (by assumption) (hb1.mono (Below.size (by assumption))))
          | (go_at_call_of 10 cap1; refine (sum_any _ _ _ l1 _ (by omega) ?_).mono ?_; exact H1.out.below (by assumption) (Nat.le_refl _); rintro e w1 ⟨rfl, hb1⟩; have hb1' := Below.trans (by assumption) (hb1.mono (Below.size (by assumption))))
          | (go_at_call_of 10 cap2; refine (sum_any _ _ _ l2 _ (by omega) ?_).mono ?_; exact H2.out.below (by assumption) (Nat.le_refl _); rintro e w1 ⟨rfl, hb1⟩; have hb1' := Below.trans (by assumption) (hb1.mono (Below.size (by assumption)))))
        go_goals
        go_wp2
        go_ret
        exact ⟨rfl, HB.out.trans (Below.mono (by assumption) HB.out.size)⟩

set_option maxRecDepth 100000 in
theorem lifted (os : Os) (started : os.Started) (H : Type) (enc : TypeId × Value → H) :
    ReturnsInHanded {} Try.checked os 7 .any (Rows.crcTurnsSpec.pre6 enc Try.prog Try.f7 Rows.crcTurnsRow.domain false) (Rows.crcTurnsSpec.post enc Try.prog Try.f7 false true false false) := by
  refine returnsInHanded_of_change (C := Try.checked) own started (by kernel_rfl) Try.func7
    (ChangeSpec.witness6 (enc := enc) (C := Try.checked) false ⟨#[], #[.slice none 0 0, .slice none 0 0, .slice none 0 0], []⟩ 8 (by kernel_rfl) (by kernel_rfl) (by kernel_rfl) (by kernel_rfl)) ?_
  intro W base args ds gs before hval0 hW hcnd _
  have hval : ∀ (j : Nat) t v, Try.f7.params[j]? = some t → args[j]? = some v → Value.okWide Try.prog W .any base t v := hval0
  have hW' := hW
  obtain ⟨p, q, hA0, hV, rfl, hfz, hnd⟩ := hW
  have hA : DataW.TrodAll enc Try.prog W 0 (fun _ => true) true Try.f7.params.toList args.toList ds p := hA0
  rw [Try.params7] at hA hval
  obtain ⟨v0, vs0, d0, ds0, p0, q0, hargs, rfl, rfl, h0, r0⟩ := trodAll_cons hA
  obtain ⟨v1, vs1, d1, ds1, p1, q1, rfl, rfl, rfl, h1, r1⟩ := trodAll_cons r0
  obtain ⟨v2, vs2, d2, ds2, p2, q2, rfl, rfl, rfl, h2, r2⟩ := trodAll_cons r1
  obtain ⟨rfl, rfl, rfl⟩ := trodAll_nil r2
  obtain rfl : args = #[v0, v1, v2] := by cases args; simp_all
  obtain ⟨rfl, rfl⟩ := trodVars_none hV
  obtain ⟨a0, len0, cap0, rfl⟩ := okWide_slice Try.underlying26 (hval 0 26 v0 rfl rfl)
  have k0 := h0
  have lt0 : ∀ x ∈ p0, x.block < W.heap.size := by obtain ⟨m, hm⟩ := k0; exact DataW.trod_lt m _ _ _ hm
  obtain ⟨z0, w0⟩ : ∃ zs, IsRow .u8 W a0 len0 cap0 zs := by
    obtain ⟨fuel, hf⟩ := h0
    rcases open_ints Try.underlying26 Try.underlying5 (by kernel_rfl) hf with ⟨hcs, _⟩ | ⟨x, l, c, zs, hcs, _, hl, hm, hz, _, hcell, hwz⟩
    · simp [Value.cells] at hcs
      obtain ⟨rfl, rfl, rfl⟩ := hcs
      exact ⟨[], .inl ⟨rfl, rfl, rfl, rfl⟩⟩
    · simp [Value.cells] at hcs
      obtain ⟨rfl, rfl, rfl⟩ := hcs
      exact ⟨zs, .inr ⟨_, rfl, hl, hm, by simpa using hz, hcell, hwz⟩⟩
  obtain ⟨a1, len1, cap1, rfl⟩ := okWide_slice Try.underlying26 (hval 1 26 v1 rfl rfl)
  have k1 := h1
  have lt1 : ∀ x ∈ p1, x.block < W.heap.size := by obtain ⟨m, hm⟩ := k1; exact DataW.trod_lt m _ _ _ hm
  obtain ⟨z1, w1⟩ : ∃ zs, IsRow .u8 W a1 len1 cap1 zs := by
    obtain ⟨fuel, hf⟩ := h1
    rcases open_ints Try.underlying26 Try.underlying5 (by kernel_rfl) hf with ⟨hcs, _⟩ | ⟨x, l, c, zs, hcs, _, hl, hm, hz, _, hcell, hwz⟩
    · simp [Value.cells] at hcs
      obtain ⟨rfl, rfl, rfl⟩ := hcs
      exact ⟨[], .inl ⟨rfl, rfl, rfl, rfl⟩⟩
    · simp [Value.cells] at hcs
      obtain ⟨rfl, rfl, rfl⟩ := hcs
      exact ⟨zs, .inr ⟨_, rfl, hl, hm, by simpa using hz, hcell, hwz⟩⟩
  obtain ⟨a2, len2, cap2, rfl⟩ := okWide_slice Try.underlying26 (hval 2 26 v2 rfl rfl)
  have k2 := h2
  have lt2 : ∀ x ∈ p2, x.block < W.heap.size := by obtain ⟨m, hm⟩ := k2; exact DataW.trod_lt m _ _ _ hm
  obtain ⟨z2, w2⟩ : ∃ zs, IsRow .u8 W a2 len2 cap2 zs := by
    obtain ⟨fuel, hf⟩ := h2
    rcases open_ints Try.underlying26 Try.underlying5 (by kernel_rfl) hf with ⟨hcs, _⟩ | ⟨x, l, c, zs, hcs, _, hl, hm, hz, _, hcell, hwz⟩
    · simp [Value.cells] at hcs
      obtain ⟨rfl, rfl, rfl⟩ := hcs
      exact ⟨[], .inl ⟨rfl, rfl, rfl, rfl⟩⟩
    · simp [Value.cells] at hcs
      obtain ⟨rfl, rfl, rfl⟩ := hcs
      exact ⟨zs, .inr ⟨_, rfl, hl, hm, by simpa using hz, hcell, hwz⟩⟩
  clear hA0 hval0
  refine (walk a0 len0 cap0 z0 a1 len1 cap1 z1 a2 len2 cap2 z2 W w0 w1 w2).mono fun e W' ⟨he, bel⟩ => ?_
  subst he
  exact ⟨_, rfl, _, _, _, [], _, [], hW', trodAll_mk1 (shut_bool Try.underlying4 _), (trodAll_cons_mk (Below.trod laidOut (by kernel_rfl) (of_decide_eq_true (by kernel_rfl)) k0 bel lt0) (trodAll_cons_mk (Below.trod laidOut (by kernel_rfl) (of_decide_eq_true (by kernel_rfl)) k1 bel lt1) (trodAll_cons_mk (Below.trod laidOut (by kernel_rfl) (of_decide_eq_true (by kernel_rfl)) k2 bel lt2) trodAll_mk0))), rfl, bel.frame _, fun h => by cases h⟩

theorem over : Rows.crcTurnsRow.holds Try.pinned (OpenSpec.ofChange Rows.crcTurnsSpec) :=
  OpenClaim.holds_of_wide 7 Try.f7 rfl rfl rfl rfl rfl rfl rfl ⟨rfl, rfl, rfl, rfl, rfl⟩ rfl rfl rfl rfl rfl (by kernel_rfl) Try.func7 (by kernel_rfl)
    (of_decide_eq_true (by kernel_rfl)) (by unfold Func.isWrapper; first | (rw [if_pos (by decide +kernel)]; kernel_rfl) | (rw [if_neg (by decide +kernel)]; exact ⟨rfl, rfl⟩))
    (fun os started H enc _ => lifted os started H enc)

theorem proved : Rows.CrcTurnsSaid := over
#print axioms proved
end Go.Proofs.Ytfjjfddlnbaloaa.crcTurns
