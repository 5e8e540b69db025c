/- The statement WireWrites holds: whatever values come in, the call answers true, and what was handed in reads as it did. No conditions beyond the statement's own. -/
import Derived.Test.YtimhppgepiikbaaWireOpen
import Derived.Test.YtimhppgepiikbaaWireK
import Derived.Test.YtimhppgepiikbaaWireR3
import Derived.Test.YtimhppgepiikbaaWireGreat
import Derived.Test.YtimhppgepiikbaaWireMath3
import Derived.ShutString
import Derived.ChangeOld
namespace Go.Proofs.Ytimhppgepiikbaa.wireWrites
open Go.ChangeShapes Go.WideShapes Go.ChangeAt Go.RowKit Wire
set_option linter.unusedVariables false
theorem own : ownKnob Try.prog.godebug = none := by kernel_rfl
theorem laidOut : laidOutB Try.prog = true := by kernel_rfl
theorem bytes_of {p : Nat → Prop} {w : World} (f : F) : ∀ {b o : Nat}, FIn p w b o f → Bytes f := by
  induction f with
  | nil => intro _ _ _; trivial
  | cons k n i bs sub next ihs ihn =>
    intro b o h
    obtain ⟨_, _, _, _, ⟨ba, bn, bc, _, _, _, h6⟩, ⟨la, ln, lc, _, _, _, g4, g5⟩, _, hn⟩ := h
    refine ⟨h6.2.1, ?_, ihn hn⟩
    rcases g5 with g5 | ⟨b', o', _, g5⟩
    · cases sub with
      | nil => trivial
      | cons => simp [F.len] at g4; omega
    · exact ihs g5
theorem bytes_row {p : Nat → Prop} {w : World} {a : Option Addr} {n : Nat} {f : F} (h : FRow p w a n f) : Bytes f := by
  obtain ⟨h1, h2⟩ := h
  rcases h2 with h2 | ⟨b, o, _, h2⟩
  · cases f with
    | nil => trivial
    | cons => simp [F.len] at h1; omega
  · exact bytes_of f h2
set_option maxHeartbeats 2000000 in
theorem walk (a : Option Addr) (n c : Nat) (f : F) (w : World) (hc : n ≤ c) (hm : c ≤ 9223372036854775807) (hr : FRow (fun _ => False) w a n f) :
    Calls Try.prog 3 #[.slice a n c] w fun e w' => e = .returned (.bool true) ∧ Below w.heap.size w w' := by
  have HR := Lib.hid hr
  have HBy := Lib.hid (bytes_row hr)
  clear hr
  go_enter Try.func3, Try.ntmps3
  go_wp2_with fail
  refine (known_any w).mono ?_
  rintro r w1 ⟨rfl, hb1⟩
  have B1 := Lib.hid hb1
  have HR1 := Lib.hid (HR.out.kept (Kept.of_below hb1))
  clear hb1
  cases hg : great f 0 0 with
  | true =>
    have hG := great_any _ (f.size + 1) f (by omega) w1 a n c 0 HR1.out hc hm (by omega) (by omega)
    rw [hg] at hG
    have HG := Lib.hid hG
    clear hG hg
    go_wp2_with fail
    refine HG.out.mono ?_
    rintro r w2 ⟨rfl, rfl⟩
    go_wp2_with fail
    go_ret
    exact ⟨rfl, B1.out⟩
  | false =>
    have hG := great_any _ (f.size + 1) f (by omega) w1 a n c 0 HR1.out hc hm (by omega) (by omega)
    rw [hg] at hG
    have HG := Lib.hid hG
    have HSm := Lib.hid (small_great f 0 0 (by omega) hg)
    have HWR := Lib.hid (wF_rF f [] HSm.out HBy.out (by simp))
    clear hG hg
    go_wp2_with fail
    refine HG.out.mono ?_
    rintro r w2 ⟨rfl, rfl⟩
    go_wp2_with fail
    have hW0 := wst_new (w := w1) (Nat.le_refl w1.heap.size)
    have hB2 : Below w1.heap.size w1 (w1.alloc (.cells #[.slice none 0 0, .int .i64 0] 29)) := (Below.refl _ _).alloc (Nat.le_refl _) _
    have hR2 : FRow (fun k => w1.heap.size ≤ k) (w1.alloc (.cells #[.slice none 0 0, .int .i64 0] 29)) a n f := (HR1.out.imp (q := fun k => w1.heap.size ≤ k) (fun k hk h => by omega)).kept (Kept.below hB2)
    refine (write_any w1.heap.size w1.heap.size f _ _ a n c hB2.size hW0 hR2 hc hm).mono ?_
    rintro r w3 ⟨rfl, h1, h2⟩
    rw [HWR.out] at h1
    have H3 := Lib.hid h1
    have hb3 := hB2.trans h2
    have HR3 := Lib.hid (HR1.out.kept (Kept.of_below hb3))
    have B3 := Lib.hid (B1.out.trans (hb3.mono B1.out.size))
    have HFst := Lib.hid (rF_fst f [])
    clear hW0 hB2 hR2 h1 h2 hb3 HWR HR1
    have HRef := Lib.hid (fun (w4 : World) (h : FRow (fun k => w4.heap.size ≤ k) w4 a n f) => ref_any w4.heap.size (f.size + 1) f (by omega) w4 [] none a 0 0 n c (Nat.le_refl _) (World.ownsRow_nil _ _ _ _) (by omega) h HSm.out hc hm)
    have HLn := Lib.hid (rF_len f [] (by simp))
    unfold RefPost at HRef
    generalize rF f [] = S at *
    obtain ⟨L, E⟩ := S
    simp only at HFst HRef HLn
    go_wp2_with fail
    refine (done_any _ _ w3 _ H3.out HFst.out).mono ?_
    rintro r w4 ⟨v, rfl, a4, n4, c4, rfl, h1, h2, h3, h4, h5⟩
    have HA4 := Lib.hid h1
    have HR4 := Lib.hid ((HR3.out.imp (q := fun k => w3.heap.size ≤ k) (fun k hk h => by omega)).kept (Kept.of_below h5))
    have H4 := Lib.hid (WSt.below H3.out h5)
    have B4 := Lib.hid (B3.out.trans (h5.mono B3.out.size))
    have HByL : Hid (∀ z ∈ L, 0 ≤ z ∧ z ≤ 255) := h1.2.1
    clear h1 h2 h3 h4 h5 H3 HR3 B3
    go_wp2_with fail
    refine (HRef.out w4 (HR4.out.imp (fun k hk h => by omega))).mono ?_
    rintro r w5 ⟨a5, n5, c5, rfl, h1, _, h2⟩
    obtain ⟨hs5, _, _, _⟩ := own_parts h1 HByL.out
    have HB5 := Lib.hid hs5
    have HA5 := Lib.hid (HA4.out.kept (Kept.of_below h2))
    have H5 := Lib.hid (WSt.below H4.out h2)
    have B5 := Lib.hid (B4.out.trans (h2.mono B4.out.size))
    clear h1 h2 hs5 HA4 H4 B4 HR4 HRef
    go_wp2_with fail
    refine (done_any _ _ w5 _ H5.out HFst.out).mono ?_
    rintro r w6 ⟨v, rfl, a6, n6, c6, rfl, h1, _, _, _, h5⟩
    have hsA := row_string c4 (HA5.out.kept (Kept.of_below h5))
    have hsB := row_string c5 (HB5.out.kept (Kept.of_below h5))
    have hsC := row_string c6 h1
    have B6 := Lib.hid (B5.out.trans (h5.mono B5.out.size))
    clear h1 h5 HA5 HB5 H5 B5
    generalize strOfNums L = X at *
    go_wp2_with fail
    go_ret
    exact ⟨rfl, B6.out⟩

/-- what the walk gives, for every argument -/
theorem lifted (os : Os) (started : os.Started) (H : Type) (enc : TypeId × Value → H) :
    ReturnsInHanded {} Try.checked os 3 .any (Rows.wireWritesSpec.pre6 enc Try.prog Try.f3 Rows.wireWritesRow.domain false) (Rows.wireWritesSpec.post enc Try.prog Try.f3 false true false false) := by
  refine returnsInHanded_of_change (C := Try.checked) own started (by kernel_rfl) Try.func3
    (ChangeSpec.witness6 (enc := enc) (C := Try.checked) false ⟨#[], #[.slice none 0 0], []⟩ 8 (by kernel_rfl) (by kernel_rfl) (by kernel_rfl) (by kernel_rfl)) ?_
  intro W base args ds gs before hval0 hW hcnd _
  have hval : ∀ (j : Nat) t v, Try.f3.params[j]? = some t → args[j]? = some v → Value.okWide Try.prog W .any base t v := hval0
  have hW' := hW
  obtain ⟨p, q, hA0, hV, rfl, hfz, hnd⟩ := hW
  have hA : DataW.TrodAll enc Try.prog W 0 (fun _ => true) true Try.f3.params.toList args.toList ds p := hA0
  rw [Try.params3] at hA hval
  obtain ⟨v0, vs0, d0, ds0, p0, q0, hargs, rfl, rfl, h0, r0⟩ := trodAll_cons hA
  obtain ⟨rfl, rfl, rfl⟩ := trodAll_nil r0
  obtain rfl : args = #[v0] := by cases args; simp_all
  obtain ⟨rfl, rfl⟩ := trodVars_none hV
  obtain ⟨a0, len0, cap0, rfl⟩ := okWide_slice Try.underlying22 (hval 0 22 v0 rfl rfl)
  have k0 := h0
  have lt0 : ∀ x ∈ p0, x.block < W.heap.size := by obtain ⟨m, hm⟩ := k0; exact DataW.trod_lt m _ _ _ hm
  obtain ⟨z0, w0, w1, w2⟩ : ∃ f, len0 ≤ cap0 ∧ cap0 ≤ 9223372036854775807 ∧ FRow (fun _ => False) W a0 len0 f := by
    obtain ⟨fuel, hf⟩ := h0
    obtain ⟨a, n, c, f, hcs, h1, h2, h3⟩ := open_vals fuel _ _ hf
    simp [Value.cells] at hcs
    obtain ⟨rfl, rfl, rfl⟩ := hcs
    exact ⟨f, h1, h2, h3⟩
  clear hA0 hval0
  refine (walk a0 len0 cap0 z0 W w0 w1 w2).mono fun e W' ⟨he, bel⟩ => ?_
  subst he
  exact ⟨_, rfl, _, _, _, [], _, [], hW', trodAll_mk1 (shut_bool Try.underlying4 _), (trodAll_cons_mk (Below.trod laidOut (by kernel_rfl) (of_decide_eq_true (by kernel_rfl)) k0 bel lt0) trodAll_mk0), rfl, bel.frame _, fun h => by cases h⟩

theorem proved : Rows.WireWritesSaid :=
  OpenClaim.holds_of_wide 3 Try.f3 rfl rfl rfl rfl rfl rfl rfl ⟨rfl, rfl, rfl, rfl, rfl⟩ rfl rfl rfl rfl rfl (by kernel_rfl) Try.func3 (by kernel_rfl)
    (of_decide_eq_true (by kernel_rfl)) (by unfold Func.isWrapper; first | (rw [if_pos (by decide +kernel)]; kernel_rfl) | (rw [if_neg (by decide +kernel)]; exact ⟨rfl, rfl⟩))
    (fun os started H enc _ => lifted os started H enc)
#print axioms proved
end Go.Proofs.Ytimhppgepiikbaa.wireWrites
