/- The statement IsaReads holds: what any bytes are read as is what the document answers, and the chapter's small test is answered. Under the statement's own reading alone: the tables of the kinds and of the powers of ten are as the program's text lays them. -/
import Derived.Test.YtnaefpjbeidkgaaDoorIsaFrame
import Derived.Test.YtnaefpjbeidkgaaDoorIsaR4
namespace Go.Proofs.YtnaefpjbeidkgaaDoor.isaReads
open Go.ChangeShapes Go.WideShapes Go.ChangeAt Go.RowKit Isa
open Go.ChangeMaps (open_string shut_string)
set_option linter.unusedVariables false
set_option linter.unusedSimpArgs false
set_option maxHeartbeats 3200000 in
theorem walk (w : World) (hT : Tabs w) (a : Option Addr) (n c : Nat) (l : List Int) (h : Row w a n l) (hc : n ≤ c ∧ c ≤ 9223372036854775807) : Calls Tryd.prog 4 #[.slice a n c] w fun e w' => e = .returned (.bool true) ∧ Below w.heap.size w w' := by
  have HK := Lib.hid (known_any w hT)
  have HR1 := Lib.hid (fun W (hb : Below w.heap.size w W) => read_any l a n c hc.1 hc.2 W (hT.below hb (Nat.le_refl _)) (h.below hb (Nat.le_refl _)))
  have HR2 := Lib.hid (fun W (hb : Below w.heap.size w W) => rread_any l a n c hc.1 hc.2 W (h.below hb (Nat.le_refl _)))
  clear hT h hc
  generalize rdE l = E at *
  generalize rdI l = I at *
  obtain ⟨op, ia, ib, ic⟩ := I
  have he : ∀ W, (Op.equalIn 10000 25 (.agg #[.int .u8 op, .int .u8 ia, .int .u16 ib, .int .u32 ic]) (.agg #[.int .u8 op, .int .u8 ia, .int .u16 ib, .int .u32 ic])).run Tryd.prog W = .ok true W := fun W => by
    have := eqIn ⟨op, ia, ib, ic⟩ ⟨op, ia, ib, ic⟩ W
    simpa using this
  unfold iv at HR1 HR2
  simp only at HR1 HR2
  go_enter Tryd.func4, Tryd.ntmps4
  go_wp2_with fail
  refine HK.out.mono ?_
  rintro e w1 ⟨rfl, hb1⟩
  go_wp2_with fail
  refine (HR1.out _ hb1).mono ?_
  rintro e w2 ⟨rfl, hb2⟩
  have HB2 := hb1.trans (hb2.mono hb1.size)
  go_wp2_with fail
  have HB3 : Below w.heap.size w (w2.alloc (.cells #[.int .u8 op, .int .u8 ia, .int .u16 ib, .int .u32 ic] 25)) := HB2.alloc HB2.size _
  have hx : (w2.alloc (.cells #[.int .u8 op, .int .u8 ia, .int .u16 ib, .int .u32 ic] 25)).heap[w2.heap.size]? = some (.cells #[.int .u8 op, .int .u8 ia, .int .u16 ib, .int .u32 ic] 25) := alloc_new _ _
  refine (HR2.out _ HB3).mono ?_
  rintro e w3 ⟨rfl, hb3⟩
  have HB4 : Below w.heap.size w w3 := HB3.trans (hb3.mono HB3.size)
  have hx3 := (hb3.block _ (lt_of_block hx)).trans hx
  have hx4 := fun o => (Below.heap_alloc w3 o w2.heap.size (lt_of_block hx3)).trans hx3
  have c0 := fun o => cells_at (hx4 o) 0
  have c1 := fun o => cells_at (hx4 o) 1
  have c2 := fun o => cells_at (hx4 o) 2
  have c3 := fun o => cells_at (hx4 o) 3
  clear hx hx3 hx4 hb3 HB3 hb2 HB2 hb1
  go_wp2_with (first | simp only [he, Result.andThen_ok] | simp only [c0] | simp only [c1] | simp only [c2] | simp only [c3])
  go_ret
  refine ⟨ret_bool (by simp), HB4.alloc HB4.size _⟩
/-- what the walk gives, for every argument, in every world that holds the tables -/
theorem contract (H : Type) (enc : TypeId × Value → H) (W : World) (base : Nat) (args : Array Value) (ds gs : List (DataW H)) (before : List MemPlace)
    (hval : ∀ (j : Nat) t v, Tryd.f4.params[j]? = some t → args[j]? = some v → Value.okWide Tryd.prog W .any base t v)
    (hW : DataW.Whole enc Tryd.prog Tryd.f4.params.toList Rows.isaReadsSpec.vars false W args.toList ds gs before) (hL : laidMetH Tryd.prog Rows.isaReadsRow.laid W) :
    Calls Tryd.prog 4 args W fun e W' => ∃ v, e = .returned v ∧ Rows.isaReadsSpec.post enc Tryd.prog Tryd.f4 false true false false W args v W' := by
  have hW' := hW
  obtain ⟨p, q, hA0, hV, rfl, hfz, hnd⟩ := hW
  have hA : DataW.TrodAll enc Tryd.prog W 0 (fun _ => true) true Tryd.f4.params.toList args.toList ds p := hA0
  rw [Tryd.params4] at hA hval
  obtain ⟨v0, vs0, d0, ds0, p0, q0, hargs, rfl, rfl, h0, r0⟩ := trodAll_cons hA
  obtain ⟨rfl, rfl, rfl⟩ := trodAll_nil r0
  obtain rfl : args = #[v0] := by cases args; simp_all
  obtain ⟨rfl, rfl⟩ := trodVars_none hV
  have k0 := h0
  have lt0 : ∀ x ∈ p0, x.block < W.heap.size := by obtain ⟨m, hm⟩ := k0; exact DataW.trod_lt m _ _ _ hm
  obtain ⟨a0, len0, cap0, rfl⟩ := okWide_slice Tryd.underlying29 (hval 0 29 v0 rfl rfl)
  obtain ⟨z0, w0, nc0⟩ : ∃ l, Row W a0 len0 l ∧ len0 ≤ cap0 ∧ cap0 ≤ 9223372036854775807 := by
    obtain ⟨fuel, hf⟩ := h0
    obtain ⟨a, n, c, l, hcs, h1, h2, h3, h4⟩ := open_bytes hf
    simp [Value.cells] at hcs
    obtain ⟨rfl, rfl, rfl⟩ := hcs
    exact ⟨l, h3, h1, h2⟩
  clear hA0
  refine (walk W (tabs hL) a0 len0 cap0 z0 w0 nc0).mono fun e W' ⟨he, bel⟩ => ?_
  subst he
  exact ⟨_, rfl, _, _, _, [], _, [], hW', trodAll_mk1 (shut_bool Tryd.underlying4 _), (trodAll_cons_mk (Below.trod laidOut (by kernel_rfl) (of_decide_eq_true (by kernel_rfl)) k0 bel lt0) trodAll_mk0), rfl, bel.frame _, fun h => by cases h⟩

theorem reads (os : Os) {H : Type} (enc : TypeId × Value → H) : ∃ places, DataW.whole enc Tryd.prog ((laidWorld os).forCall (fun _ _ => 0) ⟨#[], (#[Value.slice none 0 0] : Array Value), []⟩).memory Tryd.f4.params.toList Rows.isaReadsSpec.vars false (#[Value.slice none 0 0] : Array Value).toList 8 = some ([.nil], [], places) :=
  ⟨[], by kernel_rfl⟩

set_option maxRecDepth 100000 in
theorem lifted (os : Os) (started : os.Started) (H : Type) (enc : TypeId × Value → H) (F : Stop.Interp) :
    ReturnsInHanded {} Tryd.checked os 4 .any ((OpenSpec.ofChange Rows.isaReadsSpec).preRow enc Tryd.prog Tryd.f4 Rows.isaReadsRow.domain false Rows.isaReadsRow.laid) (((OpenSpec.ofChange Rows.isaReadsSpec).at F).post enc Tryd.prog Tryd.f4 false true false false) := by
  obtain ⟨places, hx⟩ := reads os enc
  refine returnsInHanded_of_row (C := Tryd.checked) (s := OpenSpec.ofChange Rows.isaReadsSpec) own started (by kernel_rfl) Tryd.func4
    (witness_row_at (enc := enc) (C := Tryd.checked) false (laidWorld os) (#[Value.slice none 0 0] : Array Value) rfl (by kernel_rfl) (by kernel_rfl) (by kernel_rfl)
      (OpenSpec.preRow_of_cond 8 hx (by kernel_rfl) (fun k hk => by cases hk) (by kernel_rfl) (laid_met os _))) ?_
  intro W base args ds gs before hval hW _ _ _ hL _ _
  exact contract H enc W base args ds gs before hval hW hL

theorem said : Rows.IsaReadsSaid :=
  OpenClaim.holds_of_cond 4 Tryd.f4 rfl rfl rfl rfl rfl rfl rfl ⟨rfl, rfl, rfl, rfl, rfl⟩ rfl rfl rfl rfl rfl (by kernel_rfl) Tryd.func4 (by kernel_rfl)
    (of_decide_eq_true (by kernel_rfl)) (by unfold Func.isWrapper; first | (rw [if_pos (by decide +kernel)]; kernel_rfl) | (rw [if_neg (by decide +kernel)]; exact ⟨rfl, rfl⟩))
    (fun os started H enc _ F => by rw [OpenClaim.pre_eq_preRow]; exact lifted os started H enc F)

theorem plain (f : FuncId) (fn : Func) (hf : Tryd.pinned.checked.prog.funcNamed "tappet/tappetlaw09.IsaReads" = some f) (hfn : Tryd.pinned.checked.prog.funcs[f]? = some fn) :
    false = Tryd.pinned.checked.prog.looks [] ∧ ∀ (j : Nat) t, fn.params[j]? = some t → Tryd.pinned.checked.prog.wantsStandIn t = false := by
  obtain rfl : f = 4 := Option.some.inj ((show Tryd.prog.funcNamed "tappet/tappetlaw09.IsaReads" = some 4 by kernel_rfl).symm.trans hf) |>.symm
  obtain rfl : fn = Tryd.f4 := (Option.some.inj (Tryd.func4.symm.trans hfn)).symm
  refine ⟨by kernel_rfl, fun j t ht => ?_⟩
  rw [Tryd.params4] at ht
  have hm := Array.mem_of_getElem? ht
  simp at hm
  subst hm
  · exact (show Tryd.prog.wantsStandIn 29 = false by kernel_rfl)

theorem proved : Rows.IsaReadsCardSaid :=
  Claim7.holds_tied_plain_at .later [] _ _ _ _ said (fun _ h => by cases h) (by kernel_rfl) (fun _ h => by cases h) isaReads_row_tie rfl ⟨rfl, rfl⟩ (by kernel_rfl) rfl plain (by kernel_rfl)
#print axioms proved
end Go.Proofs.YtnaefpjbeidkgaaDoor.isaReads
