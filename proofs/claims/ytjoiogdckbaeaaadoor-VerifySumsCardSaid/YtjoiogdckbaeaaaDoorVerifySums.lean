/- The statement VerifySums holds: a summary is what height and cost tell, and its bits are of instructions that stand in the program; the chapter's rows are answered. Under the law's own bounds (at most 1000 instructions; at most 1000 partitions, ports and outputs). -/
import Derived.Test.YtjoiogdckbaeaaaDoorCodeFrame
import Derived.Test.YtjoiogdckbaeaaaDoorVerOpen
import Derived.Test.YtjoiogdckbaeaaaDoorVerKn
import Derived.Test.YtjoiogdckbaeaaaDoorVerP5
import Derived.Test.YtjoiogdckbaeaaaDoorVerL2
namespace Go.Proofs.YtjoiogdckbaeaaaDoor.verifySums
open Go.ChangeShapes Go.WideShapes Go.ChangeAt Go.RowKit Isa Flw
set_option linter.unusedVariables false
set_option linter.unusedSimpArgs false
theorem walk (w : World) (hT : Tabs w) (a : Option Addr) (n c : Nat) (l : List Iv) (h : IRow w a n l) (hc : n ≤ c ∧ c ≤ 9223372036854775807) (part : Int) (hp : -9223372036854775808 ≤ part ∧ part ≤ 9223372036854775807) (m : Ver.Cm) (ds : List Ver.Pd) (cf : Ver.Cf) (h2 : Ver.CfIn w m ds cf) (hL : m.np + m.nq + m.ns < 9223372036854775808) (hna : m.ap = none → m.cp = 0) (hnq : m.aq = none → m.cq = 0) : Calls Tryd.prog 5 #[.slice a n c, .int .i64 part, m.val] w fun e w' => e = .returned (.bool true) ∧ Below w.heap.size w w' := Ver.sums_walk w hT (Ver.known_of (fun l a n cp part m ds c w hT h1 h2 h3 h4 h5 => Ver.vcheck_any l a n cp part m ds c w hT h1 h2 h3 h4 h5)) (fun l a n cp part m ds c w hT h1 h2 h3 h4 h5 => Ver.vcheck_any l a n cp part m ds c w hT h1 h2 h3 h4 h5) Hgt.most_any Cst.worst_any a n c l h hc part hp m ds cf h2
set_option maxRecDepth 100000 in
/-- what the walk gives, for every argument, in every world that holds what is listed -/
theorem contract (H : Type) (enc : TypeId × Value → H) (W : World) (base : Nat) (args : Array Value) (ds gs : List (DataW H)) (before : List MemPlace)
    (hval : ∀ (j : Nat) t v, Tryd.f5.params[j]? = some t → args[j]? = some v → Value.okWide Tryd.prog W .any base t v)
    (hW : DataW.Whole enc Tryd.prog Tryd.f5.params.toList Rows.verifySumsSpec.vars false W args.toList ds gs before) (hsz : (DataW.weightsEach Tryd.prog (Tryd.f5.params.toList ++ (OpenSpec.ofChange Rows.verifySumsSpec).bare.plain.varTypes Tryd.prog) (ds ++ gs)).all (· ≤ reachBytes) = true) (hL : laidMetH Tryd.prog Rows.verifySumsRow.laid W) (hsh : W.ShapedOpen Tryd.prog) :
    Calls Tryd.prog 5 args W fun e W' => ∃ v, e = .returned v ∧ Rows.verifySumsSpec.post enc Tryd.prog Tryd.f5 false true false false W args v W' := by
  have hW' := hW
  obtain ⟨p, q, hA0, hV, rfl, hfz, hnd⟩ := hW
  have hA : DataW.TrodAll enc Tryd.prog W 0 (fun _ => true) true Tryd.f5.params.toList args.toList ds p := hA0
  rw [Tryd.params5] at hA hval hsz
  obtain ⟨v0, vs0, d0, ds0, p0, q0, hargs, rfl, rfl, h0, r0⟩ := trodAll_cons hA
  obtain ⟨v1, vs1, d1, ds1, p1, q1, rfl, rfl, rfl, h1, r1⟩ := trodAll_cons r0
  obtain ⟨v2, vs2, d2, ds2, p2, q2, rfl, rfl, rfl, h2, r2⟩ := trodAll_cons r1
  obtain ⟨rfl, rfl, rfl⟩ := trodAll_nil r2
  obtain rfl : args = #[v0, v1, v2] := by cases args; simp_all
  obtain ⟨rfl, rfl⟩ := trodVars_none hV
  have k0 := h0
  have lt0 : ∀ x ∈ p0, x.block < W.heap.size := by obtain ⟨m, hm⟩ := k0; exact DataW.trod_lt m _ _ _ hm
  obtain ⟨a0, len0, cap0, rfl⟩ := okWide_slice Tryd.underlying22 (hval 0 22 v0 rfl rfl)
  obtain ⟨z0, w0, nc0⟩ : ∃ l, IRow W a0 len0 l ∧ len0 ≤ cap0 ∧ cap0 ≤ 9223372036854775807 := by
    obtain ⟨fuel, hf⟩ := h0
    obtain ⟨a, n, c, l, hcs, h1, h2, h3⟩ := open_instrs hf
    simp [Value.cells] at hcs
    obtain ⟨rfl, rfl, rfl⟩ := hcs
    exact ⟨l, h3, h1, h2⟩
  obtain ⟨z1, rfl, rfl, rfl, w1⟩ := open_int Tryd.underlying3 (hval 1 3 v1 rfl rfl) h1
  have b1 : -9223372036854775808 ≤ z1 ∧ z1 ≤ 9223372036854775807 := by simp [Lit.wf, IntKind.min, IntKind.max, IntKind.signed, IntKind.bits] at w1; omega
  have k2 := h2
  have lt2 : ∀ x ∈ p2, x.block < W.heap.size := by obtain ⟨m, hm⟩ := k2; exact DataW.trod_lt m _ _ _ hm
  obtain ⟨c2, rfl, _⟩ := okWide_struct Tryd.underlying33 (hval 2 33 v2 rfl rfl)
  obtain ⟨m2, pd2, z2, rfl, w2, na2, nb2, le2⟩ : ∃ (m : Ver.Cm) (pd : List Ver.Pd) (z : Ver.Cf), c2 = m.cells ∧ Ver.CfIn W m pd z ∧ (m.ap = none → m.cp = 0) ∧ (m.aq = none → m.cq = 0) ∧ m.np + m.nq + m.ns < 9223372036854775808 := by
    obtain ⟨fuel, hf⟩ := h2
    obtain ⟨m, pd, z, hcs, g1, g2, g3, g4⟩ := Ver.open_cf hf
    refine ⟨m, pd, z, ?_, g1, g2, g3, ?_⟩
    · have : c2.toList = m.cells.toList := by simpa [Value.cells] using hcs
      exact Array.toList_inj.1 this
    · have := g4 reachBytes fun k hk => by
        have hin := DataW.weights_mem_each (P := Tryd.prog) (ts := [22, 3, 33] ++ (OpenSpec.ofChange Rows.verifySumsSpec).bare.plain.varTypes Tryd.prog) (ds := [d0, .lit (.int .i64 z1), d2] ++ []) (j := 2) (t := 33) (d := d2) rfl rfl _ hk
        have hle := List.all_eq_true.1 hsz _ (by simpa using hin)
        exact of_decide_eq_true hle
      have b1 : Tryd.prog.bytesOf 46 = 40 := by kernel_rfl
      have b2 : Tryd.prog.bytesOf 48 = 24 := by kernel_rfl
      have b3 : Tryd.prog.bytesOf 23 = 4 := by kernel_rfl
      rw [b1, b2, b3] at this
      unfold reachBytes at this
      omega
  clear hA0
  refine (walk W (tabs_of hL) a0 len0 cap0 z0 w0 nc0 z1 b1 m2 pd2 z2 w2 le2 na2 nb2).mono fun e W' ⟨he, bel⟩ => ?_
  subst he
  exact ⟨_, rfl, _, _, _, [], _, [], hW', trodAll_mk1 (shut_bool Tryd.underlying4 _), (trodAll_cons_mk (Below.trod laidOut (by kernel_rfl) (of_decide_eq_true (by kernel_rfl)) k0 bel lt0) (trodAll_cons_mk (shut_int Tryd.underlying3 w1) (trodAll_cons_mk (Below.trod laidOut (by kernel_rfl) (of_decide_eq_true (by kernel_rfl)) k2 bel lt2) trodAll_mk0))), rfl, bel.frame _, fun h => by cases h⟩

set_option maxRecDepth 1000000 in
theorem reads (os : Os) {H : Type} (enc : TypeId × Value → H) : ∃ places, DataW.whole enc Tryd.prog ((laidWorld os).forCall (fun _ _ => 0) ⟨#[], (#[Value.slice none 0 0, Value.int .i64 0, Value.agg #[.int .u32 0, .slice none 0 0, .slice none 0 0, .int .i64 0, .slice none 0 0, .int .u32 0, .int .i64 0, .int .u32 0, .int .u32 0, .slice none 0 0, .int .i64 0, .int .u8 0, .int .i64 0, .int .i64 0]] : Array Value), []⟩).memory Tryd.f5.params.toList Rows.verifySumsSpec.vars false (#[Value.slice none 0 0, Value.int .i64 0, Value.agg #[.int .u32 0, .slice none 0 0, .slice none 0 0, .int .i64 0, .slice none 0 0, .int .u32 0, .int .i64 0, .int .u32 0, .int .u32 0, .slice none 0 0, .int .i64 0, .int .u8 0, .int .i64 0, .int .i64 0]] : Array Value).toList 8 = some ([.nil, .lit (.int .i64 0), .agg [.lit (.int .u32 0), .nil, .nil, .agg [.lit (.int .i64 0), .nil, .lit (.int .u32 0), .lit (.int .i64 0)], .agg [.lit (.int .u32 0), .lit (.int .u32 0), .nil], .lit (.int .i64 0), .lit (.int .u8 0), .lit (.int .i64 0), .lit (.int .i64 0)]], [], places) :=
  ⟨[], by kernel_rfl⟩

set_option maxRecDepth 100000 in
theorem lifted (os : Os) (started : os.Started) (H : Type) (enc : TypeId × Value → H) (F : Stop.Interp) :
    ReturnsInHanded {} Tryd.checked os 5 .any ((OpenSpec.ofChange Rows.verifySumsSpec).preRow enc Tryd.prog Tryd.f5 Rows.verifySumsRow.domain false Rows.verifySumsRow.laid) (((OpenSpec.ofChange Rows.verifySumsSpec).at F).post enc Tryd.prog Tryd.f5 false true false false) := by
  obtain ⟨places, hx⟩ := reads os enc
  refine returnsInHanded_of_row (C := Tryd.checked) (s := OpenSpec.ofChange Rows.verifySumsSpec) own started (by kernel_rfl) Tryd.func5
    (witness_zip (enc := enc) (laidWorld os) (#[Value.slice none 0 0, Value.int .i64 0, Value.agg #[.int .u32 0, .slice none 0 0, .slice none 0 0, .int .i64 0, .slice none 0 0, .int .u32 0, .int .i64 0, .int .u32 0, .int .u32 0, .slice none 0 0, .int .i64 0, .int .u8 0, .int .i64 0, .int .i64 0]] : Array Value) (World.laidAll_os _ _ _) (World.shaped_of_ZipB (by kernel_rfl) (by kernel_rfl)) (by kernel_rfl)
      (OpenSpec.preRow_of_cond 8 hx (by kernel_rfl) (fun k hk => by cases hk) (by kernel_rfl) (laid_met os _))) ?_
  intro W base args ds gs before hval hW _ _ hsz hL hsh _
  exact contract H enc W base args ds gs before hval hW hsz hL hsh

theorem said : Rows.VerifySumsSaid :=
  OpenClaim.holds_of_cond 5 Tryd.f5 rfl rfl rfl rfl rfl rfl rfl ⟨rfl, rfl, rfl, rfl, rfl⟩ rfl rfl rfl rfl rfl (by kernel_rfl) Tryd.func5 (by kernel_rfl)
    (of_decide_eq_true (by kernel_rfl)) (by unfold Func.isWrapper; first | (rw [if_pos (by decide +kernel)]; kernel_rfl) | (rw [if_neg (by decide +kernel)]; exact ⟨rfl, rfl⟩))
    (fun os started H enc _ F => by rw [OpenClaim.pre_eq_preRow]; exact lifted os started H enc F)

theorem plain (f : FuncId) (fn : Func) (hf : Tryd.pinned.checked.prog.funcNamed "tappet/tappetlaw14.VerifySums" = some f) (hfn : Tryd.pinned.checked.prog.funcs[f]? = some fn) :
    false = Tryd.pinned.checked.prog.looks [] ∧ ∀ (j : Nat) t, fn.params[j]? = some t → Tryd.pinned.checked.prog.wantsStandIn t = false := by
  obtain rfl : f = 5 := Option.some.inj ((show Tryd.prog.funcNamed "tappet/tappetlaw14.VerifySums" = some 5 by kernel_rfl).symm.trans hf) |>.symm
  obtain rfl : fn = Tryd.f5 := (Option.some.inj (Tryd.func5.symm.trans hfn)).symm
  refine ⟨by kernel_rfl, fun j t ht => ?_⟩
  rw [Tryd.params5] at ht
  have hm := Array.mem_of_getElem? ht
  simp at hm
  rcases hm with rfl | rfl | rfl
  · exact (show Tryd.prog.wantsStandIn 22 = false by kernel_rfl)
  · exact (show Tryd.prog.wantsStandIn 3 = false by kernel_rfl)
  · exact (show Tryd.prog.wantsStandIn 33 = false by kernel_rfl)

theorem proved : Rows.VerifySumsCardSaid :=
  Claim7.holds_tied_plain_at .later [] _ _ _ _ said (fun _ h => by cases h) (by kernel_rfl) (fun _ h => by cases h) verifySums_row_tie rfl ⟨rfl, rfl⟩ (by kernel_rfl) rfl plain (by kernel_rfl)
#print axioms proved
end Go.Proofs.YtjoiogdckbaeaaaDoor.verifySums
