/- The statement HmacKnown holds: the document's example is answered. Under the statement's own reading alone: the primes' table is as the program's text lays it. -/
import Derived.Test.YtodbfkifendniaaDoorHmacEql
namespace Go.Proofs.YtodbfkifendniaaDoor.hmacKnown
open Go.ChangeShapes Go.WideShapes Go.ChangeAt Go.RowKit Sha

set_option maxRecDepth 100000 in
set_option maxHeartbeats 1000000 in
theorem walk (w : World) (hr : Roots w) :
    Calls Tryd.prog 4 #[] w fun e w' => e = .returned (.bool true) ∧ Below w.heap.size w w' := by
  have HR := Lib.hid hr
  clear hr
  go_enter Tryd.func4, Tryd.ntmps4
  go_wp2_with fail
  refine (worksH_any _ HR.out).mono ?_
  rintro e w1 ⟨rfl, hb1⟩
  have HR1 := Lib.hid (HR.out.below hb1)
  go_wp2_with fail
  refine (of_any [] [] none none 0 0 0 0 _ HR1.out (srow_nil _) (by omega) (by omega) (by omega) (prow_nil _) (by omega) (by decide)).mono ?_
  rintro e w2 ⟨rfl, hb2⟩
  rw [show ([] : List (List Int)).flatten = [] from rfl]
  have hbA : Below w2.heap.size w2 ((w2.alloc (.cells #[.int .u8 0] 5)).alloc (.cells #[.slice none 0 0] 22)) := ((Below.refl _ _).alloc (Nat.le_refl _) _).alloc (by simp) _
  have hp := prow_one (w2.alloc (.cells #[.int .u8 0] 5)) none 0 0 [] 22 (0, 0) (by omega) (by omega) (srow_nil _)
  rw [show (w2.alloc (.cells #[.int .u8 0] 5)).heap.size = w2.heap.size + 1 from by simp] at hp
  have hs := (srow_new w2 [0] _ 5 (0, 0) 1 rfl (by decide) rfl).alloc (.cells #[.slice none 0 0] 22)
  go_wp2_with fail
  refine (of_any [0] [[]] _ _ 1 1 1 1 _ ((HR1.out.below hb2).below hbA) hs (by omega) (by omega) (by omega) hp (by omega) (by decide)).mono ?_
  rintro e w3 ⟨rfl, hb3⟩
  rw [show ([[]] : List (List Int)).flatten = [] from rfl, ← tag_nil]
  have HB := Lib.hid ((hb1.trans (hb2.mono hb1.size)).trans ((hbA.trans (hb3.mono hbA.size)).mono (by have := hb1.size; have := hb2.size; omega)))
  clear hb1 hb2 hbA hp hs hb3
  go_wp2_with (refine wpList_eql_g (by rfl) (.tmp 3) (.tmp 6) rfl (tag [] []) (tag_length _ _) rfl rfl ?_)
  go_ret
  exact ⟨rfl, HB.out⟩

/-- what the walk gives, for every argument, in every world that holds the table -/
theorem contract (H : Type) (enc : TypeId × Value → H) (W : World) (base : Nat) (args : Array Value) (ds gs : List (DataW H)) (before : List MemPlace)
    (hval : ∀ (j : Nat) t v, Tryd.f4.params[j]? = some t → args[j]? = some v → Value.okWide Tryd.prog W .any base t v)
    (hW : DataW.Whole enc Tryd.prog Tryd.f4.params.toList Rows.hmacKnownSpec.vars false W args.toList ds gs before) (hL : laidMetH Tryd.prog Rows.hmacKnownRow.laid W) :
    Calls Tryd.prog 4 args W fun e W' => ∃ v, e = .returned v ∧ Rows.hmacKnownSpec.post enc Tryd.prog Tryd.f4 false true false false W args v W' := by
  have hW' := hW
  obtain ⟨p, q, hA0, hV, rfl, hfz, hnd⟩ := hW
  have hA : DataW.TrodAll enc Tryd.prog W 0 (fun _ => true) true Tryd.f4.params.toList args.toList ds p := hA0
  rw [Tryd.params4] at hA
  obtain ⟨hargs, rfl, rfl⟩ := trodAll_none hA
  obtain ⟨rfl, rfl⟩ := trodVars_none hV
  obtain rfl : args = #[] := by cases args; simp_all
  clear hA0
  refine (walk W (roots hL)).mono fun e W' ⟨he, bel⟩ => ?_
  subst he
  exact ⟨_, rfl, _, _, _, [], _, [], hW', trodAll_mk1 (shut_bool Tryd.underlying4 _), trodAll_mk0, rfl, bel.frame _, fun h => by cases h⟩

theorem reads (os : Os) {H : Type} (enc : TypeId × Value → H) : ∃ places, DataW.whole enc Tryd.prog ((laidWorld os).forCall (fun _ _ => 0) ⟨#[], (#[] : Array Value), []⟩).memory Tryd.f4.params.toList Rows.hmacKnownSpec.vars false (#[] : Array Value).toList 8 = some ([], [], places) :=
  ⟨[], by kernel_rfl⟩

set_option maxRecDepth 100000 in
theorem lifted (os : Os) (started : os.Started) (H : Type) (enc : TypeId × Value → H) (F : Stop.Interp) :
    ReturnsInHanded {} Tryd.checked os 4 .any ((OpenSpec.ofChange Rows.hmacKnownSpec).preRow enc Tryd.prog Tryd.f4 Rows.hmacKnownRow.domain false Rows.hmacKnownRow.laid) (((OpenSpec.ofChange Rows.hmacKnownSpec).at F).post enc Tryd.prog Tryd.f4 false true false false) := by
  obtain ⟨places, hx⟩ := reads os enc
  refine returnsInHanded_of_row (C := Tryd.checked) (s := OpenSpec.ofChange Rows.hmacKnownSpec) own started (by kernel_rfl) Tryd.func4
    (witness_row_at (enc := enc) (C := Tryd.checked) false (laidWorld os) (#[] : Array Value) rfl (by kernel_rfl) (by kernel_rfl) (by kernel_rfl)
      (OpenSpec.preRow_of_cond 8 hx (by kernel_rfl) (fun k hk => by cases hk) (by kernel_rfl) (laid_met os _))) ?_
  intro W base args ds gs before hval hW _ _ _ hL _ _
  exact contract H enc W base args ds gs before hval hW hL

theorem said : Rows.HmacKnownSaid :=
  OpenClaim.holds_of_cond 4 Tryd.f4 rfl rfl rfl rfl rfl rfl rfl ⟨rfl, rfl, rfl, rfl, rfl⟩ rfl rfl rfl rfl rfl (by kernel_rfl) Tryd.func4 (by kernel_rfl)
    (of_decide_eq_true (by kernel_rfl)) (by unfold Func.isWrapper; first | (rw [if_pos (by decide +kernel)]; kernel_rfl) | (rw [if_neg (by decide +kernel)]; exact ⟨rfl, rfl⟩))
    (fun os started H enc _ F => by rw [OpenClaim.pre_eq_preRow]; exact lifted os started H enc F)

theorem plain (f : FuncId) (fn : Func) (hf : Tryd.pinned.checked.prog.funcNamed "tappet/tappetlaw03.HmacKnown" = some f) (hfn : Tryd.pinned.checked.prog.funcs[f]? = some fn) :
    false = Tryd.pinned.checked.prog.looks [] ∧ ∀ (j : Nat) t, fn.params[j]? = some t → Tryd.pinned.checked.prog.wantsStandIn t = false := by
  obtain rfl : f = 4 := Option.some.inj ((show Tryd.prog.funcNamed "tappet/tappetlaw03.HmacKnown" = some 4 by kernel_rfl).symm.trans hf) |>.symm
  obtain rfl : fn = Tryd.f4 := (Option.some.inj (Tryd.func4.symm.trans hfn)).symm
  refine ⟨by kernel_rfl, fun j t ht => ?_⟩
  rw [Tryd.params4] at ht
  simp at ht

theorem proved : Rows.HmacKnownCardSaid :=
  Claim7.holds_tied_plain_at .later [] _ _ _ _ said (fun _ h => by cases h) (by kernel_rfl) (fun _ h => by cases h) hmacKnown_row_tie rfl ⟨rfl, rfl⟩ (by kernel_rfl) rfl plain (by kernel_rfl)
#print axioms proved
end Go.Proofs.YtodbfkifendniaaDoor.hmacKnown
