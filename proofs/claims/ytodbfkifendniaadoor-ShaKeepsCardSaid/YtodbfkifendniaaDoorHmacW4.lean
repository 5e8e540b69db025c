/- slices.Grow and slices.Concat, as Of calls them: the calls. -/
import Derived.Test.YtodbfkifendniaaDoorHmacW3
namespace Go.Proofs.YtodbfkifendniaaDoor
open Go.ChangeShapes Go.WideShapes Go.ChangeAt Go.RowKit
namespace Sha
/-- an append whose run is known -/
theorem wpList_append_run {P : Program} {ops : Array Oper} {rest : List Oper} {o : Oper} {a : Act} {w : World} {Q : Exit → Act → World → Prop} (hgd : o.guard = none) (s x : Operand) (t t' : TypeId)
    (ho : o.op = .call { callee := .builtin .append, args := #[s, x], argTypes := #[t, t'] }) (vs vx v : Value) (w1 : World) (ty : TypeId) (hty : o.type = ty) (hs : a.eval s = vs) (hx : a.eval x = vx) (hrun : (Builtin.append_ #[t, t'] ty #[vs, vx]).run P w = .ok v w1)
    (h : wpList P ops Q rest (a.put o.dst v) w1) : wpList P ops Q (o :: rest) a w := by
  refine wpList_plain hgd fun K hK => ?_
  subst hty
  unfold Oper.wp
  simp only [execOp, ho, resolve, invoke, builtin, Sem.run_bind, Sem.run_pure, Result.andThen_ok, List.map_toArray, List.map_cons, List.map_nil, hs, hx, hrun]
  exact hK _ _ h
set_option maxRecDepth 100000 in
set_option maxHeartbeats 1000000 in
theorem grow_any (n : Nat) (z : Int) (w : World) (hz : z = n) (h0 : 0 < n) (hn : n ≤ 1000000000) :
    Calls Tryd.prog 32 #[.slice none 0 0, .int .i64 z] w fun e w' => ∃ cap, e = .returned (.slice (some ⟨w.heap.size, 0, none⟩) 0 cap) ∧ w'.ownsRow w.heap.size 22 1 (.slice (some ⟨w.heap.size, 0, none⟩) 0 cap) 0 [] ∧ Below w.heap.size w w' := by
  subst hz
  obtain ⟨cap, w1, hrun, hown, hc, hb⟩ := run_append_room w n h0 hn
  have HO := Lib.hid hown
  have HB := Lib.hid hb
  clear hown hb
  have d1 : decide ((n : Int) < 0) = false := by simp
  have d2 : decide ((0 : Int) < (n : Int)) = true := by simp; omega
  go_enter Tryd.func32, Tryd.ntmps32
  go_wp2_with (at_builtin; refine wpList_append_run rfl (.tmp 20) (.tmp 21) 35 3 rfl _ _ _ w1 35 rfl rfl rfl hrun ?_)
  go_ret
  exact ⟨_, rfl, HO.out, HB.out⟩

set_option maxRecDepth 100000 in
set_option maxHeartbeats 1000000 in
theorem concat_any (b b1 g0 n c : Nat) (a : Option Addr) (X : List Int) (ps : List (List Int)) (w : World) (hn : n ≤ 100000000)
    (hc0 : w.cell? ⟨b, 0, none⟩ = some (.slice (some ⟨b1, 0, none⟩) 1 1)) (hc1 : w.cell? ⟨b, 1, none⟩ = some (.slice a n c)) (hx : w.cell? ⟨b1, 0, none⟩ = some (.slice (some ⟨g0, 0, none⟩) 64 64))
    (hX : SRow (fun _ => False) w (some ⟨g0, 0, none⟩) 64 X) (hP : PRow w a n ps) :
    Calls Tryd.prog 25 #[.slice (some ⟨b, 0, none⟩) 2 2] w fun e w' => ∃ g cap, e = .returned (.slice (some ⟨g, 0, none⟩) (1 + n) cap) ∧ PRow w' (some ⟨g, 0, none⟩) (1 + n) (X :: ps) ∧ Below w.heap.size w w' := by
  have HX := Lib.hid hX
  have HP := Lib.hid hP
  have HC0 := Lib.hid hc0
  have HC1 := Lib.hid hc1
  have HXc := Lib.hid hx
  clear hX hP hx
  have d1 : decide ((n : Int) + 1 < 0) = false := by simp; omega
  have d2 : decide ((1 : Int) + n < 0) = false := by simp; omega
  go_enter Tryd.func25, Tryd.ntmps25
  go_wp2_with fail
  refine wp_loop_rounds 3 ?_
  rw [rounds_succ]
  go_wp2_with fail
  rw [rounds_succ]
  go_wp2_with fail
  rw [rounds_succ]
  go_wp2_with fail
  refine (grow_any (1 + n) _ w (by omega) (by omega) (by omega)).mono ?_
  rintro e w1 ⟨cap1, rfl, hown1, hb1⟩
  have HB1 := Lib.hid hb1
  obtain ⟨i0, hi, hz0, hz1, hz2⟩ := info_parts infoSl
  have hlt := World.block_lt_of_cell? _ _ hc0
  have hlt1 := World.block_lt_of_cell? _ _ HXc.out
  simp only at hlt hlt1
  have hx1 : w1.cell? ⟨b1, 0, none⟩ = some (.slice (some ⟨g0, 0, none⟩) 64 64) := (hb1.cell hlt1).trans HXc.out
  obtain ⟨g, cap2, w2, hrun2, hown2, hgr2, _, hl2⟩ := run_append_lies (P := Tryd.prog) w1 35 35 w.heap.size 22 i0 (.slice none 0 0) 1 24 Tryd.underlying35 hi hz0 hz1 hz2 rfl (by decide) _ 0 [] hown1 ⟨b1, 0, none⟩ 1 1 [.slice (some ⟨g0, 0, none⟩) 64 64] rfl
    (fun j u hj => by
      cases j with
      | zero => simp at hj; subst hj; simpa [Addr.add] using hx1
      | succ j => simp at hj) (by simp [Value.oneCell']) (by omega) (by unfold maxLen; omega) (by omega) hb1.size _ rfl
  have hb2 : Below w.heap.size w w2 := Below.grown hb1 hgr2 hb1.size (by simp [Value.ownBlock])
  rw [Nat.zero_add, List.nil_append] at hown2
  have hk0 : w1.cell? ⟨b, 0, none⟩ = some (.slice (some ⟨b1, 0, none⟩) 1 1) := (hb1.cell hlt).trans hc0
  have hk1 : w2.cell? ⟨b, 1, none⟩ = some (.slice a n c) := (hb2.cell hlt).trans hc1
  have HOwn2 := Lib.hid hown2
  have HB2 := Lib.hid hb2
  clear hown1 hb1 hb2 hown2 hgr2 hc0 hc1 hx1 d1 d2
  rw [Nat.zero_add] at hrun2
  go_wp2_with fail
  refine wp_loop_rounds 3 ?_
  rw [rounds_succ]
  go_wp2_with (at_builtin; refine wpList_append_run rfl (.tmp 31) (.tmp 32) 35 35 rfl _ _ _ w2 35 rfl rfl rfl hrun2 ?_)
  clear hrun2 hk0
  rw [rounds_succ]
  by_cases h0 : n = 0
  · subst h0
    have hcap : 1 ≤ cap2 := by
      rcases HOwn2.out.2 with ⟨h, _⟩ | ⟨g', cap', cur, hv, _, _, h1, _⟩
      · simp at h
      · simp only [Value.slice.injEq] at hv
        omega
    have hrun3 := run_append_none w2 g 1 cap2 c a hcap
    have hps : ps = [] := List.eq_nil_of_length_eq_zero HP.out.1
    go_wp2_with (at_builtin; refine wpList_append_run rfl (.tmp 31) (.tmp 32) 35 35 rfl _ _ _ w2 35 rfl rfl rfl hrun3 ?_)
    rw [rounds_succ]
    go_wp2_with fail
    go_ret
    subst hps
    have hpl : PList w ([.slice (some ⟨g0, 0, none⟩) 64 64] ++ []) (X :: []) := PList.cons ⟨rfl, fun i hi => by simp at hi⟩ (by omega) (by omega) HX.out
    exact ⟨_, _, rfl, hpl.prow rfl HOwn2.out HB2.out, HB2.out⟩
  · obtain ⟨b2, off2, xs, rfl, hpl, hxs⟩ := HP.out.plist (by omega)
    obtain ⟨g3, cap3, w3, hrun3, hown3, hgr3, _, hl3⟩ := run_append_lies (P := Tryd.prog) w2 35 35 w.heap.size 22 i0 (.slice none 0 0) 1 24 Tryd.underlying35 hi hz0 hz1 hz2 rfl (by decide) _ 1 _ HOwn2.out ⟨b2, off2, none⟩ n c xs (by have := hpl.1; have := HP.out.1; omega)
      (fun j u hj => by
        have := hxs j u hj
        rw [HB2.out.cell (by have := World.block_lt_of_cell? _ _ this; rw [Addr.add_mid] at this ⊢; exact this)]; exact this) hpl.one (by omega) (by unfold maxLen; omega) (by omega) HB2.out.size _ rfl
    have hb3 : Below w.heap.size w w3 := by
      refine Below.grown HB2.out hgr3 HB2.out.size (fun j hj => ?_)
      rcases HOwn2.out.2 with ⟨h, _⟩ | ⟨g', _, _, hv, hg', _⟩
      · simp at h
      · simp only [Value.slice.injEq, Option.some.injEq, Addr.mk.injEq] at hv
        simp [Value.ownBlock] at hj
        omega
    have hpl2 := hpl.cons (a := some ⟨g0, 0, none⟩) (m := 64) (c := 64) (by omega) (by omega) HX.out
    have HPR := Lib.hid (hpl2.prow rfl hown3 hb3)
    have HB3 := Lib.hid hb3
    clear hpl2 hown3 hgr3 hb3 hpl hxs
    go_wp2_with (at_builtin; refine wpList_append_run rfl (.tmp 31) (.tmp 32) 35 35 rfl _ _ _ w3 35 rfl rfl rfl hrun3 ?_)
    rw [rounds_succ]
    go_wp2_with fail
    go_ret
    exact ⟨_, _, rfl, HPR.out, HB3.out⟩
end Sha
end Go.Proofs.YtodbfkifendniaaDoor
