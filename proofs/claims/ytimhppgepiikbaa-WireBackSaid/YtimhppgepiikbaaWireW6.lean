/- Bytes put behind a row of the call's own; a writer's answer. -/
import Derived.Test.YtimhppgepiikbaaWireW5
import Derived.Laws.CopyRow
import Derived.Deep.MidRow
namespace Go.Proofs.Ytimhppgepiikbaa
open Go.ChangeShapes Go.WideShapes Go.ChangeAt Go.RowKit
namespace Wire
variable {gu : Option (Nat × Obj)}
set_option linter.unusedSimpArgs false
set_option linter.unusedVariables false
/-- an append whose run is known -/
theorem wpList_append_run {P : Program} {ops : Array Oper} {rest : List Oper} {o : Oper} {a : Act} {w : World} {Q : Exit → Act → World → Prop} (hgd : o.guard = none) (s x : Operand) (t t' : TypeId)
    (ho : o.op = .call { callee := .builtin .append, args := #[s, x], argTypes := #[t, t'] }) (vs vx v : Value) (w1 : World) (ty : TypeId) (hty : o.type = ty) (hs : a.eval s = vs) (hx : a.eval x = vx) (hrun : (Builtin.append_ #[t, t'] ty #[vs, vx]).run P w = .ok v w1)
    (h : wpList P ops Q rest (a.put o.dst v) w1) : wpList P ops Q (o :: rest) a w := by
  refine wpList_plain hgd fun K hK => ?_
  subst hty
  unfold Oper.wp
  simp only [execOp, ho, resolve, invoke, builtin, Sem.run_bind, Sem.run_pure, Result.andThen_ok, List.map_toArray, List.map_cons, List.map_nil, hs, hx, hrun]
  exact hK _ _ h
/-- this slice is the call's own row with these bytes -/
def Own (w : World) (base g k cap : Nat) (l : List Int) : Prop := w.ownsRow base 5 1 (.slice (some ⟨g, 0, none⟩) k cap) k (bv l)
theorem Own.form {w : World} {base g k cap : Nat} {l : List Int} (h : Own w base g k cap l) : l.length = k ∧ base ≤ g ∧ k ≤ cap ∧ cap ≤ maxLen ∧ ∃ cur, w.heap[g]? = some (.cells cur 5 (0, 0)) ∧ cur.size = cap ∧ cur.toList.take k = bv l := by
  obtain ⟨h1, h2⟩ := h
  rw [bv_length] at h1
  rcases h2 with ⟨h, _⟩ | ⟨g', cap', cur, hv, hb, hg, h3, h4, h5, h6⟩
  · simp at h
  · simp only [Value.slice.injEq, Option.some.injEq, Addr.mk.injEq] at hv
    obtain ⟨⟨rfl, _⟩, _, rfl⟩ := hv
    exact ⟨by omega, hb, h3, h4, cur, hg, by omega, by simpa using h6⟩
theorem own_of {w : World} {base g k cap : Nat} {l : List Int} {cur : Array Value} (h1 : l.length = k) (hb : base ≤ g) (hk : k ≤ cap) (hc : cap ≤ maxLen) (hg : w.heap[g]? = some (.cells cur 5 (0, 0))) (hs : cur.size = cap) (ht : cur.toList.take k = bv l) : Own w base g k cap l :=
  ⟨by rw [bv_length]; omega, Or.inr ⟨g, cap, cur, rfl, hb, hg, hk, hc, by omega, by simpa using ht⟩⟩
theorem run_append_nothing (w : World) (g k cap c : Nat) (a : Option Addr) (hk : k ≤ cap) :
    (Builtin.append_ #[26, 26] 26 #[.slice (some ⟨g, 0, none⟩) k cap, .slice a 0 c]).run Try.prog w = .ok (.slice (some ⟨g, 0, none⟩) k cap) w := by
  obtain ⟨i, hi, hz, hs, hb⟩ := info_parts infoByte
  have hu := Try.underlying26
  cases a with
  | none => simp [Builtin.append_, run_underlying hu, sizeOf, typeInfo, hi, hs, Builtin.lenOf, Builtin.firstCells, hk, storeCells]
  | some x =>
    have hl := run_loadCells_list (P := Try.prog) w x [] (fun j v hj => by simp at hj)
    simp at hl
    simp [Builtin.append_, run_underlying hu, sizeOf, typeInfo, hi, hs, Builtin.lenOf, Builtin.firstCells, hk, hl, storeCells]
/-- the bytes of a slice, put behind -/
theorem app_bytes {w : World} {base g k cap n c : Nat} {a : Option Addr} {l m : List Int} (ho : Own w base g k cap l) {p : Nat → Prop} (hs : SRow p w a n m) (hlen : k + n ≤ 100000000) (hb : base ≤ w.heap.size) :
    ∃ g' cap' w', (Builtin.append_ #[26, 26] 26 #[.slice (some ⟨g, 0, none⟩) k cap, .slice a n c]).run Try.prog w = .ok (.slice (some ⟨g', 0, none⟩) (k + n) cap') w' ∧ Own w' base g' (k + n) cap' (l ++ m) ∧ Below base w w' := by
  obtain ⟨h1, hbg, hkc, hcm, cur, hg, hcs, htk⟩ := ho.form
  by_cases h0 : n = 0
  · subst h0
    have hm : m = [] := List.eq_nil_of_length_eq_zero hs.1
    subst hm
    exact ⟨g, cap, w, run_append_nothing w g k cap c a hkc, by simpa using ho, Below.refl _ _⟩
  · obtain ⟨s1, s2, s3⟩ := hs
    rcases s3 with s3 | ⟨b, off, rfl, _, hc⟩
    · exact absurd s3 h0
    obtain ⟨i0, hi, hz0, hz1, hz2⟩ := info_parts infoByte
    obtain ⟨g', cap', w', hrun, hown, hgr, _, hl⟩ := run_append_lies (P := Try.prog) w 26 26 base 5 i0 (.int .u8 0) 1 1 Try.underlying26 hi hz0 hz1 hz2 rfl (by decide) _ k (bv l) ho ⟨b, off, none⟩ n c (bv m) (by rw [bv_length]; omega)
      (fun j u hj => by
        have hj' : j < m.length := by have := (List.getElem?_eq_some_iff.1 hj).1; rwa [bv_length] at this
        rw [Addr.add_mid b off j, hc j (by omega), ← hj]
        simp [bv, List.getD, hj']) (bv_one _) (by omega) (by unfold maxLen; omega) (by omega) hb _ rfl
    rw [bv_append] at hown
    exact ⟨g', cap', w', hrun, hown, Below.grown (Below.refl _ _) hgr hb (fun j hj => by simp [Value.ownBlock] at hj; omega)⟩

/-- a slice of bytes that is this row, or nil and empty: read whole -/
theorem Own.row {w : World} {base g k cap : Nat} {l : List Int} (h : Own w base g k cap l) (hby : ∀ z ∈ l, 0 ≤ z ∧ z ≤ 255) : SRow (fun b => b < base) w (some ⟨g, 0, none⟩) k l := by
  obtain ⟨h1, h2, h3, h4, cur, h5, h6, h7⟩ := h.form
  refine ⟨h1, hby, Or.inr ⟨g, 0, rfl, by omega, fun i hi => ?_⟩⟩
  rw [Nat.zero_add, cell_of_row _ _ _ _ _ _ h5]
  have e : (bv l)[i]? = some (.int .u8 (l.getD i 0)) := by simp [bv, List.getD, show i < l.length from by omega]
  rw [← e, ← h7, List.getElem?_take_of_lt (by omega)]
  simp
theorem clone_any (p : Nat → Prop) (w : World) (a : Option Addr) (n c : Nat) (l : List Int) (hr : SRow p w a n l) (hn : n ≤ 10000000) (hnil : a = none → n = 0 ∧ c = 0) :
    Calls Try.prog 29 #[.slice a n c] w fun r w' => ∃ a' c', r = .returned (.slice a' n c') ∧ SRow (fun b => b < w.heap.size) w' a' n l ∧ n ≤ c' ∧ c' ≤ maxLen ∧ (a' = none → c' = 0) ∧ Below w.heap.size w w' := by
  cases a with
  | none =>
    obtain ⟨rfl, rfl⟩ := hnil rfl
    have HR := Lib.hid hr
    clear hr hnil
    have hq : ∀ W : World, (binOp .eql 26 (.slice none 0 0) (.slice none 0 0)).run Try.prog W = .ok (.bool true) W := fun _ => by kernel_rfl
    go_enter Try.func29, Try.ntmps29
    go_wp2_with fail
    go_ret
    exact ⟨none, 0, rfl, ⟨HR.out.1, HR.out.2.1, Or.inl rfl⟩, by omega, by unfold maxLen; omega, fun _ => rfl, Below.refl _ _⟩
  | some ad =>
    have hby := hr.2.1
    have hO : Own (w.alloc (.cells #[] 5)) w.heap.size w.heap.size 0 0 [] := own_of rfl (by omega) (by omega) (by unfold maxLen; omega) (heap_alloc_new _ _) rfl rfl
    have hr' : SRow p (w.alloc (.cells #[] 5)) (some ad) n l := hr.kept ((Kept.refl _ _).alloc _)
    obtain ⟨g', cap', w', hrun, hown, hbel⟩ := app_bytes (c := c) hO hr' (by omega) (by simp)
    rw [Nat.zero_add, List.nil_append] at hown
    rw [Nat.zero_add] at hrun
    have HO := Lib.hid hown
    have HB := Lib.hid (((Below.refl w.heap.size w).alloc (Nat.le_refl _) (.cells #[] 5)).trans hbel)
    have HBy := Lib.hid hby
    clear hown hbel hO hr hr' hby hnil
    have hq : ∀ W : World, (binOp .eql 26 (.slice (some ad) n c) (.slice none 0 0)).run Try.prog W = .ok (.bool false) W := fun _ => by kernel_rfl
    go_enter Try.func29, Try.ntmps29
    go_wp2_with (at_builtin; refine wpList_append_run rfl (.tmp 5) (.tmp 6) 26 26 rfl _ _ _ w' 26 rfl rfl rfl hrun ?_)
    go_ret
    exact ⟨_, _, rfl, HO.out.row HBy.out, HO.out.form.2.2.1, HO.out.form.2.2.2.1, (fun h => by cases h), HB.out⟩
end Wire
end Go.Proofs.Ytimhppgepiikbaa
