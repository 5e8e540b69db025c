/- The document's own answer: bytes put behind bytes. -/
import Derived.Test.YtimhppgepiikbaaWireR1
namespace Go.Proofs.Ytimhppgepiikbaa
open Go.ChangeShapes Go.WideShapes Go.ChangeAt Go.RowKit
namespace Wire
set_option linter.unusedVariables false
set_option linter.unusedSimpArgs false
/-- a slice of the call's own, or nil, with these bytes -/
def OwnV (w : World) (B : Nat) (v : Value) (n : Nat) (l : List Int) : Prop := w.ownsRow B 5 1 v n (bv l)
theorem OwnV.length {w : World} {B n : Nat} {v : Value} {l : List Int} (h : OwnV w B v n l) : l.length = n := by have := h.1; rw [bv_length] at this; omega
theorem OwnV.alloc {w : World} {B n : Nat} {v : Value} {l : List Int} (h : OwnV w B v n l) (o : Obj) : OwnV (w.alloc o) B v n l := World.ownsRow.alloc h o
/-- what is owned stays, whatever is made behind a later number -/
theorem OwnV.below {w w' : World} {B n : Nat} {v : Value} {l : List Int} (h : OwnV w B v n l) (hb : Below w.heap.size w w') : OwnV w' B v n l := by
  refine ⟨h.1, ?_⟩
  rcases h.2 with hn | ⟨g, cap, cur, rfl, hbg, hg, rest⟩
  · exact .inl hn
  · exact .inr ⟨g, cap, cur, rfl, hbg, (hb.block g (lt_of_block hg)).trans hg, rest⟩
theorem app_row {w : World} {B vn mn mc vc : Nat} {va ma : Option Addr} {l m : List Int} {p : Nat → Prop} (ho : OwnV w B (.slice va vn vc) vn l) (hs : SRow p w ma mn m) (hlen : vn + mn ≤ 100000000) (hb : B ≤ w.heap.size) :
    ∃ va' vc' w', (Builtin.append_ #[26, 26] 26 #[.slice va vn vc, .slice ma mn mc]).run Try.prog w = .ok (.slice va' (vn + mn) vc') w' ∧ OwnV w' B (.slice va' (vn + mn) vc') (vn + mn) (l ++ m) ∧ Below B w w' ∧ w.grownBy w' (Value.slice va vn vc).ownBlock := by
  obtain ⟨i0, hi, hz0, hz1, hz2⟩ := info_parts infoByte
  have hu := Try.underlying26
  cases ma with
  | none =>
    obtain rfl : mn = 0 := by
      rcases hs.2.2 with h | ⟨b, off, h, _⟩
      · exact h
      · cases h
    have hm : m = [] := List.eq_nil_of_length_eq_zero hs.1
    subst hm
    refine ⟨va, vc, w, ?_, by simpa using ho, Below.refl _ _, ⟨rfl, rfl, rfl, Nat.le_refl _, fun _ _ _ => rfl⟩⟩
    have hle : vn ≤ vc := by
      rcases ho.2 with ⟨h, h0⟩ | ⟨g, cap, cur, hv, _, _, hc, _⟩
      · omega
      · simp only [Value.slice.injEq] at hv; omega
    simp [Builtin.append_, run_underlying hu, sizeOf, typeInfo, hi, hz1, Builtin.lenOf, Builtin.firstCells, hle, storeCells]
    cases va <;> simp [storeCells]
  | some ad =>
    obtain ⟨v', w', hrun, hown, hgr, _⟩ := run_append_own (P := Try.prog) w B 26 26 5 i0 (.int .u8 0) 1 1 hu hi hz0 hz1 hz2 rfl (by decide) (.slice va vn vc) vn (bv l) ho ad mn mc (bv m) (by rw [bv_length, hs.1, Nat.mul_one])
      (fun j u hj => by
        have hj' : j < m.length := by have := (List.getElem?_eq_some_iff.1 hj).1; rwa [bv_length] at this
        have h1 := hs.1
        rcases hs.2.2 with h0 | ⟨b, off, e, _, hc⟩
        · omega
        · simp only [Option.some.injEq] at e
          subst e
          rw [Addr.add_mid b off j, hc j (by omega), ← hj]
          simp [bv, List.getD, hj']) (bv_one _) (by unfold maxLen; omega) (by omega) hb
    obtain ⟨va', vc', rfl⟩ := own_form hown
    rw [bv_append] at hown
    exact ⟨va', vc', w', hrun, hown, Below.grown (Below.refl _ _) hgr hb (fun j hj => (World.ownsRow.lt ho j hj).1), hgr⟩
/-- an append whose run is known, as one step of a region that draws its order -/
theorem step_append_run {P : Program} {ops : Array Oper} {o : Oper} {a : Act} {w : World} {K : Act → World → Prop} {Q : Exit → Act → World → Prop} {E : Prop} (hgd : o.guard = none) (s x : Operand) (t t' : TypeId)
    (ho : o.op = .call { callee := .builtin .append, args := #[s, x], argTypes := #[t, t'] }) (vs vx v : Value) (w1 : World) (ty : TypeId) (hty : o.type = ty) (hs : a.eval s = vs) (hx : a.eval x = vx) (hrun : (Builtin.append_ #[t, t'] ty #[vs, vx]).run P w = .ok v w1)
    (h : K (a.put o.dst v) w1) : if Region.wanted o (yielded ops a.tmps) = true then Oper.wp P o a w K Q else E := by
  have hw : Region.wanted o (yielded ops a.tmps) = true := by simp [Region.wanted, hgd]
  rw [if_pos hw]
  subst hty
  unfold Oper.wp
  simp only [execOp, ho, resolve, invoke, builtin, Sem.run_bind, Sem.run_pure, Result.andThen_ok, List.map_toArray, List.map_cons, List.map_nil, hs, hx, hrun]
  exact h
theorem own_other {w : World} {B g n : Nat} {v : Value} {l : List Int} {cs : Array Value} {t : TypeId} {fr : Nat × Nat} (h : OwnV w B v n l) (hg : w.heap[g]? = some (.cells cs t fr)) (ht : ¬ t = 5) : some g ≠ v.ownBlock := by
  intro hb
  rcases h.2 with ⟨rfl, _⟩ | ⟨g', cap, cur, rfl, _, hg', _⟩
  · simp [Value.ownBlock] at hb
  · simp only [Value.ownBlock, Option.some.injEq] at hb
    rw [← hb, hg] at hg'
    simp at hg'
    exact ht hg'.2.1
theorem low_gen (w : World) (n : Int) (s : Nat) (h0 : 0 ≤ n) (h1 : n ≤ 18446744073709551615) (hs : s ≤ 8) :
    Calls Try.prog 30 #[.int .u64 n, .int .i64 s] w fun r w' => ∃ va vn vc, r = .returned (.slice va vn vc) ∧ vn = s ∧ SRow (fun b => b < w.heap.size) w' va vn (le s n) ∧ OwnV w' w.heap.size (.slice va vn vc) vn (le s n) ∧ Below w.heap.size w w' := by
  refine (low_any w n s h0 h1 hs).mono ?_
  rintro r w' ⟨va, vc, rfl, h2, h3⟩
  obtain ⟨h4, h5, _, _⟩ := own_parts h2 (le_byte s n)
  exact ⟨va, s, vc, rfl, rfl, h4, h2, h3⟩
/-- what a value's bytes put behind those that are there leave -/
theorem tail_step {p : Nat → Prop} {B un uc mn mc V : Nat} {ua ma : Option Addr} {t M : List Int} {cs : Array Value} {w W0 w1 : World} (hV : W0.heap[V]? = some (.cells cs 39 (0, 0))) (hb1 : Below W0.heap.size W0 w1) (hBA : Below B w W0) (hB : B ≤ W0.heap.size)
    (hO : OwnV W0 B (.slice ua un uc) un t) (hM : SRow p w1 ma mn M) (hlen : un + mn ≤ 524288) :
    ∃ va' vc' w2, (Builtin.append_ #[26, 26] 26 #[.slice ua un uc, .slice ma mn mc]).run Try.prog w1 = .ok (.slice va' (un + mn) vc') w2 ∧ OwnV w2 B (.slice va' (un + mn) vc') (un + mn) (t ++ M) ∧ Below B w w2 ∧ w2.heap[V]? = some (.cells cs 39 (0, 0)) ∧ W0.heap.size ≤ w2.heap.size := by
  have hO1 := hO.below hb1
  have hV1 := (hb1.block V (lt_of_block hV)).trans hV
  obtain ⟨va', vc', w2, h1, h2, h3, h4⟩ := app_row (mc := mc) hO1 hM (by omega) (Nat.le_trans hB hb1.size)
  exact ⟨va', vc', w2, h1, h2, (hBA.trans (hb1.mono hB)).trans h3, (h4.block V (lt_of_block hV1) (own_other hO1 hV1 (by decide))).trans hV1, Nat.le_trans hb1.size h3.size⟩
/-- how many bytes, and they themselves -/
theorem more6 {p : Nat → Prop} {bn bc mn mc : Nat} {ba ma : Option Addr} {bs : List Int} {W0 X w1 : World} (hX : Below W0.heap.size W0 X) (hO : OwnV w1 X.heap.size (.slice ma mn mc) mn (le 4 bn)) (hmn : mn = 4) (hb1 : Below X.heap.size X w1) (hs : SRow p W0 ba bn bs) (hbn : bn ≤ 200000) :
    ∃ va q vc w3, (Builtin.append_ #[26, 26] 26 #[.slice ma mn mc, .slice ba bn bc]).run Try.prog w1 = .ok (.slice va q vc) w3 ∧ q ≤ 300000 ∧ SRow (fun b => b < W0.heap.size) w3 va q (le 4 bn ++ bs) ∧ Below W0.heap.size W0 w3 ∧ Below W0.heap.size W0 w1 := by
  have hb01 : Below W0.heap.size W0 w1 := hX.trans (hb1.mono hX.size)
  obtain ⟨va, vc, w3, h1, h2, h3, _⟩ := app_row (mc := bc) hO (hs.kept (Kept.of_below hb01)) (by omega) hb1.size
  obtain ⟨h4, _, _, _⟩ := own_parts h2 (by
    intro z hz
    rcases List.mem_append.1 hz with hz | hz
    · exact le_byte _ _ z hz
    · exact hs.2.1 z hz)
  exact ⟨va, mn + bn, vc, w3, h1, by omega, h4.imp (fun k _ hk => Nat.lt_of_lt_of_le hk hX.size), hb01.trans (h3.mono hX.size), hb01⟩
/-- what 'append(low(uint64(len(b)), 4), b...)' will leave, told at the call of low -/
def LowPost (W0 : World) (ba : Option Addr) (bn bc : Nat) (bs : List Int) (r : Ending) (w1 : World) : Prop :=
  ∃ ma mn mc, r = .returned (.slice ma mn mc) ∧ ∃ va q vc w3, (Builtin.append_ #[26, 26] 26 #[.slice ma mn mc, .slice ba bn bc]).run Try.prog w1 = .ok (.slice va q vc) w3 ∧ q ≤ 300000 ∧ SRow (fun b => b < W0.heap.size) w3 va q (le 4 bn ++ bs) ∧ Below W0.heap.size W0 w3 ∧ Below W0.heap.size W0 w1
theorem low6 {p : Nat → Prop} {bn bc : Nat} {ba : Option Addr} {bs : List Int} {W0 X : World} (hX : Below W0.heap.size W0 X) (hs : SRow p W0 ba bn bs) (hbn : bn ≤ 200000) :
    Calls Try.prog 30 #[.int .u64 (bn : Int), .int .i64 4] X (LowPost W0 ba bn bc bs) := by
  refine (low_gen X (bn : Int) 4 (by omega) (by omega) (by omega)).mono ?_
  rintro r w1 ⟨ma, mn, mc, rfl, hmn, hm1, hm2, hm3⟩
  exact ⟨ma, mn, mc, rfl, more6 (bc := bc) hX hm2 hmn hm3 hs hbn⟩
end Wire
end Go.Proofs.Ytimhppgepiikbaa
