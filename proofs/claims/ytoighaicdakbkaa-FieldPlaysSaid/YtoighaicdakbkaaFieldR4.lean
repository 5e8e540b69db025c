/- The document's own: New. -/
import Derived.Test.YtoighaicdakbkaaFieldR3
import Derived.Test.YtoighaicdakbkaaPosts
import Derived.Laws.Build
namespace Go.Proofs.Ytoighaicdakbkaa
open Go.ChangeShapes Go.WideShapes Go.ChangeAt Go.RowKit
namespace Fld
set_option linter.unusedVariables false
set_option linter.unusedSimpArgs false
attribute [local go_sem] Oper.semAt_some
/-- the document's field, new -/
def RNewP (S : Nat) (d : Df) (b : Option Addr) (c : Nat) (V : World) (e : Ending) (V' : World) : Prop :=
  ∃ A, e = .returned (.pointer (some ⟨A.r, 0, none⟩)) ∧ Rf S d b c A (List.replicate d.ins.toNat 0) d.safe [] V' ∧ (∀ k, A.own k → V.heap.size ≤ k) ∧ Below V.heap.size V V'
theorem append_op {o : Oper} {a : Act} {P : Program} {X Y : World} {s x : Operand} {t : TypeId} {v u v' : Value} (ho : o.op = .call { callee := .builtin .append, args := #[s, x], argTypes := #[t, t] }) (hs : a.eval s = v) (hx : a.eval x = u)
    (hrun : (Builtin.append_ #[t, t] o.type #[v, u]).run P X = .ok v' Y) : (execOp a.eval o).run P X = .ok (.value v') Y := by
  simp only [execOp, ho, resolve, invoke, builtin, Sem.run_bind, Sem.run_pure, Result.andThen_ok, List.map_toArray, List.map_cons, List.map_nil, hs, hx, hrun]
/-- a row of words, with room, not older than B -/
def rowN (B n : Nat) (l : List Int) : Value → World → Prop := fun v X => ∃ g cap, v = .slice (some ⟨g, 0, none⟩) n cap ∧ ORow X g cap l ∧ B ≤ g
def rowE (B : Nat) : Value → World → Prop := fun v X => ∃ g, v = .slice (some ⟨g, 0, none⟩) 0 0 ∧ X.heap[g]? = some (.cells #[] 23 (0, 0)) ∧ B ≤ g
/-- what the object is built of -/
def parts (B : Nat) (d : Df) (b : Option Addr) (c M : Nat) (A : Ra) (X : World) : Prop := A.pv = .slice none 0 0 ∧ ORow X A.gi A.ci (List.replicate M 0) ∧ ORow X A.go A.co d.safe ∧ B ≤ A.gi ∧ B ≤ A.go
def aggP (B : Nat) (d : Df) (b : Option Addr) (c M : Nat) : Value → World → Prop := fun v X => ∃ A, v = .agg (rcells d b c A M d.safe.length) ∧ parts B d b c M A X
def objP (B : Nat) (d : Df) (b : Option Addr) (c M : Nat) : Value → World → Prop := fun v X => ∃ A, v = .pointer (some ⟨A.r, 0, none⟩) ∧ X.heap[A.r]? = some (.cells (rcells d b c A M d.safe.length) 49 (0, 0)) ∧ B ≤ A.r ∧ parts B d b c M A X
theorem rowN_stable (B n : Nat) (l : List Int) : Posts.Stable (rowN B n l) := by
  rintro v X Y ⟨g, cap, rfl, h, hg⟩ hE
  exact ⟨g, cap, rfl, h.below hE, hg⟩
theorem rowE_stable (B : Nat) : Posts.Stable (rowE B) := by
  rintro v X Y ⟨g, rfl, h, hg⟩ hE
  exact ⟨g, rfl, (hE.block g (lt_of_block h)).trans h, hg⟩
theorem aggP_stable (B : Nat) (d : Df) (b : Option Addr) (c M : Nat) : Posts.Stable (aggP B d b c M) := by
  rintro v X Y ⟨A, rfl, h0, h1, h2, h3⟩ hE
  exact ⟨A, rfl, h0, h1.below hE, h2.below hE, h3⟩
theorem objP_stable (B : Nat) (d : Df) (b : Option Addr) (c M : Nat) : Posts.Stable (objP B d b c M) := by
  rintro v X Y ⟨A, rfl, h, hr, h0, h1, h2, h3⟩ hE
  exact ⟨A, rfl, (hE.block _ (lt_of_block h)).trans h, hr, h0, h1.below hE, h2.below hE, h3⟩
theorem built_ref (i r x : Int) (b : Option Addr) (n c gi M ci go co : Nat) : Try.prog.built 49 [(0, .agg #[.int .i64 i, .slice b n c, .int .u32 r, .int .i64 x]), (1, .slice (some ⟨gi, 0, none⟩) M ci), (2, .slice (some ⟨go, 0, none⟩) n co)] =
    some #[.int .i64 i, .slice b n c, .int .u32 r, .int .i64 x, .slice (some ⟨gi, 0, none⟩) M ci, .slice (some ⟨go, 0, none⟩) n co, .slice none 0 0] := by kernel_rfl
theorem orow_made (w : World) (l : List Int) : ORow (w.alloc (.cells (nums l).toArray 23)) w.heap.size l.length l :=
  ⟨Nat.le_refl _, _, heap_alloc_new _ _, by simp [nums_len], by rw [← nums_len l]; simp⟩
set_option maxHeartbeats 4000000 in
theorem rnew_any {S : Nat} {d : Df} {b : Option Addr} {c : Nat} {p : Nat → Prop} {V : World} (hr : NRow p V b d.safe.length d.safe) (hcc : b = none → c = 0) (hm : d.may = true) (hS : S < V.heap.size) :
    Calls Try.prog 10 #[.agg #[.int .i64 d.ins, .slice b d.safe.length c, .int .u32 d.rd, .int .i64 d.wr]] V (RNewP S d b c V) := by
  obtain ⟨m1, m2, m3, m4, m5, m6⟩ := may_iff.1 hm
  obtain ⟨M, hM⟩ := Int.eq_ofNat_of_zero_le m1
  have HR := Lib.hid (fun X (h : Below V.heap.size V X) => hr.below h (Nat.le_refl _))
  have HX := Lib.hid (heap_alloc_new V (.cells #[.int .i64 d.ins, .slice b d.safe.length c, .int .u32 d.rd, .int .i64 d.wr] 25))
  have HB := Lib.hid (below_alloc V (.cells #[.int .i64 d.ins, .slice b d.safe.length c, .int .u32 d.rd, .int .i64 d.wr] 25))
  have HSz : Hid (V.heap.size + 1 = (V.alloc (.cells #[.int .i64 d.ins, .slice b d.safe.length c, .int .u32 d.rd, .int .i64 d.wr] 25)).heap.size) := by show _ = _; simp
  have HMd : Hid (d.ins = (M : Int)) := hM
  have hM16 : M ≤ 16 := by omega
  clear hM hm m1 m2
  go_enter Try.func10, Try.ntmps10
  go_upto_region 1 with fail
  generalize V.alloc (.cells #[.int .i64 d.ins, .slice b d.safe.length c, .int .u32 d.rd, .int .i64 d.wr] 25) = w0 at *
  obtain ⟨B, hB⟩ : ∃ B, V.heap.size = B := ⟨_, rfl⟩
  rw [hB] at HX HB HSz ⊢
  have HBq := Lib.hid hB
  have HC := Lib.hid (fun X (h : Posts.Ext w0 X) => box_cells ((Below.block h B (lt_of_block HX.out)).trans HX.out))
  have HR1 := Lib.hid (fun X (h : Posts.Ext w0 X) => HR.out X (by rw [hB]; exact HB.out.trans (Below.mono h (Nat.le_of_lt (lt_of_block HX.out)))))
  have hlB : ∀ X, Posts.Ext w0 X → B ≤ X.heap.size := fun X h => by have := HSz.out; have := Below.size h; omega
  have HSr : Hid (S < B) := by show _ < _; rw [← hB]; exact hS
  refine Posts.wp_region (Posts.At [Posts.is (.agg (defC d b c)), Posts.is (.pointer (some ⟨B, 0, none⟩)), Posts.is (.int .i64 (M : Int)), rowN B M (List.replicate M 0), rowE B, Posts.is (.pointer (some ⟨B, 1, none⟩)), Posts.is (.slice b d.safe.length c), rowN B d.safe.length d.safe,
    aggP B d b c M, objP B d b c M, objP B d b c M]) (by kernel_rfl) (by kernel_rfl) (by kernel_rfl)
    (Posts.stable_at _ (by repeat' (first | exact trivial | (refine And.intro ?_ ?_) | exact Posts.is_stable _ | exact rowN_stable _ _ _ | exact rowE_stable _ | exact aggP_stable _ _ _ _ _ | exact objP_stable _ _ _ _ _))) ?_ ?_
  · refine ⟨?_, ?_, ?_, ?_, ?_, ?_, ?_, ?_, ?_, ?_, ?_, trivial⟩
    · intro a X hX hS hD
      obtain ⟨x0, x1, x2, x3⟩ := HC.out X hX
      have s1 := Posts.slot (show a.eval (.tmp 1) = .pointer (some ⟨B, 0, none⟩) from hS.other 1 rfl)
      exact Posts.op_value rfl rfl rfl (by rw [hS.size]; simp) (v := .agg (defC d b c)) (by simp [execOp, s1, go_sem, x0, x1, x2, x3]) rfl (Posts.Ext.refl _)
    · intro a X hX hS hD
      have s1 := Posts.slot (show a.eval (.tmp 1) = .pointer (some ⟨B, 0, none⟩) from hS.other 1 rfl)
      exact Posts.op_value rfl rfl rfl (by rw [hS.size]; simp) (v := .pointer (some ⟨B, 0, none⟩)) (by simp [execOp, s1, go_sem]) rfl (Posts.Ext.refl _)
    · intro a X hX hS hD
      obtain ⟨x0, x1, x2, x3⟩ := HC.out X hX
      rw [HMd.out] at x0
      have s4 := Posts.slot (show a.eval (.tmp 4) = .pointer (some ⟨B, 0, none⟩) from hD.1)
      exact Posts.op_value rfl rfl rfl (by rw [hS.size]; simp) (v := .int .i64 (M : Int)) (by simp [execOp, s4, go_sem, x0]) rfl (Posts.Ext.refl _)
    · intro a X hX hS hD
      have s5 := Posts.slot (show a.eval (.tmp 5) = .int .i64 (M : Int) from hD.1)
      have hmk := run_make_nums X M (by omega)
      refine Posts.op_value rfl rfl rfl (by rw [hS.size]; simp) (v := .slice (some ⟨X.heap.size, 0, none⟩) M M) (Y := X.alloc (.cells (nums (List.replicate M 0)).toArray 23)) (by simp [execOp, s5, go_sem, hmk]) ⟨_, _, rfl, ?_, hlB X hX⟩ (Posts.Ext.alloc _ _)
      have := orow_made X (List.replicate M 0)
      rwa [List.length_replicate] at this
    · intro a X hX hS hD
      exact Posts.op_value rfl rfl rfl (by rw [hS.size]; simp) (v := .slice (some ⟨X.heap.size, 0, none⟩) 0 0) (Y := X.alloc (.cells #[] 23)) (by simp [execOp, go_sem]) ⟨_, rfl, heap_alloc_new _ _, hlB X hX⟩ (Posts.Ext.alloc _ _)
    · intro a X hX hS hD
      have s1 := Posts.slot (show a.eval (.tmp 1) = .pointer (some ⟨B, 0, none⟩) from hS.other 1 rfl)
      exact Posts.op_value rfl rfl rfl (by rw [hS.size]; simp) (v := .pointer (some ⟨B, 1, none⟩)) (by simp [execOp, s1, go_sem]) rfl (Posts.Ext.refl _)
    · intro a X hX hS hD
      obtain ⟨x0, x1, x2, x3⟩ := HC.out X hX
      have s8 := Posts.slot (show a.eval (.tmp 8) = .pointer (some ⟨B, 1, none⟩) from hD.1)
      exact Posts.op_value rfl rfl rfl (by rw [hS.size]; simp) (v := .slice b d.safe.length c) (by simp [execOp, s8, go_sem, x1]) rfl (Posts.Ext.refl _)
    · intro a X hX hS hD
      obtain ⟨e0, e1, he0, hge0⟩ := (show rowE B (a.eval (.tmp 7)) X from hD.1)
      have e9 := (show a.eval (.tmp 9) = .slice b d.safe.length c from hD.2.1)
      obtain ⟨g, cap, X', hrun, hO, hg, hE⟩ := app_ext X he0 (HR1.out X hX) (by omega) hcc 22
      exact Posts.op_value rfl rfl rfl (by rw [hS.size]; simp) (append_op rfl e1 e9 hrun) ⟨g, cap, rfl, hO, by rcases hg with rfl | rfl; exact hge0; exact hlB X hX⟩ hE
    · intro a X hX hS hD
      have e3 := (show a.eval (.tmp 3) = .agg (defC d b c) from hD.1)
      obtain ⟨gi, ci, e6, hOi, hgi⟩ := (show rowN B M (List.replicate M 0) (a.eval (.tmp 6)) X from hD.2.1)
      obtain ⟨go, co, e10, hOo, hgo⟩ := (show rowN B d.safe.length d.safe (a.eval (.tmp 10)) X from hD.2.2.1)
      have hbu := run_build (P := Try.prog) X 49 #[(0, .agg (defC d b c)), (1, .slice (some ⟨gi, 0, none⟩) M ci), (2, .slice (some ⟨go, 0, none⟩) d.safe.length co)] _ (built_ref d.ins d.rd d.wr b d.safe.length c gi M ci go co)
      refine Posts.op_value rfl rfl rfl (by rw [hS.size]; simp) (v := .agg _) (Y := X) ?_ ⟨⟨0, gi, ci, go, co, .slice none 0 0⟩, rfl, rfl, hOi, hOo, hgi, hgo⟩ (Posts.Ext.refl _)
      simp only [execOp, List.map_toArray, List.map_cons, List.map_nil, e3, e6, e10, Sem.run_bind, hbu, Result.andThen_ok, Sem.run_pure]
    · intro a X hX hS hD
      obtain ⟨A, e11, hp⟩ := (show aggP B d b c M (a.eval (.tmp 11)) X from hD.1)
      have s11 := Posts.slot e11
      exact Posts.op_value rfl rfl rfl (by rw [hS.size]; simp) (v := .pointer (some ⟨X.heap.size, 0, none⟩)) (Y := X.alloc (.cells (rcells d b c A M d.safe.length) 49)) (by simp [execOp, s11, go_sem]) ⟨{ A with r := X.heap.size }, rfl, heap_alloc_new _ _, hlB X hX, hp.1, hp.2.1.below (below_alloc _ _), hp.2.2.1.below (below_alloc _ _), hp.2.2.2⟩ (Posts.Ext.alloc _ _)
    · intro a X hX hS hD
      obtain ⟨A, e12, hp⟩ := (show objP B d b c M (a.eval (.tmp 12)) X from hD.1)
      have s12 := Posts.slot e12
      exact Posts.op_value rfl rfl rfl (by rw [hS.size]; simp) (v := .pointer (some ⟨A.r, 0, none⟩)) (by simp [execOp, s12, go_sem]) ⟨A, rfl, hp⟩ (Posts.Ext.refl _)
  · intro a Y hY hS hL
    obtain ⟨A, hres, hob, hr, hpv, hOi, hOo, hgi, hgo⟩ := (show objP B d b c M (a.tmps.getD 2 undef) Y from hL.2.2.2.2.2.2.2.2.2.2.1)
    rename_i hK
    refine hK _ _ ?_
    go_wp2_with fail
    refine bodyPost_ret (v := .pointer (some ⟨A.r, 0, none⟩)) (by have h := results_tmp (fn := Try.f10) (t := 2) rfl a.tmps Try.prog Y; rw [hres] at h; exact h) hS.defers ?_
    have hMn : d.ins.toNat = M := by rw [HMd.out]; rfl
    have hsr := HSr.out
    refine ⟨A, rfl, ⟨?_, by rw [hMn]; exact hOi, hOo, by rw [hpv]; exact World.ownsRow_nil _ _ _ _, by omega, by simp, rfl, by rw [hMn, List.length_replicate]; exact HMd.out.symm⟩, ?_, ?_⟩
    · rw [hMn, List.length_replicate]; exact hob
    · rw [HBq.out]
      rintro k (rfl | rfl | rfl | hk)
      · exact hr
      · exact hgi
      · exact hgo
      · rw [hpv] at hk; simp [Value.ownBlock] at hk
    · rw [HBq.out]; exact HB.out.trans (Below.mono hY (by have := HSz.out; omega))
end Fld
end Go.Proofs.Ytoighaicdakbkaa
