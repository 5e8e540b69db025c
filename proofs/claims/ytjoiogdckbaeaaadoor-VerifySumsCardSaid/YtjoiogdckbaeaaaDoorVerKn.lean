/- The law's own small test, I: its instructions, its configuration, and what stays while a summary is put into a new variable. · The law's own small test is met, over what the program's Check answers. (Made by tools/gen_verknown.py.) -/
import Derived.Test.YtjoiogdckbaeaaaDoorVerL1
import Derived.Test.YtjoiogdckbaeaaaDoorVerM
import Derived.Test.YtjoiogdckbaeaaaDoorRightsPosts
import Derived.Great.BuildSlice
namespace Go.Proofs.YtjoiogdckbaeaaaDoor
open Go.ChangeShapes Go.WideShapes Go.ChangeAt Go.RowKit
namespace Ver
open Isa Flw Hgt Cst
set_option linter.unusedVariables false
set_option linter.unusedSimpArgs false
theorem do_any (op a b c : Int) (w : World) : Calls Tryd.prog 12 #[.int .u8 op, .int .u8 a, .int .u16 b, .int .u32 c] w fun e w' =>
    e = .returned (.agg #[.int .u8 op, .int .u8 a, .int .u16 b, .int .u32 c]) ∧ Below w.heap.size w w' := by
  have hx := alloc_new w (.cells #[.int .u8 0, .int .u8 0, .int .u16 0, .int .u32 0] 55)
  have HB := Lib.hid ((Below.refl w.heap.size w).alloc (Nat.le_refl _) (.cells #[.int .u8 0, .int .u8 0, .int .u16 0, .int .u32 0] 55))
  obtain ⟨V, hV⟩ : ∃ V, w.heap.size = V := ⟨_, rfl⟩
  go_enter Tryd.func12, Tryd.ntmps12
  go_upto_region 1 with fail
  have HV := Lib.hid hV
  rw [hV] at hx HB
  clear hV
  generalize w.alloc (.cells #[.int .u8 0, .int .u8 0, .int .u16 0, .int .u32 0] 55) = X at *
  obtain ⟨y0, y1, y2, y3⟩ := cells4 hx
  have f0 := fz_at hx 0
  have f1 := fz_at hx 1
  have f2 := fz_at hx 2
  have f3 := fz_at hx 3
  have hz := set_own (k := 3) (.int .u32 c) (set_own (k := 2) (.int .u16 b) (set_own (k := 1) (.int .u8 a) (set_own (k := 0) (.int .u8 op) hx)))
  have hbz : Below V w ((((X.setCell ⟨V, 0, none⟩ (.int .u8 op)).setCell ⟨V, 1, none⟩ (.int .u8 a)).setCell ⟨V, 2, none⟩ (.int .u16 b)).setCell ⟨V, 3, none⟩ (.int .u32 c)) :=
    (((HB.out.setCell (p := ⟨V, 0, none⟩) (Nat.le_refl _) _).setCell (p := ⟨V, 1, none⟩) (Nat.le_refl _) _).setCell (p := ⟨V, 2, none⟩) (Nat.le_refl _) _).setCell (p := ⟨V, 3, none⟩) (Nat.le_refl _) _
  have HZ : Hid (_ = _) := hz
  have HBz := Lib.hid hbz
  clear hz hbz hx
  go_wp2_with fail
  generalize ((((X.setCell ⟨V, 0, none⟩ (.int .u8 op)).setCell ⟨V, 1, none⟩ (.int .u8 a)).setCell ⟨V, 2, none⟩ (.int .u16 b)).setCell ⟨V, 3, none⟩ (.int .u32 c)) = X9 at *
  obtain ⟨g0, g1, g2, g3⟩ := cells4 (show X9.heap[V]? = some (.cells #[.int .u8 op, .int .u8 a, .int .u16 b, .int .u32 c] 55 (0, 0)) from HZ.out)
  refine bodyPost_ret (v := .agg #[.int .u8 op, .int .u8 a, .int .u16 b, .int .u32 c]) (by simp [results, Tryd.f12, g0, g1, g2, g3, go_sem]) rfl ?_
  exact ⟨rfl, by rw [HV.out]; exact HBz.out⟩
/-! ### The configuration -/
def mT (p : Nat) : Cm := ⟨0, some ⟨p, 0, none⟩, 2, 2, some ⟨p + 1, 0, none⟩, 1, 1, 1, some ⟨p + 2, 0, none⟩, 1, 1, 1, 0, 0, 0, none, 0, 0, 0, 0, 0, 0⟩
def dsT : List Pd := [⟨none, 0, 0, 4, 0, 0, 0⟩, ⟨none, 0, 0, 4, 0, 0, 0⟩]
def pdC : Array Value := #[.slice none 0 0, .int .i64 4, .int .u8 0, .int .u8 0, .int .u8 0, .slice none 0 0, .int .i64 4, .int .u8 0, .int .u8 0, .int .u8 0]
def ptC : Array Value := #[.int .i64 2, .int .i64 1, .int .u32 1]
def cfgP (v : Value) (X : World) : Prop := ∃ p, v = (mT p).val ∧ X.heap[p]? = some (.cells pdC 46 (0, 0)) ∧ X.heap[p + 1]? = some (.cells ptC 48 (0, 0))
theorem cfg_in {X : World} {p : Nat} (h1 : X.heap[p]? = some (.cells pdC 46 (0, 0))) (h2 : X.heap[p + 1]? = some (.cells ptC 48 (0, 0))) : CfIn X (mT p) dsT cfT where
  pd := ⟨rfl, by intro d hd; simp [dsT] at hd; subst hd; unfold Pd.wf; simp, .inr ⟨p, 0, rfl, fun j hj => by
    have hj : j < 2 := hj
    match j, hj with
    | 0, _ => exact ⟨cells_at h1 0, cells_at h1 1, cells_at h1 2, cells_at h1 3, cells_at h1 4⟩
    | 1, _ => exact ⟨cells_at h1 5, cells_at h1 6, cells_at h1 7, cells_at h1 8, cells_at h1 9⟩⟩⟩
  pt := ⟨rfl, by intro d hd; simp [cfT] at hd; subst hd; unfold Pt.wf; simp, .inr ⟨p + 1, 0, rfl, fun j hj => by
    have hj : j < 1 := hj
    match j, hj with
    | 0, _ => exact ⟨cells_at h2 0, cells_at h2 1, cells_at h2 2⟩⟩⟩
  st := rfl
  ins := rfl
  ns := rfl
  fr := rfl
  fw := rfl
  lp := by simp [mT]
  lq := by simp [mT]
  ls := by simp [mT]
  wi := by simp [mT]
  wr := by simp [mT]
  ww := by simp [mT]
/-! ### Programs -/
def progP (l : List Iv) (n : Nat) (v : Value) (X : World) : Prop := ∃ b, v = .slice (some ⟨b, 0, none⟩) n n ∧ X.heap[b]? = some (.cells (encs l).toArray 55 (0, 0))
theorem prog_row {X : World} {b : Nat} {l : List Iv} (hw : ∀ i ∈ l, i.wf) (h : X.heap[b]? = some (.cells (encs l).toArray 55 (0, 0))) : IRow X (some ⟨b, 0, none⟩) l.length l := by
  refine ⟨rfl, hw, .inr ⟨b, 0, rfl, fun j hj => ?_⟩⟩
  have key : ∀ t, t < 4 → X.cell? ⟨b, 0 + j * 4 + t, none⟩ = (encI (l.getD j iz))[t]? := fun t ht => by
    rw [Nat.zero_add, cells_at h, List.getElem?_toArray, encs_at l j t hj ht]
  exact ⟨key 0 (by omega), key 1 (by omega), key 2 (by omega), key 3 (by omega)⟩
/-! ### A summary in a new variable -/
def oZ : Obj := .cells #[.int .i64 0, .int .u32 0, .int .u32 0, .int .u32 0, .int .u32 0, .int .u32 0] 37 (0, 0)
/-- all blocks stay as they are, but that empty summaries of number K or more may become FC -/
structure EZ (K : Nat) (FC : Obj) (X Y : World) : Prop where
  os : Y.os = X.os
  tape : Y.tape = X.tape
  output : Y.output = X.output
  size : X.heap.size ≤ Y.heap.size
  low : ∀ k, k < X.heap.size → k < K → Y.heap[k]? = X.heap[k]?
  high : ∀ k, k < X.heap.size → Y.heap[k]? = X.heap[k]? ∨ (X.heap[k]? = some oZ ∧ Y.heap[k]? = some FC)
theorem ez_rel (K : Nat) (FC : Obj) : Posts.Rel (EZ K FC) where
  refl := fun X => ⟨rfl, rfl, rfl, Nat.le_refl _, fun _ _ _ => rfl, fun _ _ => .inl rfl⟩
  trans := fun X Y Z h k => ⟨k.os.trans h.os, k.tape.trans h.tape, k.output.trans h.output, Nat.le_trans h.size k.size, fun j hj hK => (k.low j (Nat.lt_of_lt_of_le hj h.size) hK).trans (h.low j hj hK), fun j hj => by
    rcases h.high j hj with e1 | ⟨e1, e2⟩
    · rcases k.high j (Nat.lt_of_lt_of_le hj h.size) with e3 | ⟨e3, e4⟩
      · exact .inl (e3.trans e1)
      · exact .inr ⟨e1 ▸ e3, e4⟩
    · rcases k.high j (Nat.lt_of_lt_of_le hj h.size) with e3 | ⟨e3, e4⟩
      · exact .inr ⟨e1, e3.trans e2⟩
      · exact .inr ⟨e1, e4⟩⟩
  drew := fun X => ⟨rfl, rfl, rfl, Nat.le_refl _, fun _ _ _ => rfl, fun _ _ => .inl rfl⟩
theorem EZ.of {K : Nat} {FC : Obj} {X Y : World} (h : Below X.heap.size X Y) : EZ K FC X Y := ⟨h.os, h.tape, h.output, h.size, fun k hk _ => h.block k hk, fun k hk => .inl (h.block k hk)⟩
theorem EZ.keep {K : Nat} {FC : Obj} {X Y : World} (h : EZ K FC X Y) {k : Nat} {o : Obj} (ho : X.heap[k]? = some o) (hne : o ≠ oZ) : Y.heap[k]? = some o := by
  rcases h.high k (lt_of_block ho) with e | ⟨e, _⟩
  · exact e.trans ho
  · rw [ho] at e; exact absurd (Option.some.inj e) hne
theorem EZ.below {K S : Nat} {FC : Obj} {w X Y : World} (h : EZ K FC X Y) (hb : Below S w X) (hS : S ≤ K) (hX : S ≤ X.heap.size) : Below S w Y :=
  ⟨h.os.trans hb.os, h.tape.trans hb.tape, h.output.trans hb.output, Nat.le_trans hb.size h.size, fun k hk => (h.low k (by omega) (by omega)).trans (hb.block k hk)⟩
theorem ne_type' {cs : Array Value} {t : TypeId} (ht : t ≠ 37) : (Obj.cells cs t (0, 0)) ≠ oZ := by
  intro e
  unfold oZ at e
  injection e with _ e2 _
  exact ht e2
theorem progP_stable {K : Nat} {FC : Obj} (l : List Iv) (n : Nat) : Posts.Stable (EZ K FC) (progP l n) := by
  rintro v X Y ⟨b, h1, h2⟩ hE
  exact ⟨b, h1, hE.keep h2 (ne_type' (by decide))⟩
theorem cfgP_stable {K : Nat} {FC : Obj} : Posts.Stable (EZ K FC) cfgP := by
  rintro v X Y ⟨p, h1, h2, h3⟩ hE
  exact ⟨p, h1, hE.keep h2 (ne_type' (by decide)), hE.keep h3 (ne_type' (by decide))⟩
theorem true_stable {E : World → World → Prop} : Posts.Stable E (fun _ _ => True) := fun _ _ _ _ _ => trivial
/-- operation ka makes the variable (slot s), operation kb puts FC into it -/
def JS (ka kb s K : Nat) (FC : Obj) (lis : Array Bool) (a : Act) (X : World) : Prop :=
  (lis.getD kb false = true → lis.getD ka false = true) ∧ (lis.getD ka false = true → ∃ b, a.eval (.tmp s) = .pointer (some ⟨b, 0, none⟩) ∧ K ≤ b ∧ (X.heap[b]? = some FC ∨ (X.heap[b]? = some oZ ∧ lis.getD kb false = false)))
theorem js_start (ka kb s K N : Nat) (FC : Obj) (a : Act) (X : World) : JS ka kb s K FC (Array.replicate N false) a X := by
  have h : ∀ k, (Array.replicate N false).getD k false = false := fun k => by
    by_cases q : k < N <;> simp [q]
  exact ⟨fun e => (by rw [h] at e; cases e), fun e => (by rw [h] at e; cases e)⟩
theorem getD_set_no {l : Array Bool} {i j : Nat} (h : i ≠ j) : (l.setIfInBounds i true).getD j false = l.getD j false := by
  simp [Array.getElem?_setIfInBounds_ne h]
theorem getD_set_yes {l : Array Bool} {i : Nat} (h : i < l.size) : (l.setIfInBounds i true).getD i false = true := by simp [h]
theorem eval_put (a : Act) (d s : Tmp) (v : Value) (h : d ≠ s) : (a.put (some d) v).eval (.tmp s) = a.eval (.tmp s) := by
  show (a.put (some d) v).tmps.getD s undef = a.tmps.getD s undef
  exact Posts.put_other a d s v h
theorem js_keep {ka kb s K : Nat} {FC : Obj} {lis : Array Bool} {a : Act} {X Y : World} (h : JS ka kb s K FC lis a X) (hE : EZ K FC X Y) {i : Nat} (h1 : i ≠ ka) (h2 : i ≠ kb) {d : Tmp} (h3 : d ≠ s) (v : Value) : JS ka kb s K FC (lis.setIfInBounds i true) (a.put (some d) v) Y := by
  obtain ⟨j1, j2⟩ := h
  unfold JS
  rw [getD_set_no h1, getD_set_no h2, eval_put a d s v h3]
  refine ⟨j1, fun e => ?_⟩
  obtain ⟨b, e1, e2, e3⟩ := j2 e
  refine ⟨b, e1, e2, ?_⟩
  rcases e3 with e3 | ⟨e3, e4⟩
  · rcases hE.high b (lt_of_block e3) with q | ⟨_, q⟩
    · exact .inl (q.trans e3)
    · exact .inl q
  · rcases hE.high b (lt_of_block e3) with q | ⟨_, q⟩
    · exact .inr ⟨q.trans e3, e4⟩
    · exact .inl q
theorem js_alloc {ka kb s K : Nat} {FC : Obj} {lis : Array Bool} {a : Act} {X : World} (h : JS ka kb s K FC lis a X) (hl : lis.getD ka false = false) (hs : ka < lis.size) (ht : s < a.tmps.size) (hK : K ≤ X.heap.size) (hne : ka ≠ kb) :
    JS ka kb s K FC (lis.setIfInBounds ka true) (a.put (some s) (.pointer (some ⟨X.heap.size, 0, none⟩))) (X.alloc (.cells #[.int .i64 0, .int .u32 0, .int .u32 0, .int .u32 0, .int .u32 0, .int .u32 0] 37)) := by
  obtain ⟨j1, j2⟩ := h
  have hb : lis.getD kb false = false := by
    cases e : lis.getD kb false with
    | false => rfl
    | true => rw [j1 e] at hl; cases hl
  unfold JS
  rw [getD_set_no hne, getD_set_yes hs, hb]
  refine ⟨fun e => (by cases e), fun _ => ⟨X.heap.size, ?_, hK, .inr ⟨alloc_new X _, rfl⟩⟩⟩
  show (a.put (some s) _).tmps.getD s undef = _
  simp [Act.put, ht]
def put6 (X : World) (b : Nat) (sm : Sm) : World := X.setRow b (smC sm)
theorem put6_own {X : World} {b : Nat} {sm : Sm} {cs : Array Value} (h : X.heap[b]? = some (.cells cs 37 (0, 0))) : (put6 X b sm).heap[b]? = some (.cells (smC sm) 37 (0, 0)) := setRow_heap _ _ _ _ _ _ h
theorem put6_other (X : World) (b : Nat) (sm : Sm) (k : Nat) (hk : k ≠ b) : (put6 X b sm).heap[k]? = X.heap[k]? := setRow_other _ _ _ _ hk
theorem put6_size (X : World) (b : Nat) (sm : Sm) : (put6 X b sm).heap.size = X.heap.size := setRow_size _ _ _
theorem put6_os (X : World) (b : Nat) (sm : Sm) : (put6 X b sm).os = X.os ∧ (put6 X b sm).tape = X.tape ∧ (put6 X b sm).output = X.output := ⟨setRow_os _ _ _, setRow_tape _ _ _, setRow_output _ _ _⟩
theorem smC_one (sm : Sm) : (smC sm).all (·.oneCell') = true := by
  refine Array.all_eq_true_iff_forall_mem.2 fun u hu => ?_
  unfold smC at hu
  simp only [List.mem_toArray, List.mem_cons, List.not_mem_nil, or_false] at hu
  rcases hu with rfl | rfl | rfl | rfl | rfl | rfl <;> rfl
theorem js_store {ka kb s K : Nat} {lis : Array Bool} {a : Act} {X : World} {sm : Sm} (h : JS ka kb s K (.cells (smC sm) 37 (0, 0)) lis a X) (hl : lis.getD ka false = true) (hs : kb < lis.size) (hne : ka ≠ kb) :
    ∃ b u0 u1 u2 u3 u4 u5, a.eval (.tmp s) = .pointer (some ⟨b, 0, none⟩) ∧ X.heap[b]? = some (.cells #[u0, u1, u2, u3, u4, u5] 37 (0, 0)) ∧
      EZ K (.cells (smC sm) 37 (0, 0)) X (put6 X b sm) ∧
      JS ka kb s K (.cells (smC sm) 37 (0, 0)) (lis.setIfInBounds kb true) a (put6 X b sm) := by
  obtain ⟨j1, j2⟩ := h
  obtain ⟨b, e1, e2, e3⟩ := j2 hl
  have hcs : ∃ u0 u1 u2 u3 u4 u5, X.heap[b]? = some (.cells #[u0, u1, u2, u3, u4, u5] 37 (0, 0)) := by
    rcases e3 with e3 | ⟨e3, _⟩
    · exact ⟨_, _, _, _, _, _, e3⟩
    · exact ⟨_, _, _, _, _, _, e3⟩
  obtain ⟨u0, u1, u2, u3, u4, u5, hu⟩ := hcs
  have hfin := put6_own (sm := sm) hu
  have hoth := put6_other X b sm
  have hos := put6_os X b sm
  have hsz := put6_size X b sm
  refine ⟨b, u0, u1, u2, u3, u4, u5, e1, hu, ⟨hos.1, hos.2.1, hos.2.2, by omega, fun k hk hK => hoth k (by omega), fun k hk => ?_⟩, ?_⟩
  · by_cases q : k = b
    · subst q
      rcases e3 with e3 | ⟨e3, _⟩
      · exact .inl (hfin.trans e3.symm)
      · exact .inr ⟨e3, hfin⟩
    · exact .inl (hoth k q)
  · unfold JS
    rw [getD_set_no (Ne.symm hne), hl, getD_set_yes hs]
    exact ⟨fun _ => rfl, fun _ => ⟨b, e1, e2, .inl hfin⟩⟩
theorem cells14 {X : World} {V : Nat} {v0 v1 v2 v3 v4 v5 v6 v7 v8 v9 v10 v11 v12 v13 : Value} {t : TypeId} {fr : Nat × Nat} (h : X.heap[V]? = some (.cells #[v0, v1, v2, v3, v4, v5, v6, v7, v8, v9, v10, v11, v12, v13] t fr)) : (X.cell? ⟨V, 0, none⟩ = some v0 ∧ X.cell? ⟨V, 1, none⟩ = some v1 ∧ X.cell? ⟨V, 2, none⟩ = some v2 ∧ X.cell? ⟨V, 3, none⟩ = some v3 ∧ X.cell? ⟨V, 4, none⟩ = some v4 ∧ X.cell? ⟨V, 5, none⟩ = some v5 ∧ X.cell? ⟨V, 6, none⟩ = some v6) ∧ X.cell? ⟨V, 7, none⟩ = some v7 ∧ X.cell? ⟨V, 8, none⟩ = some v8 ∧ X.cell? ⟨V, 9, none⟩ = some v9 ∧ X.cell? ⟨V, 10, none⟩ = some v10 ∧ X.cell? ⟨V, 11, none⟩ = some v11 ∧ X.cell? ⟨V, 12, none⟩ = some v12 ∧ X.cell? ⟨V, 13, none⟩ = some v13 :=
  ⟨⟨cells_at h 0, cells_at h 1, cells_at h 2, cells_at h 3, cells_at h 4, cells_at h 5, cells_at h 6⟩, cells_at h 7, cells_at h 8, cells_at h 9, cells_at h 10, cells_at h 11, cells_at h 12, cells_at h 13⟩
set_option maxHeartbeats 3200000 in
set_option maxRecDepth 10000 in
theorem two_any (w : World) : Calls Tryd.prog 13 #[] w fun e w' => (∃ v, e = .returned v ∧ cfgP v w') ∧ Below w.heap.size w w' := by
  obtain ⟨V, hV⟩ : ∃ V, w.heap.size = V := ⟨_, rfl⟩
  have HV := Lib.hid hV
  have HX := Lib.hid (alloc_new w (.cells #[.int .u32 0, .slice none 0 0, .slice none 0 0, .int .i64 0, .slice none 0 0, .int .u32 0, .int .i64 0, .int .u32 0, .int .u32 0, .slice none 0 0, .int .i64 0, .int .u8 0, .int .i64 0, .int .i64 0] 33))
  have HB := Lib.hid ((Below.refl w.heap.size w).alloc (Nat.le_refl _) (.cells #[.int .u32 0, .slice none 0 0, .slice none 0 0, .int .i64 0, .slice none 0 0, .int .u32 0, .int .i64 0, .int .u32 0, .int .u32 0, .slice none 0 0, .int .i64 0, .int .u8 0, .int .i64 0, .int .i64 0] 33))
  have hz : (w.alloc (.cells #[.int .u32 0, .slice none 0 0, .slice none 0 0, .int .i64 0, .slice none 0 0, .int .u32 0, .int .i64 0, .int .u32 0, .int .u32 0, .slice none 0 0, .int .i64 0, .int .u8 0, .int .i64 0, .int .i64 0] 33)).heap.size = V + 1 := by rw [World.size_alloc, hV]
  rw [hV] at HX HB
  go_enter Tryd.func13, Tryd.ntmps13
  go_upto_region 1 with fail
  clear hV
  generalize w.alloc (.cells #[.int .u32 0, .slice none 0 0, .slice none 0 0, .int .i64 0, .slice none 0 0, .int .u32 0, .int .i64 0, .int .u32 0, .int .u32 0, .slice none 0 0, .int .i64 0, .int .u8 0, .int .i64 0, .int .i64 0] 33) = X at *
  have hV3 : (((X.alloc (.cells pdC 46)).alloc (.cells ptC 48)).alloc (.cells #[.int .u32 0] 23)).heap[V]? = some (.cells #[.int .u32 0, .slice none 0 0, .slice none 0 0, .int .i64 0, .slice none 0 0, .int .u32 0, .int .i64 0, .int .u32 0, .int .u32 0, .slice none 0 0, .int .i64 0, .int .u8 0, .int .i64 0, .int .i64 0] 33 (0, 0)) :=
    (Below.heap_alloc _ _ _ (by simp; omega)).trans ((Below.heap_alloc _ _ _ (by simp; omega)).trans ((Below.heap_alloc _ _ _ (by omega)).trans HX.out))
  have hP : (((X.alloc (.cells pdC 46)).alloc (.cells ptC 48)).alloc (.cells #[.int .u32 0] 23)).heap[V + 1]? = some (.cells pdC 46 (0, 0)) := by
    have := alloc_new X (.cells pdC 46)
    rw [hz] at this
    exact (Below.heap_alloc _ _ _ (by simp; omega)).trans ((Below.heap_alloc _ _ _ (by simp; omega)).trans this)
  have hT : (((X.alloc (.cells pdC 46)).alloc (.cells ptC 48)).alloc (.cells #[.int .u32 0] 23)).heap[V + 1 + 1]? = some (.cells ptC 48 (0, 0)) := by
    have := alloc_new (X.alloc (.cells pdC 46)) (.cells ptC 48)
    rw [World.size_alloc, hz] at this
    exact (Below.heap_alloc _ _ _ (by simp; omega)).trans this
  have hb3 : Below V w (((X.alloc (.cells pdC 46)).alloc (.cells ptC 48)).alloc (.cells #[.int .u32 0] 23)) := ((HB.out.alloc (by omega) _).alloc (by simp; omega) _).alloc (by simp; omega) _
  have hV4 := setRow_heap _ V _ #[.int .u32 0, .slice (some ⟨V + 1, 0, none⟩) 2 2, .slice (some ⟨V + 1 + 1, 0, none⟩) 1 1, .int .i64 1, .slice (some ⟨V + 1 + 1 + 1, 0, none⟩) 1 1, .int .u32 1, .int .i64 0, .int .u32 0, .int .u32 0, .slice none 0 0, .int .i64 0, .int .u8 0, .int .i64 0, .int .i64 0] _ _ hV3
  have hP4 := (setRow_other (((X.alloc (.cells pdC 46)).alloc (.cells ptC 48)).alloc (.cells #[.int .u32 0] 23)) V (V + 1) #[.int .u32 0, .slice (some ⟨V + 1, 0, none⟩) 2 2, .slice (some ⟨V + 1 + 1, 0, none⟩) 1 1, .int .i64 1, .slice (some ⟨V + 1 + 1 + 1, 0, none⟩) 1 1, .int .u32 1, .int .i64 0, .int .u32 0, .int .u32 0, .slice none 0 0, .int .i64 0, .int .u8 0, .int .i64 0, .int .i64 0] (by omega)).trans hP
  have hT4 := (setRow_other (((X.alloc (.cells pdC 46)).alloc (.cells ptC 48)).alloc (.cells #[.int .u32 0] 23)) V (V + 1 + 1) #[.int .u32 0, .slice (some ⟨V + 1, 0, none⟩) 2 2, .slice (some ⟨V + 1 + 1, 0, none⟩) 1 1, .int .i64 1, .slice (some ⟨V + 1 + 1 + 1, 0, none⟩) 1 1, .int .u32 1, .int .i64 0, .int .u32 0, .int .u32 0, .slice none 0 0, .int .i64 0, .int .u8 0, .int .i64 0, .int .i64 0] (by omega)).trans hT
  have hB4 : Below V w ((((X.alloc (.cells pdC 46)).alloc (.cells ptC 48)).alloc (.cells #[.int .u32 0] 23)).setRow V #[.int .u32 0, .slice (some ⟨V + 1, 0, none⟩) 2 2, .slice (some ⟨V + 1 + 1, 0, none⟩) 1 1, .int .i64 1, .slice (some ⟨V + 1 + 1 + 1, 0, none⟩) 1 1, .int .u32 1, .int .i64 0, .int .u32 0, .int .u32 0, .slice none 0 0, .int .i64 0, .int .u8 0, .int .i64 0, .int .i64 0]) := hb3.trans ⟨rfl, rfl, rfl, by simp, fun k hk => setRow_other _ _ _ _ (by omega)⟩
  have HV4 : Hid (_ = _) := hV4
  have HP4 : Hid (_ = _) := hP4
  have HT4 : Hid (_ = _) := hT4
  have HB4 := Lib.hid hB4
  clear hV4 hP4 hT4 hB4 hP hT hb3
  have hall : (#[.int .u32 0, .slice (some ⟨V + 1, 0, none⟩) 2 2, .slice (some ⟨V + 1 + 1, 0, none⟩) 1 1, .int .i64 1, .slice (some ⟨V + 1 + 1 + 1, 0, none⟩) 1 1, .int .u32 1, .int .i64 0, .int .u32 0, .int .u32 0, .slice none 0 0, .int .i64 0, .int .u8 0, .int .i64 0, .int .i64 0] : Array Value).all (·.oneCell') = true := by
    refine Array.all_eq_true_iff_forall_mem.2 fun u hu => ?_
    simp only [Array.mem_toList_iff, List.mem_toArray, List.mem_cons, List.not_mem_nil, or_false] at hu
    rcases hu with rfl | rfl | rfl | rfl | rfl | rfl | rfl | rfl | rfl | rfl | rfl | rfl | rfl | rfl <;> rfl
  unfold pdC ptC at *
  go_wp2_with (refine wpList_store_row rfl 33 (.tmp 0) (.tmp 8) rfl V #[.int .u32 0, .slice (some ⟨V + 1, 0, none⟩) 2 2, .slice (some ⟨V + 1 + 1, 0, none⟩) 1 1, .int .i64 1, .slice (some ⟨V + 1 + 1 + 1, 0, none⟩) 1 1, .int .u32 1, .int .i64 0, .int .u32 0, .int .u32 0, .slice none 0 0, .int .i64 0, .int .u8 0, .int .i64 0, .int .i64 0] rfl rfl _ _ hV3 (by kernel_rfl) rfl hall ?_)
  clear hV3 hall
  generalize ((((X.alloc (.cells #[.slice none 0 0, .int .i64 4, .int .u8 0, .int .u8 0, .int .u8 0, .slice none 0 0, .int .i64 4, .int .u8 0, .int .u8 0, .int .u8 0] 46)).alloc (.cells #[.int .i64 2, .int .i64 1, .int .u32 1] 48)).alloc (.cells #[.int .u32 0] 23)).setRow V #[.int .u32 0, .slice (some ⟨V + 1, 0, none⟩) 2 2, .slice (some ⟨V + 1 + 1, 0, none⟩) 1 1, .int .i64 1, .slice (some ⟨V + 1 + 1 + 1, 0, none⟩) 1 1, .int .u32 1, .int .i64 0, .int .u32 0, .int .u32 0, .slice none 0 0, .int .i64 0, .int .u8 0, .int .i64 0, .int .i64 0]) = X9 at *
  obtain ⟨⟨g0, g1, g2, g3, g4, g5, g6⟩, g7, g8, g9, g10, g11, g12, g13⟩ := cells14 HV4.out
  refine bodyPost_ret (v := .agg #[.int .u32 0, .slice (some ⟨V + 1, 0, none⟩) 2 2, .slice (some ⟨V + 1 + 1, 0, none⟩) 1 1, .int .i64 1, .slice (some ⟨V + 1 + 1 + 1, 0, none⟩) 1 1, .int .u32 1, .int .i64 0, .int .u32 0, .int .u32 0, .slice none 0 0, .int .i64 0, .int .u8 0, .int .i64 0, .int .i64 0]) (by simp [results, Act.put, Tryd.f13, g0, g1, g2, g3, g4, g5, g6, g7, g8, g9, g10, g11, g12, g13, go_sem]) rfl ?_
  exact ⟨⟨_, rfl, V + 1, rfl, HP4.out, HT4.out⟩, by rw [HV.out]; exact HB4.out⟩
theorem run_put6 {X : World} {b : Nat} {u0 u1 u2 u3 u4 u5 : Value} (sm : Sm) (h : X.heap[b]? = some (.cells #[u0, u1, u2, u3, u4, u5] 37 (0, 0))) : (storeVar 37 ⟨b, 0, none⟩ (smV sm)).run Tryd.prog X = .ok () (put6 X b sm) :=
  run_storeVar_row (P := Tryd.prog) X b 37 37 _ (smC sm) h (by kernel_rfl) rfl (smC_one sm)
theorem run_store6 {X : World} {b : Nat} {u0 u1 u2 u3 u4 u5 : Value} (sm : Sm) (h : X.heap[b]? = some (.cells #[u0, u1, u2, u3, u4, u5] 37 (0, 0))) (o : Oper) (a : Act) (x y : Tmp) (ho : o.op = .store 37 (.tmp x) (.tmp y)) (hx : a.eval (.tmp x) = .pointer (some ⟨b, 0, none⟩)) (hy : a.eval (.tmp y) = smV sm) :
    (execOp a.eval o).run Tryd.prog X = .ok .skip (put6 X b sm) := by
  unfold execOp
  simp only [ho, hx, hy, Instr.storeAt, Instr.sureAddr, Sem.run_bind, Sem.run_pure, Result.andThen_ok, run_put6 sm h]
end Ver
end Go.Proofs.YtjoiogdckbaeaaaDoor
namespace Go.Proofs.YtjoiogdckbaeaaaDoor
open Go.ChangeShapes Go.WideShapes Go.ChangeAt Go.RowKit
namespace Ver
open Isa Flw Hgt Cst
set_option linter.unusedVariables false
set_option linter.unusedSimpArgs false
set_option maxRecDepth 100000 in
set_option maxHeartbeats 6400000 in
theorem known_of (hV : CheckVC) : KnownC := by
  intro w hT
  obtain ⟨S, hS0⟩ : ∃ S, w.heap.size = S := ⟨_, rfl⟩
  have HS0 := Lib.hid hS0
  have HD := Lib.hid (fun op a b c W => do_any op a b c W)
  have HTw := Lib.hid (fun W => two_any W)
  have HAns := Lib.hid (fun (l : List Iv) (n : Nat) (part : Int) W (hb : Below S w W) (b p : Nat) (hw : ∀ i ∈ l, i.wf) (hn : l.length = n) (hm : n ≤ 1000) (h : W.heap[b]? = some (.cells (encs l).toArray 55 (0, 0))) (h1 : W.heap[p]? = some (.cells pdC 46 (0, 0))) (h2 : W.heap[p + 1]? = some (.cells ptC 48 (0, 0))) (q1 : -9223372036854775808 ≤ part) (q2 : part ≤ 9223372036854775807) => hV l (some ⟨b, 0, none⟩) n n part (mT p) dsT cfT W (hT.below hb (by omega)) (Nat.le_refl _) (by omega) (hn ▸ prog_row hw h) ⟨q1, q2⟩ (cfg_in h1 h2))
  have HNil := Lib.hid (fun W (hb : Below S w W) (p : Nat) (h1 : W.heap[p]? = some (.cells pdC 46 (0, 0))) (h2 : W.heap[p + 1]? = some (.cells ptC 48 (0, 0))) => hV [] none 0 0 2 (mT p) dsT cfT W (hT.below hb (by omega)) (Nat.le_refl _) (by omega) ⟨rfl, (fun i hi => by cases hi), .inl rfl⟩ ⟨by omega, by omega⟩ (cfg_in h1 h2))
  clear hT hV
  go_enter Tryd.func6, Tryd.ntmps6
  go_wp2_with fail
  refine (HD.out 1 0 0 1 w).mono ?_
  rintro e wa ⟨rfl, hba⟩
  have HB0 : Hid (Below S w wa) := by show Below _ _ _; rw [← hS0]; exact hba
  clear hba
  go_wp2_with fail
  refine (HD.out 27 0 0 0 wa).mono ?_
  rintro e wb ⟨rfl, hbb⟩
  have HB1 : Hid (Below S w wb) := HB0.out.trans (hbb.mono (by have := HB0.out.size; omega))
  clear hbb HB0
  go_upto_region 2 with fail
  obtain ⟨P1, hP1⟩ : ∃ P, wb.heap.size = P := ⟨_, rfl⟩
  obtain ⟨P2, hP2⟩ : ∃ P, P1 + 1 = P := ⟨_, rfl⟩
  have hq1 : ((wb.alloc (.cells #[.int .u8 1, .int .u8 0, .int .u16 0, .int .u32 1] 55)).alloc (.cells #[.int .u8 27, .int .u8 0, .int .u16 0, .int .u32 0] 55)).heap[P1]? = some (.cells #[.int .u8 1, .int .u8 0, .int .u16 0, .int .u32 1] 55 (0, 0)) := by
    rw [← hP1]; exact (Below.heap_alloc _ _ _ (by simp)).trans (alloc_new wb _)
  have hq2 : ((wb.alloc (.cells #[.int .u8 1, .int .u8 0, .int .u16 0, .int .u32 1] 55)).alloc (.cells #[.int .u8 27, .int .u8 0, .int .u16 0, .int .u32 0] 55)).heap[P2]? = some (.cells #[.int .u8 27, .int .u8 0, .int .u16 0, .int .u32 0] 55 (0, 0)) := by
    have := alloc_new (wb.alloc (.cells #[.int .u8 1, .int .u8 0, .int .u16 0, .int .u32 1] 55)) (.cells #[.int .u8 27, .int .u8 0, .int .u16 0, .int .u32 0] 55)
    rw [World.size_alloc, hP1, hP2] at this
    exact this
  have HC2 : Hid (Below S w ((wb.alloc (.cells #[.int .u8 1, .int .u8 0, .int .u16 0, .int .u32 1] 55)).alloc (.cells #[.int .u8 27, .int .u8 0, .int .u16 0, .int .u32 0] 55))) := (HB1.out.alloc (by have := HB1.out.size; omega) _).alloc (by have := HB1.out.size; simp; omega) _
  rw [hP1, hP2]
  have HQ1 : Hid (_ = _) := hq1
  have HQ2 : Hid (_ = _) := hq2
  clear hq1 hq2 HB1 hP1 hP2
  generalize (wb.alloc (.cells #[.int .u8 1, .int .u8 0, .int .u16 0, .int .u32 1] 55)).alloc (.cells #[.int .u8 27, .int .u8 0, .int .u16 0, .int .u32 0] 55) = w2 at *
  replace HC2 : Hid (Below S w w2 ∧ S ≤ w2.heap.size) := ⟨HC2.out, by have := HC2.out.size; omega⟩
  have hE := ez_rel w2.heap.size (.cells (smC (⟨2, 5, 1, 0, 1, 1⟩ : Sm)) 37 (0, 0))
  refine (wpIn_wide (n := 0)).1 (Posts.wpIn_region_listed hE 16 0 (Posts.At [Posts.is (.agg #[.int .u8 21, .int .u8 0, .int .u16 0, .int .u32 0]), Posts.is (.agg #[.int .u8 23, .int .u8 0, .int .u16 1, .int .u32 0]), Posts.is (.agg #[.int .u8 5, .int .u8 0, .int .u16 0, .int .u32 0]), Posts.is (.agg #[.int .u8 22, .int .u8 0, .int .u16 0, .int .u32 0]), Posts.is (.agg #[.int .u8 27, .int .u8 0, .int .u16 0, .int .u32 0]), progP vA 5, cfgP, Posts.is (.tuple #[.agg #[.int .i64 2, .int .u32 5, .int .u32 1, .int .u32 0, .int .u32 1, .int .u32 1], .int .i64 0, .int .i64 0]), Posts.is (.tuple #[.agg #[.int .i64 2, .int .u32 5, .int .u32 1, .int .u32 0, .int .u32 1, .int .u32 1], .int .i64 0, .int .i64 0]), Posts.is (.agg #[.int .i64 2, .int .u32 5, .int .u32 1, .int .u32 0, .int .u32 1, .int .u32 1]), Posts.is (.int .i64 0), Posts.is (.int .i64 0), (fun _ _ => True), (fun _ _ => True), Posts.is (.int .i64 0), Posts.is (.int .i64 0)]) (JS 12 13 3 w2.heap.size (.cells (smC (⟨2, 5, 1, 0, 1, 1⟩ : Sm)) 37 (0, 0))) (by kernel_rfl) (by decide) (by kernel_rfl) (by kernel_rfl) (by kernel_rfl)
    (Posts.stable_at _ (by repeat' (first | exact trivial | (refine And.intro ?_ ?_) | exact Posts.is_stable _ | exact progP_stable _ _ | exact cfgP_stable | exact true_stable))) (js_start _ _ _ _ _ _ _ _) ?_ ?_)
  · refine ⟨?_, ?_, ?_, ?_, ?_, ?_, ?_, ?_, ?_, ?_, ?_, ?_, ?_, ?_, ?_, ?_, trivial⟩
    · intro lis a X hsz hl hdl hX hS hD hJ hU
      refine Posts.op_call (fun _ => trivial) rfl rfl rfl (by intro c h; cases h) rfl (by rw [hS.size]; simp) 12 #[.int .u8 21, .int .u8 0, .int .u16 0, .int .u32 0] (by simp [execOp, go_sem]) ?_
      refine callsIn_wide.2 ((HD.out 21 0 0 0 X).mono ?_)
      rintro e Y ⟨rfl, hb⟩
      exact ⟨_, rfl, rfl, EZ.of hb, (js_keep hJ (EZ.of hb) (by decide) (by decide) (by decide) _)⟩
    · intro lis a X hsz hl hdl hX hS hD hJ hU
      refine Posts.op_call (fun _ => trivial) rfl rfl rfl (by intro c h; cases h) rfl (by rw [hS.size]; simp) 12 #[.int .u8 23, .int .u8 0, .int .u16 1, .int .u32 0] (by simp [execOp, go_sem]) ?_
      refine callsIn_wide.2 ((HD.out 23 0 1 0 X).mono ?_)
      rintro e Y ⟨rfl, hb⟩
      exact ⟨_, rfl, rfl, EZ.of hb, (js_keep hJ (EZ.of hb) (by decide) (by decide) (by decide) _)⟩
    · intro lis a X hsz hl hdl hX hS hD hJ hU
      refine Posts.op_call (fun _ => trivial) rfl rfl rfl (by intro c h; cases h) rfl (by rw [hS.size]; simp) 12 #[.int .u8 5, .int .u8 0, .int .u16 0, .int .u32 0] (by simp [execOp, go_sem]) ?_
      refine callsIn_wide.2 ((HD.out 5 0 0 0 X).mono ?_)
      rintro e Y ⟨rfl, hb⟩
      exact ⟨_, rfl, rfl, EZ.of hb, (js_keep hJ (EZ.of hb) (by decide) (by decide) (by decide) _)⟩
    · intro lis a X hsz hl hdl hX hS hD hJ hU
      refine Posts.op_call (fun _ => trivial) rfl rfl rfl (by intro c h; cases h) rfl (by rw [hS.size]; simp) 12 #[.int .u8 22, .int .u8 0, .int .u16 0, .int .u32 0] (by simp [execOp, go_sem]) ?_
      refine callsIn_wide.2 ((HD.out 22 0 0 0 X).mono ?_)
      rintro e Y ⟨rfl, hb⟩
      exact ⟨_, rfl, rfl, EZ.of hb, (js_keep hJ (EZ.of hb) (by decide) (by decide) (by decide) _)⟩
    · intro lis a X hsz hl hdl hX hS hD hJ hU
      obtain ⟨x0, x1, x2, x3⟩ := cells4 (hX.keep HQ2.out (ne_type' (by decide)))
      have d1 := Posts.slot (show a.eval (.tmp 2) = .pointer (some ⟨P2, 0, none⟩) from hS.other 2 rfl)
      exact Posts.op_value (fun _ => trivial) rfl rfl (by intro c h; cases h) rfl (by rw [hS.size]; simp) (v := .agg #[.int .u8 27, .int .u8 0, .int .u16 0, .int .u32 0]) (by simp [execOp, d1, x0, x1, x2, x3, go_sem]) rfl (hE.refl _) (js_keep hJ (hE.refl _) (by decide) (by decide) (by decide) _)
    · intro lis a X hsz hl hdl hX hS hD hJ hU
      have d21 := Posts.slot (show a.eval (.tmp 21) = .agg #[.int .u8 21, .int .u8 0, .int .u16 0, .int .u32 0] from hD.1)
      have d22 := Posts.slot (show a.eval (.tmp 22) = .agg #[.int .u8 23, .int .u8 0, .int .u16 1, .int .u32 0] from hD.2.1)
      have d23 := Posts.slot (show a.eval (.tmp 23) = .agg #[.int .u8 5, .int .u8 0, .int .u16 0, .int .u32 0] from hD.2.2.1)
      have d24 := Posts.slot (show a.eval (.tmp 24) = .agg #[.int .u8 22, .int .u8 0, .int .u16 0, .int .u32 0] from hD.2.2.2.1)
      have d25 := Posts.slot (show a.eval (.tmp 25) = .agg #[.int .u8 27, .int .u8 0, .int .u16 0, .int .u32 0] from hD.2.2.2.2.1)
      exact Posts.op_value (fun _ => trivial) rfl rfl (by intro c h; cases h) rfl (by rw [hS.size]; simp) (v := .slice (some ⟨X.heap.size, 0, none⟩) 5 5) (Y := X.alloc (.cells #[.int .u8 21, .int .u8 0, .int .u16 0, .int .u32 0, .int .u8 23, .int .u8 0, .int .u16 1, .int .u32 0, .int .u8 5, .int .u8 0, .int .u16 0, .int .u32 0, .int .u8 22, .int .u8 0, .int .u16 0, .int .u32 0, .int .u8 27, .int .u8 0, .int .u16 0, .int .u32 0] 55)) (by simp [execOp, d21, d22, d23, d24, d25, go_sem]) ⟨X.heap.size, rfl, alloc_new X _⟩ (EZ.of ((Below.refl _ X).alloc (Nat.le_refl _) _)) (js_keep hJ (EZ.of ((Below.refl _ X).alloc (Nat.le_refl _) _)) (by decide) (by decide) (by decide) _)
    · intro lis a X hsz hl hdl hX hS hD hJ hU
      refine Posts.op_call (fun _ => trivial) rfl rfl rfl (by intro c h; cases h) rfl (by rw [hS.size]; simp) 13 #[] (by simp [execOp, go_sem]) ?_
      refine callsIn_wide.2 ((HTw.out X).mono ?_)
      rintro e Y ⟨⟨v, rfl, hc⟩, hb⟩
      exact ⟨_, rfl, hc, EZ.of hb, (js_keep hJ (EZ.of hb) (by decide) (by decide) (by decide) _)⟩
    · intro lis a X hsz hl hdl hX hS hD hJ hU
      obtain ⟨b, eb, hp⟩ : progP vA 5 (a.eval (.tmp 26)) X := hD.1
      obtain ⟨p, ep, h1, h2⟩ : cfgP (a.eval (.tmp 27)) X := hD.2.1
      have db := Posts.slot eb
      have dq := Posts.slot ep
      refine Posts.op_call (fun _ => trivial) rfl rfl rfl (by intro c h; cases h) rfl (by rw [hS.size]; simp) 8 #[.slice (some ⟨b, 0, none⟩) 5 5, .int .i64 0, (mT p).val] (by simp [execOp, db, dq, go_sem]) ?_
      have hk := HAns.out vA 5 0 X (hX.below HC2.out.1 HC2.out.2 HC2.out.2) b p wf_vA rfl (by omega) hp h1 h2 (by omega) (by omega)
      rw [ver_vA] at hk
      refine callsIn_wide.2 (hk.mono ?_)
      rintro e Y ⟨rfl, hb⟩
      exact ⟨_, rfl, rfl, EZ.of hb, (js_keep hJ (EZ.of hb) (by decide) (by decide) (by decide) _)⟩
    · intro lis a X hsz hl hdl hX hS hD hJ hU
      have d0 := Posts.slot (show a.eval (.tmp 28) = .tuple #[.agg #[.int .i64 2, .int .u32 5, .int .u32 1, .int .u32 0, .int .u32 1, .int .u32 1], .int .i64 0, .int .i64 0] from hD.1)
      exact Posts.op_value (fun _ => trivial) rfl rfl (by intro c h; cases h) rfl (by rw [hS.size]; simp) (v := .tuple #[.agg #[.int .i64 2, .int .u32 5, .int .u32 1, .int .u32 0, .int .u32 1, .int .u32 1], .int .i64 0, .int .i64 0]) (by simp [execOp, d0, go_sem]) rfl (hE.refl _) (js_keep hJ (hE.refl _) (by decide) (by decide) (by decide) _)
    · intro lis a X hsz hl hdl hX hS hD hJ hU
      have d0 := Posts.slot (show a.eval (.tmp 20) = .tuple #[.agg #[.int .i64 2, .int .u32 5, .int .u32 1, .int .u32 0, .int .u32 1, .int .u32 1], .int .i64 0, .int .i64 0] from hD.1)
      exact Posts.op_value (fun _ => trivial) rfl rfl (by intro c h; cases h) rfl (by rw [hS.size]; simp) (v := .agg #[.int .i64 2, .int .u32 5, .int .u32 1, .int .u32 0, .int .u32 1, .int .u32 1]) (by simp [execOp, d0, go_sem]) rfl (hE.refl _) (js_keep hJ (hE.refl _) (by decide) (by decide) (by decide) _)
    · intro lis a X hsz hl hdl hX hS hD hJ hU
      have d0 := Posts.slot (show a.eval (.tmp 20) = .tuple #[.agg #[.int .i64 2, .int .u32 5, .int .u32 1, .int .u32 0, .int .u32 1, .int .u32 1], .int .i64 0, .int .i64 0] from hD.1)
      exact Posts.op_value (fun _ => trivial) rfl rfl (by intro c h; cases h) rfl (by rw [hS.size]; simp) (v := .int .i64 0) (by simp [execOp, d0, go_sem]) rfl (hE.refl _) (js_keep hJ (hE.refl _) (by decide) (by decide) (by decide) _)
    · intro lis a X hsz hl hdl hX hS hD hJ hU
      have d0 := Posts.slot (show a.eval (.tmp 20) = .tuple #[.agg #[.int .i64 2, .int .u32 5, .int .u32 1, .int .u32 0, .int .u32 1, .int .u32 1], .int .i64 0, .int .i64 0] from hD.1)
      exact Posts.op_value (fun _ => trivial) rfl rfl (by intro c h; cases h) rfl (by rw [hS.size]; simp) (v := .int .i64 0) (by simp [execOp, d0, go_sem]) rfl (hE.refl _) (js_keep hJ (hE.refl _) (by decide) (by decide) (by decide) _)
    · intro lis a X hsz hl hdl hX hS hD hJ hU
      exact Posts.op_value (fun _ => trivial) rfl rfl (by intro c h; cases h) rfl (by rw [hS.size]; simp) (v := .pointer (some ⟨X.heap.size, 0, none⟩)) (Y := X.alloc (.cells #[.int .i64 0, .int .u32 0, .int .u32 0, .int .u32 0, .int .u32 0, .int .u32 0] 37)) (by simp [execOp, go_sem]) trivial (EZ.of ((Below.refl _ X).alloc (Nat.le_refl _) _)) (js_alloc hJ hl (by rw [hsz]; decide) (by rw [hS.size]; simp) hX.size (by decide))
    · intro lis a X hsz hl hdl hX hS hD hJ hU
      obtain ⟨b, u0, u1, u2, u3, u4, u5, e3, hb, hez, hjs⟩ := js_store (sm := (⟨2, 5, 1, 0, 1, 1⟩ : Sm)) hJ (hdl 12 (List.contains_iff_mem.1 (by kernel_rfl))) (by rw [hsz]; decide) (by decide)
      have e9 : a.eval (.tmp 29) = smV (⟨2, 5, 1, 0, 1, 1⟩ : Sm) := hD.2.1
      exact Posts.op_done (fun _ => trivial) rfl rfl (by intro c h; cases h) (Y := put6 X b (⟨2, 5, 1, 0, 1, 1⟩ : Sm)) (run_store6 (⟨2, 5, 1, 0, 1, 1⟩ : Sm) hb _ _ 3 29 rfl e3 e9) ⟨⟨⟨undef, rfl⟩, trivial, hez⟩, hjs⟩
    · intro lis a X hsz hl hdl hX hS hD hJ hU
      have d0 := Posts.slot (show a.eval (.tmp 30) = .int .i64 0 from hD.1)
      exact Posts.op_value (fun _ => trivial) rfl rfl (by intro c h; cases h) rfl (by rw [hS.size]; simp) (v := .int .i64 0) (by simp [execOp, d0, go_sem]) rfl (hE.refl _) (js_keep hJ (hE.refl _) (by decide) (by decide) (by decide) _)
    · intro lis a X hsz hl hdl hX hS hD hJ hU
      have d0 := Posts.slot (show a.eval (.tmp 31) = .int .i64 0 from hD.1)
      exact Posts.op_value (fun _ => trivial) rfl rfl (by intro c h; cases h) rfl (by rw [hS.size]; simp) (v := .int .i64 0) (by simp [execOp, d0, go_sem]) rfl (hE.refl _) (js_keep hJ (hE.refl _) (by decide) (by decide) (by decide) _)
  · intro a0 Y hY hS hJt hL
    have p21 := Posts.slot (show a0.eval (.tmp 21) = .agg #[.int .u8 21, .int .u8 0, .int .u16 0, .int .u32 0] from hL.1)
    have p22 := Posts.slot (show a0.eval (.tmp 22) = .agg #[.int .u8 23, .int .u8 0, .int .u16 1, .int .u32 0] from hL.2.1)
    have p23 := Posts.slot (show a0.eval (.tmp 23) = .agg #[.int .u8 5, .int .u8 0, .int .u16 0, .int .u32 0] from hL.2.2.1)
    have p24 := Posts.slot (show a0.eval (.tmp 24) = .agg #[.int .u8 22, .int .u8 0, .int .u16 0, .int .u32 0] from hL.2.2.2.1)
    have p25 := Posts.slot (show a0.eval (.tmp 25) = .agg #[.int .u8 27, .int .u8 0, .int .u16 0, .int .u32 0] from hL.2.2.2.2.1)
    obtain ⟨bs26, es26, _⟩ : progP vA 5 (a0.eval (.tmp 26)) Y := hL.2.2.2.2.2.1
    have p26 := Posts.slot es26
    clear es26
    obtain ⟨bs27, es27, _⟩ : cfgP (a0.eval (.tmp 27)) Y := hL.2.2.2.2.2.2.1
    have p27 := Posts.slot es27
    clear es27
    have p28 := Posts.slot (show a0.eval (.tmp 28) = .tuple #[.agg #[.int .i64 2, .int .u32 5, .int .u32 1, .int .u32 0, .int .u32 1, .int .u32 1], .int .i64 0, .int .i64 0] from hL.2.2.2.2.2.2.2.1)
    have p20 := Posts.slot (show a0.eval (.tmp 20) = .tuple #[.agg #[.int .i64 2, .int .u32 5, .int .u32 1, .int .u32 0, .int .u32 1, .int .u32 1], .int .i64 0, .int .i64 0] from hL.2.2.2.2.2.2.2.2.1)
    have p29 := Posts.slot (show a0.eval (.tmp 29) = .agg #[.int .i64 2, .int .u32 5, .int .u32 1, .int .u32 0, .int .u32 1, .int .u32 1] from hL.2.2.2.2.2.2.2.2.2.1)
    have p30 := Posts.slot (show a0.eval (.tmp 30) = .int .i64 0 from hL.2.2.2.2.2.2.2.2.2.2.1)
    have p31 := Posts.slot (show a0.eval (.tmp 31) = .int .i64 0 from hL.2.2.2.2.2.2.2.2.2.2.2.1)
    obtain ⟨b3, e3, hK3, hc3⟩ := hJt.2 (by kernel_rfl)
    have hf3 : Y.heap[b3]? = some (.cells (smC (⟨2, 5, 1, 0, 1, 1⟩ : Sm)) 37 (0, 0)) := by
      rcases hc3 with q | ⟨_, q⟩
      · exact q
      · exact absurd q (by rw [show (Posts.firsts _ _).getD 13 false = true from by kernel_rfl]; simp)
    have p3 := Posts.slot e3
    clear e3 hc3
    have p4 := Posts.slot (show a0.eval (.tmp 4) = .int .i64 0 from hL.2.2.2.2.2.2.2.2.2.2.2.2.2.2.1)
    have p5 := Posts.slot (show a0.eval (.tmp 5) = .int .i64 0 from hL.2.2.2.2.2.2.2.2.2.2.2.2.2.2.2.1)
    have hfr := hS.frame [21, 22, 23, 24, 25, 26, 27, 28, 20, 29, 30, 31, 3, 4, 5] (fun t ht => by simp [Posts.isDst] at ht; first | (rcases ht with h | h | h | h | h | h | h | h | h | h | h | h | h | h | h <;> subst h <;> simp) | (subst ht; simp))
    simp only [List.foldl_cons, List.foldl_nil] at hfr
    have hdf := hS.defers
    simp only [Array.getD_eq_getD_getElem?] at hfr
    clear hL hS hJt
    generalize a0.tmps[21]?.getD undef = v21 at *
    generalize a0.tmps[22]?.getD undef = v22 at *
    generalize a0.tmps[23]?.getD undef = v23 at *
    generalize a0.tmps[24]?.getD undef = v24 at *
    generalize a0.tmps[25]?.getD undef = v25 at *
    generalize a0.tmps[26]?.getD undef = v26 at *
    generalize a0.tmps[27]?.getD undef = v27 at *
    generalize a0.tmps[28]?.getD undef = v28 at *
    generalize a0.tmps[20]?.getD undef = v20 at *
    generalize a0.tmps[29]?.getD undef = v29 at *
    generalize a0.tmps[30]?.getD undef = v30 at *
    generalize a0.tmps[31]?.getD undef = v31 at *
    generalize a0.tmps[3]?.getD undef = v3 at *
    generalize a0.tmps[4]?.getD undef = v4 at *
    generalize a0.tmps[5]?.getD undef = v5 at *
    obtain rfl := p21
    obtain rfl := p22
    obtain rfl := p23
    obtain rfl := p24
    obtain rfl := p25
    obtain rfl := p26
    obtain rfl := p27
    obtain rfl := p28
    obtain rfl := p20
    obtain rfl := p29
    obtain rfl := p30
    obtain rfl := p31
    obtain rfl := p3
    obtain rfl := p4
    obtain rfl := p5
    obtain ⟨tm, df⟩ := a0
    simp only [List.setIfInBounds_toArray, List.set_cons_succ, List.set_cons_zero] at hfr hdf
    subst hfr
    subst hdf
    refine ⟨by kernel_rfl, ?_⟩
    simp only [Exit.inBlock, Exit.then]
    first
      | (rename_i hK; refine hK _ _ ?_)
      | (rename_i hK _; refine hK _ _ ?_)
      | (rename_i hK _ _; refine hK _ _ ?_)
    have HC3 : Hid (Below S w Y ∧ S ≤ Y.heap.size) := ⟨hY.below HC2.out.1 HC2.out.2 HC2.out.2, Nat.le_trans HC2.out.2 hY.size⟩
    replace HQ1 : Hid (Y.heap[P1]? = _) := hY.keep HQ1.out (ne_type' (by decide))
    replace HQ2 : Hid (Y.heap[P2]? = _) := hY.keep HQ2.out (ne_type' (by decide))
    have HF3 : Hid (Y.heap[b3]? = some (.cells #[.int .i64 2, .int .u32 5, .int .u32 1, .int .u32 0, .int .u32 1, .int .u32 1] 37 (0, 0))) := hf3
    clear hf3 hK3
    clear hY hE hK HC2
    generalize Y = w3 at *
    obtain ⟨z0, z1, z2, z3, z4, z5⟩ := cells6 HF3.out
    have heq : ∀ W : World, (Op.equalIn 10000 37 (.agg #[.int .i64 2, .int .u32 5, .int .u32 1, .int .u32 0, .int .u32 1, .int .u32 1]) (.agg #[.int .i64 2, .int .u32 5, .int .u32 1, .int .u32 0, .int .u32 1, .int .u32 1])).run Tryd.prog W = .ok true W := fun W => by
      have := eqSm (⟨2, 5, 1, 0, 1, 1⟩ : Sm) (⟨2, 5, 1, 0, 1, 1⟩ : Sm) W
      rwa [smE_self] at this
    go_upto_region 5 with fail
    clear z0 z1 z2 z3 z4 z5 HF3 heq
    have hE := ez_rel w3.heap.size oZ
    refine (wpIn_wide (n := 0)).1 (Posts.wpIn_region_listed hE 12 0 (Posts.At [Posts.is (.agg #[.int .u8 1, .int .u8 0, .int .u16 0, .int .u32 1]), Posts.is (.agg #[.int .u8 25, .int .u8 0, .int .u16 0, .int .u32 0]), Posts.is (.agg #[.int .u8 27, .int .u8 0, .int .u16 0, .int .u32 0]), progP vB 3, cfgP, Posts.is (.tuple #[.agg #[.int .i64 0, .int .u32 0, .int .u32 0, .int .u32 0, .int .u32 0, .int .u32 0], .int .i64 1, .int .i64 140]), Posts.is (.tuple #[.agg #[.int .i64 0, .int .u32 0, .int .u32 0, .int .u32 0, .int .u32 0, .int .u32 0], .int .i64 1, .int .i64 140]), Posts.is (.agg #[.int .i64 0, .int .u32 0, .int .u32 0, .int .u32 0, .int .u32 0, .int .u32 0]), Posts.is (.int .i64 1), Posts.is (.int .i64 140), Posts.is (.int .i64 1), Posts.is (.int .i64 140)]) (JS 100 101 1000 w3.heap.size oZ) (by kernel_rfl) (by decide) (by kernel_rfl) (by kernel_rfl) (by kernel_rfl)
      (Posts.stable_at _ (by repeat' (first | exact trivial | (refine And.intro ?_ ?_) | exact Posts.is_stable _ | exact progP_stable _ _ | exact cfgP_stable | exact true_stable))) (js_start _ _ _ _ _ _ _ _) ?_ ?_)
    · refine ⟨?_, ?_, ?_, ?_, ?_, ?_, ?_, ?_, ?_, ?_, ?_, ?_, trivial⟩
      · intro lis a X hsz hl hdl hX hS hD hJ hU
        obtain ⟨x0, x1, x2, x3⟩ := cells4 (hX.keep HQ1.out (ne_type' (by decide)))
        have d1 := Posts.slot (show a.eval (.tmp 1) = .pointer (some ⟨P1, 0, none⟩) from hS.other 1 rfl)
        exact Posts.op_value (fun _ => trivial) rfl rfl (by intro c h; cases h) rfl (by rw [hS.size]; simp) (v := .agg #[.int .u8 1, .int .u8 0, .int .u16 0, .int .u32 1]) (by simp [execOp, d1, x0, x1, x2, x3, go_sem]) rfl (hE.refl _) (js_keep hJ (hE.refl _) (by decide) (by decide) (by decide) _)
      · intro lis a X hsz hl hdl hX hS hD hJ hU
        refine Posts.op_call (fun _ => trivial) rfl rfl rfl (by intro c h; cases h) rfl (by rw [hS.size]; simp) 12 #[.int .u8 25, .int .u8 0, .int .u16 0, .int .u32 0] (by simp [execOp, go_sem]) ?_
        refine callsIn_wide.2 ((HD.out 25 0 0 0 X).mono ?_)
        rintro e Y ⟨rfl, hb⟩
        exact ⟨_, rfl, rfl, EZ.of hb, (js_keep hJ (EZ.of hb) (by decide) (by decide) (by decide) _)⟩
      · intro lis a X hsz hl hdl hX hS hD hJ hU
        obtain ⟨x0, x1, x2, x3⟩ := cells4 (hX.keep HQ2.out (ne_type' (by decide)))
        have d1 := Posts.slot (show a.eval (.tmp 2) = .pointer (some ⟨P2, 0, none⟩) from hS.other 2 rfl)
        exact Posts.op_value (fun _ => trivial) rfl rfl (by intro c h; cases h) rfl (by rw [hS.size]; simp) (v := .agg #[.int .u8 27, .int .u8 0, .int .u16 0, .int .u32 0]) (by simp [execOp, d1, x0, x1, x2, x3, go_sem]) rfl (hE.refl _) (js_keep hJ (hE.refl _) (by decide) (by decide) (by decide) _)
      · intro lis a X hsz hl hdl hX hS hD hJ hU
        have d44 := Posts.slot (show a.eval (.tmp 44) = .agg #[.int .u8 1, .int .u8 0, .int .u16 0, .int .u32 1] from hD.1)
        have d45 := Posts.slot (show a.eval (.tmp 45) = .agg #[.int .u8 25, .int .u8 0, .int .u16 0, .int .u32 0] from hD.2.1)
        have d46 := Posts.slot (show a.eval (.tmp 46) = .agg #[.int .u8 27, .int .u8 0, .int .u16 0, .int .u32 0] from hD.2.2.1)
        exact Posts.op_value (fun _ => trivial) rfl rfl (by intro c h; cases h) rfl (by rw [hS.size]; simp) (v := .slice (some ⟨X.heap.size, 0, none⟩) 3 3) (Y := X.alloc (.cells #[.int .u8 1, .int .u8 0, .int .u16 0, .int .u32 1, .int .u8 25, .int .u8 0, .int .u16 0, .int .u32 0, .int .u8 27, .int .u8 0, .int .u16 0, .int .u32 0] 55)) (by simp [execOp, d44, d45, d46, go_sem]) ⟨X.heap.size, rfl, alloc_new X _⟩ (EZ.of ((Below.refl _ X).alloc (Nat.le_refl _) _)) (js_keep hJ (EZ.of ((Below.refl _ X).alloc (Nat.le_refl _) _)) (by decide) (by decide) (by decide) _)
      · intro lis a X hsz hl hdl hX hS hD hJ hU
        refine Posts.op_call (fun _ => trivial) rfl rfl rfl (by intro c h; cases h) rfl (by rw [hS.size]; simp) 13 #[] (by simp [execOp, go_sem]) ?_
        refine callsIn_wide.2 ((HTw.out X).mono ?_)
        rintro e Y ⟨⟨v, rfl, hc⟩, hb⟩
        exact ⟨_, rfl, hc, EZ.of hb, (js_keep hJ (EZ.of hb) (by decide) (by decide) (by decide) _)⟩
      · intro lis a X hsz hl hdl hX hS hD hJ hU
        obtain ⟨b, eb, hp⟩ : progP vB 3 (a.eval (.tmp 47)) X := hD.1
        obtain ⟨p, ep, h1, h2⟩ : cfgP (a.eval (.tmp 48)) X := hD.2.1
        have db := Posts.slot eb
        have dq := Posts.slot ep
        refine Posts.op_call (fun _ => trivial) rfl rfl rfl (by intro c h; cases h) rfl (by rw [hS.size]; simp) 8 #[.slice (some ⟨b, 0, none⟩) 3 3, .int .i64 0, (mT p).val] (by simp [execOp, db, dq, go_sem]) ?_
        have hk := HAns.out vB 3 0 X (hX.below HC3.out.1 HC3.out.2 HC3.out.2) b p wf_vB rfl (by omega) hp h1 h2 (by omega) (by omega)
        rw [ver_vB] at hk
        refine callsIn_wide.2 (hk.mono ?_)
        rintro e Y ⟨rfl, hb⟩
        exact ⟨_, rfl, rfl, EZ.of hb, (js_keep hJ (EZ.of hb) (by decide) (by decide) (by decide) _)⟩
      · intro lis a X hsz hl hdl hX hS hD hJ hU
        have d0 := Posts.slot (show a.eval (.tmp 49) = .tuple #[.agg #[.int .i64 0, .int .u32 0, .int .u32 0, .int .u32 0, .int .u32 0, .int .u32 0], .int .i64 1, .int .i64 140] from hD.1)
        exact Posts.op_value (fun _ => trivial) rfl rfl (by intro c h; cases h) rfl (by rw [hS.size]; simp) (v := .tuple #[.agg #[.int .i64 0, .int .u32 0, .int .u32 0, .int .u32 0, .int .u32 0, .int .u32 0], .int .i64 1, .int .i64 140]) (by simp [execOp, d0, go_sem]) rfl (hE.refl _) (js_keep hJ (hE.refl _) (by decide) (by decide) (by decide) _)
      · intro lis a X hsz hl hdl hX hS hD hJ hU
        have d0 := Posts.slot (show a.eval (.tmp 43) = .tuple #[.agg #[.int .i64 0, .int .u32 0, .int .u32 0, .int .u32 0, .int .u32 0, .int .u32 0], .int .i64 1, .int .i64 140] from hD.1)
        exact Posts.op_value (fun _ => trivial) rfl rfl (by intro c h; cases h) rfl (by rw [hS.size]; simp) (v := .agg #[.int .i64 0, .int .u32 0, .int .u32 0, .int .u32 0, .int .u32 0, .int .u32 0]) (by simp [execOp, d0, go_sem]) rfl (hE.refl _) (js_keep hJ (hE.refl _) (by decide) (by decide) (by decide) _)
      · intro lis a X hsz hl hdl hX hS hD hJ hU
        have d0 := Posts.slot (show a.eval (.tmp 43) = .tuple #[.agg #[.int .i64 0, .int .u32 0, .int .u32 0, .int .u32 0, .int .u32 0, .int .u32 0], .int .i64 1, .int .i64 140] from hD.1)
        exact Posts.op_value (fun _ => trivial) rfl rfl (by intro c h; cases h) rfl (by rw [hS.size]; simp) (v := .int .i64 1) (by simp [execOp, d0, go_sem]) rfl (hE.refl _) (js_keep hJ (hE.refl _) (by decide) (by decide) (by decide) _)
      · intro lis a X hsz hl hdl hX hS hD hJ hU
        have d0 := Posts.slot (show a.eval (.tmp 43) = .tuple #[.agg #[.int .i64 0, .int .u32 0, .int .u32 0, .int .u32 0, .int .u32 0, .int .u32 0], .int .i64 1, .int .i64 140] from hD.1)
        exact Posts.op_value (fun _ => trivial) rfl rfl (by intro c h; cases h) rfl (by rw [hS.size]; simp) (v := .int .i64 140) (by simp [execOp, d0, go_sem]) rfl (hE.refl _) (js_keep hJ (hE.refl _) (by decide) (by decide) (by decide) _)
      · intro lis a X hsz hl hdl hX hS hD hJ hU
        have d0 := Posts.slot (show a.eval (.tmp 51) = .int .i64 1 from hD.1)
        exact Posts.op_value (fun _ => trivial) rfl rfl (by intro c h; cases h) rfl (by rw [hS.size]; simp) (v := .int .i64 1) (by simp [execOp, d0, go_sem]) rfl (hE.refl _) (js_keep hJ (hE.refl _) (by decide) (by decide) (by decide) _)
      · intro lis a X hsz hl hdl hX hS hD hJ hU
        have d0 := Posts.slot (show a.eval (.tmp 52) = .int .i64 140 from hD.1)
        exact Posts.op_value (fun _ => trivial) rfl rfl (by intro c h; cases h) rfl (by rw [hS.size]; simp) (v := .int .i64 140) (by simp [execOp, d0, go_sem]) rfl (hE.refl _) (js_keep hJ (hE.refl _) (by decide) (by decide) (by decide) _)
    · intro a0 Y hY hS hJt hL
      have p44 := Posts.slot (show a0.eval (.tmp 44) = .agg #[.int .u8 1, .int .u8 0, .int .u16 0, .int .u32 1] from hL.1)
      have p45 := Posts.slot (show a0.eval (.tmp 45) = .agg #[.int .u8 25, .int .u8 0, .int .u16 0, .int .u32 0] from hL.2.1)
      have p46 := Posts.slot (show a0.eval (.tmp 46) = .agg #[.int .u8 27, .int .u8 0, .int .u16 0, .int .u32 0] from hL.2.2.1)
      obtain ⟨bs47, es47, _⟩ : progP vB 3 (a0.eval (.tmp 47)) Y := hL.2.2.2.1
      have p47 := Posts.slot es47
      clear es47
      obtain ⟨bs48, es48, _⟩ : cfgP (a0.eval (.tmp 48)) Y := hL.2.2.2.2.1
      have p48 := Posts.slot es48
      clear es48
      have p49 := Posts.slot (show a0.eval (.tmp 49) = .tuple #[.agg #[.int .i64 0, .int .u32 0, .int .u32 0, .int .u32 0, .int .u32 0, .int .u32 0], .int .i64 1, .int .i64 140] from hL.2.2.2.2.2.1)
      have p43 := Posts.slot (show a0.eval (.tmp 43) = .tuple #[.agg #[.int .i64 0, .int .u32 0, .int .u32 0, .int .u32 0, .int .u32 0, .int .u32 0], .int .i64 1, .int .i64 140] from hL.2.2.2.2.2.2.1)
      have p50 := Posts.slot (show a0.eval (.tmp 50) = .agg #[.int .i64 0, .int .u32 0, .int .u32 0, .int .u32 0, .int .u32 0, .int .u32 0] from hL.2.2.2.2.2.2.2.1)
      have p51 := Posts.slot (show a0.eval (.tmp 51) = .int .i64 1 from hL.2.2.2.2.2.2.2.2.1)
      have p52 := Posts.slot (show a0.eval (.tmp 52) = .int .i64 140 from hL.2.2.2.2.2.2.2.2.2.1)
      have p4 := Posts.slot (show a0.eval (.tmp 4) = .int .i64 1 from hL.2.2.2.2.2.2.2.2.2.2.1)
      have p5 := Posts.slot (show a0.eval (.tmp 5) = .int .i64 140 from hL.2.2.2.2.2.2.2.2.2.2.2.1)
      have hfr := hS.frame [44, 45, 46, 47, 48, 49, 43, 50, 51, 52, 4, 5] (fun t ht => by simp [Posts.isDst] at ht; first | (rcases ht with h | h | h | h | h | h | h | h | h | h | h | h <;> subst h <;> simp) | (subst ht; simp))
      simp only [List.foldl_cons, List.foldl_nil] at hfr
      have hdf := hS.defers
      simp only [Array.getD_eq_getD_getElem?] at hfr
      clear hL hS hJt
      generalize a0.tmps[44]?.getD undef = v44 at *
      generalize a0.tmps[45]?.getD undef = v45 at *
      generalize a0.tmps[46]?.getD undef = v46 at *
      generalize a0.tmps[47]?.getD undef = v47 at *
      generalize a0.tmps[48]?.getD undef = v48 at *
      generalize a0.tmps[49]?.getD undef = v49 at *
      generalize a0.tmps[43]?.getD undef = v43 at *
      generalize a0.tmps[50]?.getD undef = v50 at *
      generalize a0.tmps[51]?.getD undef = v51 at *
      generalize a0.tmps[52]?.getD undef = v52 at *
      generalize a0.tmps[4]?.getD undef = v4 at *
      generalize a0.tmps[5]?.getD undef = v5 at *
      obtain rfl := p44
      obtain rfl := p45
      obtain rfl := p46
      obtain rfl := p47
      obtain rfl := p48
      obtain rfl := p49
      obtain rfl := p43
      obtain rfl := p50
      obtain rfl := p51
      obtain rfl := p52
      obtain rfl := p4
      obtain rfl := p5
      obtain ⟨tm, df⟩ := a0
      simp only [List.setIfInBounds_toArray, List.set_cons_succ, List.set_cons_zero] at hfr hdf
      subst hfr
      subst hdf
      refine ⟨by kernel_rfl, ?_⟩
      simp only [Exit.inBlock, Exit.then]
      first
        | (rename_i hK; refine hK _ _ ?_)
        | (rename_i hK _; refine hK _ _ ?_)
        | (rename_i hK _ _; refine hK _ _ ?_)
      have HC4 : Hid (Below S w Y ∧ S ≤ Y.heap.size) := ⟨hY.below HC3.out.1 HC3.out.2 HC3.out.2, Nat.le_trans HC3.out.2 hY.size⟩
      replace HQ1 : Hid (Y.heap[P1]? = _) := hY.keep HQ1.out (ne_type' (by decide))
      replace HQ2 : Hid (Y.heap[P2]? = _) := hY.keep HQ2.out (ne_type' (by decide))
      clear hY hE hK HC3
      generalize Y = w4 at *
      go_upto_region 6 with fail
      have hE := ez_rel w4.heap.size (.cells (smC (⟨0, 0, 0, 0, 0, 0⟩ : Sm)) 37 (0, 0))
      refine (wpIn_wide (n := 0)).1 (Posts.wpIn_region_listed hE 13 0 (Posts.At [Posts.is (.agg #[.int .u8 21, .int .u8 1, .int .u16 0, .int .u32 0]), Posts.is (.agg #[.int .u8 27, .int .u8 0, .int .u16 0, .int .u32 0]), progP vC 2, cfgP, Posts.is (.tuple #[.agg #[.int .i64 0, .int .u32 0, .int .u32 0, .int .u32 0, .int .u32 0, .int .u32 0], .int .i64 0, .int .i64 141]), Posts.is (.tuple #[.agg #[.int .i64 0, .int .u32 0, .int .u32 0, .int .u32 0, .int .u32 0, .int .u32 0], .int .i64 0, .int .i64 141]), Posts.is (.agg #[.int .i64 0, .int .u32 0, .int .u32 0, .int .u32 0, .int .u32 0, .int .u32 0]), Posts.is (.int .i64 0), Posts.is (.int .i64 141), (fun _ _ => True), (fun _ _ => True), Posts.is (.int .i64 0), Posts.is (.int .i64 141)]) (JS 9 10 6 w4.heap.size (.cells (smC (⟨0, 0, 0, 0, 0, 0⟩ : Sm)) 37 (0, 0))) (by kernel_rfl) (by decide) (by kernel_rfl) (by kernel_rfl) (by kernel_rfl)
        (Posts.stable_at _ (by repeat' (first | exact trivial | (refine And.intro ?_ ?_) | exact Posts.is_stable _ | exact progP_stable _ _ | exact cfgP_stable | exact true_stable))) (js_start _ _ _ _ _ _ _ _) ?_ ?_)
      · refine ⟨?_, ?_, ?_, ?_, ?_, ?_, ?_, ?_, ?_, ?_, ?_, ?_, ?_, trivial⟩
        · intro lis a X hsz hl hdl hX hS hD hJ hU
          refine Posts.op_call (fun _ => trivial) rfl rfl rfl (by intro c h; cases h) rfl (by rw [hS.size]; simp) 12 #[.int .u8 21, .int .u8 1, .int .u16 0, .int .u32 0] (by simp [execOp, go_sem]) ?_
          refine callsIn_wide.2 ((HD.out 21 1 0 0 X).mono ?_)
          rintro e Y ⟨rfl, hb⟩
          exact ⟨_, rfl, rfl, EZ.of hb, (js_keep hJ (EZ.of hb) (by decide) (by decide) (by decide) _)⟩
        · intro lis a X hsz hl hdl hX hS hD hJ hU
          obtain ⟨x0, x1, x2, x3⟩ := cells4 (hX.keep HQ2.out (ne_type' (by decide)))
          have d1 := Posts.slot (show a.eval (.tmp 2) = .pointer (some ⟨P2, 0, none⟩) from hS.other 2 rfl)
          exact Posts.op_value (fun _ => trivial) rfl rfl (by intro c h; cases h) rfl (by rw [hS.size]; simp) (v := .agg #[.int .u8 27, .int .u8 0, .int .u16 0, .int .u32 0]) (by simp [execOp, d1, x0, x1, x2, x3, go_sem]) rfl (hE.refl _) (js_keep hJ (hE.refl _) (by decide) (by decide) (by decide) _)
        · intro lis a X hsz hl hdl hX hS hD hJ hU
          have d54 := Posts.slot (show a.eval (.tmp 54) = .agg #[.int .u8 21, .int .u8 1, .int .u16 0, .int .u32 0] from hD.1)
          have d55 := Posts.slot (show a.eval (.tmp 55) = .agg #[.int .u8 27, .int .u8 0, .int .u16 0, .int .u32 0] from hD.2.1)
          exact Posts.op_value (fun _ => trivial) rfl rfl (by intro c h; cases h) rfl (by rw [hS.size]; simp) (v := .slice (some ⟨X.heap.size, 0, none⟩) 2 2) (Y := X.alloc (.cells #[.int .u8 21, .int .u8 1, .int .u16 0, .int .u32 0, .int .u8 27, .int .u8 0, .int .u16 0, .int .u32 0] 55)) (by simp [execOp, d54, d55, go_sem]) ⟨X.heap.size, rfl, alloc_new X _⟩ (EZ.of ((Below.refl _ X).alloc (Nat.le_refl _) _)) (js_keep hJ (EZ.of ((Below.refl _ X).alloc (Nat.le_refl _) _)) (by decide) (by decide) (by decide) _)
        · intro lis a X hsz hl hdl hX hS hD hJ hU
          refine Posts.op_call (fun _ => trivial) rfl rfl rfl (by intro c h; cases h) rfl (by rw [hS.size]; simp) 13 #[] (by simp [execOp, go_sem]) ?_
          refine callsIn_wide.2 ((HTw.out X).mono ?_)
          rintro e Y ⟨⟨v, rfl, hc⟩, hb⟩
          exact ⟨_, rfl, hc, EZ.of hb, (js_keep hJ (EZ.of hb) (by decide) (by decide) (by decide) _)⟩
        · intro lis a X hsz hl hdl hX hS hD hJ hU
          obtain ⟨b, eb, hp⟩ : progP vC 2 (a.eval (.tmp 56)) X := hD.1
          obtain ⟨p, ep, h1, h2⟩ : cfgP (a.eval (.tmp 57)) X := hD.2.1
          have db := Posts.slot eb
          have dq := Posts.slot ep
          refine Posts.op_call (fun _ => trivial) rfl rfl rfl (by intro c h; cases h) rfl (by rw [hS.size]; simp) 8 #[.slice (some ⟨b, 0, none⟩) 2 2, .int .i64 0, (mT p).val] (by simp [execOp, db, dq, go_sem]) ?_
          have hk := HAns.out vC 2 0 X (hX.below HC4.out.1 HC4.out.2 HC4.out.2) b p wf_vC rfl (by omega) hp h1 h2 (by omega) (by omega)
          rw [ver_vC] at hk
          refine callsIn_wide.2 (hk.mono ?_)
          rintro e Y ⟨rfl, hb⟩
          exact ⟨_, rfl, rfl, EZ.of hb, (js_keep hJ (EZ.of hb) (by decide) (by decide) (by decide) _)⟩
        · intro lis a X hsz hl hdl hX hS hD hJ hU
          have d0 := Posts.slot (show a.eval (.tmp 58) = .tuple #[.agg #[.int .i64 0, .int .u32 0, .int .u32 0, .int .u32 0, .int .u32 0, .int .u32 0], .int .i64 0, .int .i64 141] from hD.1)
          exact Posts.op_value (fun _ => trivial) rfl rfl (by intro c h; cases h) rfl (by rw [hS.size]; simp) (v := .tuple #[.agg #[.int .i64 0, .int .u32 0, .int .u32 0, .int .u32 0, .int .u32 0, .int .u32 0], .int .i64 0, .int .i64 141]) (by simp [execOp, d0, go_sem]) rfl (hE.refl _) (js_keep hJ (hE.refl _) (by decide) (by decide) (by decide) _)
        · intro lis a X hsz hl hdl hX hS hD hJ hU
          have d0 := Posts.slot (show a.eval (.tmp 53) = .tuple #[.agg #[.int .i64 0, .int .u32 0, .int .u32 0, .int .u32 0, .int .u32 0, .int .u32 0], .int .i64 0, .int .i64 141] from hD.1)
          exact Posts.op_value (fun _ => trivial) rfl rfl (by intro c h; cases h) rfl (by rw [hS.size]; simp) (v := .agg #[.int .i64 0, .int .u32 0, .int .u32 0, .int .u32 0, .int .u32 0, .int .u32 0]) (by simp [execOp, d0, go_sem]) rfl (hE.refl _) (js_keep hJ (hE.refl _) (by decide) (by decide) (by decide) _)
        · intro lis a X hsz hl hdl hX hS hD hJ hU
          have d0 := Posts.slot (show a.eval (.tmp 53) = .tuple #[.agg #[.int .i64 0, .int .u32 0, .int .u32 0, .int .u32 0, .int .u32 0, .int .u32 0], .int .i64 0, .int .i64 141] from hD.1)
          exact Posts.op_value (fun _ => trivial) rfl rfl (by intro c h; cases h) rfl (by rw [hS.size]; simp) (v := .int .i64 0) (by simp [execOp, d0, go_sem]) rfl (hE.refl _) (js_keep hJ (hE.refl _) (by decide) (by decide) (by decide) _)
        · intro lis a X hsz hl hdl hX hS hD hJ hU
          have d0 := Posts.slot (show a.eval (.tmp 53) = .tuple #[.agg #[.int .i64 0, .int .u32 0, .int .u32 0, .int .u32 0, .int .u32 0, .int .u32 0], .int .i64 0, .int .i64 141] from hD.1)
          exact Posts.op_value (fun _ => trivial) rfl rfl (by intro c h; cases h) rfl (by rw [hS.size]; simp) (v := .int .i64 141) (by simp [execOp, d0, go_sem]) rfl (hE.refl _) (js_keep hJ (hE.refl _) (by decide) (by decide) (by decide) _)
        · intro lis a X hsz hl hdl hX hS hD hJ hU
          exact Posts.op_value (fun _ => trivial) rfl rfl (by intro c h; cases h) rfl (by rw [hS.size]; simp) (v := .pointer (some ⟨X.heap.size, 0, none⟩)) (Y := X.alloc (.cells #[.int .i64 0, .int .u32 0, .int .u32 0, .int .u32 0, .int .u32 0, .int .u32 0] 37)) (by simp [execOp, go_sem]) trivial (EZ.of ((Below.refl _ X).alloc (Nat.le_refl _) _)) (js_alloc hJ hl (by rw [hsz]; decide) (by rw [hS.size]; simp) hX.size (by decide))
        · intro lis a X hsz hl hdl hX hS hD hJ hU
          obtain ⟨b, u0, u1, u2, u3, u4, u5, e3, hb, hez, hjs⟩ := js_store (sm := (⟨0, 0, 0, 0, 0, 0⟩ : Sm)) hJ (hdl 9 (List.contains_iff_mem.1 (by kernel_rfl))) (by rw [hsz]; decide) (by decide)
          have e9 : a.eval (.tmp 59) = smV (⟨0, 0, 0, 0, 0, 0⟩ : Sm) := hD.2.1
          exact Posts.op_done (fun _ => trivial) rfl rfl (by intro c h; cases h) (Y := put6 X b (⟨0, 0, 0, 0, 0, 0⟩ : Sm)) (run_store6 (⟨0, 0, 0, 0, 0, 0⟩ : Sm) hb _ _ 6 59 rfl e3 e9) ⟨⟨⟨undef, rfl⟩, trivial, hez⟩, hjs⟩
        · intro lis a X hsz hl hdl hX hS hD hJ hU
          have d0 := Posts.slot (show a.eval (.tmp 60) = .int .i64 0 from hD.1)
          exact Posts.op_value (fun _ => trivial) rfl rfl (by intro c h; cases h) rfl (by rw [hS.size]; simp) (v := .int .i64 0) (by simp [execOp, d0, go_sem]) rfl (hE.refl _) (js_keep hJ (hE.refl _) (by decide) (by decide) (by decide) _)
        · intro lis a X hsz hl hdl hX hS hD hJ hU
          have d0 := Posts.slot (show a.eval (.tmp 61) = .int .i64 141 from hD.1)
          exact Posts.op_value (fun _ => trivial) rfl rfl (by intro c h; cases h) rfl (by rw [hS.size]; simp) (v := .int .i64 141) (by simp [execOp, d0, go_sem]) rfl (hE.refl _) (js_keep hJ (hE.refl _) (by decide) (by decide) (by decide) _)
      · intro a0 Y hY hS hJt hL
        have p54 := Posts.slot (show a0.eval (.tmp 54) = .agg #[.int .u8 21, .int .u8 1, .int .u16 0, .int .u32 0] from hL.1)
        have p55 := Posts.slot (show a0.eval (.tmp 55) = .agg #[.int .u8 27, .int .u8 0, .int .u16 0, .int .u32 0] from hL.2.1)
        obtain ⟨bs56, es56, _⟩ : progP vC 2 (a0.eval (.tmp 56)) Y := hL.2.2.1
        have p56 := Posts.slot es56
        clear es56
        obtain ⟨bs57, es57, _⟩ : cfgP (a0.eval (.tmp 57)) Y := hL.2.2.2.1
        have p57 := Posts.slot es57
        clear es57
        have p58 := Posts.slot (show a0.eval (.tmp 58) = .tuple #[.agg #[.int .i64 0, .int .u32 0, .int .u32 0, .int .u32 0, .int .u32 0, .int .u32 0], .int .i64 0, .int .i64 141] from hL.2.2.2.2.1)
        have p53 := Posts.slot (show a0.eval (.tmp 53) = .tuple #[.agg #[.int .i64 0, .int .u32 0, .int .u32 0, .int .u32 0, .int .u32 0, .int .u32 0], .int .i64 0, .int .i64 141] from hL.2.2.2.2.2.1)
        have p59 := Posts.slot (show a0.eval (.tmp 59) = .agg #[.int .i64 0, .int .u32 0, .int .u32 0, .int .u32 0, .int .u32 0, .int .u32 0] from hL.2.2.2.2.2.2.1)
        have p60 := Posts.slot (show a0.eval (.tmp 60) = .int .i64 0 from hL.2.2.2.2.2.2.2.1)
        have p61 := Posts.slot (show a0.eval (.tmp 61) = .int .i64 141 from hL.2.2.2.2.2.2.2.2.1)
        obtain ⟨b6, e6, hK6, hc6⟩ := hJt.2 (by kernel_rfl)
        have hf6 : Y.heap[b6]? = some (.cells (smC (⟨0, 0, 0, 0, 0, 0⟩ : Sm)) 37 (0, 0)) := by
          rcases hc6 with q | ⟨_, q⟩
          · exact q
          · exact absurd q (by rw [show (Posts.firsts _ _).getD 10 false = true from by kernel_rfl]; simp)
        have p6 := Posts.slot e6
        clear e6 hc6
        have p7 := Posts.slot (show a0.eval (.tmp 7) = .int .i64 0 from hL.2.2.2.2.2.2.2.2.2.2.2.1)
        have p8 := Posts.slot (show a0.eval (.tmp 8) = .int .i64 141 from hL.2.2.2.2.2.2.2.2.2.2.2.2.1)
        have hfr := hS.frame [54, 55, 56, 57, 58, 53, 59, 60, 61, 6, 7, 8] (fun t ht => by simp [Posts.isDst] at ht; first | (rcases ht with h | h | h | h | h | h | h | h | h | h | h | h <;> subst h <;> simp) | (subst ht; simp))
        simp only [List.foldl_cons, List.foldl_nil] at hfr
        have hdf := hS.defers
        simp only [Array.getD_eq_getD_getElem?] at hfr
        clear hL hS hJt
        generalize a0.tmps[54]?.getD undef = v54 at *
        generalize a0.tmps[55]?.getD undef = v55 at *
        generalize a0.tmps[56]?.getD undef = v56 at *
        generalize a0.tmps[57]?.getD undef = v57 at *
        generalize a0.tmps[58]?.getD undef = v58 at *
        generalize a0.tmps[53]?.getD undef = v53 at *
        generalize a0.tmps[59]?.getD undef = v59 at *
        generalize a0.tmps[60]?.getD undef = v60 at *
        generalize a0.tmps[61]?.getD undef = v61 at *
        generalize a0.tmps[6]?.getD undef = v6 at *
        generalize a0.tmps[7]?.getD undef = v7 at *
        generalize a0.tmps[8]?.getD undef = v8 at *
        obtain rfl := p54
        obtain rfl := p55
        obtain rfl := p56
        obtain rfl := p57
        obtain rfl := p58
        obtain rfl := p53
        obtain rfl := p59
        obtain rfl := p60
        obtain rfl := p61
        obtain rfl := p6
        obtain rfl := p7
        obtain rfl := p8
        obtain ⟨tm, df⟩ := a0
        simp only [List.setIfInBounds_toArray, List.set_cons_succ, List.set_cons_zero] at hfr hdf
        subst hfr
        subst hdf
        refine ⟨by kernel_rfl, ?_⟩
        simp only [Exit.inBlock, Exit.then]
        first
          | (rename_i hK; refine hK _ _ ?_)
          | (rename_i hK _; refine hK _ _ ?_)
          | (rename_i hK _ _; refine hK _ _ ?_)
        have HC5 : Hid (Below S w Y ∧ S ≤ Y.heap.size) := ⟨hY.below HC4.out.1 HC4.out.2 HC4.out.2, Nat.le_trans HC4.out.2 hY.size⟩
        replace HQ1 : Hid (Y.heap[P1]? = _) := hY.keep HQ1.out (ne_type' (by decide))
        replace HQ2 : Hid (Y.heap[P2]? = _) := hY.keep HQ2.out (ne_type' (by decide))
        have HF6 : Hid (Y.heap[b6]? = some (.cells #[.int .i64 0, .int .u32 0, .int .u32 0, .int .u32 0, .int .u32 0, .int .u32 0] 37 (0, 0))) := hf6
        clear hf6 hK6
        clear hY hE hK HC4
        generalize Y = w5 at *
        clear HF6
        go_upto_region 7 with fail
        have hE := ez_rel w5.heap.size (.cells (smC (⟨0, 0, 0, 0, 0, 0⟩ : Sm)) 37 (0, 0))
        refine (wpIn_wide (n := 0)).1 (Posts.wpIn_region_listed hE 14 0 (Posts.At [Posts.is (.agg #[.int .u8 1, .int .u8 0, .int .u16 0, .int .u32 1]), Posts.is (.agg #[.int .u8 22, .int .u8 1, .int .u16 0, .int .u32 0]), Posts.is (.agg #[.int .u8 27, .int .u8 0, .int .u16 0, .int .u32 0]), progP vD 3, cfgP, Posts.is (.tuple #[.agg #[.int .i64 0, .int .u32 0, .int .u32 0, .int .u32 0, .int .u32 0, .int .u32 0], .int .i64 1, .int .i64 141]), Posts.is (.tuple #[.agg #[.int .i64 0, .int .u32 0, .int .u32 0, .int .u32 0, .int .u32 0, .int .u32 0], .int .i64 1, .int .i64 141]), Posts.is (.agg #[.int .i64 0, .int .u32 0, .int .u32 0, .int .u32 0, .int .u32 0, .int .u32 0]), Posts.is (.int .i64 1), Posts.is (.int .i64 141), (fun _ _ => True), (fun _ _ => True), Posts.is (.int .i64 1), Posts.is (.int .i64 141)]) (JS 10 11 9 w5.heap.size (.cells (smC (⟨0, 0, 0, 0, 0, 0⟩ : Sm)) 37 (0, 0))) (by kernel_rfl) (by decide) (by kernel_rfl) (by kernel_rfl) (by kernel_rfl)
          (Posts.stable_at _ (by repeat' (first | exact trivial | (refine And.intro ?_ ?_) | exact Posts.is_stable _ | exact progP_stable _ _ | exact cfgP_stable | exact true_stable))) (js_start _ _ _ _ _ _ _ _) ?_ ?_)
        · refine ⟨?_, ?_, ?_, ?_, ?_, ?_, ?_, ?_, ?_, ?_, ?_, ?_, ?_, ?_, trivial⟩
          · intro lis a X hsz hl hdl hX hS hD hJ hU
            obtain ⟨x0, x1, x2, x3⟩ := cells4 (hX.keep HQ1.out (ne_type' (by decide)))
            have d1 := Posts.slot (show a.eval (.tmp 1) = .pointer (some ⟨P1, 0, none⟩) from hS.other 1 rfl)
            exact Posts.op_value (fun _ => trivial) rfl rfl (by intro c h; cases h) rfl (by rw [hS.size]; simp) (v := .agg #[.int .u8 1, .int .u8 0, .int .u16 0, .int .u32 1]) (by simp [execOp, d1, x0, x1, x2, x3, go_sem]) rfl (hE.refl _) (js_keep hJ (hE.refl _) (by decide) (by decide) (by decide) _)
          · intro lis a X hsz hl hdl hX hS hD hJ hU
            refine Posts.op_call (fun _ => trivial) rfl rfl rfl (by intro c h; cases h) rfl (by rw [hS.size]; simp) 12 #[.int .u8 22, .int .u8 1, .int .u16 0, .int .u32 0] (by simp [execOp, go_sem]) ?_
            refine callsIn_wide.2 ((HD.out 22 1 0 0 X).mono ?_)
            rintro e Y ⟨rfl, hb⟩
            exact ⟨_, rfl, rfl, EZ.of hb, (js_keep hJ (EZ.of hb) (by decide) (by decide) (by decide) _)⟩
          · intro lis a X hsz hl hdl hX hS hD hJ hU
            obtain ⟨x0, x1, x2, x3⟩ := cells4 (hX.keep HQ2.out (ne_type' (by decide)))
            have d1 := Posts.slot (show a.eval (.tmp 2) = .pointer (some ⟨P2, 0, none⟩) from hS.other 2 rfl)
            exact Posts.op_value (fun _ => trivial) rfl rfl (by intro c h; cases h) rfl (by rw [hS.size]; simp) (v := .agg #[.int .u8 27, .int .u8 0, .int .u16 0, .int .u32 0]) (by simp [execOp, d1, x0, x1, x2, x3, go_sem]) rfl (hE.refl _) (js_keep hJ (hE.refl _) (by decide) (by decide) (by decide) _)
          · intro lis a X hsz hl hdl hX hS hD hJ hU
            have d63 := Posts.slot (show a.eval (.tmp 63) = .agg #[.int .u8 1, .int .u8 0, .int .u16 0, .int .u32 1] from hD.1)
            have d64 := Posts.slot (show a.eval (.tmp 64) = .agg #[.int .u8 22, .int .u8 1, .int .u16 0, .int .u32 0] from hD.2.1)
            have d65 := Posts.slot (show a.eval (.tmp 65) = .agg #[.int .u8 27, .int .u8 0, .int .u16 0, .int .u32 0] from hD.2.2.1)
            exact Posts.op_value (fun _ => trivial) rfl rfl (by intro c h; cases h) rfl (by rw [hS.size]; simp) (v := .slice (some ⟨X.heap.size, 0, none⟩) 3 3) (Y := X.alloc (.cells #[.int .u8 1, .int .u8 0, .int .u16 0, .int .u32 1, .int .u8 22, .int .u8 1, .int .u16 0, .int .u32 0, .int .u8 27, .int .u8 0, .int .u16 0, .int .u32 0] 55)) (by simp [execOp, d63, d64, d65, go_sem]) ⟨X.heap.size, rfl, alloc_new X _⟩ (EZ.of ((Below.refl _ X).alloc (Nat.le_refl _) _)) (js_keep hJ (EZ.of ((Below.refl _ X).alloc (Nat.le_refl _) _)) (by decide) (by decide) (by decide) _)
          · intro lis a X hsz hl hdl hX hS hD hJ hU
            refine Posts.op_call (fun _ => trivial) rfl rfl rfl (by intro c h; cases h) rfl (by rw [hS.size]; simp) 13 #[] (by simp [execOp, go_sem]) ?_
            refine callsIn_wide.2 ((HTw.out X).mono ?_)
            rintro e Y ⟨⟨v, rfl, hc⟩, hb⟩
            exact ⟨_, rfl, hc, EZ.of hb, (js_keep hJ (EZ.of hb) (by decide) (by decide) (by decide) _)⟩
          · intro lis a X hsz hl hdl hX hS hD hJ hU
            obtain ⟨b, eb, hp⟩ : progP vD 3 (a.eval (.tmp 66)) X := hD.1
            obtain ⟨p, ep, h1, h2⟩ : cfgP (a.eval (.tmp 67)) X := hD.2.1
            have db := Posts.slot eb
            have dq := Posts.slot ep
            refine Posts.op_call (fun _ => trivial) rfl rfl rfl (by intro c h; cases h) rfl (by rw [hS.size]; simp) 8 #[.slice (some ⟨b, 0, none⟩) 3 3, .int .i64 0, (mT p).val] (by simp [execOp, db, dq, go_sem]) ?_
            have hk := HAns.out vD 3 0 X (hX.below HC5.out.1 HC5.out.2 HC5.out.2) b p wf_vD rfl (by omega) hp h1 h2 (by omega) (by omega)
            rw [ver_vD] at hk
            refine callsIn_wide.2 (hk.mono ?_)
            rintro e Y ⟨rfl, hb⟩
            exact ⟨_, rfl, rfl, EZ.of hb, (js_keep hJ (EZ.of hb) (by decide) (by decide) (by decide) _)⟩
          · intro lis a X hsz hl hdl hX hS hD hJ hU
            have d0 := Posts.slot (show a.eval (.tmp 68) = .tuple #[.agg #[.int .i64 0, .int .u32 0, .int .u32 0, .int .u32 0, .int .u32 0, .int .u32 0], .int .i64 1, .int .i64 141] from hD.1)
            exact Posts.op_value (fun _ => trivial) rfl rfl (by intro c h; cases h) rfl (by rw [hS.size]; simp) (v := .tuple #[.agg #[.int .i64 0, .int .u32 0, .int .u32 0, .int .u32 0, .int .u32 0, .int .u32 0], .int .i64 1, .int .i64 141]) (by simp [execOp, d0, go_sem]) rfl (hE.refl _) (js_keep hJ (hE.refl _) (by decide) (by decide) (by decide) _)
          · intro lis a X hsz hl hdl hX hS hD hJ hU
            have d0 := Posts.slot (show a.eval (.tmp 62) = .tuple #[.agg #[.int .i64 0, .int .u32 0, .int .u32 0, .int .u32 0, .int .u32 0, .int .u32 0], .int .i64 1, .int .i64 141] from hD.1)
            exact Posts.op_value (fun _ => trivial) rfl rfl (by intro c h; cases h) rfl (by rw [hS.size]; simp) (v := .agg #[.int .i64 0, .int .u32 0, .int .u32 0, .int .u32 0, .int .u32 0, .int .u32 0]) (by simp [execOp, d0, go_sem]) rfl (hE.refl _) (js_keep hJ (hE.refl _) (by decide) (by decide) (by decide) _)
          · intro lis a X hsz hl hdl hX hS hD hJ hU
            have d0 := Posts.slot (show a.eval (.tmp 62) = .tuple #[.agg #[.int .i64 0, .int .u32 0, .int .u32 0, .int .u32 0, .int .u32 0, .int .u32 0], .int .i64 1, .int .i64 141] from hD.1)
            exact Posts.op_value (fun _ => trivial) rfl rfl (by intro c h; cases h) rfl (by rw [hS.size]; simp) (v := .int .i64 1) (by simp [execOp, d0, go_sem]) rfl (hE.refl _) (js_keep hJ (hE.refl _) (by decide) (by decide) (by decide) _)
          · intro lis a X hsz hl hdl hX hS hD hJ hU
            have d0 := Posts.slot (show a.eval (.tmp 62) = .tuple #[.agg #[.int .i64 0, .int .u32 0, .int .u32 0, .int .u32 0, .int .u32 0, .int .u32 0], .int .i64 1, .int .i64 141] from hD.1)
            exact Posts.op_value (fun _ => trivial) rfl rfl (by intro c h; cases h) rfl (by rw [hS.size]; simp) (v := .int .i64 141) (by simp [execOp, d0, go_sem]) rfl (hE.refl _) (js_keep hJ (hE.refl _) (by decide) (by decide) (by decide) _)
          · intro lis a X hsz hl hdl hX hS hD hJ hU
            exact Posts.op_value (fun _ => trivial) rfl rfl (by intro c h; cases h) rfl (by rw [hS.size]; simp) (v := .pointer (some ⟨X.heap.size, 0, none⟩)) (Y := X.alloc (.cells #[.int .i64 0, .int .u32 0, .int .u32 0, .int .u32 0, .int .u32 0, .int .u32 0] 37)) (by simp [execOp, go_sem]) trivial (EZ.of ((Below.refl _ X).alloc (Nat.le_refl _) _)) (js_alloc hJ hl (by rw [hsz]; decide) (by rw [hS.size]; simp) hX.size (by decide))
          · intro lis a X hsz hl hdl hX hS hD hJ hU
            obtain ⟨b, u0, u1, u2, u3, u4, u5, e3, hb, hez, hjs⟩ := js_store (sm := (⟨0, 0, 0, 0, 0, 0⟩ : Sm)) hJ (hdl 10 (List.contains_iff_mem.1 (by kernel_rfl))) (by rw [hsz]; decide) (by decide)
            have e9 : a.eval (.tmp 69) = smV (⟨0, 0, 0, 0, 0, 0⟩ : Sm) := hD.2.1
            exact Posts.op_done (fun _ => trivial) rfl rfl (by intro c h; cases h) (Y := put6 X b (⟨0, 0, 0, 0, 0, 0⟩ : Sm)) (run_store6 (⟨0, 0, 0, 0, 0, 0⟩ : Sm) hb _ _ 9 69 rfl e3 e9) ⟨⟨⟨undef, rfl⟩, trivial, hez⟩, hjs⟩
          · intro lis a X hsz hl hdl hX hS hD hJ hU
            have d0 := Posts.slot (show a.eval (.tmp 70) = .int .i64 1 from hD.1)
            exact Posts.op_value (fun _ => trivial) rfl rfl (by intro c h; cases h) rfl (by rw [hS.size]; simp) (v := .int .i64 1) (by simp [execOp, d0, go_sem]) rfl (hE.refl _) (js_keep hJ (hE.refl _) (by decide) (by decide) (by decide) _)
          · intro lis a X hsz hl hdl hX hS hD hJ hU
            have d0 := Posts.slot (show a.eval (.tmp 71) = .int .i64 141 from hD.1)
            exact Posts.op_value (fun _ => trivial) rfl rfl (by intro c h; cases h) rfl (by rw [hS.size]; simp) (v := .int .i64 141) (by simp [execOp, d0, go_sem]) rfl (hE.refl _) (js_keep hJ (hE.refl _) (by decide) (by decide) (by decide) _)
        · intro a0 Y hY hS hJt hL
          have p63 := Posts.slot (show a0.eval (.tmp 63) = .agg #[.int .u8 1, .int .u8 0, .int .u16 0, .int .u32 1] from hL.1)
          have p64 := Posts.slot (show a0.eval (.tmp 64) = .agg #[.int .u8 22, .int .u8 1, .int .u16 0, .int .u32 0] from hL.2.1)
          have p65 := Posts.slot (show a0.eval (.tmp 65) = .agg #[.int .u8 27, .int .u8 0, .int .u16 0, .int .u32 0] from hL.2.2.1)
          obtain ⟨bs66, es66, _⟩ : progP vD 3 (a0.eval (.tmp 66)) Y := hL.2.2.2.1
          have p66 := Posts.slot es66
          clear es66
          obtain ⟨bs67, es67, _⟩ : cfgP (a0.eval (.tmp 67)) Y := hL.2.2.2.2.1
          have p67 := Posts.slot es67
          clear es67
          have p68 := Posts.slot (show a0.eval (.tmp 68) = .tuple #[.agg #[.int .i64 0, .int .u32 0, .int .u32 0, .int .u32 0, .int .u32 0, .int .u32 0], .int .i64 1, .int .i64 141] from hL.2.2.2.2.2.1)
          have p62 := Posts.slot (show a0.eval (.tmp 62) = .tuple #[.agg #[.int .i64 0, .int .u32 0, .int .u32 0, .int .u32 0, .int .u32 0, .int .u32 0], .int .i64 1, .int .i64 141] from hL.2.2.2.2.2.2.1)
          have p69 := Posts.slot (show a0.eval (.tmp 69) = .agg #[.int .i64 0, .int .u32 0, .int .u32 0, .int .u32 0, .int .u32 0, .int .u32 0] from hL.2.2.2.2.2.2.2.1)
          have p70 := Posts.slot (show a0.eval (.tmp 70) = .int .i64 1 from hL.2.2.2.2.2.2.2.2.1)
          have p71 := Posts.slot (show a0.eval (.tmp 71) = .int .i64 141 from hL.2.2.2.2.2.2.2.2.2.1)
          obtain ⟨b9, e9, hK9, hc9⟩ := hJt.2 (by kernel_rfl)
          have hf9 : Y.heap[b9]? = some (.cells (smC (⟨0, 0, 0, 0, 0, 0⟩ : Sm)) 37 (0, 0)) := by
            rcases hc9 with q | ⟨_, q⟩
            · exact q
            · exact absurd q (by rw [show (Posts.firsts _ _).getD 11 false = true from by kernel_rfl]; simp)
          have p9 := Posts.slot e9
          clear e9 hc9
          have p10 := Posts.slot (show a0.eval (.tmp 10) = .int .i64 1 from hL.2.2.2.2.2.2.2.2.2.2.2.2.1)
          have p11 := Posts.slot (show a0.eval (.tmp 11) = .int .i64 141 from hL.2.2.2.2.2.2.2.2.2.2.2.2.2.1)
          have hfr := hS.frame [63, 64, 65, 66, 67, 68, 62, 69, 70, 71, 9, 10, 11] (fun t ht => by simp [Posts.isDst] at ht; first | (rcases ht with h | h | h | h | h | h | h | h | h | h | h | h | h <;> subst h <;> simp) | (subst ht; simp))
          simp only [List.foldl_cons, List.foldl_nil] at hfr
          have hdf := hS.defers
          simp only [Array.getD_eq_getD_getElem?] at hfr
          clear hL hS hJt
          generalize a0.tmps[63]?.getD undef = v63 at *
          generalize a0.tmps[64]?.getD undef = v64 at *
          generalize a0.tmps[65]?.getD undef = v65 at *
          generalize a0.tmps[66]?.getD undef = v66 at *
          generalize a0.tmps[67]?.getD undef = v67 at *
          generalize a0.tmps[68]?.getD undef = v68 at *
          generalize a0.tmps[62]?.getD undef = v62 at *
          generalize a0.tmps[69]?.getD undef = v69 at *
          generalize a0.tmps[70]?.getD undef = v70 at *
          generalize a0.tmps[71]?.getD undef = v71 at *
          generalize a0.tmps[9]?.getD undef = v9 at *
          generalize a0.tmps[10]?.getD undef = v10 at *
          generalize a0.tmps[11]?.getD undef = v11 at *
          obtain rfl := p63
          obtain rfl := p64
          obtain rfl := p65
          obtain rfl := p66
          obtain rfl := p67
          obtain rfl := p68
          obtain rfl := p62
          obtain rfl := p69
          obtain rfl := p70
          obtain rfl := p71
          obtain rfl := p9
          obtain rfl := p10
          obtain rfl := p11
          obtain ⟨tm, df⟩ := a0
          simp only [List.setIfInBounds_toArray, List.set_cons_succ, List.set_cons_zero] at hfr hdf
          subst hfr
          subst hdf
          refine ⟨by kernel_rfl, ?_⟩
          simp only [Exit.inBlock, Exit.then]
          first
            | (rename_i hK; refine hK _ _ ?_)
            | (rename_i hK _; refine hK _ _ ?_)
            | (rename_i hK _ _; refine hK _ _ ?_)
          have HC6 : Hid (Below S w Y ∧ S ≤ Y.heap.size) := ⟨hY.below HC5.out.1 HC5.out.2 HC5.out.2, Nat.le_trans HC5.out.2 hY.size⟩
          replace HQ1 : Hid (Y.heap[P1]? = _) := hY.keep HQ1.out (ne_type' (by decide))
          replace HQ2 : Hid (Y.heap[P2]? = _) := hY.keep HQ2.out (ne_type' (by decide))
          have HF9 : Hid (Y.heap[b9]? = some (.cells #[.int .i64 0, .int .u32 0, .int .u32 0, .int .u32 0, .int .u32 0, .int .u32 0] 37 (0, 0))) := hf9
          clear hf9 hK9
          clear hY hE hK HC5
          generalize Y = w6 at *
          clear HF9
          go_upto_region 8 with fail
          have hE := ez_rel w6.heap.size (.cells (smC (⟨1, 0, 0, 0, 0, 0⟩ : Sm)) 37 (0, 0))
          refine (wpIn_wide (n := 0)).1 (Posts.wpIn_region_listed hE 14 0 (Posts.At [Posts.is (.agg #[.int .u8 1, .int .u8 0, .int .u16 0, .int .u32 1]), Posts.is (.agg #[.int .u8 20, .int .u8 0, .int .u16 0, .int .u32 0]), Posts.is (.agg #[.int .u8 27, .int .u8 0, .int .u16 0, .int .u32 0]), progP vE 3, cfgP, Posts.is (.tuple #[.agg #[.int .i64 1, .int .u32 0, .int .u32 0, .int .u32 0, .int .u32 0, .int .u32 0], .int .i64 0, .int .i64 0]), Posts.is (.tuple #[.agg #[.int .i64 1, .int .u32 0, .int .u32 0, .int .u32 0, .int .u32 0, .int .u32 0], .int .i64 0, .int .i64 0]), Posts.is (.agg #[.int .i64 1, .int .u32 0, .int .u32 0, .int .u32 0, .int .u32 0, .int .u32 0]), Posts.is (.int .i64 0), Posts.is (.int .i64 0), (fun _ _ => True), (fun _ _ => True), Posts.is (.int .i64 0), Posts.is (.int .i64 0)]) (JS 10 11 12 w6.heap.size (.cells (smC (⟨1, 0, 0, 0, 0, 0⟩ : Sm)) 37 (0, 0))) (by kernel_rfl) (by decide) (by kernel_rfl) (by kernel_rfl) (by kernel_rfl)
            (Posts.stable_at _ (by repeat' (first | exact trivial | (refine And.intro ?_ ?_) | exact Posts.is_stable _ | exact progP_stable _ _ | exact cfgP_stable | exact true_stable))) (js_start _ _ _ _ _ _ _ _) ?_ ?_)
          · refine ⟨?_, ?_, ?_, ?_, ?_, ?_, ?_, ?_, ?_, ?_, ?_, ?_, ?_, ?_, trivial⟩
            · intro lis a X hsz hl hdl hX hS hD hJ hU
              obtain ⟨x0, x1, x2, x3⟩ := cells4 (hX.keep HQ1.out (ne_type' (by decide)))
              have d1 := Posts.slot (show a.eval (.tmp 1) = .pointer (some ⟨P1, 0, none⟩) from hS.other 1 rfl)
              exact Posts.op_value (fun _ => trivial) rfl rfl (by intro c h; cases h) rfl (by rw [hS.size]; simp) (v := .agg #[.int .u8 1, .int .u8 0, .int .u16 0, .int .u32 1]) (by simp [execOp, d1, x0, x1, x2, x3, go_sem]) rfl (hE.refl _) (js_keep hJ (hE.refl _) (by decide) (by decide) (by decide) _)
            · intro lis a X hsz hl hdl hX hS hD hJ hU
              refine Posts.op_call (fun _ => trivial) rfl rfl rfl (by intro c h; cases h) rfl (by rw [hS.size]; simp) 12 #[.int .u8 20, .int .u8 0, .int .u16 0, .int .u32 0] (by simp [execOp, go_sem]) ?_
              refine callsIn_wide.2 ((HD.out 20 0 0 0 X).mono ?_)
              rintro e Y ⟨rfl, hb⟩
              exact ⟨_, rfl, rfl, EZ.of hb, (js_keep hJ (EZ.of hb) (by decide) (by decide) (by decide) _)⟩
            · intro lis a X hsz hl hdl hX hS hD hJ hU
              obtain ⟨x0, x1, x2, x3⟩ := cells4 (hX.keep HQ2.out (ne_type' (by decide)))
              have d1 := Posts.slot (show a.eval (.tmp 2) = .pointer (some ⟨P2, 0, none⟩) from hS.other 2 rfl)
              exact Posts.op_value (fun _ => trivial) rfl rfl (by intro c h; cases h) rfl (by rw [hS.size]; simp) (v := .agg #[.int .u8 27, .int .u8 0, .int .u16 0, .int .u32 0]) (by simp [execOp, d1, x0, x1, x2, x3, go_sem]) rfl (hE.refl _) (js_keep hJ (hE.refl _) (by decide) (by decide) (by decide) _)
            · intro lis a X hsz hl hdl hX hS hD hJ hU
              have d73 := Posts.slot (show a.eval (.tmp 73) = .agg #[.int .u8 1, .int .u8 0, .int .u16 0, .int .u32 1] from hD.1)
              have d74 := Posts.slot (show a.eval (.tmp 74) = .agg #[.int .u8 20, .int .u8 0, .int .u16 0, .int .u32 0] from hD.2.1)
              have d75 := Posts.slot (show a.eval (.tmp 75) = .agg #[.int .u8 27, .int .u8 0, .int .u16 0, .int .u32 0] from hD.2.2.1)
              exact Posts.op_value (fun _ => trivial) rfl rfl (by intro c h; cases h) rfl (by rw [hS.size]; simp) (v := .slice (some ⟨X.heap.size, 0, none⟩) 3 3) (Y := X.alloc (.cells #[.int .u8 1, .int .u8 0, .int .u16 0, .int .u32 1, .int .u8 20, .int .u8 0, .int .u16 0, .int .u32 0, .int .u8 27, .int .u8 0, .int .u16 0, .int .u32 0] 55)) (by simp [execOp, d73, d74, d75, go_sem]) ⟨X.heap.size, rfl, alloc_new X _⟩ (EZ.of ((Below.refl _ X).alloc (Nat.le_refl _) _)) (js_keep hJ (EZ.of ((Below.refl _ X).alloc (Nat.le_refl _) _)) (by decide) (by decide) (by decide) _)
            · intro lis a X hsz hl hdl hX hS hD hJ hU
              refine Posts.op_call (fun _ => trivial) rfl rfl rfl (by intro c h; cases h) rfl (by rw [hS.size]; simp) 13 #[] (by simp [execOp, go_sem]) ?_
              refine callsIn_wide.2 ((HTw.out X).mono ?_)
              rintro e Y ⟨⟨v, rfl, hc⟩, hb⟩
              exact ⟨_, rfl, hc, EZ.of hb, (js_keep hJ (EZ.of hb) (by decide) (by decide) (by decide) _)⟩
            · intro lis a X hsz hl hdl hX hS hD hJ hU
              obtain ⟨b, eb, hp⟩ : progP vE 3 (a.eval (.tmp 76)) X := hD.1
              obtain ⟨p, ep, h1, h2⟩ : cfgP (a.eval (.tmp 77)) X := hD.2.1
              have db := Posts.slot eb
              have dq := Posts.slot ep
              refine Posts.op_call (fun _ => trivial) rfl rfl rfl (by intro c h; cases h) rfl (by rw [hS.size]; simp) 8 #[.slice (some ⟨b, 0, none⟩) 3 3, .int .i64 0, (mT p).val] (by simp [execOp, db, dq, go_sem]) ?_
              have hk := HAns.out vE 3 0 X (hX.below HC6.out.1 HC6.out.2 HC6.out.2) b p wf_vE rfl (by omega) hp h1 h2 (by omega) (by omega)
              rw [ver_vE] at hk
              refine callsIn_wide.2 (hk.mono ?_)
              rintro e Y ⟨rfl, hb⟩
              exact ⟨_, rfl, rfl, EZ.of hb, (js_keep hJ (EZ.of hb) (by decide) (by decide) (by decide) _)⟩
            · intro lis a X hsz hl hdl hX hS hD hJ hU
              have d0 := Posts.slot (show a.eval (.tmp 78) = .tuple #[.agg #[.int .i64 1, .int .u32 0, .int .u32 0, .int .u32 0, .int .u32 0, .int .u32 0], .int .i64 0, .int .i64 0] from hD.1)
              exact Posts.op_value (fun _ => trivial) rfl rfl (by intro c h; cases h) rfl (by rw [hS.size]; simp) (v := .tuple #[.agg #[.int .i64 1, .int .u32 0, .int .u32 0, .int .u32 0, .int .u32 0, .int .u32 0], .int .i64 0, .int .i64 0]) (by simp [execOp, d0, go_sem]) rfl (hE.refl _) (js_keep hJ (hE.refl _) (by decide) (by decide) (by decide) _)
            · intro lis a X hsz hl hdl hX hS hD hJ hU
              have d0 := Posts.slot (show a.eval (.tmp 72) = .tuple #[.agg #[.int .i64 1, .int .u32 0, .int .u32 0, .int .u32 0, .int .u32 0, .int .u32 0], .int .i64 0, .int .i64 0] from hD.1)
              exact Posts.op_value (fun _ => trivial) rfl rfl (by intro c h; cases h) rfl (by rw [hS.size]; simp) (v := .agg #[.int .i64 1, .int .u32 0, .int .u32 0, .int .u32 0, .int .u32 0, .int .u32 0]) (by simp [execOp, d0, go_sem]) rfl (hE.refl _) (js_keep hJ (hE.refl _) (by decide) (by decide) (by decide) _)
            · intro lis a X hsz hl hdl hX hS hD hJ hU
              have d0 := Posts.slot (show a.eval (.tmp 72) = .tuple #[.agg #[.int .i64 1, .int .u32 0, .int .u32 0, .int .u32 0, .int .u32 0, .int .u32 0], .int .i64 0, .int .i64 0] from hD.1)
              exact Posts.op_value (fun _ => trivial) rfl rfl (by intro c h; cases h) rfl (by rw [hS.size]; simp) (v := .int .i64 0) (by simp [execOp, d0, go_sem]) rfl (hE.refl _) (js_keep hJ (hE.refl _) (by decide) (by decide) (by decide) _)
            · intro lis a X hsz hl hdl hX hS hD hJ hU
              have d0 := Posts.slot (show a.eval (.tmp 72) = .tuple #[.agg #[.int .i64 1, .int .u32 0, .int .u32 0, .int .u32 0, .int .u32 0, .int .u32 0], .int .i64 0, .int .i64 0] from hD.1)
              exact Posts.op_value (fun _ => trivial) rfl rfl (by intro c h; cases h) rfl (by rw [hS.size]; simp) (v := .int .i64 0) (by simp [execOp, d0, go_sem]) rfl (hE.refl _) (js_keep hJ (hE.refl _) (by decide) (by decide) (by decide) _)
            · intro lis a X hsz hl hdl hX hS hD hJ hU
              exact Posts.op_value (fun _ => trivial) rfl rfl (by intro c h; cases h) rfl (by rw [hS.size]; simp) (v := .pointer (some ⟨X.heap.size, 0, none⟩)) (Y := X.alloc (.cells #[.int .i64 0, .int .u32 0, .int .u32 0, .int .u32 0, .int .u32 0, .int .u32 0] 37)) (by simp [execOp, go_sem]) trivial (EZ.of ((Below.refl _ X).alloc (Nat.le_refl _) _)) (js_alloc hJ hl (by rw [hsz]; decide) (by rw [hS.size]; simp) hX.size (by decide))
            · intro lis a X hsz hl hdl hX hS hD hJ hU
              obtain ⟨b, u0, u1, u2, u3, u4, u5, e3, hb, hez, hjs⟩ := js_store (sm := (⟨1, 0, 0, 0, 0, 0⟩ : Sm)) hJ (hdl 10 (List.contains_iff_mem.1 (by kernel_rfl))) (by rw [hsz]; decide) (by decide)
              have e9 : a.eval (.tmp 79) = smV (⟨1, 0, 0, 0, 0, 0⟩ : Sm) := hD.2.1
              exact Posts.op_done (fun _ => trivial) rfl rfl (by intro c h; cases h) (Y := put6 X b (⟨1, 0, 0, 0, 0, 0⟩ : Sm)) (run_store6 (⟨1, 0, 0, 0, 0, 0⟩ : Sm) hb _ _ 12 79 rfl e3 e9) ⟨⟨⟨undef, rfl⟩, trivial, hez⟩, hjs⟩
            · intro lis a X hsz hl hdl hX hS hD hJ hU
              have d0 := Posts.slot (show a.eval (.tmp 80) = .int .i64 0 from hD.1)
              exact Posts.op_value (fun _ => trivial) rfl rfl (by intro c h; cases h) rfl (by rw [hS.size]; simp) (v := .int .i64 0) (by simp [execOp, d0, go_sem]) rfl (hE.refl _) (js_keep hJ (hE.refl _) (by decide) (by decide) (by decide) _)
            · intro lis a X hsz hl hdl hX hS hD hJ hU
              have d0 := Posts.slot (show a.eval (.tmp 81) = .int .i64 0 from hD.1)
              exact Posts.op_value (fun _ => trivial) rfl rfl (by intro c h; cases h) rfl (by rw [hS.size]; simp) (v := .int .i64 0) (by simp [execOp, d0, go_sem]) rfl (hE.refl _) (js_keep hJ (hE.refl _) (by decide) (by decide) (by decide) _)
          · intro a0 Y hY hS hJt hL
            have p73 := Posts.slot (show a0.eval (.tmp 73) = .agg #[.int .u8 1, .int .u8 0, .int .u16 0, .int .u32 1] from hL.1)
            have p74 := Posts.slot (show a0.eval (.tmp 74) = .agg #[.int .u8 20, .int .u8 0, .int .u16 0, .int .u32 0] from hL.2.1)
            have p75 := Posts.slot (show a0.eval (.tmp 75) = .agg #[.int .u8 27, .int .u8 0, .int .u16 0, .int .u32 0] from hL.2.2.1)
            obtain ⟨bs76, es76, _⟩ : progP vE 3 (a0.eval (.tmp 76)) Y := hL.2.2.2.1
            have p76 := Posts.slot es76
            clear es76
            obtain ⟨bs77, es77, _⟩ : cfgP (a0.eval (.tmp 77)) Y := hL.2.2.2.2.1
            have p77 := Posts.slot es77
            clear es77
            have p78 := Posts.slot (show a0.eval (.tmp 78) = .tuple #[.agg #[.int .i64 1, .int .u32 0, .int .u32 0, .int .u32 0, .int .u32 0, .int .u32 0], .int .i64 0, .int .i64 0] from hL.2.2.2.2.2.1)
            have p72 := Posts.slot (show a0.eval (.tmp 72) = .tuple #[.agg #[.int .i64 1, .int .u32 0, .int .u32 0, .int .u32 0, .int .u32 0, .int .u32 0], .int .i64 0, .int .i64 0] from hL.2.2.2.2.2.2.1)
            have p79 := Posts.slot (show a0.eval (.tmp 79) = .agg #[.int .i64 1, .int .u32 0, .int .u32 0, .int .u32 0, .int .u32 0, .int .u32 0] from hL.2.2.2.2.2.2.2.1)
            have p80 := Posts.slot (show a0.eval (.tmp 80) = .int .i64 0 from hL.2.2.2.2.2.2.2.2.1)
            have p81 := Posts.slot (show a0.eval (.tmp 81) = .int .i64 0 from hL.2.2.2.2.2.2.2.2.2.1)
            obtain ⟨b12, e12, hK12, hc12⟩ := hJt.2 (by kernel_rfl)
            have hf12 : Y.heap[b12]? = some (.cells (smC (⟨1, 0, 0, 0, 0, 0⟩ : Sm)) 37 (0, 0)) := by
              rcases hc12 with q | ⟨_, q⟩
              · exact q
              · exact absurd q (by rw [show (Posts.firsts _ _).getD 11 false = true from by kernel_rfl]; simp)
            have p12 := Posts.slot e12
            clear e12 hc12
            have p13 := Posts.slot (show a0.eval (.tmp 13) = .int .i64 0 from hL.2.2.2.2.2.2.2.2.2.2.2.2.1)
            have p14 := Posts.slot (show a0.eval (.tmp 14) = .int .i64 0 from hL.2.2.2.2.2.2.2.2.2.2.2.2.2.1)
            have hfr := hS.frame [73, 74, 75, 76, 77, 78, 72, 79, 80, 81, 12, 13, 14] (fun t ht => by simp [Posts.isDst] at ht; first | (rcases ht with h | h | h | h | h | h | h | h | h | h | h | h | h <;> subst h <;> simp) | (subst ht; simp))
            simp only [List.foldl_cons, List.foldl_nil] at hfr
            have hdf := hS.defers
            simp only [Array.getD_eq_getD_getElem?] at hfr
            clear hL hS hJt
            generalize a0.tmps[73]?.getD undef = v73 at *
            generalize a0.tmps[74]?.getD undef = v74 at *
            generalize a0.tmps[75]?.getD undef = v75 at *
            generalize a0.tmps[76]?.getD undef = v76 at *
            generalize a0.tmps[77]?.getD undef = v77 at *
            generalize a0.tmps[78]?.getD undef = v78 at *
            generalize a0.tmps[72]?.getD undef = v72 at *
            generalize a0.tmps[79]?.getD undef = v79 at *
            generalize a0.tmps[80]?.getD undef = v80 at *
            generalize a0.tmps[81]?.getD undef = v81 at *
            generalize a0.tmps[12]?.getD undef = v12 at *
            generalize a0.tmps[13]?.getD undef = v13 at *
            generalize a0.tmps[14]?.getD undef = v14 at *
            obtain rfl := p73
            obtain rfl := p74
            obtain rfl := p75
            obtain rfl := p76
            obtain rfl := p77
            obtain rfl := p78
            obtain rfl := p72
            obtain rfl := p79
            obtain rfl := p80
            obtain rfl := p81
            obtain rfl := p12
            obtain rfl := p13
            obtain rfl := p14
            obtain ⟨tm, df⟩ := a0
            simp only [List.setIfInBounds_toArray, List.set_cons_succ, List.set_cons_zero] at hfr hdf
            subst hfr
            subst hdf
            refine ⟨by kernel_rfl, ?_⟩
            simp only [Exit.inBlock, Exit.then]
            first
              | (rename_i hK; refine hK _ _ ?_)
              | (rename_i hK _; refine hK _ _ ?_)
              | (rename_i hK _ _; refine hK _ _ ?_)
            have HC7 : Hid (Below S w Y ∧ S ≤ Y.heap.size) := ⟨hY.below HC6.out.1 HC6.out.2 HC6.out.2, Nat.le_trans HC6.out.2 hY.size⟩
            replace HQ1 : Hid (Y.heap[P1]? = _) := hY.keep HQ1.out (ne_type' (by decide))
            replace HQ2 : Hid (Y.heap[P2]? = _) := hY.keep HQ2.out (ne_type' (by decide))
            have HF12 : Hid (Y.heap[b12]? = some (.cells #[.int .i64 1, .int .u32 0, .int .u32 0, .int .u32 0, .int .u32 0, .int .u32 0] 37 (0, 0))) := hf12
            clear hf12 hK12
            clear hY hE hK HC6
            generalize Y = w7 at *
            go_wp2_with fail
            refine (HTw.out w7).mono ?_
            rintro e w8 ⟨⟨v, rfl, p, rfl, hp1, hp2⟩, hb8⟩
            have HC8 : Hid (Below S w w8) := HC7.out.1.trans (hb8.mono HC7.out.2)
            have HF8 : Hid (w8.heap[b12]? = some (.cells #[.int .i64 1, .int .u32 0, .int .u32 0, .int .u32 0, .int .u32 0, .int .u32 0] 37 (0, 0))) := (hb8.block _ (lt_of_block HF12.out)).trans HF12.out
            have hk := HNil.out w8 HC8.out p hp1 hp2
            rw [ver_nil] at hk
            have HK : Hid (Calls Tryd.prog 8 #[.slice none 0 0, .int .i64 2, (mT p).val] w8 fun e w' => e = .returned (.tuple #[.agg #[.int .i64 0, .int .u32 0, .int .u32 0, .int .u32 0, .int .u32 0, .int .u32 0], .int .i64 0, .int .i64 2]) ∧ Below w8.heap.size w8 w') := hk
            clear hk hp1 hp2 hb8 HC7 HF12
            unfold Cm.val Cm.cells at *
            unfold mT at *
            simp only at *
            go_wp2_with fail
            refine HK.out.mono ?_
            rintro e w9 ⟨rfl, hb9⟩
            have HC9 : Hid (Below S w (w9.alloc (.cells #[.int .i64 0, .int .u32 0, .int .u32 0, .int .u32 0, .int .u32 0, .int .u32 0] 37))) := (HC8.out.trans (hb9.mono (by have := HC8.out.size; have := HS0.out; omega))).alloc (by have := HC8.out.size; have := hb9.size; have := HS0.out; omega) _
            have HF9 : Hid ((w9.alloc (.cells #[.int .i64 0, .int .u32 0, .int .u32 0, .int .u32 0, .int .u32 0, .int .u32 0] 37)).heap[b12]? = some (.cells #[.int .i64 1, .int .u32 0, .int .u32 0, .int .u32 0, .int .u32 0, .int .u32 0] 37 (0, 0))) := (Below.heap_alloc _ _ _ (Nat.lt_of_lt_of_le (lt_of_block HF8.out) hb9.size)).trans ((hb9.block _ (lt_of_block HF8.out)).trans HF8.out)
            clear hb9 HC8 HF8 HK
            go_upto_region 10 with fail
            generalize w9.alloc (.cells #[.int .i64 0, .int .u32 0, .int .u32 0, .int .u32 0, .int .u32 0, .int .u32 0] 37) = wX at *
            obtain ⟨z0, z1, z2, z3, z4, z5⟩ := cells6 HF9.out
            have heq : ∀ W : World, (Op.equalIn 10000 37 (.agg #[.int .i64 1, .int .u32 0, .int .u32 0, .int .u32 0, .int .u32 0, .int .u32 0]) (.agg #[.int .i64 1, .int .u32 0, .int .u32 0, .int .u32 0, .int .u32 0, .int .u32 0])).run Tryd.prog W = .ok true W := fun W => by
              have := eqSm (⟨1, 0, 0, 0, 0, 0⟩ : Sm) (⟨1, 0, 0, 0, 0, 0⟩ : Sm) W
              rwa [smE_self] at this
            go_wp2_with fail
            go_ret
            exact ⟨rfl, by rw [HS0.out]; exact HC9.out⟩
end Ver
end Go.Proofs.YtjoiogdckbaeaaaDoor
