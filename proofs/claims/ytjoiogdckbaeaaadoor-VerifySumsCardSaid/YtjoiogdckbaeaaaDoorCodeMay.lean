/- isa.May, at a seat without isa's texts: what the statements' lists give of the table of the kinds; whether anything is an instruction. (Made by tools/gen_code.py.) -/
import Derived.Test.YtjoiogdckbaeaaaDoorCodeBase
import Derived.Lib.LaidTab
import Derived.Stop.LaidErr
import Derived.Lib.Strings
namespace Go.Proofs.YtjoiogdckbaeaaaDoor
open Go.ChangeShapes Go.WideShapes Go.ChangeAt Go.RowKit
namespace Isa
set_option linter.unusedVariables false
set_option linter.unusedSimpArgs false
/-! ### What there is to know of an Op -/
def bAI (op : Int) : Int := if isA op || isAB op then 16 else 0
def bBI (op : Int) : Int := if isAB op then 16 else 0
def nCI (op : Int) : Bool := isC op || isM op
def dK {H : Type} (n : Nat) : DataW H := .agg [.lit (.string (nm n)), .lit (.int .i64 (takesI n)), .lit (.int .i64 (givesI n)), .lit (.bool (isM n)), .lit (.int .i64 (bAI n)), .lit (.int .i64 (bBI n)), .lit (.bool (nCI n)), .lit (.bool (jumpsI n))]
theorem laid_is : (Rows.laid_tappet_isa_kinds : DataW Unit) = .agg ((List.range 28).map dK) := by kernel_rfl
/-- the table's cells at an Op -/
structure KAt (w : World) (n : Nat) : Prop where
  k0 : w.cell? ⟨0, n * 8, none⟩ = some (.string (sB (nm n)))
  k1 : w.cell? ⟨0, n * 8 + 1, none⟩ = some (.int .i64 (takesI n))
  k2 : w.cell? ⟨0, n * 8 + 2, none⟩ = some (.int .i64 (givesI n))
  k3 : w.cell? ⟨0, n * 8 + 3, none⟩ = some (.bool (isM n))
  k4 : w.cell? ⟨0, n * 8 + 4, none⟩ = some (.int .i64 (bAI n))
  k5 : w.cell? ⟨0, n * 8 + 5, none⟩ = some (.int .i64 (bBI n))
  k6 : w.cell? ⟨0, n * 8 + 6, none⟩ = some (.bool (nCI n))
  k7 : w.cell? ⟨0, n * 8 + 7, none⟩ = some (.bool (jumpsI n))
/-- the table -/
structure Tabs (w : World) : Prop where
  kinds : ∀ n, n < 28 → KAt w n
theorem gKinds : Tryd.prog.globalNamed "tappet/isa.kinds" = some 0 := by kernel_rfl
theorem cKinds : Tryd.prog.cellsOf 125 = 224 := by kernel_rfl
theorem cKind : Tryd.prog.cellsOf 111 = 8 := by kernel_rfl
theorem cStr : Tryd.prog.cellsOf 9 = 1 := by kernel_rfl
theorem cInt : Tryd.prog.cellsOf 3 = 1 := by kernel_rfl
theorem cBool : Tryd.prog.cellsOf 4 = 1 := by kernel_rfl
section
variable {H : Type} {enc : TypeId × Value → H} {w : World} {base : Nat} {spare : Nat → Bool} {held : Bool}
set_option maxRecDepth 20000 in
theorem open_kind {fuel : Nat} {cs : List Value} {n : Nat} {p : List MemPlace} (h : DataW.trod enc Tryd.prog w base spare held fuel 111 cs = some (dK n, p)) :
    cs = [.string (sB (nm n)), .int .i64 (takesI n), .int .i64 (givesI n), .bool (isM n), .int .i64 (bAI n), .int .i64 (bBI n), .bool (nCI n), .bool (jumpsI n)] := by
  obtain ⟨ys, n', hn', hx, hcl, hyl, hg⟩ := DataW.trod_struct Tryd.underlying111 h
  rw [cKind] at hcl
  have hx1 : dK n = (.agg (ys.map (·.1)) : DataW H) := congrArg Prod.fst hx
  obtain ⟨y0, y1, y2, y3, y4, y5, y6, y7, rfl⟩ : ∃ y0 y1 y2 y3 y4 y5 y6 y7, ys = [y0, y1, y2, y3, y4, y5, y6, y7] := by
    have hy8 : ys.length = 8 := by rw [hyl]; kernel_rfl
    match ys, hy8 with
    | [y0, y1, y2, y3, y4, y5, y6, y7], _ => exact ⟨y0, y1, y2, y3, y4, y5, y6, y7, rfl⟩
  obtain ⟨v0, v1, v2, v3, v4, v5, v6, v7, rfl⟩ : ∃ v0 v1 v2 v3 v4 v5 v6 v7, cs = [v0, v1, v2, v3, v4, v5, v6, v7] := by
    match cs, hcl with
    | [v0, v1, v2, v3, v4, v5, v6, v7], _ => exact ⟨v0, v1, v2, v3, v4, v5, v6, v7, rfl⟩
  · 
    have g0 : DataW.trod enc Tryd.prog w base spare held n' 9 [v0] = some y0 := by have := hg 0 _ rfl; simpa [cInt, cStr, cBool] using this
    have g1 : DataW.trod enc Tryd.prog w base spare held n' 3 [v1] = some y1 := by have := hg 1 _ rfl; simpa [cInt, cStr, cBool] using this
    have g2 : DataW.trod enc Tryd.prog w base spare held n' 3 [v2] = some y2 := by have := hg 2 _ rfl; simpa [cInt, cStr, cBool] using this
    have g3 : DataW.trod enc Tryd.prog w base spare held n' 4 [v3] = some y3 := by have := hg 3 _ rfl; simpa [cInt, cStr, cBool] using this
    have g4 : DataW.trod enc Tryd.prog w base spare held n' 3 [v4] = some y4 := by have := hg 4 _ rfl; simpa [cInt, cStr, cBool] using this
    have g5 : DataW.trod enc Tryd.prog w base spare held n' 3 [v5] = some y5 := by have := hg 5 _ rfl; simpa [cInt, cStr, cBool] using this
    have g6 : DataW.trod enc Tryd.prog w base spare held n' 4 [v6] = some y6 := by have := hg 6 _ rfl; simpa [cInt, cStr, cBool] using this
    have g7 : DataW.trod enc Tryd.prog w base spare held n' 4 [v7] = some y7 := by have := hg 7 _ rfl; simpa [cInt, cStr, cBool] using this
    obtain ⟨s0, h0, rfl, _⟩ := DataW.trod_string Tryd.underlying9 g0
    obtain ⟨s1, h1, rfl, _⟩ := DataW.trod_int Tryd.underlying3 g1
    obtain ⟨s2, h2, rfl, _⟩ := DataW.trod_int Tryd.underlying3 g2
    obtain ⟨s3, h3, rfl⟩ := DataW.trod_bool Tryd.underlying4 g3
    obtain ⟨s4, h4, rfl, _⟩ := DataW.trod_int Tryd.underlying3 g4
    obtain ⟨s5, h5, rfl, _⟩ := DataW.trod_int Tryd.underlying3 g5
    obtain ⟨s6, h6, rfl⟩ := DataW.trod_bool Tryd.underlying4 g6
    obtain ⟨s7, h7, rfl⟩ := DataW.trod_bool Tryd.underlying4 g7
    simp only [dK, List.map_cons, List.map_nil, DataW.agg.injEq, List.cons.injEq, DataW.lit.injEq, Lit.string.injEq, Lit.int.injEq, Lit.bool.injEq, true_and, and_true] at hx1
    obtain ⟨q0, q1, q2, q3, q4, q5, q6, q7⟩ := hx1
    simp only [List.cons.injEq, and_true] at h0 h1 h2 h3 h4 h5 h6 h7
    rw [h0, h1, h2, h3, h4, h5, h6, h7, q1, q2, q3, q4, q5, q6, q7, sB_of q0.symm]
end
theorem kinds_of {W : World} {rest : List (String × DataW Unit)} (h : laidMet Tryd.prog (("tappet/isa.kinds", Rows.laid_tappet_isa_kinds) :: rest) W) : ∀ n, n < 28 → KAt W n := by
  obtain ⟨ps, ⟨g', t', cs, fuel, p, q, hg', ht', hvar, hd, _, _⟩, _⟩ := h
  obtain rfl := Option.some.inj (gKinds.symm.trans hg')
  obtain rfl := Option.some.inj ((show (Tryd.prog.globals[0]?).map (·.type) = some 125 by kernel_rfl).symm.trans ht')
  rw [laid_is] at hd
  obtain ⟨xs, m, _, hx, hl, hxl, hf⟩ := DataW.trod_array Tryd.underlying125 hd
  have hx1 : (List.range 28).map dK = xs.map (·.1) := by have := congrArg Prod.fst hx; simpa using this
  intro n hn
  obtain ⟨y, hy⟩ : ∃ y, xs[n]? = some y := ⟨_, List.getElem?_eq_getElem (by omega)⟩
  have hy1 : y.1 = dK n := by
    have := congrArg (fun l : List (DataW Unit) => l[n]?) hx1
    simp only [List.getElem?_map, hy, List.getElem?_range hn, Option.map_some, Option.some.injEq] at this
    exact this.symm
  have hk := hf n hn
  rw [hy, cKind] at hk
  obtain ⟨y1, y2⟩ := y
  simp only at hy1
  subst hy1
  have ho := open_kind hk
  have at' : ∀ k, k < 8 → W.cell? ⟨0, n * 8 + k, none⟩ = ([.string (sB (nm n)), .int .i64 (takesI n), .int .i64 (givesI n), .bool (isM n), .int .i64 (bAI n), .int .i64 (bBI n), .bool (nCI n), .bool (jumpsI n)] : List Value)[k]? := by
    intro k hk8
    rw [World.var?_cell gKinds hvar (n * 8 + k), ← ho, List.getElem?_take_of_lt hk8, List.getElem?_drop]
    simp
  exact ⟨at' 0 (by omega), at' 1 (by omega), at' 2 (by omega), at' 3 (by omega), at' 4 (by omega), at' 5 (by omega), at' 6 (by omega), at' 7 (by omega)⟩
theorem Tabs.below {w w' : World} (h : Tabs w) {B : Nat} (hb : Below B w w') (hB : w.heap.size ≤ B) : Tabs w' := by
  have hs := World.block_lt_of_cell? _ _ (h.kinds 0 (by omega)).k0
  have hk : ∀ n, n < 28 → KAt w' n := by
    intro n hn
    have q := h.kinds n hn
    have hc : ∀ i v, w.cell? ⟨0, i, none⟩ = some v → w'.cell? ⟨0, i, none⟩ = some v := fun i v hv => (World.cell?_of_block (hb.block _ (Nat.lt_of_lt_of_le (World.block_lt_of_cell? _ _ hv) hB))).trans hv
    exact ⟨hc _ _ q.k0, hc _ _ q.k1, hc _ _ q.k2, hc _ _ q.k3, hc _ _ q.k4, hc _ _ q.k5, hc _ _ q.k6, hc _ _ q.k7⟩
  exact ⟨hk⟩
/-- a kind's parts -/
def kindA (op : Int) : Array Value := #[.string (sB (nm op)), .int .i64 (takesI op), .int .i64 (givesI op), .bool (isM op), .int .i64 (bAI op), .int .i64 (bBI op), .bool (nCI op), .bool (jumpsI op)]
def kindV (op : Int) : Value := .agg (kindA op)
theorem beyond {op : Int} (h : 28 ≤ op) : kindV op = .agg #[.string ⟨#[]⟩, .int .i64 0, .int .i64 0, .bool false, .int .i64 0, .int .i64 0, .bool false, .bool false] := by
  have e1 : nm op = [] := getD_far _ _ _ (by simp [names]; omega)
  have e2 : takesI op = 0 := getD_far _ _ _ (by simp [takesL]; omega)
  have e3 : givesI op = 0 := getD_far _ _ _ (by simp [givesL]; omega)
  have m : isM op = false := by unfold isM; simp; omega
  have a : isA op = false := by unfold isA; simp; omega
  have ab : isAB op = false := by unfold isAB; simp; omega
  have c : isC op = false := by unfold isC; simp; omega
  have j : jumpsI op = false := by unfold jumpsI; simp; omega
  unfold kindV kindA bAI bBI nCI
  rw [e1, e2, e3, m, a, ab, c, j]
  rfl
set_option maxHeartbeats 3200000 in
theorem kind_any (op : Int) (h0 : 0 ≤ op) (h1 : op ≤ 255) (w : World) (hT : Tabs w) : Calls Tryd.prog 60 #[.int .u8 op] w fun e w' => e = .returned (kindV op) ∧ Below w.heap.size w w' := by
  obtain ⟨n, rfl⟩ := Int.eq_ofNat_of_zero_le h0
  by_cases hn : n < 28
  · have hs := World.block_lt_of_cell? _ _ (hT.kinds n hn).k0
    have hge : decide ((28 : Int) ≤ (n : Int)) = false := decide_eq_false (by omega)
    have HT : ∀ o, KAt (w.alloc o) n := fun o => (hT.below ((Below.refl w.heap.size w).alloc (Nat.le_refl _) o) (Nat.le_refl _)).kinds n hn
    clear hT
    unfold kindV kindA
    have k0 := fun o => (HT o).k0
    have k1 := fun o => (HT o).k1
    have k2 := fun o => (HT o).k2
    have k3 := fun o => (HT o).k3
    have k4 := fun o => (HT o).k4
    have k5 := fun o => (HT o).k5
    have k6 := fun o => (HT o).k6
    have k7 := fun o => (HT o).k7
    clear HT
    generalize sB (nm ↑n) = x0 at k0 ⊢
    generalize takesI ↑n = x1 at k1 ⊢
    generalize givesI ↑n = x2 at k2 ⊢
    generalize isM ↑n = x3 at k3 ⊢
    generalize bAI ↑n = x4 at k4 ⊢
    generalize bBI ↑n = x5 at k5 ⊢
    generalize nCI ↑n = x6 at k6 ⊢
    generalize jumpsI ↑n = x7 at k7 ⊢
    go_enter Tryd.func60, Tryd.ntmps60
    go_wp2_with (first | simp only [k0] | simp only [k1] | simp only [k2] | simp only [k3] | simp only [k4] | simp only [k5] | simp only [k6] | simp only [k7])
    refine bodyPost_ret (v := .agg #[.string x0, .int .i64 x1, .int .i64 x2, .bool x3, .int .i64 x4, .int .i64 x5, .bool x6, .bool x7]) (by simp [results, Tryd.f60, go_sem]) rfl ⟨rfl, ?_⟩
    go_grown
  · rw [beyond (by omega)]
    have hge : decide ((28 : Int) ≤ (n : Int)) = true := decide_eq_true (by omega)
    clear hT
    go_enter Tryd.func60, Tryd.ntmps60
    go_wp2_with fail
    refine bodyPost_ret (v := .agg #[.string ⟨#[]⟩, .int .i64 0, .int .i64 0, .bool false, .int .i64 0, .int .i64 0, .bool false, .bool false]) (by simp [results, Tryd.f60, go_sem]) rfl ⟨rfl, ?_⟩
    go_grown
/-- is there such an Op -/
def isS (s : ByteArray) : Bool := !s.toList.isEmpty
theorem is_any (s : ByteArray) (x1 x2 x4 x5 : Int) (x3 x6 x7 : Bool) (w : World) : Calls Tryd.prog 73 #[.agg #[.string s, .int .i64 x1, .int .i64 x2, .bool x3, .int .i64 x4, .int .i64 x5, .bool x6, .bool x7]] w fun e w' => e = .returned (.bool (isS s)) ∧ Below w.heap.size w w' := by
  unfold isS
  go_enter Tryd.func73, Tryd.ntmps73
  go_wp2_with fail
  go_ret
  refine ⟨rfl, ?_⟩
  go_grown
def letsB (b x : Int) : Bool := x == 0 || decide (x < b)
theorem lets_any (b x : Int) (w : World) : Calls Tryd.prog 75 #[.int .i64 b, .int .i64 x] w fun e w' => e = .returned (.bool (letsB b x)) ∧ Below w.heap.size w w' := by
  unfold letsB
  by_cases h : x = 0
  · have h1 : ((x : Int) == 0) = true := by simp [h]
    go_enter Tryd.func75, Tryd.ntmps75
    go_wp2_with fail
    go_ret
    exact ⟨ret_bool (by simp [h]), Below.refl _ _⟩
  · have h1 : ((x : Int) == 0) = false := by simp [h]
    go_enter Tryd.func75, Tryd.ntmps75
    go_wp2_with fail
    go_ret
    exact ⟨ret_bool (by simp [h]), Below.refl _ _⟩
def letsAB (m : Bool) (b a : Int) : Bool := if m then a == 1 || a == 2 || a == 4 else letsB b a
theorem letsA_any (s : ByteArray) (x1 x2 x4 x5 : Int) (x3 x6 x7 : Bool) (a : Int) (h0 : 0 ≤ a) (h1 : a ≤ 255) (w : World) :
    Calls Tryd.prog 74 #[.agg #[.string s, .int .i64 x1, .int .i64 x2, .bool x3, .int .i64 x4, .int .i64 x5, .bool x6, .bool x7], .int .u8 a] w fun e w' => e = .returned (.bool (letsAB x3 x4 a)) ∧ Below w.heap.size w w' := by
  cases x3
  · go_enter Tryd.func74, Tryd.ntmps74
    go_wp2_with fail
    refine (lets_any x4 a _).mono ?_
    rintro e w' ⟨rfl, hb⟩
    go_wp2_with fail
    go_ret
    refine ⟨rfl, Below.trans ?_ (hb.mono ?_)⟩ <;> go_grown
  · have t1 : (a == 1) = true ∨ (a == 1) = false := by cases (a == 1) <;> simp
    have t2 : (a == 2) = true ∨ (a == 2) = false := by cases (a == 2) <;> simp
    rcases t1 with t1 | t1 <;> rcases t2 with t2 | t2
    all_goals
      go_enter Tryd.func74, Tryd.ntmps74
      go_wp2_with fail
      go_ret
      refine ⟨ret_bool (by simp [letsAB, t1, t2]), ?_⟩
      go_grown
theorem fd1 (x0 : ByteArray) (x1 x2 x4 x5 : Int) (x3 x6 x7 : Bool) (w : World) : (Instr.field 111 (.agg #[.string x0, .int .i64 x1, .int .i64 x2, .bool x3, .int .i64 x4, .int .i64 x5, .bool x6, .bool x7]) 1).run Tryd.prog w = .ok (.int .i64 x1) w := by kernel_rfl
theorem fd2 (x0 : ByteArray) (x1 x2 x4 x5 : Int) (x3 x6 x7 : Bool) (w : World) : (Instr.field 111 (.agg #[.string x0, .int .i64 x1, .int .i64 x2, .bool x3, .int .i64 x4, .int .i64 x5, .bool x6, .bool x7]) 2).run Tryd.prog w = .ok (.int .i64 x2) w := by kernel_rfl
theorem fd7 (x0 : ByteArray) (x1 x2 x4 x5 : Int) (x3 x6 x7 : Bool) (w : World) : (Instr.field 111 (.agg #[.string x0, .int .i64 x1, .int .i64 x2, .bool x3, .int .i64 x4, .int .i64 x5, .bool x6, .bool x7]) 7).run Tryd.prog w = .ok (.bool x7) w := by kernel_rfl
theorem cells8 {X : World} {V : Nat} {v0 v1 v2 v3 v4 v5 v6 v7 : Value} {t : TypeId} {fr : Nat × Nat} (h : X.heap[V]? = some (.cells #[v0, v1, v2, v3, v4, v5, v6, v7] t fr)) :
    X.cell? ⟨V, 0, none⟩ = some v0 ∧ X.cell? ⟨V, 1, none⟩ = some v1 ∧ X.cell? ⟨V, 2, none⟩ = some v2 ∧ X.cell? ⟨V, 3, none⟩ = some v3 ∧ X.cell? ⟨V, 4, none⟩ = some v4 ∧ X.cell? ⟨V, 5, none⟩ = some v5 ∧ X.cell? ⟨V, 6, none⟩ = some v6 ∧ X.cell? ⟨V, 7, none⟩ = some v7 :=
  ⟨cells_at h 0, cells_at h 1, cells_at h 2, cells_at h 3, cells_at h 4, cells_at h 5, cells_at h 6, cells_at h 7⟩
/-! ### In numbers -/
def mayK (i : Iv) : Bool := isS (sB (nm i.op)) && letsAB (isM i.op) (bAI i.op) i.a && letsB (bBI i.op) i.b && (nCI i.op || i.c == 0)
theorem isS_eq (l : List UInt8) : isS (sB l) = !l.isEmpty := by
  unfold isS
  rw [Lib.toList_data, sB_list]
theorem nm_fin2 : ∀ p : Fin 28, (!(nm (p.val : Nat)).isEmpty) = decide (1 ≤ p.val) := by decide +kernel
theorem isS_nm {op : Int} (h : 0 ≤ op) : isS (sB (nm op)) = (decide (1 ≤ op) && decide (op ≤ 27)) := by
  obtain ⟨n, rfl⟩ := Int.eq_ofNat_of_zero_le h
  rw [isS_eq]
  by_cases hn : n < 28
  · rw [nm_fin2 ⟨n, hn⟩, Bool.eq_iff_iff]; simp; omega
  · rw [show nm (n : Int) = [] from getD_far _ _ _ (by simp [names]; omega), Bool.eq_iff_iff]; simp; omega
theorem mayK_eq {i : Iv} (h : i.wf) : mayK i = mayI i := by
  obtain ⟨⟨h1, h2⟩, ⟨h3, h4⟩, ⟨h5, h6⟩, ⟨h7, h8⟩⟩ := h
  unfold mayK
  rw [isS_nm h1]
  unfold mayI letsAB letsB bAI bBI nCI
  by_cases c1 : isC i.op = true
  · have c2 : isM i.op = false := by unfold isM isC at *; simp at *; omega
    have c3 : isAB i.op = false := by unfold isAB isC at *; simp at *; omega
    have c4 : isA i.op = false := by unfold isA isC at *; simp at *; omega
    have c5 : 1 ≤ i.op ∧ i.op ≤ 27 := by unfold isC at *; simp at *; omega
    simp only [c1, c2, c3, c4, c5]
    rw [Bool.eq_iff_iff]; simp; omega
  · simp only [Bool.not_eq_true] at c1
    by_cases c2 : isM i.op = true
    · have c3 : isAB i.op = false := by unfold isAB isM at *; simp at *; omega
      have c4 : isA i.op = false := by unfold isA isM at *; simp at *; omega
      have c5 : 1 ≤ i.op ∧ i.op ≤ 27 := by unfold isM at *; simp at *; omega
      simp only [c1, c2, c3, c4, c5]
      rw [Bool.eq_iff_iff]; simp; omega
    · simp only [Bool.not_eq_true] at c2
      by_cases c3 : isAB i.op = true
      · have c4 : isA i.op = false := by unfold isA isAB at *; simp at *; omega
        have c5 : 1 ≤ i.op ∧ i.op ≤ 27 := by unfold isAB at *; simp at *; omega
        simp only [c1, c2, c3, c4, c5]
        rw [Bool.eq_iff_iff]; simp; omega
      · simp only [Bool.not_eq_true] at c3
        by_cases c4 : isA i.op = true
        · have c5 : 1 ≤ i.op ∧ i.op ≤ 27 := by unfold isA at *; simp at *; omega
          simp only [c1, c2, c3, c4, c5]
          rw [Bool.eq_iff_iff]; simp; omega
        · simp only [Bool.not_eq_true] at c4
          simp only [c1, c2, c3, c4]
          rw [Bool.eq_iff_iff]; simp; omega
/-! ### May -/
set_option maxHeartbeats 3200000 in
theorem may_any (i : Iv) (h : i.wf) (w : World) (hT : Tabs w) : Calls Tryd.prog 66 #[iv i] w fun e w' => e = .returned (.bool (mayI i)) ∧ Below w.heap.size w w' := by
  have hm := mayK_eq h
  unfold mayK at hm
  obtain ⟨⟨h1, h2⟩, ⟨h3, h4⟩, ⟨h5, h6⟩, ⟨h7, h8⟩⟩ := h
  have hk := Lib.hid (fun W (hb : Below w.heap.size w W) => kind_any i.op h1 h2 W (hT.below hb (Nat.le_refl _)))
  have hI := Lib.hid (fun W => is_any (sB (nm i.op)) (takesI i.op) (givesI i.op) (bAI i.op) (bBI i.op) (isM i.op) (nCI i.op) (jumpsI i.op) W)
  have hA := Lib.hid (fun W => letsA_any (sB (nm i.op)) (takesI i.op) (givesI i.op) (bAI i.op) (bBI i.op) (isM i.op) (nCI i.op) (jumpsI i.op) i.a h3 h4 W)
  have hL := Lib.hid (fun W => lets_any (bBI i.op) i.b W)
  clear hT
  unfold kindV kindA at hk
  unfold iv
  generalize mayI i = m at *
  obtain ⟨op, a, b, c⟩ := i
  simp only at *
  generalize isS (sB (nm op)) = s1 at *
  generalize letsAB (isM op) (bAI op) a = s2 at *
  generalize letsB (bBI op) b = s3 at *
  generalize sB (nm op) = x0 at *
  generalize takesI op = x1 at *
  generalize givesI op = x2 at *
  generalize isM op = x3 at *
  generalize bAI op = x4 at *
  generalize bBI op = x5 at *
  generalize nCI op = x6 at *
  generalize jumpsI op = x7 at *
  subst hm
  go_enter Tryd.func66, Tryd.ntmps66
  go_wp2_with fail
  refine (hk.out _ (by go_grown)).mono ?_
  rintro e w1 ⟨rfl, hb⟩
  go_wp2_with fail
  have HX : Hid ((w1.alloc (.cells #[.string x0, .int .i64 x1, .int .i64 x2, .bool x3, .int .i64 x4, .int .i64 x5, .bool x6, .bool x7] 111)).heap[w.heap.size]? = some (.cells #[.int .u8 op, .int .u8 a, .int .u16 b, .int .u32 c] 55)) := by
    show _ = _
    rw [Below.heap_alloc _ _ _ (by have := hb.size; simp at this; omega), hb.block _ (by simp), alloc_new]
  have HY : Hid ((w1.alloc (.cells #[.string x0, .int .i64 x1, .int .i64 x2, .bool x3, .int .i64 x4, .int .i64 x5, .bool x6, .bool x7] 111)).heap[w1.heap.size]? = some (.cells #[.string x0, .int .i64 x1, .int .i64 x2, .bool x3, .int .i64 x4, .int .i64 x5, .bool x6, .bool x7] 111)) := by
    show _ = _
    rw [alloc_new]
  have HB : Hid (Below w.heap.size w (w1.alloc (.cells #[.string x0, .int .i64 x1, .int .i64 x2, .bool x3, .int .i64 x4, .int .i64 x5, .bool x6, .bool x7] 111))) := by
    show Below _ _ _
    have := hb.size
    simp at this
    refine Below.alloc (Below.trans (Below.alloc (Below.refl _ _) (Nat.le_refl _) _) (hb.mono (by simp))) (by omega) _
  generalize w1.alloc (.cells #[.string x0, .int .i64 x1, .int .i64 x2, .bool x3, .int .i64 x4, .int .i64 x5, .bool x6, .bool x7] 111) = W3 at *
  generalize w1.heap.size = V1 at *
  obtain ⟨V, hV⟩ : ∃ V, w.heap.size = V := ⟨_, rfl⟩
  rw [hV] at HX HB ⊢
  have hle : V ≤ W3.heap.size := Nat.le_of_lt (lt_of_block HX.out)
  clear hb w1 hk
  refine (hI.out _).mono ?_
  rintro e w2 ⟨rfl, hb2⟩
  obtain ⟨y0, y1, y2, y3⟩ := cells4 ((hb2.block _ (lt_of_block HX.out)).trans HX.out)
  obtain ⟨z0, z1, z2, z3, z4, z5, z6, z7⟩ := cells8 ((hb2.block _ (lt_of_block HY.out)).trans HY.out)
  have HB2 : Hid (Below V w w2) := HB.out.trans (hb2.mono hle)
  cases s1
  · go_wp2_with fail
    go_ret
    exact ⟨rfl, by rw [hV]; exact HB2.out⟩
  go_wp2_with fail
  refine (hA.out _).mono ?_
  rintro e w4 ⟨rfl, hb4⟩
  have hle2 : W3.heap.size ≤ w2.heap.size := hb2.size
  obtain ⟨p0, p1, p2, p3⟩ := cells4 (((hb2.trans (hb4.mono hle2)).block _ (lt_of_block HX.out)).trans HX.out)
  obtain ⟨q0, q1, q2, q3, q4, q5, q6, q7⟩ := cells8 (((hb2.trans (hb4.mono hle2)).block _ (lt_of_block HY.out)).trans HY.out)
  have HB4 : Hid (Below V w w4) := HB2.out.trans (hb4.mono (by omega))
  clear y0 y1 y2 y3 z0 z1 z2 z3 z4 z5 z6 z7
  cases s2
  · go_wp2_with fail
    go_ret
    exact ⟨rfl, by rw [hV]; exact HB4.out⟩
  go_wp2_with fail
  refine (hL.out _).mono ?_
  rintro e w5 ⟨rfl, hb5⟩
  have hle4 : W3.heap.size ≤ w4.heap.size := Nat.le_trans hle2 hb4.size
  have hb35 := (hb2.trans (hb4.mono hle2)).trans (hb5.mono hle4)
  obtain ⟨r0, r1, r2, r3⟩ := cells4 ((hb35.block _ (lt_of_block HX.out)).trans HX.out)
  obtain ⟨s0, s1, s2, s4, s5, s6, s7, s8⟩ := cells8 ((hb35.block _ (lt_of_block HY.out)).trans HY.out)
  have HB5 : Hid (Below V w w5) := HB4.out.trans (hb5.mono (by omega))
  clear p0 p1 p2 p3 q0 q1 q2 q3 q4 q5 q6 q7
  cases s3
  · go_wp2_with fail
    go_ret
    exact ⟨rfl, by rw [hV]; exact HB5.out⟩
  cases x6
  · go_wp2_with fail
    go_ret
    exact ⟨ret_bool (by simp), by rw [hV]; exact HB5.out⟩
  · go_wp2_with fail
    go_ret
    exact ⟨rfl, by rw [hV]; exact HB5.out⟩
end Isa
end Go.Proofs.YtjoiogdckbaeaaaDoor
