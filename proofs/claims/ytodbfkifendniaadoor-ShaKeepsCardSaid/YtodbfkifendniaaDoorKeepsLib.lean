/- What ShaKeeps wants: sums in worlds with new rows; stores into new variables. -/
import Derived.Test.YtodbfkifendniaaDoorHmacConv
import Derived.Test.YtodbfkifendniaaDoorPostsTail
namespace Go.Proofs.YtodbfkifendniaaDoor
open Go.ChangeShapes Go.WideShapes Go.ChangeAt Go.RowKit
namespace Sha
theorem prow_row2 {X : World} {b : Nat} {a a' : Option Addr} {m c m' c' : Nat} {l l' : List Int} (hr : X.heap[b]? = some (.cells #[.slice a m c, .slice a' m' c'] 22 (0, 0))) (h1 : m ≤ c) (h2 : c ≤ 9223372036854775807) (h : SRow (fun _ => False) X a m l) (h1' : m' ≤ c') (h2' : c' ≤ 9223372036854775807) (h' : SRow (fun _ => False) X a' m' l') : PRow X (some ⟨b, 0, none⟩) 2 [l, l'] := by
  refine ⟨rfl, Or.inr ⟨b, 0, rfl, fun i hi => ?_⟩⟩
  rcases i with _ | _ | i
  · exact ⟨a, m, c, by rw [cell_of_row _ _ _ _ _ _ hr]; rfl, h1, h2, h⟩
  · exact ⟨a', m', c', by rw [cell_of_row _ _ _ _ _ _ hr]; rfl, h1', h2', h'⟩
  · omega
theorem sum_one {X : World} {b : Nat} {a : Option Addr} {m c : Nat} {l : List Int} (hR : Roots X) (hS : SRow (fun _ => False) X a m l) (h1 : m ≤ c) (h2 : c ≤ 9223372036854775807) (hl : m ≤ 100000) (hr : X.heap[b]? = some (.cells #[.slice a m c] 22 (0, 0))) :
    Calls Tryd.prog 11 #[.slice (some ⟨b, 0, none⟩) 1 1] X fun e Y => e = .returned (.agg (ints .u8 (sum l))) ∧ Posts.Ext X Y := by
  refine (sum_any [l] _ 1 1 X (by omega) (by have := hS.1; simp; omega) hR (prow_row1 hr h1 h2 hS)).mono ?_
  rintro e Y ⟨rfl, hb⟩
  exact ⟨by simp, hb⟩
theorem sum_two {X : World} {b : Nat} {a a' : Option Addr} {m c m' c' : Nat} {l l' t : List Int} (hR : Roots X) (hS : SRow (fun _ => False) X a m l) (h1 : m ≤ c) (h2 : c ≤ 9223372036854775807) (hS' : SRow (fun _ => False) X a' m' l') (h1' : m' ≤ c') (h2' : c' ≤ 9223372036854775807) (hl : m ≤ 100000) (hl' : m' ≤ 100000) (ht : l ++ l' = t)
    (hr : X.heap[b]? = some (.cells #[.slice a m c, .slice a' m' c'] 22 (0, 0))) :
    Calls Tryd.prog 11 #[.slice (some ⟨b, 0, none⟩) 2 2] X fun e Y => e = .returned (.agg (ints .u8 (sum t))) ∧ Posts.Ext X Y := by
  refine (sum_any [l, l'] _ 2 2 X (by omega) (by have := hS.1; have := hS'.1; simp; omega) hR (prow_row2 hr h1 h2 hS h1' h2' hS')).mono ?_
  rintro e Y ⟨rfl, hb⟩
  exact ⟨by rw [← ht]; simp, hb⟩
/-- the sum of a row that was made -/
theorem sum_made {X : World} {u : Value} {l : List Int} (hR : Roots X) (ht : rowP l u X) (hl : l.length ≤ 100000) :
    ∃ b, u = .slice (some ⟨b, 0, none⟩) 1 1 ∧ Calls Tryd.prog 11 #[.slice (some ⟨b, 0, none⟩) 1 1] X fun e Y => e = .returned (.agg (ints .u8 (sum l))) ∧ Posts.Ext X Y := by
  obtain ⟨b, ta, m, c, rfl, t0, t1, t2, t3⟩ := ht
  exact ⟨b, rfl, sum_one hR t3 t1 t2 (by have := t3.1; omega) t0⟩
/-- a new variable for a digest -/
def ptrRow (B : Nat) : Value → World → Prop := fun v X => ∃ g, v = .pointer (some ⟨g, 0, none⟩) ∧ X.heap[g]? = some (.cells #[Value.int IntKind.u8 0, Value.int IntKind.u8 0, Value.int IntKind.u8 0, Value.int IntKind.u8 0, Value.int IntKind.u8 0, Value.int IntKind.u8 0, Value.int IntKind.u8 0, Value.int IntKind.u8 0, Value.int IntKind.u8 0, Value.int IntKind.u8 0, Value.int IntKind.u8 0, Value.int IntKind.u8 0, Value.int IntKind.u8 0, Value.int IntKind.u8 0, Value.int IntKind.u8 0, Value.int IntKind.u8 0, Value.int IntKind.u8 0, Value.int IntKind.u8 0, Value.int IntKind.u8 0, Value.int IntKind.u8 0, Value.int IntKind.u8 0, Value.int IntKind.u8 0, Value.int IntKind.u8 0, Value.int IntKind.u8 0, Value.int IntKind.u8 0, Value.int IntKind.u8 0, Value.int IntKind.u8 0, Value.int IntKind.u8 0, Value.int IntKind.u8 0, Value.int IntKind.u8 0, Value.int IntKind.u8 0, Value.int IntKind.u8 0] 25 (0, 0)) ∧ B ≤ g
theorem ptrRow_stable (B : Nat) : Posts.Stable (ptrRow B) := by
  rintro v X Y ⟨g, rfl, h, hB⟩ hE
  exact ⟨g, rfl, R_below hE h, hB⟩
/-- two variables are not one -/
structure Two67 (a : Act) (X : World) : Prop where
  l6 : ∀ g, a.tmps.getD 6 undef = .pointer (some ⟨g, 0, none⟩) → g < X.heap.size
  l7 : ∀ g, a.tmps.getD 7 undef = .pointer (some ⟨g, 0, none⟩) → g < X.heap.size
  ne : ∀ g, a.tmps.getD 6 undef = .pointer (some ⟨g, 0, none⟩) → a.tmps.getD 7 undef = .pointer (some ⟨g, 0, none⟩) → False
theorem getD_put {a : Act} {d t : Tmp} {v : Value} (h : d ≠ t) : (a.put (some d) v).tmps.getD t undef = a.tmps.getD t undef := by
  simp [Act.put, Array.getElem?_setIfInBounds_ne h]
theorem Two67.keep {a : Act} {X Y : World} (h : Two67 a X) (hE : Posts.Ext X Y) {d : Tmp} (h6 : d ≠ 6) (h7 : d ≠ 7) (v : Value) : Two67 (a.put (some d) v) Y := by
  have hs := hE.size
  refine ⟨fun g hg => ?_, fun g hg => ?_, fun g hg hg' => ?_⟩
  · rw [getD_put h6] at hg; have := h.l6 g hg; omega
  · rw [getD_put h7] at hg; have := h.l7 g hg; omega
  · rw [getD_put h6] at hg; rw [getD_put h7] at hg'; exact h.ne g hg hg'
theorem getD_self {a : Act} {d : Tmp} {v : Value} (h : d < a.tmps.size) : (a.put (some d) v).tmps.getD d undef = v := by simp [Act.put, h]
theorem Two67.put6 {a : Act} {X : World} (h : Two67 a X) (hs : 7 < a.tmps.size) (o : Obj) : Two67 (a.put (some 6) (.pointer (some ⟨X.heap.size, 0, none⟩))) (X.alloc o) := by
  have e6 := getD_self (a := a) (d := 6) (v := .pointer (some ⟨X.heap.size, 0, none⟩)) (Nat.lt_of_le_of_lt (by decide) hs)
  have e7 := getD_put (a := a) (d := 6) (t := 7) (v := .pointer (some ⟨X.heap.size, 0, none⟩)) (by decide)
  refine ⟨fun g hg => ?_, fun g hg => ?_, fun g hg hg' => ?_⟩
  · rw [e6] at hg; simp at hg; subst hg; simp
  · rw [e7] at hg; have := h.l7 g hg; simp; omega
  · rw [e6] at hg; simp at hg; subst hg; rw [e7] at hg'; have := h.l7 _ hg'; omega
theorem Two67.put7 {a : Act} {X : World} (h : Two67 a X) (hs : 7 < a.tmps.size) (o : Obj) : Two67 (a.put (some 7) (.pointer (some ⟨X.heap.size, 0, none⟩))) (X.alloc o) := by
  have e7 := getD_self (a := a) (d := 7) (v := .pointer (some ⟨X.heap.size, 0, none⟩)) (Nat.lt_of_le_of_lt (by decide) hs)
  have e6 := getD_put (a := a) (d := 7) (t := 6) (v := .pointer (some ⟨X.heap.size, 0, none⟩)) (by decide)
  refine ⟨fun g hg => ?_, fun g hg => ?_, fun g hg hg' => ?_⟩
  · rw [e6] at hg; have := h.l6 g hg; simp; omega
  · rw [e7] at hg; simp at hg; subst hg; simp
  · rw [e7] at hg'; simp at hg'; subst hg'; rw [e6] at hg; have := h.l6 _ hg; omega
/-- an operation that yields a value, with what holds throughout -/
theorem op_valueJ {P : Program} {ops : Array Oper} {Q : Exit → Act → World → Prop} {Post : Nat → Value → World → Prop} {J : Act → World → Prop} {i : Nat} {o : Oper} {a : Act} {X Y : World} {v : Value} {d : Tmp} (hi : ops[i]? = some o) (hw : Region.wanted o (yielded ops a.tmps) = true) (hd : o.dst = some d) (hsz : d < a.tmps.size)
    (hrun : (execOp a.eval o).run P X = .ok (.value v) Y) (hP : Post i v Y) (hE : Posts.Ext X Y) (hJ : J (a.put (some d) v) Y) : wpOp P ops Q i (fun a' Y => ((∃ v, a' = a.put o.dst v) ∧ Post i (Posts.val o a') Y ∧ Posts.Ext X Y) ∧ J a' Y) a X := by
  unfold wpOp
  simp only [hi, hw, if_true]
  refine Or.inl ?_
  unfold Oper.wp
  rw [hrun]
  exact ⟨⟨⟨v, rfl⟩, by rw [Posts.val_self hd hsz]; exact hP, hE⟩, by rw [hd]; exact hJ⟩
/-- the store of a digest into a new variable, at the region's end -/
theorem op_store {ops : Array Oper} {Q : Exit → Act → World → Prop} {K : Act → World → Prop} {i : Nat} {o : Oper} {a : Act} {X : World} (hi : ops[i]? = some o) (hw : Region.wanted o (yielded ops a.tmps) = true) (hd : o.dst = none) (p x : Tmp) (ho : o.op = .store 25 (.tmp p) (.tmp x)) (g : Nat) (D : List Int) (hD : D.length = 32)
    (hp : a.eval (.tmp p) = .pointer (some ⟨g, 0, none⟩)) (hx : a.eval (.tmp x) = .agg (ints .u8 D)) (hg : X.heap[g]? = some (.cells #[Value.int IntKind.u8 0, Value.int IntKind.u8 0, Value.int IntKind.u8 0, Value.int IntKind.u8 0, Value.int IntKind.u8 0, Value.int IntKind.u8 0, Value.int IntKind.u8 0, Value.int IntKind.u8 0, Value.int IntKind.u8 0, Value.int IntKind.u8 0, Value.int IntKind.u8 0, Value.int IntKind.u8 0, Value.int IntKind.u8 0, Value.int IntKind.u8 0, Value.int IntKind.u8 0, Value.int IntKind.u8 0, Value.int IntKind.u8 0, Value.int IntKind.u8 0, Value.int IntKind.u8 0, Value.int IntKind.u8 0, Value.int IntKind.u8 0, Value.int IntKind.u8 0, Value.int IntKind.u8 0, Value.int IntKind.u8 0, Value.int IntKind.u8 0, Value.int IntKind.u8 0, Value.int IntKind.u8 0, Value.int IntKind.u8 0, Value.int IntKind.u8 0, Value.int IntKind.u8 0, Value.int IntKind.u8 0, Value.int IntKind.u8 0] 25 (0, 0))) (h : K a (X.setRow g (ints .u8 D))) : wpOp Tryd.prog ops Q i K a X := by
  have hst := store_result D hg hD
  have hz : (ints .u8 D).size = 32 := by rw [ints_size, hD]
  unfold wpOp
  simp only [hi, hw, if_true]
  refine Or.inl ?_
  unfold Oper.wp
  have hrun : (execOp a.eval o).run Tryd.prog X = .ok .skip (X.setRow g (ints .u8 D)) := by
    simp [execOp, ho, Posts.slot hp, Posts.slot hx, go_sem, hst, hz]
  rw [hrun]
  show K (a.put o.dst undef) _
  rw [hd]
  exact h
end Sha
end Go.Proofs.YtodbfkifendniaaDoor
