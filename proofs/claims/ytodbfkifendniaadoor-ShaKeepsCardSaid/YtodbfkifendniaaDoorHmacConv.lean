/- Bytes to strings and back, as operations of a region. -/
import Derived.Test.YtodbfkifendniaaDoorHmacBytes
import Derived.Test.YtodbfkifendniaaDoorPosts
namespace Go.Proofs.YtodbfkifendniaaDoor
open Go.ChangeShapes Go.WideShapes Go.ChangeAt Go.RowKit
namespace Sha
/-- a slice with these bytes -/
def bytesP (l : List Int) : Value → World → Prop := fun v X => ∃ a m c, v = .slice a m c ∧ m ≤ c ∧ c ≤ 9223372036854775807 ∧ SRow (fun _ => False) X a m l
/-- a new row with one slice with these bytes -/
def rowP (l : List Int) : Value → World → Prop := fun v X => ∃ b a m c, v = .slice (some ⟨b, 0, none⟩) 1 1 ∧ X.heap[b]? = some (.cells #[.slice a m c] 22 (0, 0)) ∧ m ≤ c ∧ c ≤ 9223372036854775807 ∧ SRow (fun _ => False) X a m l
theorem bytesP_stable (l : List Int) : Posts.Stable (bytesP l) := by
  rintro v X Y ⟨a, m, c, rfl, h1, h2, h3⟩ hE
  exact ⟨a, m, c, rfl, h1, h2, h3.below' hE (Nat.le_refl _)⟩
theorem rowP_stable (l : List Int) : Posts.Stable (rowP l) := by
  rintro v X Y ⟨b, a, m, c, rfl, h0, h1, h2, h3⟩ hE
  exact ⟨b, a, m, c, rfl, R_below hE h0, h1, h2, h3.below' hE (Nat.le_refl _)⟩
/-- an operation that yields some value that will do -/
theorem op_ex {P : Program} {ops : Array Oper} {Q : Exit → Act → World → Prop} {Post : Nat → Value → World → Prop} {i : Nat} {o : Oper} {a : Act} {X : World} {d : Tmp} (hi : ops[i]? = some o) (hw : Region.wanted o (yielded ops a.tmps) = true) (hd : o.dst = some d) (hsz : d < a.tmps.size)
    (h : ∃ v Y, (execOp a.eval o).run P X = .ok (.value v) Y ∧ Post i v Y ∧ Posts.Ext X Y) : wpOp P ops Q i (fun a' Y => (∃ v, a' = a.put o.dst v) ∧ Post i (Posts.val o a') Y ∧ Posts.Ext X Y) a X := by
  obtain ⟨v, Y, h1, h2, h3⟩ := h
  exact Posts.op_value hi hw hd hsz h1 h2 h3
theorem conv_back (X : World) (l : List Int) (hby : ∀ z ∈ l, 0 ≤ z ∧ z ≤ 255) (hl : l.length ≤ 1000000) :
    ∃ c Y, (convert 9 22 (.string (strOfNums l))).run Tryd.prog X = .ok (.slice (some ⟨X.heap.size, 0, none⟩) (strOfNums l).size c) Y ∧ bytesP l (.slice (some ⟨X.heap.size, 0, none⟩) (strOfNums l).size c) Y ∧ Posts.Ext X Y := by
  have hs := strOfNums_size l
  refine ⟨_, _, run_bytes_of_string X 9 22 5 (strOfNums l) Tryd.underlying9 Tryd.underlying22 Tryd.underlying5, ⟨_, _, _, rfl, grownCap_ge _ _ _ _, ?_, row_back X.drew l _ _ hby⟩, (Posts.Ext.drew X).trans (Posts.Ext.alloc _ _)⟩
  have := grownCap_le_maxLen X (strOfNums l).size 0 5 (by rw [hs]; unfold maxLen; omega)
  unfold maxLen at this
  omega
/-- the operation -/
theorem conv_op {o : Oper} {ev : Operand → Value} (X : World) (x : Operand) (ho : o.op = .convert 9 22 x) (l : List Int) (hby : ∀ z ∈ l, 0 ≤ z ∧ z ≤ 255) (hl : l.length ≤ 1000000) (hx : ev x = .string (strOfNums l)) :
    ∃ v Y, (execOp ev o).run Tryd.prog X = .ok (.value v) Y ∧ bytesP l v Y ∧ Posts.Ext X Y := by
  obtain ⟨c, Y, h1, h2, h3⟩ := conv_back X l hby hl
  exact ⟨_, Y, by simp only [execOp, ho, hx, Sem.run_bind, h1, Result.andThen_ok, Sem.run_pure], h2, h3⟩
theorem conv_string_op {o : Oper} {ev : Operand → Value} (X : World) (x : Operand) (ho : o.op = .convert 22 9 x) (l : List Int) (a : Option Addr) (n cap : Nat) (hs : SRow (fun _ => False) X a n l) (hx : ev x = .slice a n cap) :
    (execOp ev o).run Tryd.prog X = .ok (.value (.string (strOfNums l))) X := by
  have h1 := row_string cap hs
  simp only [execOp, ho, hx, Sem.run_bind, h1, Result.andThen_ok, Sem.run_pure]
/-- a string's head -/
theorem head_string_op {o : Oper} {ev : Operand → Value} (X : World) (x y : Operand) (ho : o.op = .slice 9 x none (some y) none) (l : List Int) (m : Nat) (hm : m ≤ l.length) (hx : ev x = .string (strOfNums l)) (hy : ev y = .int .i64 (m : Int)) :
    (execOp ev o).run Tryd.prog X = .ok (.value (.string (strOfNums (l.take m)))) X := by
  have h1 : (m : Int) ≤ ((strOfNums l).size : Int) := by rw [strOfNums_size]; omega
  have h0 : (0 : Int) ≤ m := by omega
  rw [← str_take]
  simp [execOp, ho, hx, hy, go_sem, h0, h1]
/-- the call, key and text in rows of their own -/
theorem of_made {X : World} {v u : Value} {key text : List Int} (hR : Roots X) (hk : bytesP key v X) (hkl : key.length ≤ 100000) (ht : rowP text u X) (htl : text.length ≤ 100000) :
    ∃ ka n cap b, v = .slice ka n cap ∧ u = .slice (some ⟨b, 0, none⟩) 1 1 ∧ Calls Tryd.prog 13 #[.slice ka n cap, .slice (some ⟨b, 0, none⟩) 1 1] X fun e Y => e = .returned (.agg (ints .u8 (tag key text))) ∧ Posts.Ext X Y := by
  obtain ⟨ka, n, cap, rfl, k1, k2, k3⟩ := hk
  obtain ⟨b, ta, m, c, rfl, t0, t1, t2, t3⟩ := ht
  refine ⟨ka, n, cap, b, rfl, rfl, ?_⟩
  refine (of_any key [text] _ _ n cap 1 1 X hR k3 k1 k2 (by have := k3.1; omega) (prow_row1 t0 t1 t2 t3) (by omega) (by simp; omega)).mono ?_
  rintro e Y ⟨rfl, hb⟩
  exact ⟨by simp, hb⟩
end Sha
end Go.Proofs.YtodbfkifendniaaDoor
