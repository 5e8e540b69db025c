/- Rows of strings, of instructions, of lines in memory; a row of the call's own grows by one. -/
import Derived.Test.YtgiocecpkhmhhaaGreatDoorAsmR3
import Derived.Test.YtgiocecpkhmhhaaGreatDoorIsaZeros
import Derived.Laws.AppendOwn
import Derived.Laws.OwnMore
import Derived.Deep.AppendLies
namespace Go.Proofs.YtgiocecpkhmhhaaGreatDoor
open Go.ChangeShapes Go.WideShapes Go.ChangeAt Go.RowKit
namespace Asm
open Isa
set_option linter.unusedVariables false
set_option linter.unusedSimpArgs false
/-- an append whose run is known -/
theorem wpList_append_run {P : Program} {ops : Array Oper} {rest : List Oper} {o : Oper} {a : Act} {w : World} {Q : Exit → Act → World → Prop} (hgd : o.guard = none) (s x : Operand) (t t' : TypeId)
    (ho : o.op = .call { callee := .builtin .append, args := #[s, x], argTypes := #[t, t'] }) (vs vx v : Value) (w1 : World) (ty : TypeId) (hty : o.type = ty) (hs : a.eval s = vs) (hx : a.eval x = vx) (hrun : (Builtin.append_ #[t, t'] ty #[vs, vx]).run P w = .ok v w1)
    (h : wpList P ops Q rest (a.put o.dst v) w1) : wpList P ops Q (o :: rest) a w := by
  refine wpList_plain hgd fun K hK => ?_
  subst hty
  unfold Oper.wp
  simp only [execOp, ho, resolve, invoke, builtin, Sem.run_bind, Sem.run_pure, Result.andThen_ok, List.map_toArray, List.map_cons, List.map_nil, hs, hx, hrun]
  exact hK _ _ h
/-- one more behind a row of the call's own -/
theorem app_el {ts e : TypeId} {z : Value} {sz bs : Nat} (hu : Tryz.prog.underlying ts = some (.slice e)) (hi : (Tryz.prog.info? e).map (fun i => (i.zero, i.size, i.bytes)) = some (some z, sz, bs)) (hzs : z.cells.size = sz) (hsz : 0 < sz) (hbs : bs ≤ 64)
    {w : World} {S : Nat} {v : Value} {n : Nat} {xs : List Value} (h : w.ownsRow S e sz v n xs) (hS : S ≤ w.heap.size) (hn : n ≤ 1000000000) (cs : List Value) (hc : cs.length = sz) (h1 : ∀ u ∈ cs, u.oneCell' = true) (ty : TypeId) :
    ∃ g cap w', (Builtin.append_ #[ts, ts] ty #[v, .slice (some ⟨w.heap.size, 0, none⟩) 1 1]).run Tryz.prog (w.alloc (.cells cs.toArray e)) = .ok (.slice (some ⟨g, 0, none⟩) (n + 1 : Nat) cap) w' ∧
      w'.ownsRow S e sz (.slice (some ⟨g, 0, none⟩) (n + 1 : Nat) cap) (n + 1) (xs ++ cs) ∧ Below S w w' := by
  obtain ⟨i0, hi, hz0, hz1, hz2⟩ := info_parts hi
  have hb : (n + 1) * bs ≤ (1000000001) * 64 := Nat.mul_le_mul (by omega) hbs
  have hlies := run_append_lies (P := Tryz.prog) (w.alloc (.cells cs.toArray e)) ts ty S e i0 z sz bs hu hi hz0 hz1 hz2 hzs hsz v n xs (h.alloc _) ⟨w.heap.size, 0, none⟩ 1 1 cs (by rw [hc]; omega)
    (World.news_of_block (heap_alloc_new w _)) h1 (by omega) (by unfold maxLen; omega) (by omega) (by simp; omega) _ rfl
  obtain ⟨g, cap, w', h1, h2, h3, h4, h5⟩ := hlies
  exact ⟨g, cap, w', h1, h2, Below.grown ((Below.refl S w).alloc hS _) h3 (by simp; omega) (fun j hj => (World.ownsRow.lt h j hj).1)⟩
theorem own_shape {w : World} {S : Nat} {e : TypeId} {sz : Nat} {v : Value} {n : Nat} {xs : List Value} (h : w.ownsRow S e sz v n xs) : ∃ a c, v = .slice a n c ∧ n ≤ c ∧ c ≤ maxLen := by
  rcases h.2 with ⟨rfl, rfl⟩ | ⟨g, cap, cur, rfl, _, _, h1, h2, _⟩
  · exact ⟨none, 0, rfl, Nat.le_refl _, Nat.zero_le _⟩
  · exact ⟨_, cap, rfl, h1, h2⟩
theorem own_below {w w' : World} {S : Nat} {e : TypeId} {sz : Nat} {v : Value} {n : Nat} {xs : List Value} (h : w.ownsRow S e sz v n xs) {B : Nat} (hb : Below B w w') (hB : w.heap.size ≤ B) : w'.ownsRow S e sz v n xs := by
  refine ⟨h.1, ?_⟩
  rcases h.2 with hn | ⟨g, cap, cur, rfl, hg, hgg, rest⟩
  · exact .inl hn
  · exact .inr ⟨g, cap, cur, rfl, hg, (hb.block g (Nat.lt_of_lt_of_le (Array.getElem?_eq_some_iff.1 hgg).1 hB)).trans hgg, rest⟩
/-! ### Strings -/
def strs (l : List (List UInt8)) : List Value := l.map fun s => .string (sB s)
/-- a slice with this address and length is this list of strings -/
def SRow (w : World) (a : Option Addr) (n : Nat) (l : List (List UInt8)) : Prop := l.length = n ∧ (n = 0 ∨ ∃ b off, a = some ⟨b, off, none⟩ ∧ ∀ j, j < n → w.cell? ⟨b, off + j, none⟩ = some (.string (sB (l.getD j []))))
theorem SRow.below {w w' : World} {a : Option Addr} {n : Nat} {l : List (List UInt8)} (h : SRow w a n l) {B : Nat} (hb : Below B w w') (hB : w.heap.size ≤ B) : SRow w' a n l := by
  obtain ⟨h1, h2⟩ := h
  refine ⟨h1, ?_⟩
  rcases h2 with h2 | ⟨b, off, rfl, hc⟩
  · exact .inl h2
  · exact .inr ⟨b, off, rfl, fun j hj => (World.cell?_of_block (hb.block b (Nat.lt_of_lt_of_le (World.block_lt_of_cell? _ _ (hc j hj)) hB))).trans (hc j hj)⟩
theorem own_strs {w : World} {S : Nat} {v : Value} {l : List (List UInt8)} (h : w.ownsRow S 9 1 v l.length (strs l)) : ∃ a c, v = .slice a l.length c ∧ l.length ≤ c ∧ c ≤ maxLen ∧ SRow w a l.length l := by
  obtain ⟨a, c, rfl, h1, h2⟩ := own_shape h
  refine ⟨a, c, rfl, h1, h2, rfl, ?_⟩
  by_cases h0 : l.length = 0
  · exact .inl h0
  · right
    rcases h.2 with ⟨e, _⟩ | ⟨g, cap, cur, e, _⟩
    · injection e with e1 e2; exact absurd e2 h0
    · injection e with e1 e2 e3
      subst e1
      refine ⟨g, 0, rfl, fun j hj => ?_⟩
      have := World.ownsRow.cells h (g := g) rfl j (.string (sB (l.getD j []))) (by unfold strs; rw [List.getElem?_map, List.getD_eq_getElem?_getD, List.getElem?_eq_getElem hj]; rfl)
      rwa [Lib.add_plain] at this
theorem infoS : (Tryz.prog.info? 9).map (fun i => (i.zero, i.size, i.bytes)) = some (some (.string ⟨#[]⟩), 1, 16) := by kernel_rfl
/-- a string more -/
theorem app_str {w : World} {S : Nat} {v : Value} {l : List (List UInt8)} (h : w.ownsRow S 9 1 v l.length (strs l)) (hS : S ≤ w.heap.size) (hn : l.length ≤ 1000000000) (s : List UInt8) (ty : TypeId) :
    ∃ g cap w', (Builtin.append_ #[48, 48] ty #[v, .slice (some ⟨w.heap.size, 0, none⟩) 1 1]).run Tryz.prog (w.alloc (.cells #[.string (sB s)] 9)) = .ok (.slice (some ⟨g, 0, none⟩) (l.length + 1 : Nat) cap) w' ∧
      w'.ownsRow S 9 1 (.slice (some ⟨g, 0, none⟩) (l.length + 1 : Nat) cap) (l ++ [s]).length (strs (l ++ [s])) ∧ Below S w w' := by
  obtain ⟨g, cap, w', h1, h2, h3⟩ := app_el Tryz.underlying48 infoS rfl (by decide) (by decide) h hS hn [.string (sB s)] rfl (by intro u hu; simp at hu; subst hu; rfl) ty
  have e : (l ++ [s]).length = l.length + 1 := by simp
  have e2 : strs (l ++ [s]) = strs l ++ [.string (sB s)] := by unfold strs; simp
  rw [e, e2]
  exact ⟨g, cap, w', h1, h2, h3⟩
end Asm
end Go.Proofs.YtgiocecpkhmhhaaGreatDoor
