/- For the layers above isa: small facts of memory; programs in memory; rows of the call's own, of numbers and of bools. (Made by tools/gen_code.py.) -/
import Derived.Test.YtjoiogdckbaeaaaDoorFlowM
import Derived.Test.YtjoiogdckbaeaaaDoorRows
import Derived.Test.YtjoiogdckbaeaaaDoorProg
import Derived.OpenShut
import Derived.WalkKit
import Derived.ProofKit
import Derived.ChangeArms
import Derived.LaidLaws
import Derived.Below
import Derived.OneCell
import Derived.LoopTactic
import Derived.Laws.Rows
import Derived.Lib.Hide
import Derived.Deep.QuietTactic
import Derived.Deep.RegionWith
import Derived.BigQuiet
import Derived.IntWalk
import Derived.RegionTactic
import Derived.Handy
import Derived.Laws.AppendOwn
import Derived.Laws.OwnMore
import Derived.Laws.MakeOwn
import Derived.Deep.AppendLies
import Derived.Deep.DeepCutAuto
import Derived.Deep.CutBlock
namespace Go.Proofs.YtjoiogdckbaeaaaDoor
open Go.ChangeShapes Go.WideShapes Go.ChangeAt Go.RowKit
namespace Isa
set_option linter.unusedVariables false
set_option linter.unusedSimpArgs false
/-- letters as a string -/
def sB (l : List UInt8) : ByteArray := ⟨l.toArray⟩
theorem sB_list (l : List UInt8) : (sB l).data.toList = l := by simp [sB]
theorem sB_inj {l m : List UInt8} (h : sB l = sB m) : l = m := by rw [← sB_list l, h, sB_list]
theorem sB_of {s : ByteArray} {l : List UInt8} (h : s.data.toList = l) : s = sB l := by subst h; cases s; simp [sB]
theorem ret_int {k : IntKind} {a b : Int} (h : a = b) : Ending.returned (.int k a) = .returned (.int k b) := by rw [h]
theorem ret_bool {a b : Bool} (h : a = b) : Ending.returned (.bool a) = .returned (.bool b) := by rw [h]
/-- an instruction as a value -/
def iv (i : Iv) : Value := .agg #[.int .u8 i.op, .int .u8 i.a, .int .u16 i.b, .int .u32 i.c]
theorem getD_far {α : Type} (l : List α) (d : α) (k : Nat) (h : l.length ≤ k) : l.getD k d = d := by
  rw [List.getD_eq_getElem?_getD, List.getElem?_eq_none h]; rfl
theorem lt_of_block {W : World} {k : Nat} {o : Obj} (h : W.heap[k]? = some o) : k < W.heap.size := (Array.getElem?_eq_some_iff.1 h).1
theorem alloc_new (w : World) (o : Obj) : (w.alloc o).heap[w.heap.size]? = some o := by
  show (w.heap.push o)[w.heap.size]? = some o
  simp
theorem cells_at {X : World} {V : Nat} {cs : Array Value} {t : TypeId} {fr : Nat × Nat} (h : X.heap[V]? = some (.cells cs t fr)) (k : Nat) : X.cell? ⟨V, k, none⟩ = cs[k]? := by
  simp [World.cell?, h]
theorem cells4 {X : World} {V : Nat} {v0 v1 v2 v3 : Value} {t : TypeId} {fr : Nat × Nat} (h : X.heap[V]? = some (.cells #[v0, v1, v2, v3] t fr)) :
    X.cell? ⟨V, 0, none⟩ = some v0 ∧ X.cell? ⟨V, 1, none⟩ = some v1 ∧ X.cell? ⟨V, 2, none⟩ = some v2 ∧ X.cell? ⟨V, 3, none⟩ = some v3 :=
  ⟨cells_at h 0, cells_at h 1, cells_at h 2, cells_at h 3⟩
theorem info_parts {P : Program} {t : TypeId} {z : Value} {s b : Nat} (h : (P.info? t).map (fun i => (i.zero, i.size, i.bytes)) = some (some z, s, b)) : ∃ i, P.info? t = some i ∧ i.zero = some z ∧ i.size = s ∧ i.bytes = b := by
  cases e : P.info? t with
  | none => rw [e] at h; simp at h
  | some i => rw [e] at h; simp at h; exact ⟨i, rfl, h.1, h.2.1, h.2.2⟩
/-- an append whose run is known -/
theorem wpList_append_run {P : Program} {ops : Array Oper} {rest : List Oper} {o : Oper} {a : Act} {w : World} {Q : Exit → Act → World → Prop} (hgd : o.guard = none) (s x : Operand) (t t' : TypeId)
    (ho : o.op = .call { callee := .builtin .append, args := #[s, x], argTypes := #[t, t'] }) (vs vx v : Value) (w1 : World) (ty : TypeId) (hty : o.type = ty) (hs : a.eval s = vs) (hx : a.eval x = vx) (hrun : (Builtin.append_ #[t, t'] ty #[vs, vx]).run P w = .ok v w1)
    (h : wpList P ops Q rest (a.put o.dst v) w1) : wpList P ops Q (o :: rest) a w := by
  refine wpList_plain hgd fun K hK => ?_
  subst hty
  unfold Oper.wp
  simp only [execOp, ho, resolve, invoke, builtin, Sem.run_bind, Sem.run_pure, Result.andThen_ok, List.map_toArray, List.map_cons, List.map_nil, hs, hx, hrun]
  exact hK _ _ h
/-- one more behind a row of the call's own -/
theorem app_el {ts e : TypeId} {z : Value} {sz bs : Nat} (hu : Tryd.prog.underlying ts = some (.slice e)) (hi : (Tryd.prog.info? e).map (fun i => (i.zero, i.size, i.bytes)) = some (some z, sz, bs)) (hzs : z.cells.size = sz) (hsz : 0 < sz) (hbs : bs ≤ 64)
    {w : World} {S : Nat} {v : Value} {n : Nat} {xs : List Value} (h : w.ownsRow S e sz v n xs) (hS : S ≤ w.heap.size) (hn : n ≤ 1000000000) (cs : List Value) (hc : cs.length = sz) (h1 : ∀ u ∈ cs, u.oneCell' = true) (ty : TypeId) :
    ∃ g cap w', (Builtin.append_ #[ts, ts] ty #[v, .slice (some ⟨w.heap.size, 0, none⟩) 1 1]).run Tryd.prog (w.alloc (.cells cs.toArray e)) = .ok (.slice (some ⟨g, 0, none⟩) (n + 1 : Nat) cap) w' ∧
      w'.ownsRow S e sz (.slice (some ⟨g, 0, none⟩) (n + 1 : Nat) cap) (n + 1) (xs ++ cs) ∧ Below S w w' := by
  obtain ⟨i0, hi, hz0, hz1, hz2⟩ := info_parts hi
  have hb : (n + 1) * bs ≤ (1000000001) * 64 := Nat.mul_le_mul (by omega) hbs
  have hlies := run_append_lies (P := Tryd.prog) (w.alloc (.cells cs.toArray e)) ts ty S e i0 z sz bs hu hi hz0 hz1 hz2 hzs hsz v n xs (h.alloc _) ⟨w.heap.size, 0, none⟩ 1 1 cs (by rw [hc]; omega)
    (World.news_of_block (heap_alloc_new w _)) h1 (by omega) (by unfold maxLen; omega) (by omega) (by simp; omega) _ rfl
  obtain ⟨g, cap, w', h1, h2, h3, h4, h5⟩ := hlies
  exact ⟨g, cap, w', h1, h2, Below.grown ((Below.refl S w).alloc hS _) h3 (by simp; omega) (fun j hj => (World.ownsRow.lt h j hj).1)⟩
theorem own_shape {w : World} {S : Nat} {e : TypeId} {sz : Nat} {v : Value} {n : Nat} {xs : List Value} (h : w.ownsRow S e sz v n xs) : ∃ a c, v = .slice a n c ∧ n ≤ c ∧ c ≤ maxLen := by
  rcases h.2 with ⟨rfl, rfl⟩ | ⟨g, cap, cur, rfl, _, _, h1, h2, _⟩
  · exact ⟨none, 0, rfl, Nat.le_refl _, Nat.zero_le _⟩
  · exact ⟨_, cap, rfl, h1, h2⟩
theorem own_below {w w' : World} {S : Nat} {e : TypeId} {sz : Nat} {v : Value} {n : Nat} {xs : List Value} (h : w.ownsRow S e sz v n xs) {B : Nat} (hb : Below B w w') (hB : w.heap.size ≤ B) : w'.ownsRow S e sz v n xs := by
  refine ⟨h.1, ?_⟩
  rcases h.2 with hn | ⟨g, cap, cur, rfl, hg, hgg, rest⟩
  · exact .inl hn
  · exact .inr ⟨g, cap, cur, rfl, hg, (hb.block g (Nat.lt_of_lt_of_le (Array.getElem?_eq_some_iff.1 hgg).1 hB)).trans hgg, rest⟩
theorem own_off {w : World} {S : Nat} {e : TypeId} {sz : Nat} {n : Nat} {xs ys : List Value} {v : Value} (h : w.ownsRow S e sz v n xs) (e1 : xs = ys) : w.ownsRow S e sz v n ys := e1 ▸ h
/-! ### Instructions -/
def encI (x : Iv) : List Value := [.int .u8 x.op, .int .u8 x.a, .int .u16 x.b, .int .u32 x.c]
structure IAt (w : World) (b off : Nat) (x : Iv) : Prop where
  c0 : w.cell? ⟨b, off, none⟩ = some (.int .u8 x.op)
  c1 : w.cell? ⟨b, off + 1, none⟩ = some (.int .u8 x.a)
  c2 : w.cell? ⟨b, off + 2, none⟩ = some (.int .u16 x.b)
  c3 : w.cell? ⟨b, off + 3, none⟩ = some (.int .u32 x.c)
theorem IAt.block {w w' : World} {b off : Nat} {x : Iv} (h : IAt w b off x) (hb : w'.heap[b]? = w.heap[b]?) : IAt w' b off x :=
  ⟨(World.cell?_of_block hb).trans h.c0, (World.cell?_of_block hb).trans h.c1, (World.cell?_of_block hb).trans h.c2, (World.cell?_of_block hb).trans h.c3⟩
theorem getD_mem {α : Type} {l : List α} {k : Nat} (d : α) (hk : k < l.length) : l.getD k d ∈ l := by
  rw [List.getD_eq_getElem?_getD, List.getElem?_eq_getElem hk]
  simp
/-- a slice with this address and length is this program -/
def IRow (w : World) (a : Option Addr) (n : Nat) (l : List Iv) : Prop := l.length = n ∧ (∀ x ∈ l, x.wf) ∧ (n = 0 ∨ ∃ b off, a = some ⟨b, off, none⟩ ∧ ∀ j, j < n → IAt w b (off + j * 4) (l.getD j iz))
theorem IRow.below {w w' : World} {a : Option Addr} {n : Nat} {l : List Iv} (h : IRow w a n l) {B : Nat} (hb : Below B w w') (hB : w.heap.size ≤ B) : IRow w' a n l := by
  obtain ⟨h1, h0, h2⟩ := h
  refine ⟨h1, h0, ?_⟩
  rcases h2 with h2 | ⟨b, off, rfl, hc⟩
  · exact .inl h2
  · exact .inr ⟨b, off, rfl, fun j hj => (hc j hj).block (hb.block b (Nat.lt_of_lt_of_le (World.block_lt_of_cell? _ _ (hc j hj).c0) hB))⟩
theorem IRow.at {w : World} {a : Option Addr} {n : Nat} {l : List Iv} (h : IRow w a n l) (k : Nat) (hk : k < n) : ∃ b off, a = some ⟨b, off, none⟩ ∧ IAt w b (off + k * 4) (l.getD k iz) ∧ (l.getD k iz).wf := by
  obtain ⟨h1, h0, h2⟩ := h
  obtain ⟨b, off, rfl, hc⟩ := h2.resolve_left (by omega)
  exact ⟨b, off, rfl, hc k hk, h0 _ (getD_mem _ (by omega))⟩
def encs (l : List Iv) : List Value := l.flatMap encI
theorem encs_at : ∀ (l : List Iv) (j t : Nat), j < l.length → t < 4 → (encs l)[j * 4 + t]? = (encI (l.getD j iz))[t]?
  | [], j, t, h, _ => by simp at h
  | x :: r, 0, t, _, ht => by
    have e : encs (x :: r) = encI x ++ encs r := by simp [encs]
    rw [e, List.getElem?_append_left (by simp [encI]; omega), List.getD_cons_zero, Nat.zero_mul, Nat.zero_add]
  | x :: r, j + 1, t, h, ht => by
    have e : encs (x :: r) = encI x ++ encs r := by simp [encs]
    rw [e, List.getElem?_append_right (by simp [encI]; omega), List.getD_cons_succ, ← encs_at r j t (by simpa using h) ht]
    congr 1
    simp [encI]
    omega
theorem own_irow {w : World} {S : Nat} {v : Value} {l : List Iv} (h : w.ownsRow S 55 4 v l.length (encs l)) (hw : ∀ x ∈ l, x.wf) : ∃ a c, v = .slice a l.length c ∧ l.length ≤ c ∧ c ≤ maxLen ∧ IRow w a l.length l := by
  obtain ⟨a, c, rfl, h1, h2⟩ := own_shape h
  refine ⟨a, c, rfl, h1, h2, rfl, hw, ?_⟩
  by_cases h0 : l.length = 0
  · exact .inl h0
  · right
    rcases h.2 with ⟨e, _⟩ | ⟨g, cap, cur, e, _⟩
    · injection e with e1 e2; exact absurd e2 h0
    · injection e with e1 e2 e3
      subst e1
      have key : ∀ j t v, j < l.length → t < 4 → (encI (l.getD j iz))[t]? = some v → w.cell? ⟨g, 0 + j * 4 + t, none⟩ = some v := fun j t v hj ht hv => by
        have := World.ownsRow.cells h (g := g) rfl (j * 4 + t) v (by rw [encs_at l j t hj ht]; exact hv)
        rw [WideShapes.add_plain] at this
        rw [← this]
        congr 2
        omega
      exact ⟨g, 0, rfl, fun j hj => ⟨key j 0 _ hj (by omega) rfl, key j 1 _ hj (by omega) rfl, key j 2 _ hj (by omega) rfl, key j 3 _ hj (by omega) rfl⟩⟩
/-! ### Numbers -/
def nums (l : List Nat) : List Value := l.map fun (n : Nat) => .int .i64 (n : Int)
/-- a slice with this address and length is these numbers -/
def NRow (w : World) (a : Option Addr) (n : Nat) (l : List Nat) : Prop := l.length = n ∧ (n = 0 ∨ ∃ b off, a = some ⟨b, off, none⟩ ∧ ∀ j, j < n → w.cell? ⟨b, off + j, none⟩ = some (.int .i64 ((l.getD j 0 : Nat) : Int)))
theorem NRow.below {w w' : World} {a : Option Addr} {n : Nat} {l : List Nat} (h : NRow w a n l) {B : Nat} (hb : Below B w w') (hB : w.heap.size ≤ B) : NRow w' a n l := by
  obtain ⟨h1, h2⟩ := h
  refine ⟨h1, ?_⟩
  rcases h2 with h2 | ⟨b, off, rfl, hc⟩
  · exact .inl h2
  · exact .inr ⟨b, off, rfl, fun j hj => (World.cell?_of_block (hb.block b (Nat.lt_of_lt_of_le (World.block_lt_of_cell? _ _ (hc j hj)) hB))).trans (hc j hj)⟩
theorem NRow.at {w : World} {a : Option Addr} {n : Nat} {l : List Nat} (h : NRow w a n l) (k : Nat) (hk : k < n) : ∃ b off, a = some ⟨b, off, none⟩ ∧ w.cell? ⟨b, off + k, none⟩ = some (.int .i64 ((l.getD k 0 : Nat) : Int)) := by
  obtain ⟨b, off, rfl, hc⟩ := h.2.resolve_left (by omega)
  exact ⟨b, off, rfl, hc k hk⟩
theorem own_nrow {w : World} {S : Nat} {v : Value} {l : List Nat} (h : w.ownsRow S 3 1 v l.length (nums l)) : ∃ a c, v = .slice a l.length c ∧ l.length ≤ c ∧ c ≤ maxLen ∧ NRow w a l.length l := by
  obtain ⟨a, c, rfl, h1, h2⟩ := own_shape h
  refine ⟨a, c, rfl, h1, h2, rfl, ?_⟩
  by_cases h0 : l.length = 0
  · exact .inl h0
  · right
    rcases h.2 with ⟨e, _⟩ | ⟨g, cap, cur, e, _⟩
    · injection e with e1 e2; exact absurd e2 h0
    · injection e with e1 e2 e3
      subst e1
      refine ⟨g, 0, rfl, fun j hj => ?_⟩
      have := World.ownsRow.cells h (g := g) rfl j (.int .i64 ((l.getD j 0 : Nat) : Int)) (by unfold nums; rw [List.getElem?_map, List.getElem?_eq_getElem hj]; simp [List.getD, hj])
      rw [WideShapes.add_plain] at this
      exact this
/-! ### Bools -/
def bls (l : List Bool) : List Value := l.map .bool
/-- block o is these bools -/
def BRow (w : World) (o : Nat) (l : List Bool) : Prop := w.heap[o]? = some (.cells (bls l).toArray 4 (0, 0))
theorem bls_at {l : List Bool} {k : Nat} (hk : k < l.length) : (bls l)[k]? = some (.bool (l.getD k false)) := by
  unfold bls
  rw [List.getElem?_map, List.getElem?_eq_getElem hk, List.getD_eq_getElem?_getD, List.getElem?_eq_getElem hk]
  rfl
theorem BRow.at {w : World} {o : Nat} {l : List Bool} (h : BRow w o l) {k : Nat} (hk : k < l.length) : w.cell? ⟨o, k, none⟩ = some (.bool (l.getD k false)) := by
  rw [cell_of_row _ _ _ _ _ _ h, List.getElem?_toArray]
  exact bls_at hk
theorem BRow.free {w : World} {o : Nat} {l : List Bool} (h : BRow w o l) (k : Nat) : w.frozen? ⟨o, k, none⟩ = false := by
  have h' : w.heap[o]? = some (.cells (bls l).toArray 4 (0, 0)) := h
  simp [World.frozen?, h']
theorem BRow.lt {w : World} {o : Nat} {l : List Bool} (h : BRow w o l) : o < w.heap.size := (Array.getElem?_eq_some_iff.1 h).1
theorem BRow.set {w : World} {o : Nat} {l : List Bool} (h : BRow w o l) (k : Nat) (u : Bool) : BRow (w.setCell ⟨o, k, none⟩ (.bool u)) o (l.set k u) := by
  have hlt := h.lt
  have h' : w.heap[o] = .cells (bls l).toArray 4 (0, 0) := by
    have h2 : w.heap[o]? = some (.cells (bls l).toArray 4 (0, 0)) := h
    simpa [Array.getElem?_eq_getElem hlt] using h2
  show (w.heap.modify o _)[o]? = _
  rw [Array.getElem?_eq_getElem (by simpa using hlt), Array.getElem_modify_self, h']
  have e : (bls l).toArray.setIfInBounds k (.bool u) = (bls (l.set k u)).toArray := by
    rw [List.setIfInBounds_toArray]
    unfold bls
    rw [List.map_set]
  show some (Obj.cells ((bls l).toArray.setIfInBounds k (.bool u)) 4 (0, 0)) = _
  rw [e]
theorem setCell_blk (w : World) (o o' k : Nat) (u : Value) (hne : o ≠ o') : (w.setCell ⟨o', k, none⟩ u).heap[o]? = w.heap[o]? := by
  show (w.heap.modify o' _)[o]? = _
  rw [Array.getElem?_modify, if_neg (fun e => hne e.symm)]
theorem BRow.other {w : World} {o o' : Nat} {l : List Bool} (h : BRow w o l) (hne : o ≠ o') (k : Nat) (u : Value) : BRow (w.setCell ⟨o', k, none⟩ u) o l := (setCell_blk w o o' k u hne).trans h
theorem BRow.below {w w' : World} {o : Nat} {l : List Bool} (h : BRow w o l) {B : Nat} (hb : Below B w w') (hB : w.heap.size ≤ B) : BRow w' o l := (hb.block o (Nat.lt_of_lt_of_le h.lt hB)).trans h
end Isa
end Go.Proofs.YtjoiogdckbaeaaaDoor
