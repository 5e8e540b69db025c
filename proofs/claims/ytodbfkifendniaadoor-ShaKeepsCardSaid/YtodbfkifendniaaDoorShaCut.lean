/- The cutter in memory: what it holds behind a text; a copy as one step of a region. -/
import Derived.Test.YtodbfkifendniaaDoorShaW4
import Derived.Laws.CopyOwn
import Derived.Deep.MidRow
namespace Go.Proofs.YtodbfkifendniaaDoor
open Go.ChangeShapes Go.WideShapes Go.ChangeAt Go.RowKit
namespace Sha
/-- bl with X laid over it from f on -/
def lay (bl X : List Int) (f : Nat) : List Int := bl.take f ++ X ++ bl.drop (f + X.length)
theorem lay_length (bl X : List Int) (f : Nat) (h : f + X.length ≤ bl.length) : (lay bl X f).length = bl.length := by simp [lay]; omega
theorem lay_byte (bl X : List Int) (f : Nat) (h1 : ∀ z ∈ bl, 0 ≤ z ∧ z ≤ 255) (h2 : ∀ z ∈ X, 0 ≤ z ∧ z ≤ 255) : ∀ z ∈ lay bl X f, 0 ≤ z ∧ z ≤ 255 := by
  intro z hz
  simp only [lay, List.mem_append] at hz
  rcases hz with (hz | hz) | hz
  · exact h1 z (List.mem_of_mem_take hz)
  · exact h2 z hz
  · exact h1 z (List.mem_of_mem_drop hz)
/-- the text that has come, as the cutter holds it -/
def Holds (T bl : List Int) : Prop := bl.length = 64 ∧ (∀ z ∈ bl, 0 ≤ z ∧ z ≤ 255) ∧ bl.take (T.length % 64) = T.drop (64 * (T.length / 64))
theorem holds_less (T bl X : List Int) (h : Holds T bl) (hX : ∀ z ∈ X, 0 ≤ z ∧ z ≤ 255) (hm : T.length % 64 + X.length < 64) :
    Holds (T ++ X) (lay bl X (T.length % 64)) ∧ (T ++ X).length % 64 = T.length % 64 + X.length ∧ (T ++ X).length / 64 = T.length / 64 := by
  obtain ⟨h1, h2, h3⟩ := h
  have e1 : (T ++ X).length % 64 = T.length % 64 + X.length := by simp; omega
  have e2 : (T ++ X).length / 64 = T.length / 64 := by simp; omega
  refine ⟨⟨by rw [lay_length _ _ _ (by omega)]; exact h1, lay_byte _ _ _ h2 hX, ?_⟩, e1, e2⟩
  rw [e1, e2, List.drop_append_of_le_length (by omega), ← h3]
  unfold lay
  rw [List.take_append_of_le_length (by simp; omega), List.take_of_length_le (by simp; omega)]
theorem holds_full (T bl X : List Int) (h : Holds T bl) (hX : ∀ z ∈ X, 0 ≤ z ∧ z ≤ 255) (hm : T.length % 64 + X.length = 64) :
    Holds (T ++ X) (lay bl X (T.length % 64)) ∧ (T ++ X).length % 64 = 0 ∧ (T ++ X).length / 64 = T.length / 64 + 1 ∧ eat H0 (T ++ X) (T.length / 64 + 1) = block (eat H0 T (T.length / 64)) (lay bl X (T.length % 64)) := by
  obtain ⟨h1, h2, h3⟩ := h
  have e1 : (T ++ X).length % 64 = 0 := by simp; omega
  have e2 : (T ++ X).length / 64 = T.length / 64 + 1 := by simp; omega
  have e3 : lay bl X (T.length % 64) = (T ++ X).drop (64 * (T.length / 64)) := by
    rw [List.drop_append_of_le_length (by omega), ← h3]
    unfold lay
    rw [List.drop_of_length_le (by omega), List.append_nil]
  refine ⟨⟨by rw [lay_length _ _ _ (by omega)]; exact h1, lay_byte _ _ _ h2 hX, ?_⟩, e1, e2, ?_⟩
  · rw [e1, e2, List.take_zero, List.drop_of_length_le (by simp; omega)]
  · simp only [eat]
    rw [eat_append _ _ _ _ (by omega), ← e3, List.take_of_length_le (by rw [lay_length _ _ _ (by omega)]; omega)]

/-- the cutter's cells -/
def cutL (fv : Value) (bl : List Int) (f sz : Int) : List Value := fv :: (bl.map (Value.int .u8) ++ [.int .i64 f, .int .u64 sz])
def CutRow (w : World) (cb : Nat) (fv : Value) (bl : List Int) (f sz : Int) : Prop := w.heap[cb]? = some (.cells (cutL fv bl f sz).toArray 44 (0, 0))
theorem cutL_length (fv : Value) (bl : List Int) (f sz : Int) (h : bl.length = 64) : (cutL fv bl f sz).length = 67 := by simp [cutL, h]
theorem CutRow.lt {w : World} {cb : Nat} {fv : Value} {bl : List Int} {f sz : Int} (h : CutRow w cb fv bl f sz) : cb < w.heap.size := lt_of_block h
theorem CutRow.free {w : World} {cb : Nat} {fv : Value} {bl : List Int} {f sz : Int} (h : CutRow w cb fv bl f sz) (i : Nat) : w.frozen? ⟨cb, i, none⟩ = false := row_free h
theorem CutRow.take {w : World} {cb : Nat} {fv : Value} {bl : List Int} {f sz : Int} (h : CutRow w cb fv bl f sz) : w.cell? ⟨cb, 0, none⟩ = some fv := by
  rw [cell_of_row _ _ _ _ _ _ h]; simp [cutL]
theorem CutRow.filled {w : World} {cb : Nat} {fv : Value} {bl : List Int} {f sz : Int} (h : CutRow w cb fv bl f sz) (hb : bl.length = 64) : w.cell? ⟨cb, 65, none⟩ = some (.int .i64 f) := by
  rw [cell_of_row _ _ _ _ _ _ h]; simp [cutL, hb]
theorem CutRow.size {w : World} {cb : Nat} {fv : Value} {bl : List Int} {f sz : Int} (h : CutRow w cb fv bl f sz) (hb : bl.length = 64) : w.cell? ⟨cb, 66, none⟩ = some (.int .u64 sz) := by
  rw [cell_of_row _ _ _ _ _ _ h]; simp [cutL, hb]
theorem CutRow.setFilled {w : World} {cb : Nat} {fv : Value} {bl : List Int} {f sz : Int} (h : CutRow w cb fv bl f sz) (hb : bl.length = 64) (g : Int) : CutRow (w.setCell ⟨cb, 65, none⟩ (.int .i64 g)) cb fv bl g sz := by
  unfold CutRow; rw [row_setCell h]
  congr 2
  simp [cutL, hb]
theorem CutRow.setSize {w : World} {cb : Nat} {fv : Value} {bl : List Int} {f sz : Int} (h : CutRow w cb fv bl f sz) (hb : bl.length = 64) (g : Int) : CutRow (w.setCell ⟨cb, 66, none⟩ (.int .u64 g)) cb fv bl f g := by
  unfold CutRow; rw [row_setCell h]
  congr 2
  simp [cutL, hb]
theorem CutRow.range {w : World} {cb : Nat} {fv : Value} {bl : List Int} {f sz : Int} (h : CutRow w cb fv bl f sz) : w.rangeAt cb 1 (bl.map (Value.int .u8)) := fun j v hv => by
  rw [cell_of_row _ _ _ _ _ _ h]
  have hj : j < (bl.map (Value.int .u8)).length := (List.getElem?_eq_some_iff.1 hv).1
  rw [List.getElem?_toArray, Nat.add_comm 1 j]
  show (fv :: (bl.map (Value.int .u8) ++ _))[j + 1]? = _
  rw [List.getElem?_cons_succ, List.getElem?_append_left hj, hv]
theorem cutL_copy (fv : Value) (bl X : List Int) (f sz : Int) (n : Nat) (hb : bl.length = 64) (h : n + X.length ≤ 64) :
    ((cutL fv bl f sz).toArray.toList.take (1 + n) ++ (X.map (Value.int .u8) ++ (cutL fv bl f sz).toArray.toList.drop (1 + n + (X.map (Value.int .u8)).length))) = cutL fv (lay bl X n) f sz := by
  unfold cutL lay
  rw [show 1 + n = n + 1 from by omega, List.length_map, show n + 1 + X.length = (n + X.length) + 1 from by omega]
  simp only [List.take_succ_cons, List.drop_succ_cons]
  rw [List.take_append_of_le_length (by simp; omega), List.drop_append_of_le_length (by simp; omega)]
  simp [List.map_take, List.map_drop]
theorem CutRow.copied {w : World} {cb : Nat} {fv : Value} {bl X : List Int} {f sz : Int} (h : CutRow w cb fv bl f sz) (n : Nat) (hb : bl.length = 64) (hn : n + X.length ≤ 64) :
    CutRow (w.setRow cb ((cutL fv bl f sz).toArray.toList.take (1 + n) ++ (X.map (Value.int .u8) ++ (cutL fv bl f sz).toArray.toList.drop (1 + n + (X.map (Value.int .u8)).length))).toArray) cb fv (lay bl X n) f sz := by
  unfold CutRow; rw [setRow_heap _ _ _ _ _ _ h, cutL_copy _ _ _ _ _ _ hb hn]
theorem Kept.setRow {p : Nat → Prop} {a w : World} (h : Kept p a w) {g : Nat} (hp : p g) (cs : Array Value) : Kept p a (w.setRow g cs) :=
  ⟨h.os, h.tape, h.output, by have := h.size; simpa [World.setRow] using this, fun k hk hn => by
    rw [setRow_other w g k cs (fun e => hn (e ▸ hp))]; exact h.block k hk hn⟩

/-- a copy of cells that are there into a row, as one step of a region that draws its order -/
theorem step_copy_row {P : Program} {ops : Array Oper} {o : Oper} {a : Act} {w : World} {K : Act → World → Prop} {Q : Exit → Act → World → Prop} {E : Prop} (hgd : o.guard = none) (d s : Operand) (dT sT : TypeId)
    (ho : o.op = .call { callee := .builtin .copy, args := #[d, s], argTypes := #[dT, sT] }) (elem : TypeId) (hu : P.underlying dT = some (.slice elem)) (hsz : (P.info? elem).map (·.size) = some 1)
    (g off dLen dCap : Nat) (ad : Addr) (sLen sCap : Nat) (hd : a.eval d = .slice (some ⟨g, off, none⟩) dLen dCap) (hs : a.eval s = .slice (some ad) sLen sCap)
    (cur : Array Value) (t : TypeId) (hg : w.heap[g]? = some (.cells cur t (0, 0))) (cs : List Value) (m : Nat) (hm : cs.length = m) (hn : m = Nat.min sLen dLen)
    (hsrc : ∀ j v, cs[j]? = some v → w.cell? (ad.add j) = some v) (hfit : off + m ≤ cur.size) (h1 : ∀ v ∈ cs, v.oneCell' = true)
    (h : K (a.put o.dst (goInt m)) (w.setRow g (cur.toList.take off ++ (cs ++ cur.toList.drop (off + cs.length))).toArray)) :
    if Region.wanted o (yielded ops a.tmps) = true then Oper.wp P o a w K Q else E := by
  subst hm
  have hw : Region.wanted o (yielded ops a.tmps) = true := by simp [Region.wanted, hgd]
  rw [if_pos hw]
  have hrun := run_copy_row (P := P) w dT sT o.type elem g off dLen dCap ad sLen sCap cur t cs hu hsz hg hn hsrc hfit h1
  unfold Oper.wp
  simp [execOp, ho, resolve, invoke, builtin, hd, hs, hrun, Result.andThen]
  exact h

/-- a slice with this address and length has these bytes, in no block that may be written -/
def SRow (p : Nat → Prop) (w : World) (a : Option Addr) (n : Nat) (l : List Int) : Prop :=
  l.length = n ∧ (∀ z ∈ l, 0 ≤ z ∧ z ≤ 255) ∧ (n = 0 ∨ ∃ b off, a = some ⟨b, off, none⟩ ∧ ¬ p b ∧ ∀ i, i < n → w.cell? ⟨b, off + i, none⟩ = some (.int .u8 (l.getD i 0)))
theorem SRow.kept {p : Nat → Prop} {w w' : World} {a : Option Addr} {n : Nat} {l : List Int} (h : SRow p w a n l) (hk : Kept p w w') : SRow p w' a n l := by
  obtain ⟨h1, h2, h3⟩ := h
  refine ⟨h1, h2, ?_⟩
  rcases h3 with h3 | ⟨b, off, rfl, hp, hc⟩
  · exact Or.inl h3
  · refine Or.inr ⟨b, off, rfl, hp, fun i hi => ?_⟩
    rw [← hc i hi]
    exact World.cell?_of_block (hk.block b (World.block_lt_of_cell? _ _ (hc i hi)) hp)
theorem SRow.imp {p q : Nat → Prop} {w : World} {a : Option Addr} {n : Nat} {l : List Int} (h : SRow p w a n l) (hq : ∀ k, k < w.heap.size → q k → p k) : SRow q w a n l := by
  obtain ⟨h1, h2, h3⟩ := h
  refine ⟨h1, h2, ?_⟩
  rcases h3 with h3 | ⟨b, off, rfl, hp, hc⟩
  · exact Or.inl h3
  · by_cases h0 : n = 0
    · exact Or.inl h0
    · exact Or.inr ⟨b, off, rfl, fun x => hp (hq b (World.block_lt_of_cell? _ _ (hc 0 (by omega))) x), hc⟩
end Sha
end Go.Proofs.YtodbfkifendniaaDoor
