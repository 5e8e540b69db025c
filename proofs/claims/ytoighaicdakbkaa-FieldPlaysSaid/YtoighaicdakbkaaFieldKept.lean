/- What a call leaves as it was; rows of words in memory. -/
import Derived.Test.YtoighaicdakbkaaRows
import Derived.Test.YtoighaicdakbkaaFieldMath
import Derived.WalkKit
import Derived.ProofKit
import Derived.OpenShut
import Derived.Below
import Derived.OneCell
import Derived.LoopTactic
import Derived.Laws.Rows
import Derived.Laws.CopyRow
import Derived.Laws.MakeOwn
import Derived.Laws.ShiftsVarLaws
import Derived.Lib.Hide
import Derived.Lib.SliceRun
import Derived.Deep.WholeRow
import Derived.Deep.QuietTactic
import Derived.Deep.RegionWith
import Derived.Deep.RegionHeld3
import Derived.RegionTactic
import Derived.Handy
import Derived.Deep.MidRow
import Derived.BigQuiet
import Derived.BigFrame
import Derived.IntWalk
import Derived.Outline
namespace Go.Proofs.Ytoighaicdakbkaa
open Go.ChangeShapes Go.WideShapes Go.ChangeAt Go.RowKit
namespace Fld
set_option linter.unusedVariables false
set_option linter.unusedSimpArgs false
/-- all blocks that were there are as they were, but those that may be written; no block has gone -/
structure Kept (p : Nat → Prop) (w w' : World) : Prop where
  os : w'.os = w.os
  tape : w'.tape = w.tape
  output : w'.output = w.output
  size : w.heap.size ≤ w'.heap.size
  block : ∀ k, k < w.heap.size → ¬ p k → w'.heap[k]? = w.heap[k]?
theorem Kept.refl (p : Nat → Prop) (w : World) : Kept p w w := ⟨rfl, rfl, rfl, Nat.le_refl _, fun _ _ _ => rfl⟩
theorem Kept.trans {p : Nat → Prop} {a b c : World} (h : Kept p a b) (k : Kept p b c) : Kept p a c :=
  ⟨k.os.trans h.os, k.tape.trans h.tape, k.output.trans h.output, Nat.le_trans h.size k.size, fun i hi hp => (k.block i (Nat.lt_of_lt_of_le hi h.size) hp).trans (h.block i hi hp)⟩
theorem Kept.mono {p q : Nat → Prop} {w w' : World} (h : Kept p w w') (hq : ∀ k, k < w.heap.size → p k → q k) : Kept q w w' := ⟨h.os, h.tape, h.output, h.size, fun k hk hp => h.block k hk (fun x => hp (hq k hk x))⟩
/-- one part behind the other, each with its own blocks -/
theorem Kept.trans' {p q : Nat → Prop} {a b c : World} (h : Kept p a b) (k : Kept q b c) (hq : ∀ i, i < a.heap.size → q i → p i) : Kept p a c :=
  ⟨k.os.trans h.os, k.tape.trans h.tape, k.output.trans h.output, Nat.le_trans h.size k.size, fun i hi hp => (k.block i (Nat.lt_of_lt_of_le hi h.size) (fun x => hp (hq i hi x))).trans (h.block i hi hp)⟩
theorem Kept.alloc {p : Nat → Prop} {a w : World} (h : Kept p a w) (o : Obj) : Kept p a (w.alloc o) :=
  h.trans ⟨rfl, rfl, rfl, by simp, fun k hk _ => Below.heap_alloc _ _ _ hk⟩
theorem Kept.setCell {p : Nat → Prop} {a w : World} (h : Kept p a w) {x : Addr} (hp : p x.block ∨ a.heap.size ≤ x.block) (u : Value) : Kept p a (w.setCell x u) :=
  ⟨h.os, h.tape, h.output, by have := h.size; simpa [World.setCell] using this, fun k hk hn => by
    rw [Below.heap_setCell _ _ _ _ (fun e => by rcases hp with hp | hp; exact hn (e ▸ hp); omega)]; exact h.block k hk hn⟩
theorem Kept.setRow {p : Nat → Prop} {a w : World} (h : Kept p a w) {g : Nat} (hp : p g ∨ a.heap.size ≤ g) (cs : Array Value) : Kept p a (w.setRow g cs) :=
  ⟨h.os, h.tape, h.output, by have := h.size; simpa using this, fun k hk hn => by
    rw [setRow_other _ _ _ _ (fun e => by rcases hp with hp | hp; exact hn (e ▸ hp); omega)]; exact h.block k hk hn⟩
theorem Kept.drew {p : Nat → Prop} {a w : World} (h : Kept p a w) : Kept p a w.drew := ⟨h.os, h.tape, h.output, h.size, h.block⟩
theorem Kept.of_below {p : Nat → Prop} {w w' : World} (h : Below w.heap.size w w') : Kept p w w' := ⟨h.os, h.tape, h.output, h.size, fun k hk _ => h.block k hk⟩
theorem Kept.behind {p : Nat → Prop} {w w1 w3 : World} (h : Kept p w w1) {B : Nat} (hb : Below B w1 w3) (hB : w.heap.size ≤ B) : Kept p w w3 := ⟨hb.os.trans h.os, hb.tape.trans h.tape, hb.output.trans h.output, Nat.le_trans h.size hb.size, fun k hk hp => (hb.block k (by omega)).trans (h.block k hk hp)⟩
theorem Kept.below {B : Nat} {w w' : World} (h : Below B w w') : Kept (fun k => B ≤ k) w w' := ⟨h.os, h.tape, h.output, h.size, fun k _ hp => h.block k (by omega)⟩
theorem Kept.toBelow {p : Nat → Prop} {w w' : World} (h : Kept p w w') {B : Nat} (hB : B ≤ w.heap.size) (hp : ∀ k, k < B → ¬ p k) : Below B w w' := ⟨h.os, h.tape, h.output, h.size, fun k hk => h.block k (by omega) (hp k hk)⟩
theorem Kept.cell {p : Nat → Prop} {w w' : World} (h : Kept p w w') {a : Addr} {v : Value} (hc : w.cell? a = some v) (hp : ¬ p a.block) : w'.cell? a = some v :=
  (World.cell?_of_block (h.block _ (World.block_lt_of_cell? _ _ hc) hp)).trans hc
theorem Kept.same {p : Nat → Prop} {w w' : World} (h : Kept p w w') {k : Nat} {o : Obj} (hc : w.heap[k]? = some o) (hp : ¬ p k) : w'.heap[k]? = some o :=
  (h.block k (Array.getElem?_eq_some_iff.1 hc).1 hp).trans hc
theorem lt_of_block {w : World} {g : Nat} {o : Obj} (h : w.heap[g]? = some o) : g < w.heap.size := (Array.getElem?_eq_some_iff.1 h).1
theorem below_alloc (w : World) (o : Obj) : Below w.heap.size w (w.alloc o) := (Below.refl _ _).alloc (Nat.le_refl _) _
/-- numbers as a row's cells -/
def nums (l : List Int) : List Value := l.map (Value.int .u32)
theorem nums_len (l : List Int) : (nums l).length = l.length := by simp [nums]
theorem nums_at (l : List Int) (i : Nat) (h : i < l.length) : (nums l)[i]? = some (.int .u32 (l.getD i 0)) := by simp [nums, h]
theorem nums_one (l : List Int) : ∀ v ∈ nums l, v.oneCell' = true := by
  intro v hv
  obtain ⟨i, _, rfl⟩ := List.mem_map.1 hv
  rfl
theorem row_setCell {w : World} {b j : Nat} {cs : Array Value} {t : TypeId} {fr : Nat × Nat} {u : Value} (h : w.heap[b]? = some (.cells cs t fr)) :
    (w.setCell ⟨b, j, none⟩ u).heap[b]? = some (.cells (cs.setIfInBounds j u) t fr) := by
  have hlt := lt_of_block h
  have h' : w.heap[b] = .cells cs t fr := by simpa [Array.getElem?_eq_getElem hlt] using h
  show (w.heap.modify b _)[b]? = _
  rw [Array.getElem?_eq_getElem (by simpa using hlt), Array.getElem_modify_self, h']
  rfl
theorem row_setCells {b : Nat} {t : TypeId} {fr : Nat × Nat} : ∀ (vs : List Value) (o : Nat) (w : World) (cs : Array Value), w.heap[b]? = some (.cells cs t fr) →
    ∃ cs', (w.setCells b o vs).heap[b]? = some (.cells cs' t fr) ∧ cs'.size = cs.size ∧ ∀ i, i < cs.size → cs'[i]? = if o ≤ i ∧ i < o + vs.length then vs[i - o]? else cs[i]?
  | [], o, w, cs, h => ⟨cs, h, rfl, fun i hi => by rw [if_neg (by simp only [List.length_nil]; omega)]⟩
  | v :: r, o, w, cs, h => by
    obtain ⟨cs', h1, h2, h3⟩ := row_setCells r (o + 1) (w.setCell ⟨b, o, none⟩ v) _ (row_setCell (j := o) (u := v) h)
    refine ⟨cs', h1, by simpa using h2, fun i hi => ?_⟩
    rw [h3 i (by simpa using hi)]
    simp only [List.length_cons]
    by_cases e : i = o
    · subst e
      rw [if_neg (by omega), if_pos (by omega)]
      simp [Array.getElem?_setIfInBounds, hi]
    · by_cases hh : o + 1 ≤ i ∧ i < o + 1 + r.length
      · rw [if_pos hh, if_pos (by omega), show i - o = (i - (o + 1)) + 1 from by omega, List.getElem?_cons_succ]
      · rw [if_neg hh, if_neg (by omega), Array.getElem?_setIfInBounds, if_neg (by omega)]
theorem Kept.setCells {p : Nat → Prop} {a : World} {g : Nat} (hp : p g ∨ a.heap.size ≤ g) : ∀ (vs : List Value) (o : Nat) (w : World), Kept p a w → Kept p a (w.setCells g o vs)
  | [], _, _, h => h
  | v :: r, o, w, h => Kept.setCells hp r (o + 1) _ (h.setCell (x := ⟨g, o, none⟩) hp v)
theorem setCells_one (w : World) (g o : Nat) (v : Value) : w.setCells g o [v] = w.setCell ⟨g, o, none⟩ v := rfl
/-- this cell, and it may be written -/
def CF (V : World) (b j : Nat) (v : Value) : Prop := V.cell? ⟨b, j, none⟩ = some v ∧ V.frozen? ⟨b, j, none⟩ = false
theorem CF.block {V V' : World} {b j : Nat} {v : Value} (h : CF V b j v) (hb : V'.heap[b]? = V.heap[b]?) : CF V' b j v := ⟨(World.cell?_of_block hb).trans h.1, by have := h.2; simpa [World.frozen?, hb] using this⟩
theorem CF.kept {V V' : World} {b j : Nat} {v : Value} (h : CF V b j v) {p : Nat → Prop} (hk : Kept p V V') (hp : ¬ p b) : CF V' b j v := h.block (hk.block b (World.block_lt_of_cell? _ _ h.1) hp)
theorem frozen_set (V : World) (b j : Nat) (v : Value) (x : Addr) : (V.setCell ⟨b, j, none⟩ v).frozen? x = V.frozen? x := World.frozen?_setCells b [v] j V x
theorem CF.same {V : World} {b j : Nat} {u : Value} (h : CF V b j u) (v : Value) : CF (V.setCell ⟨b, j, none⟩ v) b j v := by
  refine ⟨?_, by rw [frozen_set]; exact h.2⟩
  have := World.cell?_setCells_in b [v] j V (fun i hi => by
    obtain rfl : i = 0 := by simp at hi; omega
    rw [Nat.add_zero, h.1]; rfl) 0 (by simp)
  rw [Nat.add_zero] at this
  exact this
theorem CF.other {V : World} {b j b' j' : Nat} {u : Value} (h : CF V b j u) (v : Value) (hn : b = b' → j ≠ j') : CF (V.setCell ⟨b', j', none⟩ v) b j u := by
  refine ⟨?_, by rw [frozen_set]; exact h.2⟩
  have := World.cell?_setCells_out b' [v] j' V ⟨b, j, none⟩ (fun hb _ => by
    have := hn hb
    simp only [List.length_cons, List.length_nil]
    show j < j' ∨ j' + 1 ≤ j
    omega)
  exact this.trans h.1
theorem ret_iff {a b : Bool} (h : a = true ↔ b = true) : Ending.returned (.bool a) = .returned (.bool b) := by rw [Bool.eq_iff_iff.2 h]
theorem ret_bool {a b : Bool} (h : a = b) : Ending.returned (.bool a) = .returned (.bool b) := by rw [h]
theorem and_one (x : Int) (hx : 0 ≤ x ∧ x ≤ 4294967295) : bits .and .u32 x 1 = x % 2 := by
  obtain ⟨X, rfl⟩ := Int.eq_ofNat_of_zero_le hx.1
  have hb := (bits_nat .u32 32 (by decide) (fun n h0 h1 => by simp only [IntKind.wrap, IntKind.bits, IntKind.signed]; exact Int.emod_eq_of_lt h0 h1) X 1 (by omega) (by omega)).1
  rw [show ((1 : Nat) : Int) = 1 from rfl] at hb
  rw [hb, Nat.and_one_is_mod]
  omega
/-- the bit, as the program asks for it -/
theorem bit_is (rd part : Int) (hr : 0 ≤ rd ∧ rd ≤ 4294967295) (hp : 0 ≤ part) : (bits .and .u32 (rd / 2 ^ min part.toNat 32) 1 == 1) = bit rd part := by
  have hpos : (0 : Int) < 2 ^ min part.toNat 32 := Int.pow_pos (by omega)
  have h1 : 0 ≤ rd / 2 ^ min part.toNat 32 := Int.ediv_nonneg hr.1 (by omega)
  have h2 : rd / 2 ^ min part.toNat 32 ≤ rd := Int.ediv_le_self _ hr.1
  rw [and_one _ ⟨h1, by omega⟩]
  have hs := u32_shr_var rd part hr.1 (by omega)
  unfold bit
  rw [hs, show decide ((0 : Int) ≤ part) = true from by simpa using hp, Bool.true_and]
  split
  · rename_i h
    have hbig : (2 : Int) ^ 32 ≤ 2 ^ part.toNat := by
      have := Nat.pow_le_pow_right (n := 2) (by omega) (show 32 ≤ part.toNat by omega)
      exact_mod_cast this
    have : rd / 2 ^ part.toNat = 0 := Int.ediv_eq_zero_of_lt hr.1 (by have : (2 : Int) ^ 32 = 4294967296 := by decide
                                                                      omega)
    rw [this]; decide
  · rw [Bool.eq_iff_iff]; simp

theorem ret_int {k : IntKind} {a b : Int} (h : a = b) : Ending.returned (.int k a) = .returned (.int k b) := by rw [h]
theorem row_free {w : World} {b : Nat} {cs : Array Value} {t : TypeId} (h : w.heap[b]? = some (.cells cs t (0, 0))) (j : Nat) : w.frozen? ⟨b, j, none⟩ = false := by simp [World.frozen?, h]
theorem ne_type {w : World} {a b : Nat} {c d : Array Value} {s t : TypeId} {f g : Nat × Nat} (h : w.heap[a]? = some (.cells c s f)) (k : w.heap[b]? = some (.cells d t g)) (hn : s ≠ t) : a ≠ b := by
  rintro rfl
  rw [h] at k
  simp at k
  exact hn k.2.1
theorem heap2_new (w : World) (a b : Obj) : ((w.alloc a).alloc b).heap[w.heap.size + 1]? = some b := by have := heap_alloc_new (w.alloc a) b; simpa using this
theorem heap2_old (w : World) (a b : Obj) : ((w.alloc a).alloc b).heap[w.heap.size]? = some a := ((below_alloc (w.alloc a) b).block w.heap.size (by simp)).trans (heap_alloc_new w a)
/-! ### copy, make, clear: whole rows of elements of any size -/
theorem run_copy_whole {P : Program} (w : World) (dT ty elem : TypeId) (size g n dCap cap : Nat) (a : Option Addr) (cur : Array Value) (t : TypeId) (cs : List Value)
    (hu : P.underlying dT = some (.slice elem)) (hs : (P.info? elem).map (·.size) = some size) (hg : w.heap[g]? = some (.cells cur t (0, 0)))
    (hc : cs.length = n * size) (hcur : cur.size = n * size) (hsrc : n = 0 ∨ ∃ x, a = some x ∧ ∀ j v, cs[j]? = some v → w.cell? (x.add j) = some v) (h1 : ∀ v ∈ cs, v.oneCell' = true) :
    (Builtin.copy_ #[dT, dT] ty #[.slice (some ⟨g, 0, none⟩) n dCap, .slice a n cap]).run P w = .ok (goInt n) (w.setRow g cs.toArray) := by
  cases hq : P.info? elem with
  | none => simp [hq] at hs
  | some i =>
    have hi : i.size = size := by simpa [hq] using hs
    have hst := run_storeCells_at P g 0 t cs 0 cur w hg (by omega) h1
    have e1 : cur.toList.take (0 + 0) ++ cs ++ cur.toList.drop (0 + 0 + cs.length) = cs := by
      rw [List.drop_of_length_le (by simp; omega)]; simp
    rw [e1] at hst
    by_cases h0 : n = 0
    · subst h0
      have hcs : cs = [] := List.eq_nil_of_length_eq_zero (by omega)
      subst hcs
      cases a with
      | none => simp [Builtin.copy_, run_underlying hu, Builtin.lenOf, Builtin.firstCells, sizeOf, typeInfo, hq, hi, hst]
      | some x =>
        have hl := run_loadCells_list (P := P) w x [] (fun j v hj => by simp at hj)
        simp at hl
        simp [Builtin.copy_, run_underlying hu, Builtin.lenOf, Builtin.firstCells, sizeOf, typeInfo, hq, hi, hl, hst]
    · obtain ⟨x, rfl, hx⟩ := hsrc.resolve_left h0
      have hl := run_loadCells_list (P := P) w x cs hx
      rw [hc] at hl
      simp [Builtin.copy_, run_underlying hu, Builtin.lenOf, Builtin.firstCells, sizeOf, typeInfo, hq, hi, hl, hst]
theorem run_clear_whole {P : Program} (w : World) (dT ty elem : TypeId) (g n c : Nat) (z : Value) (cur : Array Value) (t : TypeId) (cs : List Value)
    (hu : P.underlying dT = some (.slice elem)) (hz : ∀ w, (zeroValue elem).run P w = .ok z w) (hg : w.heap[g]? = some (.cells cur t (0, 0)))
    (hc : (Builtin.zeroCells z.cells n).toList = cs) (hcur : cur.size = cs.length) (h1 : ∀ v ∈ cs, v.oneCell' = true) :
    (Builtin.clear_ #[dT] ty #[.slice (some ⟨g, 0, none⟩) n c]).run P w = .ok (.tuple #[]) (w.setRow g cs.toArray) := by
  have hst := run_storeCells_at P g 0 t cs 0 cur w hg (by omega) h1
  have e1 : cur.toList.take (0 + 0) ++ cs ++ cur.toList.drop (0 + 0 + cs.length) = cs := by
    rw [List.drop_of_length_le (by simp; omega)]; simp
  rw [e1] at hst
  cases n with
  | zero =>
    have hcs : cs = [] := by rw [← hc]; simp [Builtin.zeroCells]
    subst hcs
    have hw := setRow_self w g cur t (0, 0) hg
    have : cur = #[] := by simpa using hcur
    subst this
    simp [Builtin.clear_, run_underlying hu, hw]
  | succ m => simp [Builtin.clear_, run_underlying hu, hz, hc, hst]
/-- a slice with this address and length has these numbers, in no block that may be written -/
def NRow (p : Nat → Prop) (w : World) (a : Option Addr) (n : Nat) (l : List Int) : Prop :=
  l.length = n ∧ (n = 0 ∨ ∃ b off, a = some ⟨b, off, none⟩ ∧ ¬ p b ∧ ∀ i, i < n → w.cell? ⟨b, off + i, none⟩ = some (.int .u32 (l.getD i 0)))
theorem NRow.kept {p : Nat → Prop} {w w' : World} {a : Option Addr} {n : Nat} {l : List Int} (h : NRow p w a n l) (hk : Kept p w w') : NRow p w' a n l := by
  obtain ⟨h1, h3⟩ := h
  refine ⟨h1, ?_⟩
  rcases h3 with h3 | ⟨b, off, rfl, hp, hc⟩
  · exact Or.inl h3
  · exact Or.inr ⟨b, off, rfl, hp, fun i hi => hk.cell (hc i hi) hp⟩
theorem NRow.below {p : Nat → Prop} {w w' : World} {a : Option Addr} {n : Nat} {l : List Int} (h : NRow p w a n l) {B : Nat} (hb : Below B w w') (hB : w.heap.size ≤ B) : NRow p w' a n l := h.kept (Kept.of_below (hb.mono hB))
theorem NRow.imp {p q : Nat → Prop} {w : World} {a : Option Addr} {n : Nat} {l : List Int} (h : NRow p w a n l) (hq : ∀ k, k < w.heap.size → q k → p k) : NRow q w a n l := by
  obtain ⟨h1, h3⟩ := h
  refine ⟨h1, ?_⟩
  rcases h3 with h3 | ⟨b, off, rfl, hp, hc⟩
  · exact Or.inl h3
  · by_cases h0 : n = 0
    · exact Or.inl h0
    · exact Or.inr ⟨b, off, rfl, fun x => hp (hq b (World.block_lt_of_cell? _ _ (hc 0 (by omega))) x), hc⟩
set_option maxHeartbeats 1000000 in
theorem same_any {p q : Nat → Prop} {a b : Option Addr} {n c d : Nat} {l : List Int} {w : World} (ha : NRow p w a n l) (hb : NRow q w b n l) (hn : n ≤ 300000) :
    Calls Try.prog 20 #[.slice a n c, .slice b n d] w fun e w' => e = .returned (.bool true) ∧ Below w.heap.size w w' := by
  have HA := Lib.hid ha.2
  have HB := Lib.hid hb.2
  clear ha hb
  go_enter Try.func20, Try.ntmps20
  go_wp2_with fail
  go_loopw [5] (fun i wr => ∃ k : Nat, k ≤ n ∧ i = .int .i64 k ∧ Below w.heap.size w wr) (fun i _ => n - (intOf i).toNat)
  case atStart => exact ⟨0, by omega, rfl, Below.refl _ _⟩
  case round =>
    obtain ⟨k, hk, rfl, hbel⟩ := hrel
    have HBel := Lib.hid hbel
    by_cases hlt : k < n
    · have k0 : (0 : Int) ≤ k := by omega
      have k1 : (k : Int) < n := by omega
      have hd : decide ((k : Int) < (n : Int)) = true := decide_eq_true (by omega)
      have hd2 : decide (k < n) = true := decide_eq_true hlt
      obtain ⟨b1, o1, rfl, _, h1⟩ := HA.out.resolve_left (by omega)
      obtain ⟨b2, o2, rfl, _, h2⟩ := HB.out.resolve_left (by omega)
      have e1 := (World.cell?_of_block (hbel.block b1 (World.block_lt_of_cell? _ _ (h1 k hlt)))).trans (h1 k hlt)
      have e2 := (World.cell?_of_block (hbel.block b2 (World.block_lt_of_cell? _ _ (h2 k hlt)))).trans (h2 k hlt)
      clear h1 h2 hbel
      generalize l.getD k 0 = x at e1 e2
      go_wp2_with fail
      go_quiet (fail)
      go_wp2_with fail
      go_roundw
      case rel => exact ⟨k + 1, by omega, by go_num, HBel.out.trans (below_drewN (Below.refl _ _) _)⟩
      case measure => simp [intOf]; omega
    · have hd : decide ((k : Int) < (n : Int)) = false := decide_eq_false (by omega)
      have hd2 : decide (k < n) = false := decide_eq_false hlt
      go_wp2_with fail
      go_ret
      exact ⟨rfl, HBel.out⟩
end Fld
end Go.Proofs.Ytoighaicdakbkaa
