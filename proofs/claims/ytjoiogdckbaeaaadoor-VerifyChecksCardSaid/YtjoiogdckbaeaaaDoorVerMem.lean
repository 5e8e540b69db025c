/- Configurations in memory: rows of ports and of partitions, and a configuration's cells. · Bit by bit, on numbers of 32 bits. -/
import Derived.Test.YtjoiogdckbaeaaaDoorVerM
import Derived.Test.YtjoiogdckbaeaaaDoorCodeOwn
import Derived.Test.YtjoiogdckbaeaaaDoorCodeMay
namespace Go.Proofs.YtjoiogdckbaeaaaDoor
open Go.ChangeShapes Go.WideShapes Go.ChangeAt Go.RowKit
namespace Ver
open Isa Flw
set_option linter.unusedVariables false
set_option linter.unusedSimpArgs false
theorem heap_setCell_own (w : World) (g i : Nat) (cs : Array Value) (t : TypeId) (v : Value) (h : w.heap[g]? = some (.cells cs t (0, 0))) : (w.setCell ⟨g, i, none⟩ v).heap[g]? = some (.cells (cs.setIfInBounds i v) t (0, 0)) := by
  simp [World.setCell, Array.getElem?_modify, h]
/-- a port's definition stands in memory from a cell on -/
def PtAt (w : World) (b off : Nat) (d : Pt) : Prop := w.cell? ⟨b, off, none⟩ = some (.int .i64 d.w) ∧ w.cell? ⟨b, off + 1, none⟩ = some (.int .i64 d.wr) ∧ w.cell? ⟨b, off + 2, none⟩ = some (.int .u32 d.rd)
def Pt.wf (d : Pt) : Prop := (-9223372036854775808 ≤ d.w ∧ d.w ≤ 9223372036854775807) ∧ (-9223372036854775808 ≤ d.wr ∧ d.wr ≤ 9223372036854775807) ∧ 0 ≤ d.rd ∧ d.rd ≤ 4294967295
def PtRow (w : World) (a : Option Addr) (n : Nat) (l : List Pt) : Prop := l.length = n ∧ (∀ d ∈ l, d.wf) ∧ (n = 0 ∨ ∃ b off, a = some ⟨b, off, none⟩ ∧ ∀ j, j < n → PtAt w b (off + j * 3) (l.getD j pz))
/-- a partition's definition: its regions, its stack, its row of health -/
structure Pd where
  ra : Option Addr
  rn : Nat
  rc : Nat
  st : Int
  t : Int
  o : Int
  m : Int
def dz : Pd := ⟨none, 0, 0, 0, 0, 0, 0⟩
def encD (d : Pd) : List Value := [.slice d.ra d.rn d.rc, .int .i64 d.st, .int .u8 d.t, .int .u8 d.o, .int .u8 d.m]
def encT (d : Pt) : List Value := [.int .i64 d.w, .int .i64 d.wr, .int .u32 d.rd]
def PdAt (w : World) (b off : Nat) (d : Pd) : Prop := w.cell? ⟨b, off, none⟩ = some (.slice d.ra d.rn d.rc) ∧ w.cell? ⟨b, off + 1, none⟩ = some (.int .i64 d.st) ∧ w.cell? ⟨b, off + 2, none⟩ = some (.int .u8 d.t) ∧ w.cell? ⟨b, off + 3, none⟩ = some (.int .u8 d.o) ∧ w.cell? ⟨b, off + 4, none⟩ = some (.int .u8 d.m)
def Pd.wf (d : Pd) : Prop := -9223372036854775808 ≤ d.st ∧ d.st ≤ 9223372036854775807
def PdRow (w : World) (a : Option Addr) (n : Nat) (l : List Pd) : Prop := l.length = n ∧ (∀ d ∈ l, d.wf) ∧ (n = 0 ∨ ∃ b off, a = some ⟨b, off, none⟩ ∧ ∀ j, j < n → PdAt w b (off + j * 5) (l.getD j dz))
theorem PtRow.below {w w' : World} {a : Option Addr} {n : Nat} {l : List Pt} (h : PtRow w a n l) {B : Nat} (hb : Below B w w') (hB : w.heap.size ≤ B) : PtRow w' a n l := by
  obtain ⟨h1, h2, h3⟩ := h
  refine ⟨h1, h2, ?_⟩
  rcases h3 with h3 | ⟨b, off, rfl, hc⟩
  · exact .inl h3
  · have key : ∀ (off : Nat) v, w.cell? ⟨b, off, none⟩ = some v → w'.cell? ⟨b, off, none⟩ = some v := fun o v h => (World.cell?_of_block (hb.block b (Nat.lt_of_lt_of_le (World.block_lt_of_cell? _ _ h) hB))).trans h
    exact .inr ⟨b, off, rfl, fun j hj => ⟨key _ _ (hc j hj).1, key _ _ (hc j hj).2.1, key _ _ (hc j hj).2.2⟩⟩
theorem PdRow.below {w w' : World} {a : Option Addr} {n : Nat} {l : List Pd} (h : PdRow w a n l) {B : Nat} (hb : Below B w w') (hB : w.heap.size ≤ B) : PdRow w' a n l := by
  obtain ⟨h1, h2, h3⟩ := h
  refine ⟨h1, h2, ?_⟩
  rcases h3 with h3 | ⟨b, off, rfl, hc⟩
  · exact .inl h3
  · have key : ∀ (off : Nat) v, w.cell? ⟨b, off, none⟩ = some v → w'.cell? ⟨b, off, none⟩ = some v := fun o v h => (World.cell?_of_block (hb.block b (Nat.lt_of_lt_of_le (World.block_lt_of_cell? _ _ h) hB))).trans h
    exact .inr ⟨b, off, rfl, fun j hj => ⟨key _ _ (hc j hj).1, key _ _ (hc j hj).2.1, key _ _ (hc j hj).2.2.1, key _ _ (hc j hj).2.2.2.1, key _ _ (hc j hj).2.2.2.2⟩⟩
theorem PtRow.at {w : World} {a : Option Addr} {n : Nat} {l : List Pt} (h : PtRow w a n l) (k : Nat) (hk : k < n) : ∃ b off, a = some ⟨b, off, none⟩ ∧ PtAt w b (off + k * 3) (l.getD k pz) ∧ (l.getD k pz).wf := by
  obtain ⟨b, off, rfl, hc⟩ := h.2.2.resolve_left (by omega)
  exact ⟨b, off, rfl, hc k hk, h.2.1 _ (getD_mem _ (by rw [h.1]; exact hk))⟩
theorem PdRow.at {w : World} {a : Option Addr} {n : Nat} {l : List Pd} (h : PdRow w a n l) (k : Nat) (hk : k < n) : ∃ b off, a = some ⟨b, off, none⟩ ∧ PdAt w b (off + k * 5) (l.getD k dz) ∧ (l.getD k dz).wf := by
  obtain ⟨b, off, rfl, hc⟩ := h.2.2.resolve_left (by omega)
  exact ⟨b, off, rfl, hc k hk, h.2.1 _ (getD_mem _ (by rw [h.1]; exact hk))⟩
/-- a configuration's cells -/
structure Cm where
  mem : Int
  ap : Option Addr
  np : Nat
  cp : Nat
  aq : Option Addr
  nq : Nat
  cq : Nat
  ins : Int
  sa : Option Addr
  ns : Nat
  cs : Nat
  fr : Int
  fw : Int
  fl : Int
  fs : Int
  al : Option Addr
  nl : Nat
  cl : Nat
  vi : Int
  dg : Int
  rq : Int
  sg : Int
def Cm.cells (m : Cm) : Array Value := #[.int .u32 m.mem, .slice m.ap m.np m.cp, .slice m.aq m.nq m.cq, .int .i64 m.ins, .slice m.sa m.ns m.cs, .int .u32 m.fr, .int .i64 m.fw, .int .u32 m.fl, .int .u32 m.fs, .slice m.al m.nl m.cl, .int .i64 m.vi, .int .u8 m.dg, .int .i64 m.rq, .int .i64 m.sg]
def Cm.val (m : Cm) : Value := .agg m.cells
/-- such cells are this configuration -/
structure CfIn (w : World) (m : Cm) (ds : List Pd) (c : Cf) : Prop where
  pd : PdRow w m.ap m.np ds
  pt : PtRow w m.aq m.nq c.po
  st : c.st = ds.map (·.st)
  ins : m.ins = c.ins
  ns : m.ns = c.ns
  fr : m.fr = c.fr
  fw : m.fw = c.fw
  lp : m.np ≤ m.cp ∧ m.cp ≤ 9223372036854775807
  lq : m.nq ≤ m.cq ∧ m.cq ≤ 9223372036854775807
  ls : m.ns ≤ m.cs ∧ m.cs ≤ 9223372036854775807
  wi : -9223372036854775808 ≤ m.ins ∧ m.ins ≤ 9223372036854775807
  wr : 0 ≤ m.fr ∧ m.fr ≤ 4294967295
  ww : -9223372036854775808 ≤ m.fw ∧ m.fw ≤ 9223372036854775807
theorem CfIn.below {w w' : World} {m : Cm} {ds : List Pd} {c : Cf} (h : CfIn w m ds c) {B : Nat} (hb : Below B w w') (hB : w.heap.size ≤ B) : CfIn w' m ds c :=
  ⟨h.pd.below hb hB, h.pt.below hb hB, h.st, h.ins, h.ns, h.fr, h.fw, h.lp, h.lq, h.ls, h.wi, h.wr, h.ww⟩
/-- a summary's cells -/
def smC (s : Sm) : Array Value := #[.int .i64 s.h, .int .u32 (s.f : Int), .int .u32 (s.r : Int), .int .u32 (s.w : Int), .int .u32 (s.i : Int), .int .u32 (s.o : Int)]
def smV (s : Sm) : Value := .agg (smC s)
theorem cells6 {X : World} {V : Nat} {v0 v1 v2 v3 v4 v5 : Value} {t : TypeId} {fr : Nat × Nat} (h : X.heap[V]? = some (.cells #[v0, v1, v2, v3, v4, v5] t fr)) :
    X.cell? ⟨V, 0, none⟩ = some v0 ∧ X.cell? ⟨V, 1, none⟩ = some v1 ∧ X.cell? ⟨V, 2, none⟩ = some v2 ∧ X.cell? ⟨V, 3, none⟩ = some v3 ∧ X.cell? ⟨V, 4, none⟩ = some v4 ∧ X.cell? ⟨V, 5, none⟩ = some v5 :=
  ⟨cells_at h 0, cells_at h 1, cells_at h 2, cells_at h 3, cells_at h 4, cells_at h 5⟩
theorem cfg_all {W : World} {S : Nat} {m : Cm} {t : TypeId} (h : W.heap[S]? = some (.cells m.cells t (0, 0))) :
    (W.cell? ⟨S, 0, none⟩ = some (.int .u32 m.mem) ∧ W.cell? ⟨S, 1, none⟩ = some (.slice m.ap m.np m.cp) ∧ W.cell? ⟨S, 2, none⟩ = some (.slice m.aq m.nq m.cq) ∧ W.cell? ⟨S, 3, none⟩ = some (.int .i64 m.ins) ∧ W.cell? ⟨S, 4, none⟩ = some (.slice m.sa m.ns m.cs) ∧ W.cell? ⟨S, 5, none⟩ = some (.int .u32 m.fr) ∧ W.cell? ⟨S, 6, none⟩ = some (.int .i64 m.fw)) ∧
    W.cell? ⟨S, 7, none⟩ = some (.int .u32 m.fl) ∧ W.cell? ⟨S, 8, none⟩ = some (.int .u32 m.fs) ∧ W.cell? ⟨S, 9, none⟩ = some (.slice m.al m.nl m.cl) ∧ W.cell? ⟨S, 10, none⟩ = some (.int .i64 m.vi) ∧ W.cell? ⟨S, 11, none⟩ = some (.int .u8 m.dg) ∧ W.cell? ⟨S, 12, none⟩ = some (.int .i64 m.rq) ∧ W.cell? ⟨S, 13, none⟩ = some (.int .i64 m.sg) :=
  ⟨⟨cells_at h 0, cells_at h 1, cells_at h 2, cells_at h 3, cells_at h 4, cells_at h 5, cells_at h 6⟩, cells_at h 7, cells_at h 8, cells_at h 9, cells_at h 10, cells_at h 11, cells_at h 12, cells_at h 13⟩
theorem fz_at {W : World} {S : Nat} {cs : Array Value} {t : TypeId} (h : W.heap[S]? = some (.cells cs t (0, 0))) (j : Nat) : W.frozen? ⟨S, j, none⟩ = false := by simp [World.frozen?, h]
/-- a cell set in a block known whole -/
theorem set_own {W : World} {S k : Nat} {cs : Array Value} {t : TypeId} (v : Value) (h : W.heap[S]? = some (.cells cs t (0, 0))) : (W.setCell ⟨S, k, none⟩ v).heap[S]? = some (.cells (cs.setIfInBounds k v) t (0, 0)) := heap_setCell_own _ _ _ _ _ _ h
theorem set_other {W : World} {S D k : Nat} {o : Obj} {v : Value} (hne : S ≠ D) (h : W.heap[S]? = some o) : (W.setCell ⟨D, k, none⟩ v).heap[S]? = some o := (setCell_blk W S D k v hne).trans h
theorem set6 {W : World} {S : Nat} {u0 u1 u2 u3 u4 u5 : Value} {t : TypeId} (h : W.heap[S]? = some (.cells #[u0, u1, u2, u3, u4, u5] t (0, 0))) (v0 v1 v2 v3 v4 v5 : Value) :
    ((((((W.setCell ⟨S, 0, none⟩ v0).setCell ⟨S, 1, none⟩ v1).setCell ⟨S, 2, none⟩ v2).setCell ⟨S, 3, none⟩ v3).setCell ⟨S, 4, none⟩ v4).setCell ⟨S, 5, none⟩ v5).heap[S]? = some (.cells #[v0, v1, v2, v3, v4, v5] t (0, 0)) :=
  set_own v5 (set_own v4 (set_own v3 (set_own v2 (set_own v1 (set_own v0 h)))))
theorem bel6 {B : Nat} {a W : World} (h : Below B a W) {R : Nat} (hR : B ≤ R) (v0 v1 v2 v3 v4 v5 : Value) :
    Below B a ((((((W.setCell ⟨R, 0, none⟩ v0).setCell ⟨R, 1, none⟩ v1).setCell ⟨R, 2, none⟩ v2).setCell ⟨R, 3, none⟩ v3).setCell ⟨R, 4, none⟩ v4).setCell ⟨R, 5, none⟩ v5) :=
  (((((h.setCell (p := ⟨R, 0, none⟩) hR v0).setCell (p := ⟨R, 1, none⟩) hR v1).setCell (p := ⟨R, 2, none⟩) hR v2).setCell (p := ⟨R, 3, none⟩) hR v3).setCell (p := ⟨R, 4, none⟩) hR v4).setCell (p := ⟨R, 5, none⟩) hR v5
/-- verify.Check, of any program, partition and configuration -/
def CheckVC : Prop := ∀ (l : List Iv) (a : Option Addr) (n cp : Nat) (part : Int) (m : Cm) (ds : List Pd) (c : Cf) (w : World), Tabs w → n ≤ cp → cp ≤ 9223372036854775807 → IRow w a n l → (-9223372036854775808 ≤ part ∧ part ≤ 9223372036854775807) → CfIn w m ds c →
  Calls Tryd.prog 8 #[.slice a n cp, .int .i64 part, m.val] w fun e w' => e = .returned (.tuple #[smV (verA l part c).1, .int .i64 ((verA l part c).2.1 : Nat), .int .i64 (verA l part c).2.2]) ∧ Below w.heap.size w w'
end Ver
end Go.Proofs.YtjoiogdckbaeaaaDoor
namespace Go.Proofs.YtjoiogdckbaeaaaDoor
open Go.ChangeShapes Go.WideShapes Go.ChangeAt Go.RowKit
namespace Ver
open Isa Flw
set_option linter.unusedVariables false
set_option linter.unusedSimpArgs false
/-- what of a is not of b -/
def anN (a b : Nat) : Nat := (BitVec.ofNat 32 a &&& ~~~BitVec.ofNat 32 b).toNat
theorem anN_bit {a b : Nat} (ha : a < 4294967296) (j : Nat) : (anN a b).testBit j = (a.testBit j && !(decide (j < 32) && b.testBit j)) := by
  unfold anN
  rw [BitVec.testBit_toNat, BitVec.getLsbD_and, BitVec.getLsbD_not, BitVec.getLsbD_ofNat, BitVec.getLsbD_ofNat]
  by_cases q : j < 32
  · simp [q]
  · have : a.testBit j = false := Nat.testBit_lt_two_pow (Nat.lt_of_lt_of_le ha (Nat.pow_le_pow_right (n := 2) (by omega) (show 32 ≤ j by omega)))
    rw [this]; simp [q]
theorem anN_zero {a b : Nat} (ha : a < 4294967296) (h : ∀ j, a.testBit j = true → b.testBit j = true) : anN a b = 0 := by
  apply Nat.eq_of_testBit_eq
  intro j
  rw [anN_bit ha, Nat.zero_testBit]
  cases e : a.testBit j with
  | false => rfl
  | true =>
    have hj : j < 32 := by
      rcases Nat.lt_or_ge j 32 with q | q
      · exact q
      · have : a.testBit j = false := Nat.testBit_lt_two_pow (Nat.lt_of_lt_of_le ha (Nat.pow_le_pow_right (n := 2) (by omega) q))
        rw [this] at e; cases e
    rw [h j e]; simp [hj]
theorem bits32 (a b : Nat) (ha : a < 4294967296) (hb : b < 4294967296) : bits .and .u32 a b = ((a &&& b : Nat) : Int) ∧ bits .or .u32 a b = ((a ||| b : Nat) : Int) ∧ bits .andNot .u32 a b = ((anN a b : Nat) : Int) := by
  have wr : ∀ n : Nat, n < 4294967296 → IntKind.u32.wrap (n : Int) = (n : Int) := fun n hn => by simp [IntKind.wrap, IntKind.bits, IntKind.signed]; omega
  have h1 : BitVec.ofInt 32 (a : Int) = BitVec.ofNat 32 a := BitVec.ofInt_natCast 32 a
  have h2 : BitVec.ofInt 32 (b : Int) = BitVec.ofNat 32 b := BitVec.ofInt_natCast 32 b
  refine ⟨?_, ?_, ?_⟩
  · show IntKind.u32.wrap (((BitVec.ofInt 32 (a : Int)) &&& (BitVec.ofInt 32 (b : Int))).toNat : Int) = _
    rw [h1, h2, BitVec.toNat_and, BitVec.toNat_ofNat, BitVec.toNat_ofNat, Nat.mod_eq_of_lt (by simpa using ha), Nat.mod_eq_of_lt (by simpa using hb)]
    exact wr _ (Nat.lt_of_le_of_lt Nat.and_le_left ha)
  · show IntKind.u32.wrap (((BitVec.ofInt 32 (a : Int)) ||| (BitVec.ofInt 32 (b : Int))).toNat : Int) = _
    rw [h1, h2, BitVec.toNat_or, BitVec.toNat_ofNat, BitVec.toNat_ofNat, Nat.mod_eq_of_lt (by simpa using ha), Nat.mod_eq_of_lt (by simpa using hb)]
    exact wr _ (Nat.or_lt_two_pow (n := 32) ha hb)
  · show IntKind.u32.wrap (((BitVec.ofInt 32 (a : Int)) &&& ~~~(BitVec.ofInt 32 (b : Int))).toNat : Int) = _
    rw [h1, h2]
    exact wr _ (BitVec.isLt _)
theorem anN_lt (a b : Nat) : anN a b < 4294967296 := BitVec.isLt _
/-- 1 shifted -/
theorem shl_one (j : Nat) (hj : j < 32) : IntKind.u32.wrap ((1 : Int) * 2 ^ j) = ((2 ^ j : Nat) : Int) := by
  have h : (2 : Nat) ^ j < 2 ^ 32 := Nat.pow_lt_pow_right (by omega) hj
  have h2 : (2 : Nat) ^ 32 = 4294967296 := by decide
  rw [Int.one_mul]
  have e : ((2 : Int) ^ j) = ((2 ^ j : Nat) : Int) := by push_cast; rfl
  rw [e]
  generalize 2 ^ j = N at *
  simp [IntKind.wrap, IntKind.bits, IntKind.signed]
  omega
end Ver
end Go.Proofs.YtjoiogdckbaeaaaDoor
