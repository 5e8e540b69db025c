/- The walk of VerifyMore, over what the program's Check answers. -/
import Derived.Test.YtjoiogdckbaeaaaDoorVerL2
import Derived.Test.YtjoiogdckbaeaaaDoorVerApp
import Derived.Test.YtjoiogdckbaeaaaDoorCostA
import Derived.StillTailTactics
namespace Go.Proofs.YtjoiogdckbaeaaaDoor
open Go.ChangeShapes Go.WideShapes Go.ChangeAt Go.RowKit
namespace Ver
open Isa Flw Hgt Cst
set_option linter.unusedVariables false
set_option linter.unusedSimpArgs false
theorem ver_none {l : List Iv} {part : Int} {c : Cf} (h : (verA l part c).2.2 ≠ 0) : (verA l part c).1 = sz := by
  unfold verA at h ⊢
  split
  · rfl
  · split
    · rfl
    · split
      · rfl
      · rename_i h1 h2 h3
        rw [if_neg h1, if_neg h2, if_neg h3] at h
        exact absurd rfl h
theorem grB_no {m : Cm} (h : grB m = false) (hL : m.np + m.nq + m.ns < 9223372036854775808) : m.np + m.nq + m.ns ≤ 1000 := by
  unfold grB at h
  have h := of_decide_eq_false h
  have e1 : IntKind.i64.wrap ((m.np : Int) + m.nq) = (m.np : Int) + m.nq := by simp [IntKind.wrap, IntKind.bits, IntKind.signed]; omega
  rw [e1] at h
  have e2 : IntKind.i64.wrap ((m.np : Int) + m.nq + m.ns) = (m.np : Int) + m.nq + m.ns := by simp [IntKind.wrap, IntKind.bits, IntKind.signed]; omega
  rw [e2] at h
  omega
/-- what stands while the configuration that lets more be is made -/
structure MSt (w0 : World) (S A1 A2 g1 g2 : Nat) (m m2 : Cm) (Su : Array Value) (d1 : List Pd) (po : List Pt) (wr : World) : Prop where
  x : wr.heap[S]? = some (.cells m.cells 33 (0, 0))
  y : wr.heap[A1]? = some (.cells Su 37 (0, 0))
  mm : wr.heap[A2]? = some (.cells m2.cells 33 (0, 0))
  d : OwnD wr g1 d1
  t : OwnT wr g2 po
  b : Below S w0 wr
theorem MSt.drew {w0 : World} {S A1 A2 g1 g2 : Nat} {m m2 : Cm} {Su : Array Value} {d1 : List Pd} {po : List Pt} {wr : World} (h : MSt w0 S A1 A2 g1 g2 m m2 Su d1 po wr) : MSt w0 S A1 A2 g1 g2 m m2 Su d1 po wr.drew :=
  ⟨h.x, h.y, h.mm, h.d.blockOf rfl, h.t.blockOf rfl, h.b.drew⟩
theorem MSt.setRd {w0 : World} {S A1 A2 g1 g2 : Nat} {m m2 : Cm} {Su : Array Value} {d1 : List Pd} {po : List Pt} {wr : World} (h : MSt w0 S A1 A2 g1 g2 m m2 Su d1 po wr) (hA : S < A1 ∧ A1 < A2 ∧ A2 < g1 ∧ g1 < g2) (k : Nat) (hk : k < po.length) (s : Int) (hs : 0 ≤ s ∧ s ≤ 4294967295) :
    MSt w0 S A1 A2 g1 g2 m m2 Su d1 (po.set k { po.getD k pz with rd := s }) (wr.setCell ⟨g2, k * 3 + 2, none⟩ (.int .u32 s)) :=
  ⟨set_other (by omega) h.x, set_other (by omega) h.y, set_other (by omega) h.mm, h.d.blockOf (setCell_blk _ _ _ _ _ (by omega)), h.t.setRd k hk s hs, h.b.setCell (p := ⟨g2, k * 3 + 2, none⟩) (show S ≤ g2 by omega) _⟩
theorem MSt.below {w0 : World} {S A1 A2 g1 g2 : Nat} {m m2 : Cm} {Su : Array Value} {d1 : List Pd} {po : List Pt} {wr X : World} (h : MSt w0 S A1 A2 g1 g2 m m2 Su d1 po wr) (hb : Below wr.heap.size wr X) (hS : S ≤ wr.heap.size) : MSt w0 S A1 A2 g1 g2 m m2 Su d1 po X :=
  ⟨(hb.block _ (lt_of_block h.x)).trans h.x, (hb.block _ (lt_of_block h.y)).trans h.y, (hb.block _ (lt_of_block h.mm)).trans h.mm, h.d.blockOf (hb.block _ h.d.lt), h.t.blockOf (hb.block _ h.t.lt), h.b.trans (hb.mono hS)⟩
theorem pow_q {q : Nat} (hq : q ≤ 31) : (2 : Nat) ^ q < 4294967296 := by
  have : (2 : Nat) ^ q < 2 ^ 32 := Nat.pow_lt_pow_right (by omega) (by omega)
  simpa using this
theorem pow_mod {q : Nat} (hq : q ≤ 31) : ((2 : Int) ^ q % 4294967296) = ((2 ^ q : Nat) : Int) := by
  have e : ((2 : Int) ^ q) = ((2 ^ q : Nat) : Int) := by push_cast; rfl
  have := pow_q hq
  rw [e]
  generalize 2 ^ q = N at *
  omega
theorem or_pow {N q : Nat} (hN : N < 4294967296) (hq : q ≤ 31) : bits .or .u32 (N : Int) ((2 : Int) ^ min q 32 % 4294967296) = ((N ||| 2 ^ q : Nat) : Int) ∧ (N ||| 2 ^ q) < 4294967296 := by
  rw [Nat.min_eq_left (by omega), pow_mod hq]
  exact ⟨(bits32 N (2 ^ q) hN (pow_q hq)).2.1, Nat.or_lt_two_pow (n := 32) hN (pow_q hq)⟩
theorem oneB_or {N q : Nat} (hq : q ≤ 31) : oneB ((N ||| 2 ^ q : Nat) : Int) (q : Int) = true := by
  unfold oneB
  rw [bit_nat, Nat.testBit_or, Nat.testBit_two_pow_self, decide_eq_true (by omega)]
  simp
/-- these ports, read by more -/
structure MoreP (q k : Nat) (po po' : List Pt) : Prop where
  len : po'.length = po.length
  at_ : ∀ j, j < po.length → (po'.getD j pz).w = (po.getD j pz).w ∧ (po'.getD j pz).wr = (po.getD j pz).wr ∧ (j < k → oneB (po'.getD j pz).rd (q : Int) = true)
theorem MoreP.start (q : Nat) (po : List Pt) : MoreP q 0 po po := ⟨rfl, fun j _ => ⟨rfl, rfl, fun h => by omega⟩⟩
theorem MoreP.add {q k : Nat} {po po' : List Pt} (h : MoreP q k po po') (hk : k < po.length) {s : Int} (hs : oneB s (q : Int) = true) : MoreP q (k + 1) po (po'.set k { po'.getD k pz with rd := s }) := by
  refine ⟨by rw [List.length_set]; exact h.len, fun j hj => ?_⟩
  obtain ⟨h1, h2, h3⟩ := h.at_ j hj
  by_cases e : k = j
  · subst e
    rw [getD_set_self _ _ _ _ (by rw [h.len]; exact hk)]
    exact ⟨h1, h2, fun _ => hs⟩
  · rw [getD_set_ne _ _ _ _ _ e]
    exact ⟨h1, h2, fun hlt => h3 (by omega)⟩
theorem more_cf {q : Nat} {m : Cm} {ds : List Pd} {c : Cf} {w : World} {po : List Pt} {s : Int} (h2 : CfIn w m ds c) (hq : q < m.np) (hP : MoreP q m.nq c.po po) (hs : oneB s (q : Int) = true) :
    More (q : Int) c { c with st := (ds.set q { ds.getD q dz with st := 64 }).map (·.st), po := po, fr := s } := by
  have hl := h2.pd.1
  have hl2 := h2.pt.1
  refine ⟨by simp [h2.st], ?_, hP.len, fun j hj => ?_, rfl, rfl, hs, rfl⟩
  · show ((ds.set q _).map (·.st)).getD (q : Int).toNat 0 = 64
    rw [Int.toNat_natCast, List.getD_eq_getElem?_getD, List.getElem?_map, List.getElem?_set]
    simp [hl, hq]
  · obtain ⟨q1, q2, q3⟩ := hP.at_ j hj
    exact ⟨q1, q2, q3 (by omega)⟩
theorem more_in {w0 : World} {S A1 A2 g1 g2 c1 c2 q : Nat} {m : Cm} {Su : Array Value} {ds : List Pd} {c : Cf} {w : World} {po : List Pt} {s : Int} {wr : World} (h2 : CfIn w m ds c) (hs : 0 ≤ s ∧ s ≤ 4294967295) (hpo : po.length = m.nq) (hc1 : m.np ≤ c1 ∧ c1 ≤ 9223372036854775807) (hc2 : m.nq ≤ c2 ∧ c2 ≤ 9223372036854775807)
    (h : MSt w0 S A1 A2 g1 g2 m { m with ap := some ⟨g1, 0, none⟩, cp := c1, aq := some ⟨g2, 0, none⟩, cq := c2, fr := s } Su (ds.set q { ds.getD q dz with st := 64 }) po wr) :
    CfIn wr { m with ap := some ⟨g1, 0, none⟩, cp := c1, aq := some ⟨g2, 0, none⟩, cq := c2, fr := s } (ds.set q { ds.getD q dz with st := 64 }) { c with st := (ds.set q { ds.getD q dz with st := 64 }).map (·.st), po := po, fr := s } := by
  refine ⟨?_, ?_, rfl, h2.ins, h2.ns, rfl, h2.fw, hc1, hc2, h2.ls, h2.wi, hs, h2.ww⟩
  · have := h.d.row
    rwa [List.length_set, h2.pd.1] at this
  · have := h.t.row
    rwa [hpo] at this
theorem MSt.other {w0 : World} {S A1 A2 g1 g2 : Nat} {m m2 : Cm} {Su : Array Value} {d1 : List Pd} {po : List Pt} {wr : World} (h : MSt w0 S A1 A2 g1 g2 m m2 Su d1 po wr) {D : Nat} (hA : S < A1 ∧ A1 < A2 ∧ A2 < g1 ∧ g1 < g2) (hD : g2 < D) (k : Nat) (v : Value) : MSt w0 S A1 A2 g1 g2 m m2 Su d1 po (wr.setCell ⟨D, k, none⟩ v) :=
  ⟨set_other (by omega) h.x, set_other (by omega) h.y, set_other (by omega) h.mm, h.d.blockOf (setCell_blk _ _ _ _ _ (by omega)), h.t.blockOf (setCell_blk _ _ _ _ _ (by omega)), h.b.setCell (p := ⟨D, k, none⟩) (show S ≤ D by omega) _⟩
theorem MSt.ek {w0 : World} {S A1 A2 g1 g2 : Nat} {m m2 : Cm} {Su : Array Value} {d1 : List Pd} {po : List Pt} {X Y : World} (h : MSt w0 S A1 A2 g1 g2 m m2 Su d1 po X) {D : Nat} {FC : Obj} (hE : EK D FC X Y) (hA : S < A1 ∧ A1 < A2 ∧ A2 < g1 ∧ g1 < g2) (hD : g2 < D) : MSt w0 S A1 A2 g1 g2 m m2 Su d1 po Y :=
  ⟨(hE.block _ (lt_of_block h.x) (by omega)).trans h.x, (hE.block _ (lt_of_block h.y) (by omega)).trans h.y, (hE.block _ (lt_of_block h.mm) (by omega)).trans h.mm, h.d.blockOf (hE.block _ h.d.lt (by omega)), h.t.blockOf (hE.block _ h.t.lt (by omega)),
    ⟨hE.os.trans h.b.os, hE.tape.trans h.b.tape, hE.output.trans h.b.output, Nat.le_trans h.b.size hE.size, fun k hk => (hE.block k (Nat.lt_trans hk (lt_of_block h.x)) (by omega)).trans (h.b.block k hk)⟩⟩
theorem ek_set {R i : Nat} {cur : Array Value} {v : Value} {t : TypeId} {X : World} (hi : i < cur.size) (h : X.heap[R]? = some (.cells cur t (0, 0)) ∨ X.heap[R]? = some (.cells (cur.setIfInBounds i v) t (0, 0))) :
    (∃ u, X.cell? ⟨R, i, none⟩ = some u) ∧ X.frozen? ⟨R, i, none⟩ = false ∧ EK R (.cells (cur.setIfInBounds i v) t (0, 0)) X (X.setCell ⟨R, i, none⟩ v) ∧ (X.setCell ⟨R, i, none⟩ v).heap[R]? = some (.cells (cur.setIfInBounds i v) t (0, 0)) ∧ R < (X.setCell ⟨R, i, none⟩ v).heap.size := by
  have hfin : (X.setCell ⟨R, i, none⟩ v).heap[R]? = some (.cells (cur.setIfInBounds i v) t (0, 0)) := by
    rcases h with h | h
    · exact heap_setCell_own _ _ _ _ _ _ h
    · rw [heap_setCell_own _ _ _ _ _ _ h]; simp
  refine ⟨?_, ?_, ⟨rfl, rfl, rfl, by simp [World.setCell], fun k hk hne => setCell_blk _ _ _ _ _ hne, fun _ => .inr hfin⟩, hfin, lt_of_block hfin⟩
  · rcases h with h | h
    · exact ⟨cur[i], by simp [World.cell?, h, hi]⟩
    · exact ⟨v, by simp [World.cell?, h, hi]⟩
  · rcases h with h | h
    · exact fz_at h _
    · exact fz_at h _
theorem own_size {w : World} {g k : Nat} {l : List Pt} {cur : Array Value} {t : TypeId} (h : OwnT w g l) (hc : w.heap[g]? = some (.cells cur t (0, 0))) (hk : k < l.length) : k * 3 + 1 < cur.size := by
  have h1 := (h.at_ k hk).2.1
  simp [World.cell?, hc] at h1
  exact (Array.getElem?_eq_some_iff.1 h1).1
/-- the ports where one is another's -/
def lessL (q k : Nat) (po : List Pt) : List Pt := (po.set k { po.getD k pz with wr := (q : Int) + 1 }).set k { (po.set k { po.getD k pz with wr := (q : Int) + 1 }).getD k pz with rd := 0 }
theorem lessL_len (q k : Nat) (po : List Pt) : (lessL q k po).length = po.length := by unfold lessL; simp
theorem less_cf (q k : Nat) (c : Cf) (hk : k < c.po.length) : LessP (q : Int) k c { c with po := lessL q k c.po } := by
  refine ⟨rfl, lessL_len q k c.po, ?_, fun i hi => ?_, rfl, rfl, rfl, rfl⟩
  · show ((lessL q k c.po).getD k pz).wr = _ ∧ ((lessL q k c.po).getD k pz).rd = 0
    unfold lessL
    rw [getD_set_self _ _ _ _ (by simpa using hk), getD_set_self _ _ _ _ hk]
    exact ⟨rfl, rfl⟩
  · show (lessL q k c.po).getD i pz = _
    unfold lessL
    rw [getD_set_ne _ _ _ _ _ (fun e => hi e.symm), getD_set_ne _ _ _ _ _ (fun e => hi e.symm)]
theorem mem_may {l : List Iv} (hf : Fine l) : ∀ i ∈ l, mayI i = true := by
  intro i hi
  obtain ⟨k, hk, rfl⟩ := List.mem_iff_getElem.1 hi
  have := hf.may k hk
  rwa [List.getD_eq_getElem?_getD, List.getElem?_eq_getElem hk] at this
theorem and_one {N k : Nat} (hN : N < 4294967296) : (bits .and .u32 ((N : Int) / 2 ^ k) 1 == 1) = N.testBit k := by
  have e : ((N : Int) / 2 ^ k) = ((N / 2 ^ k : Nat) : Int) := by push_cast; rfl
  have h1 := (bits32 (N / 2 ^ k) 1 (Nat.lt_of_le_of_lt (Nat.div_le_self _ _) hN) (by decide)).1
  rw [e, show (1 : Int) = ((1 : Nat) : Int) from rfl, h1, Nat.and_one_is_mod, Nat.testBit_eq_decide_div_mod_eq]
  generalize N / 2 ^ k % 2 = x
  by_cases hx : x = 1
  · subst hx; rfl
  · rw [decide_eq_false hx]; simp; omega
theorem less_in {w wr : World} {m : Cm} {ds : List Pd} {c : Cf} {q k g4 c4 : Nat} (h : CfIn wr m ds c) (hc : m.nq ≤ c4 ∧ c4 ≤ 9223372036854775807) (ht : OwnT wr g4 (lessL q k c.po)) : CfIn wr { m with aq := some ⟨g4, 0, none⟩, cq := c4 } ds { c with po := lessL q k c.po } := by
  refine ⟨h.pd, ?_, h.st, h.ins, h.ns, h.fr, h.fw, h.lp, hc, h.ls, h.wi, h.wr, h.ww⟩
  have := ht.row
  rwa [lessL_len, h.pt.1] at this
theorem field_in {wr : World} {m : Cm} {ds : List Pd} {c : Cf} {q : Nat} (h : CfIn wr m ds c) (hq : q ≤ 31) : CfIn wr { m with fr := 0, fw := (q : Int) + 1 } ds { c with fr := 0, fw := (q : Int) + 1 } :=
  ⟨h.pd, h.pt, h.st, h.ins, h.ns, rfl, rfl, h.lp, h.lq, h.ls, h.wi, ⟨Int.le_refl _, by show (0 : Int) ≤ 4294967295; decide⟩, ⟨by show _ ≤ (q : Int) + 1; omega, by show (q : Int) + 1 ≤ _; omega⟩⟩
set_option maxRecDepth 100000 in
set_option maxHeartbeats 12800000 in
theorem more_walk (w : World) (hT : Tabs w) (hKn : KnownC) (hV : CheckVC) (a : Option Addr) (n cp : Nat) (l : List Iv) (h : IRow w a n l) (hc : n ≤ cp ∧ cp ≤ 9223372036854775807) (part : Int) (hp : -9223372036854775808 ≤ part ∧ part ≤ 9223372036854775807) (m : Cm) (ds : List Pd) (c : Cf) (h2 : CfIn w m ds c)
    (hL : m.np + m.nq + m.ns < 9223372036854775808) (hna : m.ap = none → m.cp = 0) (hnq : m.aq = none → m.cq = 0) :
    Calls Tryd.prog 4 #[.slice a n cp, .int .i64 part, m.val] w fun e w' => e = .returned (.bool true) ∧ Below w.heap.size w w' := by
  have hln : l.length = n := h.1
  have HL := Lib.hid hln
  obtain ⟨S, hS⟩ : ∃ S, w.heap.size = S := ⟨_, rfl⟩
  have HS := Lib.hid hS
  have HX : Hid ((w.alloc (.cells m.cells 33)).heap[S]? = some (.cells m.cells 33 (0, 0))) := by show _ = _; rw [← hS]; exact alloc_new w _
  have HB : Hid (Below S w (w.alloc (.cells m.cells 33))) := by show Below _ _ _; rw [← hS]; exact (Below.refl _ w).alloc (Nat.le_refl _) _
  have HK := Lib.hid (fun W (hb : Below S w W) => hKn W (hT.below hb (by omega)))
  have HG := Lib.hid (fun W => great_any m W)
  have HCk0 := Lib.hid (fun W (hb : Below S w W) => hV l a n cp part m ds c W (hT.below hb (by omega)) hc.1 hc.2 (h.below hb (by omega)) hp (h2.below hb (by omega)))
  have HCk := Lib.hid (fun m' ds' c' W (hb : Below S w W) (h3 : CfIn W m' ds' c') => hV l a n cp part m' ds' c' W (hT.below hb (by omega)) hc.1 hc.2 (h.below hb (by omega)) hp h3)
  have HSz : Hid (S < (w.alloc (.cells m.cells 33)).heap.size) := by show _ < _; rw [World.size_alloc]; omega
  have HCf := Lib.hid (fun X (hb : Below S w X) => h2.below hb (by omega))
  have HC0 := Lib.hid h2
  have HIw := Lib.hid h.2.1
  have HVv := Lib.hid (ver_parts (l := l) (part := part) (c := c))
  have HVo := Lib.hid (ver_ok (l := l) (part := part) (c := c))
  have HVn := Lib.hid (ver_none (l := l) (part := part) (c := c))
  have HGr := Lib.hid (fun e => grB_no (m := m) e hL)
  have HNa := Lib.hid hna
  have HNq := Lib.hid hnq
  clear hT hKn hV h h2 hc hp hln hL hna hnq
  unfold Cm.val at *
  unfold smV at *
  obtain ⟨Z, hZ⟩ : ∃ Z, verA l part c = Z := ⟨_, rfl⟩
  have HZ := Lib.hid hZ
  rw [hZ] at HCk0 HVv HVo HVn
  clear hZ
  obtain ⟨⟨sh, sf, sr, sw, si, so⟩, K, E⟩ := Z
  unfold smC at HCk0
  simp only at HCk0 HVv HVo HVn
  unfold Cm.cells at HCk0 HG
  unfold Cm.cells
  go_enter Tryd.func4, Tryd.ntmps4
  go_upto_region 1 with fail
  clear hS
  obtain ⟨X, hX⟩ : ∃ X, w.alloc (.cells m.cells 33) = X := ⟨_, rfl⟩
  rw [hX] at HX HB HSz
  unfold Cm.cells at hX
  rw [hX]
  clear hX
  go_wp2_with fail
  refine (HK.out X HB.out).mono ?_
  rintro e1 w1 ⟨rfl, hb1⟩
  have hsx := HSz.out
  have HX1 : Hid (w1.heap[S]? = some (.cells m.cells 33 (0, 0))) := (hb1.block _ hsx).trans HX.out
  have HB1 : Hid (Below S w w1) := HB.out.trans (hb1.mono (by omega))
  have HSz1 : Hid (S < w1.heap.size) := by have := hb1.size; show _ < _; omega
  clear hb1 HK HX HB HSz hsx
  obtain ⟨⟨y0, y1, y2, y3, y4, y5, y6⟩, y7, y8, y9, y10, y11, y12, y13⟩ := cfg_all HX1.out
  by_cases hn1 : 1000 < n
  · have hd1 : decide ((1000 : Int) < (n : Int)) = true := decide_eq_true (by omega)
    clear hn1
    go_wp2_with fail
    go_ret
    exact ⟨rfl, by rw [HS.out]; exact HB1.out⟩
  have hd1 : decide ((1000 : Int) < (n : Int)) = false := decide_eq_false (by omega)
  have HN : Hid (n ≤ 1000) := by show _ ≤ _; omega
  clear hn1
  go_wp2_with fail
  refine (HG.out w1).mono ?_
  rintro e2 w2 ⟨rfl, hb2⟩
  have hsx := HSz1.out
  have HX2 : Hid (w2.heap[S]? = some (.cells m.cells 33 (0, 0))) := (hb2.block _ hsx).trans HX1.out
  have HB2 : Hid (Below S w w2) := HB1.out.trans (hb2.mono (by omega))
  have HSz2 : Hid (S < w2.heap.size) := by have := hb2.size; show _ < _; omega
  clear hb2 y0 y1 y2 y3 y4 y5 y6 y7 y8 y9 y10 y11 y12 y13 HX1 HB1 HSz1 hsx HG
  generalize grB m = G at *
  cases G with
  | true =>
    go_wp2_with fail
    go_ret
    exact ⟨rfl, by rw [HS.out]; exact HB2.out⟩
  | false =>
  have hgr := HGr.out rfl
  have HGr2 := Lib.hid hgr
  clear hgr HGr
  obtain ⟨⟨y0, y1, y2, y3, y4, y5, y6⟩, y7, y8, y9, y10, y11, y12, y13⟩ := cfg_all HX2.out
  by_cases hp3 : 31 < part
  · have hd3 : decide ((31 : Int) < part) = true := decide_eq_true hp3
    clear hp3
    go_wp2_with fail
    go_ret
    exact ⟨rfl, by rw [HS.out]; exact HB2.out⟩
  have hd3 : decide ((31 : Int) < part) = false := decide_eq_false hp3
  have HP3 : Hid (part ≤ 31) := by show _ ≤ _; omega
  clear hp3
  go_wp2_with fail
  refine (HCk0.out w2 HB2.out).mono ?_
  rintro e3 w3 ⟨rfl, hb3⟩
  obtain ⟨A1, hA1⟩ : ∃ A1, w3.heap.size = A1 := ⟨_, rfl⟩
  have hsx := HSz2.out
  have hs3 := hb3.size
  have HX4 : Hid ((w3.alloc (.cells #[.int .i64 sh, .int .u32 (sf : Int), .int .u32 (sr : Int), .int .u32 (sw : Int), .int .u32 (si : Int), .int .u32 (so : Int)] 37)).heap[S]? = some (.cells m.cells 33 (0, 0))) := (Below.heap_alloc _ _ _ (by omega)).trans ((hb3.block _ hsx).trans HX2.out)
  have HY4 : Hid ((w3.alloc (.cells #[.int .i64 sh, .int .u32 (sf : Int), .int .u32 (sr : Int), .int .u32 (sw : Int), .int .u32 (si : Int), .int .u32 (so : Int)] 37)).heap[A1]? = some (.cells #[.int .i64 sh, .int .u32 (sf : Int), .int .u32 (sr : Int), .int .u32 (sw : Int), .int .u32 (si : Int), .int .u32 (so : Int)] 37 (0, 0))) := by show _ = _; rw [← hA1]; exact alloc_new w3 _
  have HB4 : Hid (Below S w (w3.alloc (.cells #[.int .i64 sh, .int .u32 (sf : Int), .int .u32 (sr : Int), .int .u32 (sw : Int), .int .u32 (si : Int), .int .u32 (so : Int)] 37))) := (HB2.out.trans (hb3.mono (by omega))).alloc (by omega) _
  have HA : Hid (S < A1) := by show _ < _; omega
  clear hb3 hs3 y0 y1 y2 y3 y4 y5 y6 y7 y8 y9 y10 y11 y12 y13 HX2 HB2 HSz2 hsx HCk0
  go_upto_region 6 with fail
  clear hA1
  generalize w3.alloc (.cells #[.int .i64 sh, .int .u32 (sf : Int), .int .u32 (sr : Int), .int .u32 (sw : Int), .int .u32 (si : Int), .int .u32 (so : Int)] 37) = w4 at *
  by_cases hE : E = 0
  case neg =>
    have hne : (E != 0) = true := by simpa using hE
    have hsz := HVn.out hE
    clear hE
    injection hsz with q1 q2 q3 q4 q5 q6
    subst q1 q2 q3 q4 q5 q6
    obtain ⟨u0, u1, u2, u3, u4, u5⟩ := cells6 HY4.out
    have heq := fun W => eqSm sz sz W
    simp only [smE_self] at heq
    unfold smC sz at heq
    simp only at heq
    go_wp2_with fail
    go_ret
    exact ⟨by first | rfl | (simp; done), by rw [HS.out]; exact HB4.out⟩
  subst hE
  have hv := HVv.out rfl
  have hok := HVo.out hv
  obtain ⟨q, rfl⟩ := Int.eq_ofNat_of_zero_le hv.p0
  have hcl : c.st.length = m.np := by rw [HC0.out.st, List.length_map]; exact HC0.out.pd.1
  have HQ : Hid (q < m.np ∧ q ≤ 31) := by have := hv.p1; have := HP3.out; show _ ∧ _; omega
  injection hok with h1 h2
  injection h2 with hK0 _
  subst hK0
  unfold sumL at h1
  injection h1 with h1 h2' h3 h4 h5 h6
  have HBits : Hid (sr = bitsL l rdO ∧ sw = bitsL l wrO ∧ si = bitsL l inO ∧ so = bitsL l ouO) := ⟨h3, h4, h5, h6⟩
  have hgo := htA_go hv.ht
  have HFi := Lib.hid hgo.2.2.1
  have HWell := Lib.hid (htA_well HIw.out hv.ht).1
  clear hv hcl h1 h2' h3 h4 h5 h6 hgo HVv HVo HVn HP3
  obtain ⟨⟨y0, y1, y2, y3, y4, y5, y6⟩, y7, y8, y9, y10, y11, y12, y13⟩ := cfg_all HX4.out
  obtain ⟨A2, hA2⟩ : ∃ A2, w4.heap.size = A2 := ⟨_, rfl⟩
  have HX5 : Hid ((w4.alloc (.cells m.cells 33)).heap[S]? = some (.cells m.cells 33 (0, 0))) := (Below.heap_alloc _ _ _ (lt_of_block HX4.out)).trans HX4.out
  have HY5 : Hid ((w4.alloc (.cells m.cells 33)).heap[A1]? = some (.cells #[.int .i64 sh, .int .u32 (sf : Int), .int .u32 (sr : Int), .int .u32 (sw : Int), .int .u32 (si : Int), .int .u32 (so : Int)] 37 (0, 0))) := (Below.heap_alloc _ _ _ (lt_of_block HY4.out)).trans HY4.out
  have HM5 : Hid ((w4.alloc (.cells m.cells 33)).heap[A2]? = some (.cells m.cells 33 (0, 0))) := by show _ = _; rw [← hA2]; exact alloc_new w4 _
  have HA2 : Hid (S < A1 ∧ A1 < A2) := by have := HA.out; have := lt_of_block HY4.out; show _ ∧ _; omega
  have HB5 : Hid (Below S w (w4.alloc (.cells m.cells 33))) := HB4.out.alloc (by have := HA2.out; omega) _
  clear HA
  unfold Cm.cells at HX5 HY5 HM5 HB5
  go_upto_region 9 with fail
  clear hA2 y0 y1 y2 y3 y4 y5 y6 y7 y8 y9 y10 y11 y12 y13 HX4 HY4 HB4
  generalize w4.alloc (.cells #[.int .u32 m.mem, .slice m.ap m.np m.cp, .slice m.aq m.nq m.cq, .int .i64 m.ins, .slice m.sa m.ns m.cs, .int .u32 m.fr, .int .i64 m.fw, .int .u32 m.fl, .int .u32 m.fs, .slice m.al m.nl m.cl, .int .i64 m.vi, .int .u8 m.dg, .int .i64 m.rq, .int .i64 m.sg] 33) = w5 at *
  have hA := HA2.out
  have hl5 := lt_of_block HM5.out
  have hgr := HGr2.out
  have hq := HQ.out
  obtain ⟨g1, c1, w6, hr1, ho1, hg1, hcp1, hb6⟩ := copyD w5 (HCf.out w5 HB5.out).pd (by omega) HNa.out 24
  have HX6 : Hid (w6.heap[S]? = some (.cells m.cells 33 (0, 0))) := (hb6.block _ (by omega)).trans HX5.out
  have HY6 : Hid (w6.heap[A1]? = some (.cells #[.int .i64 sh, .int .u32 (sf : Int), .int .u32 (sr : Int), .int .u32 (sw : Int), .int .u32 (si : Int), .int .u32 (so : Int)] 37 (0, 0))) := (hb6.block _ (by omega)).trans HY5.out
  have HM6 : Hid (w6.heap[A2]? = some (.cells m.cells 33 (0, 0))) := (hb6.block _ (by omega)).trans HM5.out
  have HD6 : Hid (OwnD w6 g1 ds) := ho1
  have HB6 : Hid (Below S w w6) := HB5.out.trans (hb6.mono (by omega))
  have HA3 : Hid (S < A1 ∧ A1 < A2 ∧ A2 < g1) := by show _ ∧ _ ∧ _; omega
  have HCp1 := Lib.hid hcp1
  obtain ⟨⟨y0, y1, y2, y3, y4, y5, y6⟩, y7, y8, y9, y10, y11, y12, y13⟩ := cfg_all (W := w5.alloc (.cells #[] 46)) ((Below.heap_alloc _ _ _ (by omega)).trans HX5.out)
  have z1 := (cfg_all HM6.out).1.2.1
  have zf := fz_at HM6.out 1
  clear hA hl5 hgr hq ho1 hg1 hcp1 hb6 HX5 HY5 HM5 HB5 HA2 y0 y2 y3 y4 y5 y6 y7 y8 y9 y10 y11 y12 y13
  go_upto_region 10 with (at_builtin; refine wpList_append_run rfl (.tmp 49) (.tmp 51) 24 24 rfl _ _ _ w6 24 rfl rfl rfl hr1 ?_)
  clear hr1 y1 z1 zf
  have hM7 : (w6.setCell ⟨A2, 1, none⟩ (.slice (some ⟨g1, 0, none⟩) m.np c1)).heap[A2]? = some (.cells ({ m with ap := some ⟨g1, 0, none⟩, cp := c1 } : Cm).cells 33 (0, 0)) := set_own _ HM6.out
  have hA := HA3.out
  have HX7 : Hid ((w6.setCell ⟨A2, 1, none⟩ (.slice (some ⟨g1, 0, none⟩) m.np c1)).heap[S]? = some (.cells m.cells 33 (0, 0))) := set_other (by omega) HX6.out
  have HY7 : Hid ((w6.setCell ⟨A2, 1, none⟩ (.slice (some ⟨g1, 0, none⟩) m.np c1)).heap[A1]? = some (.cells #[.int .i64 sh, .int .u32 (sf : Int), .int .u32 (sr : Int), .int .u32 (sw : Int), .int .u32 (si : Int), .int .u32 (so : Int)] 37 (0, 0))) := set_other (by omega) HY6.out
  have HD7 : Hid (OwnD (w6.setCell ⟨A2, 1, none⟩ (.slice (some ⟨g1, 0, none⟩) m.np c1)) g1 ds) := HD6.out.blockOf (setCell_blk _ _ _ _ _ (by omega))
  have HB7 : Hid (Below S w (w6.setCell ⟨A2, 1, none⟩ (.slice (some ⟨g1, 0, none⟩) m.np c1))) := HB6.out.setCell (p := ⟨A2, 1, none⟩) (show S ≤ A2 by omega) _
  have HM7 := Lib.hid hM7
  clear hM7 HX6 HY6 HM6 HD6 HB6
  generalize w6.setCell ⟨A2, 1, none⟩ (.slice (some ⟨g1, 0, none⟩) m.np c1) = w7 at *
  have hdl : ds.length = m.np := HC0.out.pd.1
  have hq := HQ.out
  obtain ⟨e0, e1, e2, e3, e4⟩ := HD7.out.at_ q (by omega)
  have HD8 : Hid (OwnD (w7.setCell ⟨g1, q * 5 + 1, none⟩ (.int .i64 64)) g1 (ds.set q { ds.getD q dz with st := 64 })) := HD7.out.setSt q (by omega) 64 (by omega)
  have HX8 : Hid ((w7.setCell ⟨g1, q * 5 + 1, none⟩ (.int .i64 64)).heap[S]? = some (.cells m.cells 33 (0, 0))) := set_other (by omega) HX7.out
  have HY8 : Hid ((w7.setCell ⟨g1, q * 5 + 1, none⟩ (.int .i64 64)).heap[A1]? = some (.cells #[.int .i64 sh, .int .u32 (sf : Int), .int .u32 (sr : Int), .int .u32 (sw : Int), .int .u32 (si : Int), .int .u32 (so : Int)] 37 (0, 0))) := set_other (by omega) HY7.out
  have HM8 : Hid ((w7.setCell ⟨g1, q * 5 + 1, none⟩ (.int .i64 64)).heap[A2]? = some (.cells ({ m with ap := some ⟨g1, 0, none⟩, cp := c1 } : Cm).cells 33 (0, 0))) := set_other (by omega) HM7.out
  have HB8 : Hid (Below S w (w7.setCell ⟨g1, q * 5 + 1, none⟩ (.int .i64 64))) := HB7.out.setCell (p := ⟨g1, q * 5 + 1, none⟩) (show S ≤ g1 by omega) _
  have z1 := (cfg_all HM7.out).1.2.1
  have zf : w7.frozen? ⟨g1, q * 5 + 1, none⟩ = false := by obtain ⟨cur, e⟩ := HD7.out.blk; exact fz_at e _
  have q0 : (0 : Int) ≤ q := by omega
  have q1 : (q : Int) < m.np := by omega
  clear hA hdl hq e0 e2 e3 e4 HX7 HY7 HM7 HD7 HB7
  go_upto_region 11 with fail
  clear z1 zf q0 q1 e1
  generalize w7.setCell ⟨g1, q * 5 + 1, none⟩ (.int .i64 64) = w8 at *
  have hA := HA3.out
  have hl8 := HD8.out.lt
  have hgr := HGr2.out
  obtain ⟨g2, c2, w9, hr2, ho2, hg2, hcp2, hb9⟩ := copyT w8 (HCf.out w8 HB8.out).pt (by omega) HNq.out 25
  have HX9 : Hid (w9.heap[S]? = some (.cells m.cells 33 (0, 0))) := (hb9.block _ (by omega)).trans HX8.out
  have HY9 : Hid (w9.heap[A1]? = some (.cells #[.int .i64 sh, .int .u32 (sf : Int), .int .u32 (sr : Int), .int .u32 (sw : Int), .int .u32 (si : Int), .int .u32 (so : Int)] 37 (0, 0))) := (hb9.block _ (by omega)).trans HY8.out
  have HM9 : Hid (w9.heap[A2]? = some (.cells ({ m with ap := some ⟨g1, 0, none⟩, cp := c1 } : Cm).cells 33 (0, 0))) := (hb9.block _ (by omega)).trans HM8.out
  have HD9 : Hid (OwnD w9 g1 (ds.set q { ds.getD q dz with st := 64 })) := HD8.out.blockOf (hb9.block _ (by omega))
  have HP9 : Hid (OwnT w9 g2 c.po) := ho2
  have HB9 : Hid (Below S w w9) := HB8.out.trans (hb9.mono (by omega))
  have HA4 : Hid (S < A1 ∧ A1 < A2 ∧ A2 < g1 ∧ g1 < g2) := by show _ ∧ _ ∧ _ ∧ _; omega
  have HCp2 := Lib.hid hcp2
  obtain ⟨⟨y0, y1, y2, y3, y4, y5, y6⟩, y7, y8, y9, y10, y11, y12, y13⟩ := cfg_all (W := w8.alloc (.cells #[] 48)) ((Below.heap_alloc _ _ _ (by omega)).trans HX8.out)
  have z1 := (cfg_all HM9.out).1.2.2.1
  have zf := fz_at HM9.out 2
  have HMS : Hid (MSt w S A1 A2 g1 g2 m ({ m with ap := some ⟨g1, 0, none⟩, cp := c1, aq := some ⟨g2, 0, none⟩, cq := c2 } : Cm) #[.int .i64 sh, .int .u32 (sf : Int), .int .u32 (sr : Int), .int .u32 (sw : Int), .int .u32 (si : Int), .int .u32 (so : Int)] (ds.set q { ds.getD q dz with st := 64 }) c.po (w9.setCell ⟨A2, 2, none⟩ (.slice (some ⟨g2, 0, none⟩) m.nq c2))) :=
    ⟨set_other (by omega) HX9.out, set_other (by omega) HY9.out, set_own _ HM9.out, HD9.out.blockOf (setCell_blk _ _ _ _ _ (by omega)), HP9.out.blockOf (setCell_blk _ _ _ _ _ (by omega)), HB9.out.setCell (p := ⟨A2, 2, none⟩) (show S ≤ A2 by omega) _⟩
  clear hA hl8 hgr ho2 hg2 hcp2 hb9 HX8 HY8 HM8 HD8 HB8 HA3 y0 y1 y3 y4 y5 y6 y7 y8 y9 y10 y11 y12 y13 HX9 HY9 HM9 HD9 HP9 HB9
  go_upto_region 12 with (at_builtin; refine wpList_append_run rfl (.tmp 59) (.tmp 61) 25 25 rfl _ _ _ w9 25 rfl rfl rfl hr2 ?_)
  clear hr2 y2 z1 zf
  generalize w9.setCell ⟨A2, 2, none⟩ (.slice (some ⟨g2, 0, none⟩) m.nq c2) = w10 at *
  have z1 := (cfg_all HMS.out.mm).1.2.2.1
  go_wp2_with fail
  clear z1
  go_loopw [67] (fun i wr => ∃ (k : Nat) (po : List Pt), k ≤ m.nq ∧ i = .int .i64 (k : Nat) ∧ MoreP q k c.po po ∧ MSt w S A1 A2 g1 g2 m ({ m with ap := some ⟨g1, 0, none⟩, cp := c1, aq := some ⟨g2, 0, none⟩, cq := c2 } : Cm) #[.int .i64 sh, .int .u32 (sf : Int), .int .u32 (sr : Int), .int .u32 (sw : Int), .int .u32 (si : Int), .int .u32 (so : Int)] (ds.set q { ds.getD q dz with st := 64 }) po wr) (fun i _ => m.nq - (intOf i).toNat)
  case atStart => exact ⟨0, c.po, by omega, rfl, MoreP.start _ _, HMS.out⟩
  case round =>
    obtain ⟨k, po, hk, rfl, hmp, hms⟩ := hrel
    have HMp := Lib.hid hmp
    have HMs := Lib.hid hms
    clear hmp hms HMS
    have hpl : po.length = m.nq := by rw [HMp.out.len]; exact HC0.out.pt.1
    have q0 : (0 : Int) ≤ q := by omega
    by_cases hlt : k < m.nq
    · have hd2 : decide ((k : Int) < (m.nq : Int)) = true := decide_eq_true (by omega)
      have k0 : (0 : Int) ≤ k := by omega
      have k1 : (k : Int) < m.nq := by omega
      have k9 : (k : Int) < 1000 := by have := HGr2.out; omega
      have HPl := Lib.hid hpl
      obtain ⟨e0, e1, e2⟩ := HMs.out.t.at_ k (by omega)
      have hwf := HMs.out.t.wf _ (getD_mem pz (show k < po.length by omega))
      obtain ⟨N, hN⟩ := Int.eq_ofNat_of_zero_le hwf.2.2.1
      have hNb : N < 4294967296 := by have := hwf.2.2.2; omega
      rw [hN] at e2
      obtain ⟨hor, hob⟩ := or_pow hNb HQ.out.2
      have z2 := (cfg_all HMs.out.mm).1.2.2.1
      have HMn := Lib.hid (HMs.out.drew.setRd HA4.out k (by omega) ((N ||| 2 ^ q : Nat) : Int) (by omega))
      have HPn := Lib.hid (HMp.out.add (s := ((N ||| 2 ^ q : Nat) : Int)) (by rw [← HMp.out.len]; omega) (oneB_or HQ.out.2))
      have HMd := Lib.hid HMs.out.drew
      clear hN hwf hNb hob hpl e0 e1
      go_upto_region 15 with fail
      go_still_tail 11, (by kernel_rfl)
      change wpList _ _ _ _ _ wr.drew
      obtain ⟨f0, f1, f2⟩ := HMd.out.t.at_ k (by rw [HPl.out]; exact hlt)
      have ff : wr.drew.frozen? ⟨g2, k * 3 + 2, none⟩ = false := by obtain ⟨cur, e⟩ := HMd.out.t.blk; exact fz_at e _
      clear e2 z2 HMd HMs HMp hlt
      generalize wr.drew = W2 at *
      go_wp2_with fail
      exact ⟨⟨k + 1, _, by omega, by simp, HPn.out, HMn.out⟩, by simp [intOf]; omega⟩
    · obtain rfl : k = m.nq := by omega
      have hd2 : decide ((m.nq : Int) < (m.nq : Int)) = false := decide_eq_false (by omega)
      clear hlt hk
      obtain ⟨F, hF⟩ := Int.eq_ofNat_of_zero_le HC0.out.wr.1
      have hFb : F < 4294967296 := by have := HC0.out.wr.2; omega
      have z5 := (cfg_all HMs.out.mm).1.2.2.2.2.2.1
      simp only at z5
      rw [hF] at z5
      obtain ⟨hor, hob⟩ := or_pow hFb HQ.out.2
      have HFb := Lib.hid hob
      clear hF hFb hob
      go_upto_region 17 with fail
      go_still_tail 8, (by kernel_rfl)
      change wpList _ _ _ _ _ wr.drew
      have z6 := (cfg_all HMs.out.drew.mm).1.2.2.2.2.2.1
      have zf := fz_at HMs.out.drew.mm 5
      have HMt : Hid (MSt w S A1 A2 g1 g2 m ({ m with ap := some ⟨g1, 0, none⟩, cp := c1, aq := some ⟨g2, 0, none⟩, cq := c2, fr := ((F ||| 2 ^ q : Nat) : Int) } : Cm) #[.int .i64 sh, .int .u32 (sf : Int), .int .u32 (sr : Int), .int .u32 (sw : Int), .int .u32 (si : Int), .int .u32 (so : Int)] (ds.set q { ds.getD q dz with st := 64 }) po (wr.drew.setCell ⟨A2, 5, none⟩ (.int .u32 ((F ||| 2 ^ q : Nat) : Int)))) := by
        have hA := HA4.out
        have hd := HMs.out.drew
        exact ⟨set_other (by omega) hd.x, set_other (by omega) hd.y, set_own _ hd.mm, hd.d.blockOf (setCell_blk _ _ _ _ _ (by omega)), hd.t.blockOf (setCell_blk _ _ _ _ _ (by omega)), hd.b.setCell (p := ⟨A2, 5, none⟩) (show S ≤ A2 by omega) _⟩
      clear z5 HMs hd2
      generalize wr.drew = W2 at *
      go_upto_region 18 with fail
      rw [hor]
      clear z6 zf hor
      try generalize ((2 : Int) ^ min q 32 % 4294967296) = vS
      try generalize IntKind.u32.wrap ((2 : Int) ^ min q 32) = vS2
      generalize W2.setCell ⟨A2, 5, none⟩ (.int .u32 ((F ||| 2 ^ q : Nat) : Int)) = W3 at *
      have hcall := HCk.out _ _ _ W3 HMt.out.b (more_in HC0.out (by have := HFb.out; omega) hpl HCp1.out HCp2.out HMt.out)
      rw [ver_more HIw.out (by rw [HZ.out]) (more_cf HC0.out HQ.out.1 HMp.out (oneB_or HQ.out.2)), HZ.out] at hcall
      unfold Cm.cells smC at hcall
      simp only at hcall
      have HCall := Lib.hid hcall
      obtain ⟨⟨y0, y1, y2, y3, y4, y5, y6⟩, y7, y8, y9, y10, y11, y12, y13⟩ := cfg_all HMt.out.mm
      simp only at y0 y1 y2 y3 y4 y5 y6 y7 y8 y9 y10 y11 y12 y13
      clear hcall HMp
      go_wp2_with fail
      refine HCall.out.mono ?_
      rintro e4 W4 ⟨rfl, hb4⟩
      obtain ⟨A3, hA3⟩ : ∃ A3, W4.heap.size = A3 := ⟨_, rfl⟩
      have hSW : S ≤ W3.heap.size := by have := lt_of_block HMt.out.x; omega
      have HMu : Hid (MSt w S A1 A2 g1 g2 m ({ m with ap := some ⟨g1, 0, none⟩, cp := c1, aq := some ⟨g2, 0, none⟩, cq := c2, fr := ((F ||| 2 ^ q : Nat) : Int) } : Cm) #[.int .i64 sh, .int .u32 (sf : Int), .int .u32 (sr : Int), .int .u32 (sw : Int), .int .u32 (si : Int), .int .u32 (so : Int)] (ds.set q { ds.getD q dz with st := 64 }) po (W4.alloc (.cells #[.int .i64 sh, .int .u32 (sf : Int), .int .u32 (sr : Int), .int .u32 (sw : Int), .int .u32 (si : Int), .int .u32 (so : Int)] 37))) := HMt.out.below (hb4.alloc hb4.size _) hSW
      have HZ4 : Hid ((W4.alloc (.cells #[.int .i64 sh, .int .u32 (sf : Int), .int .u32 (sr : Int), .int .u32 (sw : Int), .int .u32 (si : Int), .int .u32 (so : Int)] 37)).heap[A3]? = some (.cells #[.int .i64 sh, .int .u32 (sf : Int), .int .u32 (sr : Int), .int .u32 (sw : Int), .int .u32 (si : Int), .int .u32 (so : Int)] 37 (0, 0))) := by show _ = _; rw [← hA3]; exact alloc_new W4 _
      clear y0 y1 y2 y3 y4 y5 y6 y7 y8 y9 y10 y11 y12 y13 hb4 hSW HMt HCall
      go_upto_region 19 with fail
      clear hA3
      generalize W4.alloc (.cells #[.int .i64 sh, .int .u32 (sf : Int), .int .u32 (sr : Int), .int .u32 (sw : Int), .int .u32 (si : Int), .int .u32 (so : Int)] 37) = W5 at *
      obtain ⟨u0, u1, u2, u3, u4, u5⟩ := cells6 HMu.out.y
      obtain ⟨v0, v1, v2, v3, v4, v5⟩ := cells6 HZ4.out
      have heq := fun W => eqSm ⟨sh, sf, sr, sw, si, so⟩ ⟨sh, sf, sr, sw, si, so⟩ W
      simp only [smE_self] at heq
      unfold smC at heq
      simp only at heq
      go_upto_region 21 with fail
      clear u0 u1 u2 u3 u4 u5 v0 v1 v2 v3 v4 v5 HZ4 heq
      have z2 := (cfg_all HMu.out.mm).1.2.2.1
      simp only at z2
      go_wp2_with fail
      clear z2
      go_loopw [112] (fun i wr => ∃ (k : Nat), k ≤ m.nq ∧ i = .int .i64 (k : Nat) ∧ MSt w S A1 A2 g1 g2 m ({ m with ap := some ⟨g1, 0, none⟩, cp := c1, aq := some ⟨g2, 0, none⟩, cq := c2, fr := ((F ||| 2 ^ q : Nat) : Int) } : Cm) #[.int .i64 sh, .int .u32 (sf : Int), .int .u32 (sr : Int), .int .u32 (sw : Int), .int .u32 (si : Int), .int .u32 (so : Int)] (ds.set q { ds.getD q dz with st := 64 }) po wr) (fun i _ => m.nq - (intOf i).toNat)
      case atStart => exact ⟨0, by omega, rfl, HMu.out⟩
      case round =>
        obtain ⟨k, hk, rfl, hms⟩ := hrel
        have HMs := Lib.hid hms
        clear hms HMu
        have hSW : S ≤ wr.heap.size := by have := lt_of_block HMs.out.x; omega
        have HPc : Hid (c.po.length = m.nq) := HC0.out.pt.1
        by_cases hlt : k < m.nq
        · have hd2 : decide ((k : Int) < (m.nq : Int)) = true := decide_eq_true (by omega)
          have k0 : (0 : Int) ≤ k := by omega
          have k1 : (k : Int) < m.nq := by omega
          have k9 : (k : Int) < 1000 := by have := HGr2.out; omega
          obtain ⟨⟨y0, y1, y2, y3, y4, y5, y6⟩, y7, y8, y9, y10, y11, y12, y13⟩ := cfg_all HMs.out.x
          obtain ⟨A4, hA4⟩ : ∃ A4, wr.heap.size = A4 := ⟨_, rfl⟩
          have HM6 : Hid (MSt w S A1 A2 g1 g2 m ({ m with ap := some ⟨g1, 0, none⟩, cp := c1, aq := some ⟨g2, 0, none⟩, cq := c2, fr := ((F ||| 2 ^ q : Nat) : Int) } : Cm) #[.int .i64 sh, .int .u32 (sf : Int), .int .u32 (sr : Int), .int .u32 (sw : Int), .int .u32 (si : Int), .int .u32 (so : Int)] (ds.set q { ds.getD q dz with st := 64 }) po (wr.alloc (.cells m.cells 33))) := HMs.out.below ((Below.refl _ wr).alloc (Nat.le_refl _) _) hSW
          have HL6 : Hid ((wr.alloc (.cells m.cells 33)).heap[A4]? = some (.cells m.cells 33 (0, 0))) := by show _ = _; rw [← hA4]; exact alloc_new wr _
          have HA5 : Hid (g2 < A4) := by have := HMs.out.t.lt; show _ < _; omega
          clear hSW
          unfold Cm.cells at HM6 HL6
          go_upto_region 25 with fail
          clear hA4 y0 y1 y2 y3 y4 y5 y6 y7 y8 y9 y10 y11 y12 y13 HMs
          generalize wr.alloc (.cells #[.int .u32 m.mem, .slice m.ap m.np m.cp, .slice m.aq m.nq m.cq, .int .i64 m.ins, .slice m.sa m.ns m.cs, .int .u32 m.fr, .int .i64 m.fw, .int .u32 m.fl, .int .u32 m.fs, .slice m.al m.nl m.cl, .int .i64 m.vi, .int .u8 m.dg, .int .i64 m.rq, .int .i64 m.sg] 33) = W6 at *
          obtain ⟨g4, c4, W7, hr4, ho4, hg4, hcp4, hb7⟩ := copyT W6 (HCf.out W6 HM6.out.b).pt (by have := HGr2.out; omega) HNq.out 25
          have hl6 := lt_of_block HL6.out
          have hlx := lt_of_block HM6.out.x
          have HM7 : Hid (MSt w S A1 A2 g1 g2 m ({ m with ap := some ⟨g1, 0, none⟩, cp := c1, aq := some ⟨g2, 0, none⟩, cq := c2, fr := ((F ||| 2 ^ q : Nat) : Int) } : Cm) #[.int .i64 sh, .int .u32 (sf : Int), .int .u32 (sr : Int), .int .u32 (sw : Int), .int .u32 (si : Int), .int .u32 (so : Int)] (ds.set q { ds.getD q dz with st := 64 }) po W7) := HM6.out.below hb7 (by omega)
          have HL7 : Hid (W7.heap[A4]? = some (.cells m.cells 33 (0, 0))) := (hb7.block _ hl6).trans HL6.out
          have HP7 : Hid (OwnT W7 g4 c.po) := ho4
          have HA6 : Hid (g2 < A4 ∧ A4 < g4) := by have := HA5.out; show _ ∧ _; omega
          have HCp4 := Lib.hid hcp4
          have y2 := (cfg_all (W := W6.alloc (.cells #[] 48)) ((Below.heap_alloc _ _ _ hlx).trans HM6.out.x)).1.2.2.1
          have z1 := (cfg_all HL7.out).1.2.2.1
          have zf := fz_at HL7.out 2
          have HM8 : Hid (MSt w S A1 A2 g1 g2 m ({ m with ap := some ⟨g1, 0, none⟩, cp := c1, aq := some ⟨g2, 0, none⟩, cq := c2, fr := ((F ||| 2 ^ q : Nat) : Int) } : Cm) #[.int .i64 sh, .int .u32 (sf : Int), .int .u32 (sr : Int), .int .u32 (sw : Int), .int .u32 (si : Int), .int .u32 (so : Int)] (ds.set q { ds.getD q dz with st := 64 }) po (W7.setCell ⟨A4, 2, none⟩ (.slice (some ⟨g4, 0, none⟩) m.nq c4))) := HM7.out.other HA4.out HA5.out 2 _
          have HL8 : Hid ((W7.setCell ⟨A4, 2, none⟩ (.slice (some ⟨g4, 0, none⟩) m.nq c4)).heap[A4]? = some (.cells ({ m with aq := some ⟨g4, 0, none⟩, cq := c4 } : Cm).cells 33 (0, 0))) := set_own _ HL7.out
          have HP8 : Hid (OwnT (W7.setCell ⟨A4, 2, none⟩ (.slice (some ⟨g4, 0, none⟩) m.nq c4)) g4 c.po) := HP7.out.blockOf (setCell_blk _ _ _ _ _ (by omega))
          clear ho4 hg4 hcp4 hb7 hl6 hlx HM6 HL6 HM7 HL7 HP7 HA5
          go_upto_region 26 with (at_builtin; refine wpList_append_run rfl (.tmp 116) (.tmp 118) 25 25 rfl _ _ _ W7 25 rfl rfl rfl hr4 ?_)
          clear hr4 y2 z1 zf
          generalize W7.setCell ⟨A4, 2, none⟩ (.slice (some ⟨g4, 0, none⟩) m.nq c4) = W8 at *
          have q9 : (q : Int) ≤ 31 := by have := HQ.out.2; omega
          have z2 := (cfg_all HL8.out).1.2.2.1
          simp only at z2
          obtain ⟨cur, hcur⟩ := HP8.out.blk
          have hE := ek_rel g4 (.cells (cur.setIfInBounds (k * 3 + 1) (.int .i64 ((q : Int) + 1))) 48 (0, 0))
          have hES : Posts.Stable (EK g4 (.cells (cur.setIfInBounds (k * 3 + 1) (.int .i64 ((q : Int) + 1))) 48 (0, 0))) (fun _ X => g4 < X.heap.size ∧ X.heap[g4]? = some (.cells (cur.setIfInBounds (k * 3 + 1) (.int .i64 ((q : Int) + 1))) 48 (0, 0))) := EK.stable
          have neA : A4 ≠ g4 := by have := HA6.out; omega
          have hg4 : g4 < W8.heap.size := HP8.out.lt
          have hci : k * 3 + 1 < cur.size := own_size HP8.out hcur (by rw [HPc.out]; exact hlt)
          have hqa : IntKind.i64.wrap ((q : Int) + 1) = (q : Int) + 1 := by simp [IntKind.wrap, IntKind.bits, IntKind.signed]; omega
          refine (wpIn_wide (n := 0)).1 (Posts.wpIn_region_tail hE 11 4 (Posts.At [Posts.is (.pointer (some ⟨A4, 2, none⟩)), Posts.is (.slice (some ⟨g4, 0, none⟩) m.nq c4), Posts.is (.int .i64 (k : Nat)), Posts.is (.pointer (some ⟨A4, 2, none⟩)), Posts.is (.slice (some ⟨g4, 0, none⟩) m.nq c4), Posts.is (.int .i64 (k : Nat)), Posts.is (.int .i64 (q : Nat)), Posts.is (.int .i64 ((q : Int) + 1)), Posts.is (.pointer (some ⟨g4, k * 3, none⟩)), Posts.is (.pointer (some ⟨g4, k * 3 + 1, none⟩)), (fun _ X => g4 < X.heap.size ∧ X.heap[g4]? = some (.cells (cur.setIfInBounds (k * 3 + 1) (.int .i64 ((q : Int) + 1))) 48 (0, 0)))]) (fun _ _ => True) (by kernel_rfl) (by decide) (by kernel_rfl) (by kernel_rfl) (by kernel_rfl)
            (Posts.stable_at _ (by repeat' (first | exact trivial | (refine And.intro ?_ ?_) | exact Posts.is_stable _ | exact Posts.on_stable _ _ | assumption))) trivial ?_ ?_)
          · refine ⟨?_, ?_, ?_, ?_, ?_, ?_, ?_, ?_, ?_, ?_, ?_, trivial⟩
            · intro a X hX hS hD hJ hU
              have x0 := (World.cell?_of_block (hX.block _ (World.block_lt_of_cell? _ _ z2) neA)).trans z2
              have d16 := Posts.slot (show a.eval (.tmp 16) = .pointer (some ⟨A4, 0, none⟩) from hS.other 16 rfl)
              exact Posts.op_value (fun _ => trivial) rfl rfl (by intro c h; cases h) rfl (by rw [hS.size]; simp) (v := .pointer (some ⟨A4, 2, none⟩)) (by simp [execOp, d16,  go_sem, x0, k0, k1, hqa]) rfl (hE.refl _) trivial
            · intro a X hX hS hD hJ hU
              have x0 := (World.cell?_of_block (hX.block _ (World.block_lt_of_cell? _ _ z2) neA)).trans z2
              have d121 := Posts.slot (show a.eval (.tmp 121) = .pointer (some ⟨A4, 2, none⟩) from hD.1)
              exact Posts.op_value (fun _ => trivial) rfl rfl (by intro c h; cases h) rfl (by rw [hS.size]; simp) (v := .slice (some ⟨g4, 0, none⟩) m.nq c4) (by simp [execOp, d121,  go_sem, x0, k0, k1, hqa]) rfl (hE.refl _) trivial
            · intro a X hX hS hD hJ hU
              have x0 := (World.cell?_of_block (hX.block _ (World.block_lt_of_cell? _ _ z2) neA)).trans z2
              have d15 := Posts.slot (show a.eval (.tmp 15) = .int .i64 (k : Nat) from hS.other 15 rfl)
              exact Posts.op_value (fun _ => trivial) rfl rfl (by intro c h; cases h) rfl (by rw [hS.size]; simp) (v := .int .i64 (k : Nat)) (by simp [execOp, d15,  go_sem, x0, k0, k1, hqa]) rfl (hE.refl _) trivial
            · intro a X hX hS hD hJ hU
              have x0 := (World.cell?_of_block (hX.block _ (World.block_lt_of_cell? _ _ z2) neA)).trans z2
              have d16 := Posts.slot (show a.eval (.tmp 16) = .pointer (some ⟨A4, 0, none⟩) from hS.other 16 rfl)
              exact Posts.op_value (fun _ => trivial) rfl rfl (by intro c h; cases h) rfl (by rw [hS.size]; simp) (v := .pointer (some ⟨A4, 2, none⟩)) (by simp [execOp, d16,  go_sem, x0, k0, k1, hqa]) rfl (hE.refl _) trivial
            · intro a X hX hS hD hJ hU
              have x0 := (World.cell?_of_block (hX.block _ (World.block_lt_of_cell? _ _ z2) neA)).trans z2
              have d124 := Posts.slot (show a.eval (.tmp 124) = .pointer (some ⟨A4, 2, none⟩) from hD.1)
              exact Posts.op_value (fun _ => trivial) rfl rfl (by intro c h; cases h) rfl (by rw [hS.size]; simp) (v := .slice (some ⟨g4, 0, none⟩) m.nq c4) (by simp [execOp, d124,  go_sem, x0, k0, k1, hqa]) rfl (hE.refl _) trivial
            · intro a X hX hS hD hJ hU
              have x0 := (World.cell?_of_block (hX.block _ (World.block_lt_of_cell? _ _ z2) neA)).trans z2
              have d15 := Posts.slot (show a.eval (.tmp 15) = .int .i64 (k : Nat) from hS.other 15 rfl)
              exact Posts.op_value (fun _ => trivial) rfl rfl (by intro c h; cases h) rfl (by rw [hS.size]; simp) (v := .int .i64 (k : Nat)) (by simp [execOp, d15,  go_sem, x0, k0, k1, hqa]) rfl (hE.refl _) trivial
            · intro a X hX hS hD hJ hU
              have x0 := (World.cell?_of_block (hX.block _ (World.block_lt_of_cell? _ _ z2) neA)).trans z2
              have d1 := Posts.slot (show a.eval (.tmp 1) = .int .i64 (q : Nat) from hS.other 1 rfl)
              exact Posts.op_value (fun _ => trivial) rfl rfl (by intro c h; cases h) rfl (by rw [hS.size]; simp) (v := .int .i64 (q : Nat)) (by simp [execOp, d1,  go_sem, x0, k0, k1, hqa]) rfl (hE.refl _) trivial
            · intro a X hX hS hD hJ hU
              have x0 := (World.cell?_of_block (hX.block _ (World.block_lt_of_cell? _ _ z2) neA)).trans z2
              have d127 := Posts.slot (show a.eval (.tmp 127) = .int .i64 (q : Nat) from hD.1)
              exact Posts.op_value (fun _ => trivial) rfl rfl (by intro c h; cases h) rfl (by rw [hS.size]; simp) (v := .int .i64 ((q : Int) + 1)) (by simp [execOp, d127,  go_sem, x0, k0, k1, hqa]) rfl (hE.refl _) trivial
            · intro a X hX hS hD hJ hU
              have x0 := (World.cell?_of_block (hX.block _ (World.block_lt_of_cell? _ _ z2) neA)).trans z2
              have d122 := Posts.slot (show a.eval (.tmp 122) = .slice (some ⟨g4, 0, none⟩) m.nq c4 from hD.1)
              have d123 := Posts.slot (show a.eval (.tmp 123) = .int .i64 (k : Nat) from hD.2.1)
              exact Posts.op_value (fun _ => trivial) rfl rfl (by intro c h; cases h) rfl (by rw [hS.size]; simp) (v := .pointer (some ⟨g4, k * 3, none⟩)) (by simp [execOp, d122, d123,  go_sem, x0, k0, k1, hqa]) rfl (hE.refl _) trivial
            · intro a X hX hS hD hJ hU
              have x0 := (World.cell?_of_block (hX.block _ (World.block_lt_of_cell? _ _ z2) neA)).trans z2
              have d129 := Posts.slot (show a.eval (.tmp 129) = .pointer (some ⟨g4, k * 3, none⟩) from hD.1)
              exact Posts.op_value (fun _ => trivial) rfl rfl (by intro c h; cases h) rfl (by rw [hS.size]; simp) (v := .pointer (some ⟨g4, k * 3 + 1, none⟩)) (by simp [execOp, d129,  go_sem, x0, k0, k1, hqa]) rfl (hE.refl _) trivial
            · intro a X hX hS hD hJ hU
              have x0 := (World.cell?_of_block (hX.block _ (World.block_lt_of_cell? _ _ z2) neA)).trans z2
              have hz := ek_set (t := 48) hci (v := .int .i64 ((q : Int) + 1)) (by
                rcases hX.own hg4 with e | e
                · exact .inl (e.trans hcur)
                · exact .inr e)
              obtain ⟨⟨u, zc0⟩, zf0, hek, hfin, hsz⟩ := hz
              have d130 := Posts.slot (show a.eval (.tmp 130) = .pointer (some ⟨g4, k * 3 + 1, none⟩) from hD.1)
              have d128 := Posts.slot (show a.eval (.tmp 128) = .int .i64 ((q : Int) + 1) from hD.2.1)
              exact Posts.op_done (fun _ => trivial) rfl rfl (by intro c h; cases h) (Y := X.setCell ⟨g4, k * 3 + 1, none⟩ (.int .i64 ((q : Int) + 1))) (by simp [execOp, d130, d128, zc0, zf0, go_sem]) ⟨⟨⟨undef, rfl⟩, ⟨hsz, hfin⟩, hek⟩, trivial⟩
          · intro a0 Y hY hS hJt hL
            have p121 := Posts.slot (show a0.eval (.tmp 121) = .pointer (some ⟨A4, 2, none⟩) from hL.1)
            have p122 := Posts.slot (show a0.eval (.tmp 122) = .slice (some ⟨g4, 0, none⟩) m.nq c4 from hL.2.1)
            have p123 := Posts.slot (show a0.eval (.tmp 123) = .int .i64 (k : Nat) from hL.2.2.1)
            have p124 := Posts.slot (show a0.eval (.tmp 124) = .pointer (some ⟨A4, 2, none⟩) from hL.2.2.2.1)
            have p125 := Posts.slot (show a0.eval (.tmp 125) = .slice (some ⟨g4, 0, none⟩) m.nq c4 from hL.2.2.2.2.1)
            have p126 := Posts.slot (show a0.eval (.tmp 126) = .int .i64 (k : Nat) from hL.2.2.2.2.2.1)
            have p127 := Posts.slot (show a0.eval (.tmp 127) = .int .i64 (q : Nat) from hL.2.2.2.2.2.2.1)
            have p128 := Posts.slot (show a0.eval (.tmp 128) = .int .i64 ((q : Int) + 1) from hL.2.2.2.2.2.2.2.1)
            have p129 := Posts.slot (show a0.eval (.tmp 129) = .pointer (some ⟨g4, k * 3, none⟩) from hL.2.2.2.2.2.2.2.2.1)
            have p130 := Posts.slot (show a0.eval (.tmp 130) = .pointer (some ⟨g4, k * 3 + 1, none⟩) from hL.2.2.2.2.2.2.2.2.2.1)
            have p_10 := (show _ from hL.2.2.2.2.2.2.2.2.2.2.1)
            have hfr := hS.frame [121, 122, 123, 124, 125, 126, 127, 128, 129, 130, 131, 132] (fun t ht => by simp [Posts.isDst] at ht; first | (rcases ht with h | h | h | h | h | h | h | h | h | h | h | h <;> subst h <;> simp) | (subst ht; simp))
            simp only [List.foldl_cons, List.foldl_nil] at hfr
            have hdf := hS.defers
            simp only [Array.getD_eq_getD_getElem?] at hfr
            clear hL hS
            generalize a0.tmps[121]?.getD undef = v121 at *
            generalize a0.tmps[122]?.getD undef = v122 at *
            generalize a0.tmps[123]?.getD undef = v123 at *
            generalize a0.tmps[124]?.getD undef = v124 at *
            generalize a0.tmps[125]?.getD undef = v125 at *
            generalize a0.tmps[126]?.getD undef = v126 at *
            generalize a0.tmps[127]?.getD undef = v127 at *
            generalize a0.tmps[128]?.getD undef = v128 at *
            generalize a0.tmps[129]?.getD undef = v129 at *
            generalize a0.tmps[130]?.getD undef = v130 at *
            generalize a0.tmps[131]?.getD undef = v131 at *
            generalize a0.tmps[132]?.getD undef = v132 at *
            obtain rfl := p121
            obtain rfl := p122
            obtain rfl := p123
            obtain rfl := p124
            obtain rfl := p125
            obtain rfl := p126
            obtain rfl := p127
            obtain rfl := p128
            obtain rfl := p129
            obtain rfl := p130
            obtain ⟨tm, df⟩ := a0
            simp only [List.setIfInBounds_toArray, List.set_cons_succ, List.set_cons_zero] at hfr hdf
            subst hfr
            subst hdf
            obtain ⟨_, hfy⟩ := p_10
            have HYm := Lib.hid (HM8.out.ek hY HA4.out (show g2 < g4 by have := HA6.out; omega))
            have hl4 : Y.heap[A4]? = some (.cells ({ m with aq := some ⟨g4, 0, none⟩, cq := c4 } : Cm).cells 33 (0, 0)) := (hY.block _ (lt_of_block HL8.out) neA).trans HL8.out
            have hps := HP8.out.setWr k (by rw [HPc.out]; exact hlt) ((q : Int) + 1) (by omega)
            have hpy := hps.blockOf (w' := Y) (hfy.trans (heap_setCell_own _ _ _ _ _ _ hcur).symm)
            obtain ⟨f0, f1, f2⟩ := hpy.at_ k (by rw [List.length_set, HPc.out]; exact hlt)
            have ff : Y.frozen? ⟨g4, k * 3 + 2, none⟩ = false := fz_at hfy _
            have HLn : Hid ((Y.setCell ⟨g4, k * 3 + 2, none⟩ (.int .u32 0)).heap[A4]? = some (.cells ({ m with aq := some ⟨g4, 0, none⟩, cq := c4 } : Cm).cells 33 (0, 0))) := set_other neA hl4
            have HPn : Hid (OwnT (Y.setCell ⟨g4, k * 3 + 2, none⟩ (.int .u32 0)) g4 (lessL q k c.po)) := hpy.setRd k (by rw [List.length_set, HPc.out]; exact hlt) 0 (by omega)
            have HMn := Lib.hid (HYm.out.other HA4.out (show g2 < g4 by have := HA6.out; omega) (k * 3 + 2) (.int .u32 0))
            refine Posts.tail_op 11 (by kernel_rfl) (Posts.op_val (fun _ => trivial) rfl rfl (by intro c h; cases h) (v := .pointer (some ⟨g4, k * 3, none⟩)) (Y := Y) (by simp [execOp, Act.eval, k0, k1, go_sem]) ?_)
            refine Posts.tail_op 12 (by kernel_rfl) (Posts.op_val (fun _ => trivial) rfl rfl (by intro c h; cases h) (v := .pointer (some ⟨g4, k * 3 + 2, none⟩)) (Y := Y) (by simp [execOp, Act.eval, Act.put, go_sem]) ?_)
            refine Posts.tail_op 13 (by kernel_rfl) (Posts.op_done (fun _ => trivial) rfl rfl (by intro c h; cases h) (Y := Y.setCell ⟨g4, k * 3 + 2, none⟩ (.int .u32 0)) (by simp [execOp, Act.eval, Act.put, f2, ff, go_sem]) ?_)
            refine ⟨by kernel_rfl, ?_⟩
            clear hl4 hps hpy f0 f1 f2 ff HYm hfy hY HM8 HL8 HP8 hcur hci hg4 neA z2 hE hES
            generalize Y.setCell ⟨g4, k * 3 + 2, none⟩ (.int .u32 0) = W9 at *
            simp only [Exit.inBlock, Exit.then]
            first
              | (rename_i hK; refine hK _ _ ?_)
              | (rename_i hK _; refine hK _ _ ?_)
              | (rename_i hK _ _; refine hK _ _ ?_)
            have hnpb := pB_iff HFi.out (mem_may HFi.out) (j := k)
            have hbt := HBits.out
            rw [← hbt.1, ← hbt.2.1] at hnpb
            have hbl : (sr ||| sw) < 4294967296 := Nat.or_lt_two_pow (n := 32) (by rw [hbt.1]; exact bitsK_lt _ _ _) (by rw [hbt.2.1]; exact bitsK_lt _ _ _)
            have hor := (bits32 sr sw (by rw [hbt.1]; exact bitsK_lt _ _ _) (by rw [hbt.2.1]; exact bitsK_lt _ _ _)).2.1
            have HNp := Lib.hid hnpb
            clear hbt hnpb
            by_cases h32 : k < 32
            · have d32 : decide ((k : Int) < 32) = true := decide_eq_true (by omega)
              have d32N : (k < 32) = True := eq_true h32
              obtain ⟨u0, u1, u2, u3, u4, u5⟩ := cells6 HMn.out.y
              have hus := and_one (k := k) hbl
              obtain ⟨U, hU⟩ : ∃ U, (sr ||| sw).testBit k = U := ⟨_, rfl⟩
              rw [hU] at hus
              have HUp : Hid (pB l k ↔ U = true) := by
                have := HNp.out
                rw [hU] at this
                exact this.trans ⟨fun h => h.2, fun h => ⟨h32, h⟩⟩
              clear hU hbl HNp
              go_upto_region 28 with fail
              try rw [hor]
              try rw [hus]
              clear u0 u1 u2 u3 u4 u5 hor hus d32 d32N h32
              by_cases hUt : U = true
              · subst hUt
                have hpb : pB l k := HUp.out.2 rfl
                clear HUp
                obtain ⟨⟨y0, y1, y2, y3, y4, y5, y6⟩, y7, y8, y9, y10, y11, y12, y13⟩ := cfg_all HLn.out
                simp only at y0 y1 y2 y3 y4 y5 y6 y7 y8 y9 y10 y11 y12 y13
                have hcall := HCk.out _ _ _ W9 HMn.out.b (less_in (w := w) (HCf.out W9 HMn.out.b) HCp4.out HPn.out)
                have hles := ver_lessP HIw.out (by rw [HZ.out]) (less_cf q k c (by rw [HPc.out]; exact hlt))
                have he := hles.1 hpb
                obtain ⟨Z2, hZ2⟩ : ∃ Z2, verA l (q : Int) { c with po := lessL q k c.po } = Z2 := ⟨_, rfl⟩
                rw [hZ2] at hcall he
                obtain ⟨⟨th, tf, tr, tw, tj, tz⟩, K2, E2⟩ := Z2
                simp only at he
                subst he
                clear hZ2
                unfold Cm.cells smC at hcall
                simp only at hcall
                have HCall := Lib.hid hcall
                clear hcall hles hpb
                go_wp2_with fail
                refine HCall.out.mono ?_
                rintro e5 V4 ⟨rfl, hv4⟩
                obtain ⟨A5, hA5⟩ : ∃ A5, V4.heap.size = A5 := ⟨_, rfl⟩
                have hSW : S ≤ W9.heap.size := by have := lt_of_block HMn.out.x; omega
                have HMu : Hid (MSt w S A1 A2 g1 g2 m ({ m with ap := some ⟨g1, 0, none⟩, cp := c1, aq := some ⟨g2, 0, none⟩, cq := c2, fr := ((F ||| 2 ^ q : Nat) : Int) } : Cm) #[.int .i64 sh, .int .u32 (sf : Int), .int .u32 (sr : Int), .int .u32 (sw : Int), .int .u32 (si : Int), .int .u32 (so : Int)] (ds.set q { ds.getD q dz with st := 64 }) po (V4.alloc (.cells #[.int .i64 th, .int .u32 (tf : Int), .int .u32 (tr : Int), .int .u32 (tw : Int), .int .u32 (tj : Int), .int .u32 (tz : Int)] 37))) := HMn.out.below (hv4.alloc hv4.size _) hSW
                have HZ4 : Hid ((V4.alloc (.cells #[.int .i64 th, .int .u32 (tf : Int), .int .u32 (tr : Int), .int .u32 (tw : Int), .int .u32 (tj : Int), .int .u32 (tz : Int)] 37)).heap[A5]? = some (.cells #[.int .i64 th, .int .u32 (tf : Int), .int .u32 (tr : Int), .int .u32 (tw : Int), .int .u32 (tj : Int), .int .u32 (tz : Int)] 37 (0, 0))) := by show _ = _; rw [← hA5]; exact alloc_new V4 _
                clear y0 y1 y2 y3 y4 y5 y6 y7 y8 y9 y10 y11 y12 y13 hv4 hSW HMn HLn HPn HCall
                go_upto_region 29 with fail
                clear hA5
                generalize V4.alloc (.cells #[.int .i64 th, .int .u32 (tf : Int), .int .u32 (tr : Int), .int .u32 (tw : Int), .int .u32 (tj : Int), .int .u32 (tz : Int)] 37) = V5 at *
                go_wp2_with fail
                exact ⟨⟨k + 1, by omega, by simp, HMu.out⟩, by simp [intOf]; omega⟩
              · obtain rfl : U = false := by simpa using hUt
                clear hUt
                have hpb : ¬ pB l k := fun h => by have := HUp.out.1 h; cases this
                clear HUp
                obtain ⟨⟨y0, y1, y2, y3, y4, y5, y6⟩, y7, y8, y9, y10, y11, y12, y13⟩ := cfg_all HLn.out
                simp only at y0 y1 y2 y3 y4 y5 y6 y7 y8 y9 y10 y11 y12 y13
                have hcall := HCk.out _ _ _ W9 HMn.out.b (less_in (w := w) (HCf.out W9 HMn.out.b) HCp4.out HPn.out)
                have hles := ver_lessP HIw.out (by rw [HZ.out]) (less_cf q k c (by rw [HPc.out]; exact hlt))
                rw [hles.2 hpb, HZ.out] at hcall
                unfold Cm.cells smC at hcall
                simp only at hcall
                have HCall := Lib.hid hcall
                clear hcall hles hpb
                go_wp2_with fail
                refine HCall.out.mono ?_
                rintro e5 V4 ⟨rfl, hv4⟩
                obtain ⟨A5, hA5⟩ : ∃ A5, V4.heap.size = A5 := ⟨_, rfl⟩
                have hSW : S ≤ W9.heap.size := by have := lt_of_block HMn.out.x; omega
                have HMu : Hid (MSt w S A1 A2 g1 g2 m ({ m with ap := some ⟨g1, 0, none⟩, cp := c1, aq := some ⟨g2, 0, none⟩, cq := c2, fr := ((F ||| 2 ^ q : Nat) : Int) } : Cm) #[.int .i64 sh, .int .u32 (sf : Int), .int .u32 (sr : Int), .int .u32 (sw : Int), .int .u32 (si : Int), .int .u32 (so : Int)] (ds.set q { ds.getD q dz with st := 64 }) po (V4.alloc (.cells #[.int .i64 sh, .int .u32 (sf : Int), .int .u32 (sr : Int), .int .u32 (sw : Int), .int .u32 (si : Int), .int .u32 (so : Int)] 37))) := HMn.out.below (hv4.alloc hv4.size _) hSW
                have HZ4 : Hid ((V4.alloc (.cells #[.int .i64 sh, .int .u32 (sf : Int), .int .u32 (sr : Int), .int .u32 (sw : Int), .int .u32 (si : Int), .int .u32 (so : Int)] 37)).heap[A5]? = some (.cells #[.int .i64 sh, .int .u32 (sf : Int), .int .u32 (sr : Int), .int .u32 (sw : Int), .int .u32 (si : Int), .int .u32 (so : Int)] 37 (0, 0))) := by show _ = _; rw [← hA5]; exact alloc_new V4 _
                clear y0 y1 y2 y3 y4 y5 y6 y7 y8 y9 y10 y11 y12 y13 hv4 hSW HMn HLn HPn HCall
                go_upto_region 29 with fail
                clear hA5
                generalize V4.alloc (.cells #[.int .i64 sh, .int .u32 (sf : Int), .int .u32 (sr : Int), .int .u32 (sw : Int), .int .u32 (si : Int), .int .u32 (so : Int)] 37) = V5 at *
                obtain ⟨u0, u1, u2, u3, u4, u5⟩ := cells6 HMu.out.y
                obtain ⟨v0, v1, v2, v3, v4, v5⟩ := cells6 HZ4.out
                have heq := fun W => eqSm ⟨sh, sf, sr, sw, si, so⟩ ⟨sh, sf, sr, sw, si, so⟩ W
                simp only [smE_self] at heq
                unfold smC at heq
                simp only at heq
                go_wp2_with fail
                exact ⟨⟨k + 1, by omega, by simp, HMu.out⟩, by simp [intOf]; omega⟩
            · have d32 : decide ((k : Int) < 32) = false := decide_eq_false (by omega)
              have d32N : (k < 32) = False := eq_false h32
              have hpb : ¬ pB l k := fun h => h32 (HNp.out.1 h).1
              clear HNp hbl hor
              go_upto_region 28 with fail
              clear d32 d32N h32
              obtain ⟨⟨y0, y1, y2, y3, y4, y5, y6⟩, y7, y8, y9, y10, y11, y12, y13⟩ := cfg_all HLn.out
              simp only at y0 y1 y2 y3 y4 y5 y6 y7 y8 y9 y10 y11 y12 y13
              have hcall := HCk.out _ _ _ W9 HMn.out.b (less_in (w := w) (HCf.out W9 HMn.out.b) HCp4.out HPn.out)
              have hles := ver_lessP HIw.out (by rw [HZ.out]) (less_cf q k c (by rw [HPc.out]; exact hlt))
              rw [hles.2 hpb, HZ.out] at hcall
              unfold Cm.cells smC at hcall
              simp only at hcall
              have HCall := Lib.hid hcall
              clear hcall hles hpb
              go_wp2_with fail
              refine HCall.out.mono ?_
              rintro e5 V4 ⟨rfl, hv4⟩
              obtain ⟨A5, hA5⟩ : ∃ A5, V4.heap.size = A5 := ⟨_, rfl⟩
              have hSW : S ≤ W9.heap.size := by have := lt_of_block HMn.out.x; omega
              have HMu : Hid (MSt w S A1 A2 g1 g2 m ({ m with ap := some ⟨g1, 0, none⟩, cp := c1, aq := some ⟨g2, 0, none⟩, cq := c2, fr := ((F ||| 2 ^ q : Nat) : Int) } : Cm) #[.int .i64 sh, .int .u32 (sf : Int), .int .u32 (sr : Int), .int .u32 (sw : Int), .int .u32 (si : Int), .int .u32 (so : Int)] (ds.set q { ds.getD q dz with st := 64 }) po (V4.alloc (.cells #[.int .i64 sh, .int .u32 (sf : Int), .int .u32 (sr : Int), .int .u32 (sw : Int), .int .u32 (si : Int), .int .u32 (so : Int)] 37))) := HMn.out.below (hv4.alloc hv4.size _) hSW
              have HZ4 : Hid ((V4.alloc (.cells #[.int .i64 sh, .int .u32 (sf : Int), .int .u32 (sr : Int), .int .u32 (sw : Int), .int .u32 (si : Int), .int .u32 (so : Int)] 37)).heap[A5]? = some (.cells #[.int .i64 sh, .int .u32 (sf : Int), .int .u32 (sr : Int), .int .u32 (sw : Int), .int .u32 (si : Int), .int .u32 (so : Int)] 37 (0, 0))) := by show _ = _; rw [← hA5]; exact alloc_new V4 _
              clear y0 y1 y2 y3 y4 y5 y6 y7 y8 y9 y10 y11 y12 y13 hv4 hSW HMn HLn HPn HCall
              go_upto_region 29 with fail
              clear hA5
              generalize V4.alloc (.cells #[.int .i64 sh, .int .u32 (sf : Int), .int .u32 (sr : Int), .int .u32 (sw : Int), .int .u32 (si : Int), .int .u32 (so : Int)] 37) = V5 at *
              obtain ⟨u0, u1, u2, u3, u4, u5⟩ := cells6 HMu.out.y
              obtain ⟨v0, v1, v2, v3, v4, v5⟩ := cells6 HZ4.out
              have heq := fun W => eqSm ⟨sh, sf, sr, sw, si, so⟩ ⟨sh, sf, sr, sw, si, so⟩ W
              simp only [smE_self] at heq
              unfold smC at heq
              simp only at heq
              go_wp2_with fail
              exact ⟨⟨k + 1, by omega, by simp, HMu.out⟩, by simp [intOf]; omega⟩
        · obtain rfl : k = m.nq := by omega
          have hd2 : decide ((m.nq : Int) < (m.nq : Int)) = false := decide_eq_false (by omega)
          clear hlt hk
          obtain ⟨⟨y0, y1, y2, y3, y4, y5, y6⟩, y7, y8, y9, y10, y11, y12, y13⟩ := cfg_all HMs.out.x
          obtain ⟨A4, hA4⟩ : ∃ A4, wr.heap.size = A4 := ⟨_, rfl⟩
          have HM6 : Hid (MSt w S A1 A2 g1 g2 m ({ m with ap := some ⟨g1, 0, none⟩, cp := c1, aq := some ⟨g2, 0, none⟩, cq := c2, fr := ((F ||| 2 ^ q : Nat) : Int) } : Cm) #[.int .i64 sh, .int .u32 (sf : Int), .int .u32 (sr : Int), .int .u32 (sw : Int), .int .u32 (si : Int), .int .u32 (so : Int)] (ds.set q { ds.getD q dz with st := 64 }) po (wr.alloc (.cells m.cells 33))) := HMs.out.below ((Below.refl _ wr).alloc (Nat.le_refl _) _) hSW
          have HL6 : Hid ((wr.alloc (.cells m.cells 33)).heap[A4]? = some (.cells m.cells 33 (0, 0))) := by show _ = _; rw [← hA4]; exact alloc_new wr _
          have HA5 : Hid (g2 < A4) := by have := HMs.out.t.lt; show _ < _; omega
          clear hSW
          unfold Cm.cells at HM6 HL6
          go_upto_region 33 with fail
          clear hA4 y0 y1 y2 y3 y4 y5 y6 y7 y8 y9 y10 y11 y12 y13 HMs hd2
          generalize wr.alloc (.cells #[.int .u32 m.mem, .slice m.ap m.np m.cp, .slice m.aq m.nq m.cq, .int .i64 m.ins, .slice m.sa m.ns m.cs, .int .u32 m.fr, .int .i64 m.fw, .int .u32 m.fl, .int .u32 m.fs, .slice m.al m.nl m.cl, .int .i64 m.vi, .int .u8 m.dg, .int .i64 m.rq, .int .i64 m.sg] 33) = W6 at *
          have hqa : IntKind.i64.wrap ((q : Int) + 1) = (q : Int) + 1 := by have := HQ.out.2; simp [IntKind.wrap, IntKind.bits, IntKind.signed]; omega
          have q9 : (q : Int) ≤ 31 := by have := HQ.out.2; omega
          have z5 := (cfg_all HL6.out).1.2.2.2.2.2.1
          have z6 := (cfg_all HL6.out).1.2.2.2.2.2.2
          have f5 := fz_at HL6.out 5
          have f6 := fz_at HL6.out 6
          have HM7 : Hid (MSt w S A1 A2 g1 g2 m ({ m with ap := some ⟨g1, 0, none⟩, cp := c1, aq := some ⟨g2, 0, none⟩, cq := c2, fr := ((F ||| 2 ^ q : Nat) : Int) } : Cm) #[.int .i64 sh, .int .u32 (sf : Int), .int .u32 (sr : Int), .int .u32 (sw : Int), .int .u32 (si : Int), .int .u32 (so : Int)] (ds.set q { ds.getD q dz with st := 64 }) po ((W6.setCell ⟨A4, 5, none⟩ (.int .u32 0)).setCell ⟨A4, 6, none⟩ (.int .i64 ((q : Int) + 1)))) := (HM6.out.other HA4.out HA5.out 5 _).other HA4.out HA5.out 6 _
          have HL7 : Hid (((W6.setCell ⟨A4, 5, none⟩ (.int .u32 0)).setCell ⟨A4, 6, none⟩ (.int .i64 ((q : Int) + 1))).heap[A4]? = some (.cells ({ m with fr := 0, fw := (q : Int) + 1 } : Cm).cells 33 (0, 0))) := set_own _ (set_own _ HL6.out)
          go_upto_region 34 with fail
          clear z5 z6 f5 f6 HM6 HL6
          generalize (W6.setCell ⟨A4, 5, none⟩ (.int .u32 0)).setCell ⟨A4, 6, none⟩ (.int .i64 ((q : Int) + 1)) = W7 at *
          obtain ⟨⟨y0, y1, y2, y3, y4, y5, y6⟩, y7, y8, y9, y10, y11, y12, y13⟩ := cfg_all HL7.out
          simp only at y0 y1 y2 y3 y4 y5 y6 y7 y8 y9 y10 y11 y12 y13
          have hcall := HCk.out _ _ _ W7 HM7.out.b (field_in (HCf.out W7 HM7.out.b) HQ.out.2)
          have hlf := ver_lessF (l := l) (part := (q : Int)) (c := c) (d := { c with fr := 0, fw := (q : Int) + 1 }) (by rw [HZ.out]) ⟨rfl, rfl, rfl, rfl, rfl, rfl⟩
          have hfb := hlf.trans (fB_iff HIw.out (mem_may HFi.out))
          obtain ⟨Z2, hZ2⟩ : ∃ Z2, verA l (q : Int) { c with fr := 0, fw := (q : Int) + 1 } = Z2 := ⟨_, rfl⟩
          rw [hZ2] at hcall hfb
          obtain ⟨⟨th, tf, tr, tw, tj, tz⟩, K2, E2⟩ := Z2
          have hbt := HBits.out
          rw [← hbt.2.2.1, ← hbt.2.2.2] at hfb
          simp only at hfb
          have hor := (bits32 si so (by rw [hbt.2.2.1]; exact bitsK_lt _ _ _) (by rw [hbt.2.2.2]; exact bitsK_lt _ _ _)).2.1
          obtain ⟨U, hU⟩ : ∃ U, (E2 == 141) = U := ⟨_, rfl⟩
          have hU2 : (((si ||| so : Nat) : Int) != 0) = U := by
            rw [← hU]
            generalize si ||| so = N at *
            by_cases e : E2 = 141
            · have := hfb.1 e
              subst e
              simpa using this
            · have hN : ¬ N ≠ 0 := fun h => e (hfb.2 h)
              have hN : N = 0 := by omega
              subst hN
              simpa using fun h => e h
          have hUU : (U == U) = true := by cases U <;> rfl
          unfold Cm.cells smC at hcall
          simp only at hcall
          have HCall := Lib.hid hcall
          clear hcall hlf hfb hbt hZ2
          go_wp2_with fail
          refine HCall.out.mono ?_
          rintro e5 V4 ⟨rfl, hv4⟩
          have hSW : S ≤ W7.heap.size := by have := lt_of_block HM7.out.x; omega
          have HMu := Lib.hid (HM7.out.below hv4 hSW)
          obtain ⟨u0, u1, u2, u3, u4, u5⟩ := cells6 HMu.out.y
          clear y0 y1 y2 y3 y4 y5 y6 y7 y8 y9 y10 y11 y12 y13 hv4 hSW HM7 HL7 HCall
          go_wp2_with fail
          go_ret
          exact ⟨by first | rfl | (simp; done), by rw [HS.out]; exact HMu.out.b⟩
end Ver
end Go.Proofs.YtjoiogdckbaeaaaDoor
