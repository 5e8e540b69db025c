/- Calls of Of in worlds with new rows: contracts that ask for a row's cells alone. -/
import Derived.Test.YtodbfkifendniaaDoorHmacEql
namespace Go.Proofs.YtodbfkifendniaaDoor
open Go.ChangeShapes Go.WideShapes Go.ChangeAt Go.RowKit
namespace Sha
theorem B_alloc {a w : World} (h : Below a.heap.size a w) (o : Obj) : Below a.heap.size a (w.alloc o) := h.alloc h.size o
theorem B_drew {a w : World} (h : Below a.heap.size a w) : Below a.heap.size a w.drew := h.drew
theorem R_new {X : World} {b : Nat} {o : Obj} (hb : b = X.heap.size) : (X.alloc o).heap[b]? = some o := by subst hb; exact heap_alloc_new _ _
theorem R_keep {X : World} {b : Nat} {o v : Obj} (h : X.heap[b]? = some v) : (X.alloc o).heap[b]? = some v := (Below.heap_alloc _ _ _ (lt_of_block h)).trans h
theorem R_drew {X : World} {b : Nat} {v : Obj} (h : X.heap[b]? = some v) : X.drew.heap[b]? = some v := h
theorem R_below {X Y : World} {b : Nat} {v : Obj} (hb : Below X.heap.size X Y) (h : X.heap[b]? = some v) : Y.heap[b]? = some v := (hb.block _ (lt_of_block h)).trans h
/-- 'Below', by what stands about -/
macro "hm_bel" : tactic => `(tactic| repeat (first | assumption | exact Below.refl _ _ | apply B_drew | apply B_alloc))
/-- a row's cells, by what stands about -/
macro "hm_row" : tactic => `(tactic| repeat (first | assumption | exact R_new (by simp; done) | exact R_new rfl | apply R_drew | apply R_keep | (refine R_below (by assumption) ?_)))
/-- the middle of a slice -/
theorem mid_of {p : Nat → Prop} {w : World} {a : Option Addr} {r c : Nat} {l : List Int} (h : SRow p w a r l) (lo hi : Nat) (vl vh : Int) (hvl : vl = lo) (hvh : vh = hi) (h1 : lo ≤ hi) (h2 : hi ≤ r) (hc : r ≤ c) :
    ∃ a', (∀ W : World, (Instr.slice 22 (.slice a r c) (some (.int .i64 vl)) (some (.int .i64 vh)) none).run Tryd.prog W = .ok (.slice a' (hi - lo) (c - lo)) W) ∧ SRow p w a' (hi - lo) ((l.take hi).drop lo) := by
  subst hvl; subst hvh
  have ht : Tryd.prog.underlying 22 = some (.slice (Tryd.prog.elem 22)) := by kernel_rfl
  refine ⟨if c = lo then a else a.map (·.add (lo * 1)), fun W => ?_, ?_⟩
  · have hs : (sizeOf (Tryd.prog.elem 22)).run Tryd.prog W = .ok 1 W := by kernel_rfl
    rw [run_slice_lh W 22 _ r c ht .i64 .i64 (lo : Int) (hi : Int) (by omega) (by omega) (by omega), hs]
    simp [Result.andThen, sliced]
  · obtain ⟨q1, q2, q3⟩ := h
    refine ⟨by simp; omega, fun z hz => q2 z (List.mem_of_mem_take (List.mem_of_mem_drop hz)), ?_⟩
    by_cases e : hi - lo = 0
    · exact Or.inl e
    · rcases q3 with q3 | ⟨b, off, rfl, hp, hc'⟩
      · omega
      · rw [if_neg (by omega)]
        refine Or.inr ⟨b, off + lo, by simp [Addr.add], hp, fun i hi' => ?_⟩
        have := hc' (lo + i) (by omega)
        rw [show off + lo + i = off + (lo + i) from by omega, this]
        simp [List.getD, List.getElem?_drop, show lo + i < hi from by omega]
/-- one part, in a row that is known -/
theorem prow_row1 {X : World} {b : Nat} {a : Option Addr} {m c : Nat} {l : List Int} (hr : X.heap[b]? = some (.cells #[.slice a m c] 22 (0, 0))) (h1 : m ≤ c) (h2 : c ≤ 9223372036854775807) (h : SRow (fun _ => False) X a m l) : PRow X (some ⟨b, 0, none⟩) 1 [l] := by
  refine ⟨rfl, Or.inr ⟨b, 0, rfl, fun i hi => ?_⟩⟩
  obtain rfl : i = 0 := by omega
  exact ⟨a, m, c, by rw [cell_of_row _ _ _ _ _ _ hr]; rfl, h1, h2, h⟩
theorem prow_row3 {X : World} {b : Nat} {a a' a'' : Option Addr} {m c m' c' m'' c'' : Nat} {l l' l'' : List Int} (hr : X.heap[b]? = some (.cells #[.slice a m c, .slice a' m' c', .slice a'' m'' c''] 22 (0, 0))) (h1 : m ≤ c) (h2 : c ≤ 9223372036854775807) (h : SRow (fun _ => False) X a m l)
    (h1' : m' ≤ c') (h2' : c' ≤ 9223372036854775807) (h' : SRow (fun _ => False) X a' m' l') (h1'' : m'' ≤ c'') (h2'' : c'' ≤ 9223372036854775807) (h'' : SRow (fun _ => False) X a'' m'' l'') : PRow X (some ⟨b, 0, none⟩) 3 [l, l', l''] := by
  refine ⟨rfl, Or.inr ⟨b, 0, rfl, fun i hi => ?_⟩⟩
  rcases i with _ | _ | _ | i
  · exact ⟨a, m, c, by rw [cell_of_row _ _ _ _ _ _ hr]; rfl, h1, h2, h⟩
  · exact ⟨a', m', c', by rw [cell_of_row _ _ _ _ _ _ hr]; rfl, h1', h2', h'⟩
  · exact ⟨a'', m'', c'', by rw [cell_of_row _ _ _ _ _ _ hr]; rfl, h1'', h2'', h''⟩
  · omega
/-- Of, key and text where they lay, in a later world -/
theorem of_one {w X : World} {b : Nat} {ka ta : Option Addr} {n cap m c : Nat} {key text : List Int} (hR : Roots w) (hk : SRow (fun _ => False) w ka n key) (hn : n ≤ cap) (hcap : cap ≤ 9223372036854775807) (hkl : n ≤ 100000) (ht : SRow (fun _ => False) w ta m text) (hm : m ≤ c) (hc : c ≤ 9223372036854775807) (htl : m ≤ 100000)
    (hB : Below w.heap.size w X) (hr : X.heap[b]? = some (.cells #[.slice ta m c] 22 (0, 0))) :
    Calls Tryd.prog 13 #[.slice ka n cap, .slice (some ⟨b, 0, none⟩) 1 1] X fun e w' => e = .returned (.agg (ints .u8 (tag key text))) ∧ Below X.heap.size X w' ∧ Below w.heap.size w w' := by
  refine (of_any key [text] _ _ n cap 1 1 X (hR.below hB) (hk.below' hB (Nat.le_refl _)) hn hcap (by omega) (prow_row1 hr hm hc (ht.below' hB (Nat.le_refl _))) (by omega) (by have := ht.1; simp; omega)).mono ?_
  rintro e w' ⟨rfl, hb⟩
  exact ⟨by simp, hb, hB.trans (hb.mono hB.size)⟩
theorem of_three {w X : World} {b : Nat} {ka t0 t1 t2 : Option Addr} {n cap m0 c0 m1 c1 m2 c2 : Nat} {key l0 l1 l2 text : List Int} (hR : Roots w) (hk : SRow (fun _ => False) w ka n key) (hn : n ≤ cap) (hcap : cap ≤ 9223372036854775807) (hkl : n ≤ 100000)
    (h0 : SRow (fun _ => False) w t0 m0 l0) (hm0 : m0 ≤ c0) (hc0 : c0 ≤ 9223372036854775807) (h1 : SRow (fun _ => False) w t1 m1 l1) (hm1 : m1 ≤ c1) (hc1 : c1 ≤ 9223372036854775807) (h2 : SRow (fun _ => False) w t2 m2 l2) (hm2 : m2 ≤ c2) (hc2 : c2 ≤ 9223372036854775807)
    (ht : l0 ++ (l1 ++ l2) = text) (htl : text.length ≤ 100000)
    (hB : Below w.heap.size w X) (hr : X.heap[b]? = some (.cells #[.slice t0 m0 c0, .slice t1 m1 c1, .slice t2 m2 c2] 22 (0, 0))) :
    Calls Tryd.prog 13 #[.slice ka n cap, .slice (some ⟨b, 0, none⟩) 3 3] X fun e w' => e = .returned (.agg (ints .u8 (tag key text))) ∧ Below X.heap.size X w' ∧ Below w.heap.size w w' := by
  have hf : ([l0, l1, l2] : List (List Int)).flatten = text := by rw [← ht]; simp
  refine (of_any key [l0, l1, l2] _ _ n cap 3 3 X (hR.below hB) (hk.below' hB (Nat.le_refl _)) hn hcap (by omega) (prow_row3 hr hm0 hc0 (h0.below' hB (Nat.le_refl _)) hm1 hc1 (h1.below' hB (Nat.le_refl _)) hm2 hc2 (h2.below' hB (Nat.le_refl _))) (by omega) (by rw [hf]; omega)).mono ?_
  rintro e w' ⟨rfl, hb⟩
  exact ⟨by rw [hf], hb, hB.trans (hb.mono hB.size)⟩
/-- the comparison of a tag with itself, as an operation -/
theorem run_eql_op {o : Oper} {ev : Operand → Value} (X : World) (x y : Operand) (ho : o.op = .binOp .eql 25 x y 25) (D : List Int) (hD : D.length = 32) (hx : ev x = .agg (ints .u8 D)) (hy : ev y = .agg (ints .u8 D)) : (execOp ev o).run Tryd.prog X = .ok (.value (.bool true)) X := by
  have hrun := eql_run D X hD
  have hg : (eqGuard .eql 25 x y (.agg (ints .u8 D)) (.agg (ints .u8 D))).run Tryd.prog X = .ok () X := run_eqGuard_agg X .eql 25 x y _ _ (by kernel_rfl)
  simp [execOp, ho, hx, hy, hrun, hg, Result.andThen]
end Sha
end Go.Proofs.YtodbfkifendniaaDoor
