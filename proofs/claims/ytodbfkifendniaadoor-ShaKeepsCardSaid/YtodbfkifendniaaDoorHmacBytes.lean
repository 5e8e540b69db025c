/- Bytes put behind a row of the call's own: those of a slice, and zeros. -/
import Derived.Test.YtodbfkifendniaaDoorHmacArgs
import Derived.Test.YtodbfkifendniaaDoorShaR2
import Derived.Laws.CopyRow
namespace Go.Proofs.YtodbfkifendniaaDoor
open Go.ChangeShapes Go.WideShapes Go.ChangeAt Go.RowKit
namespace Sha
set_option linter.unusedSimpArgs false
/-- this slice is the call's own row with these bytes -/
def Own (w : World) (base g k cap : Nat) (l : List Int) : Prop := w.ownsRow base 5 1 (.slice (some ⟨g, 0, none⟩) k cap) k (bv l)
theorem Own.form {w : World} {base g k cap : Nat} {l : List Int} (h : Own w base g k cap l) : l.length = k ∧ base ≤ g ∧ k ≤ cap ∧ cap ≤ maxLen ∧ ∃ cur, w.heap[g]? = some (.cells cur 5 (0, 0)) ∧ cur.size = cap ∧ cur.toList.take k = bv l := by
  obtain ⟨h1, h2⟩ := h
  rw [bv_length] at h1
  rcases h2 with ⟨h, _⟩ | ⟨g', cap', cur, hv, hb, hg, h3, h4, h5, h6⟩
  · simp at h
  · simp only [Value.slice.injEq, Option.some.injEq, Addr.mk.injEq] at hv
    obtain ⟨⟨rfl, _⟩, _, rfl⟩ := hv
    exact ⟨by omega, hb, h3, h4, cur, hg, by omega, by simpa using h6⟩
theorem own_of {w : World} {base g k cap : Nat} {l : List Int} {cur : Array Value} (h1 : l.length = k) (hb : base ≤ g) (hk : k ≤ cap) (hc : cap ≤ maxLen) (hg : w.heap[g]? = some (.cells cur 5 (0, 0))) (hs : cur.size = cap) (ht : cur.toList.take k = bv l) : Own w base g k cap l :=
  ⟨by rw [bv_length]; omega, Or.inr ⟨g, cap, cur, rfl, hb, hg, hk, hc, by omega, by simpa using ht⟩⟩
theorem run_append_nothing (w : World) (g k cap c : Nat) (a : Option Addr) (hk : k ≤ cap) :
    (Builtin.append_ #[22, 22] 22 #[.slice (some ⟨g, 0, none⟩) k cap, .slice a 0 c]).run Tryd.prog w = .ok (.slice (some ⟨g, 0, none⟩) k cap) w := by
  obtain ⟨i, hi, hz, hs, hb⟩ := info_parts infoByte
  have hu := Tryd.underlying22
  cases a with
  | none => simp [Builtin.append_, run_underlying hu, sizeOf, typeInfo, hi, hs, Builtin.lenOf, Builtin.firstCells, hk, storeCells]
  | some x =>
    have hl := run_loadCells_list (P := Tryd.prog) w x [] (fun j v hj => by simp at hj)
    simp at hl
    simp [Builtin.append_, run_underlying hu, sizeOf, typeInfo, hi, hs, Builtin.lenOf, Builtin.firstCells, hk, hl, storeCells]
/-- the bytes of a slice, put behind -/
theorem app_bytes {w : World} {base g k cap n c : Nat} {a : Option Addr} {l m : List Int} (ho : Own w base g k cap l) (hs : SRow (fun _ => False) w a n m) (hlen : k + n ≤ 100000000) (hb : base ≤ w.heap.size) :
    ∃ g' cap' w', (Builtin.append_ #[22, 22] 22 #[.slice (some ⟨g, 0, none⟩) k cap, .slice a n c]).run Tryd.prog w = .ok (.slice (some ⟨g', 0, none⟩) (k + n) cap') w' ∧ Own w' base g' (k + n) cap' (l ++ m) ∧ Below base w w' := by
  obtain ⟨h1, hbg, hkc, hcm, cur, hg, hcs, htk⟩ := ho.form
  by_cases h0 : n = 0
  · subst h0
    have hm : m = [] := List.eq_nil_of_length_eq_zero hs.1
    subst hm
    exact ⟨g, cap, w, run_append_nothing w g k cap c a hkc, by simpa using ho, Below.refl _ _⟩
  · obtain ⟨s1, s2, s3⟩ := hs
    rcases s3 with s3 | ⟨b, off, rfl, _, hc⟩
    · exact absurd s3 h0
    obtain ⟨i0, hi, hz0, hz1, hz2⟩ := info_parts infoByte
    obtain ⟨g', cap', w', hrun, hown, hgr, _, hl⟩ := run_append_lies (P := Tryd.prog) w 22 22 base 5 i0 (.int .u8 0) 1 1 Tryd.underlying22 hi hz0 hz1 hz2 rfl (by decide) _ k (bv l) ho ⟨b, off, none⟩ n c (bv m) (by rw [bv_length]; omega)
      (fun j u hj => by
        have hj' : j < m.length := by have := (List.getElem?_eq_some_iff.1 hj).1; rwa [bv_length] at this
        rw [Addr.add_mid b off j, hc j (by omega), ← hj]
        simp [bv, List.getD, hj']) (bv_one _) (by omega) (by unfold maxLen; omega) (by omega) hb _ rfl
    rw [bv_append] at hown
    exact ⟨g', cap', w', hrun, hown, Below.grown (Below.refl _ _) hgr hb (fun j hj => by simp [Value.ownBlock] at hj; omega)⟩
theorem zeros_bv (n : Nat) : (Builtin.zeroCells (Value.int .u8 0).cells n).toList = bv (List.replicate n 0) := by
  simp [Builtin.zeroCells, Value.cells, bv]
  apply List.ext_getElem
  · simp
  · intro i h1 h2
    simp [show i % 1 = 0 from Nat.mod_one i]
/-- zeros, put behind -/
theorem app_zeros {w : World} {base g k cap n : Nat} {l : List Int} (ho : Own w base g k cap l) (hlen : k + n ≤ 100000000) (hb : base ≤ w.heap.size) :
    ∃ g' cap' w', (Builtin.append_ #[22, 3] 22 #[.slice (some ⟨g, 0, none⟩) k cap, .int .i64 n]).run Tryd.prog w = .ok (.slice (some ⟨g', 0, none⟩) (k + n) cap') w' ∧ Own w' base g' (k + n) cap' (l ++ List.replicate n 0) ∧ Below base w w' := by
  obtain ⟨h1, hbg, hkc, hcm, cur, hg, hcs, htk⟩ := ho.form
  obtain ⟨i, hi, hz, hs, hbt⟩ := info_parts infoByte
  have hu := Tryd.underlying22
  have hui := Tryd.underlying3
  have hw : IntKind.i64.wrap (n : Int) = n := by rw [IntKind.wrap_i64]; omega
  have hneg : ¬ ((n : Int) < 0) := by omega
  have hbig : ¬ (281474976710656 < (n : Int) * 1) := by omega
  have hbig' : ¬ (281474976710656 < (n : Int)) := by omega
  have hm : max (n : Int) 0 = n := by omega
  have hlg : g < w.heap.size := lt_of_block hg
  by_cases hfit : k + n ≤ cap
  · have hst := run_storeCells_at Tryd.prog g k 5 (bv (List.replicate n 0)) 0 cur w hg (by rw [bv_length, List.length_replicate]; omega) (bv_one _)
    refine ⟨g, cap, w.setRow g (cur.toList.take k ++ bv (List.replicate n 0) ++ cur.toList.drop (k + n)).toArray, ?_, ?_, ?_⟩
    · by_cases h0 : n = 0
      · subst h0
        have e : (cur.toList.take k ++ bv (List.replicate 0 0) ++ cur.toList.drop (k + 0)).toArray = cur := by simp [bv]
        have hw0 : IntKind.i64.wrap 0 = 0 := by simpa using hw
        rw [e, setRow_same _ _ _ _ _ hg]
        simp [Builtin.append_, run_underlying hu, run_underlying hui, sizeOf, typeInfo, zeroValue, hi, hz, hs, hbt, asInt, asIntOf, hw0, hkc, storeCells]
      · have hle : ¬ ((n : Int) ≤ 0) := by omega
        rw [bv_length, List.length_replicate] at hst
        simp only [Nat.add_zero] at hst
        rw [← zeros_bv] at hst
        rw [← zeros_bv]
        simp [Builtin.append_, run_underlying hu, run_underlying hui, sizeOf, typeInfo, zeroValue, hi, hz, hs, hbt, asInt, asIntOf, hw, hneg, hbig, hbig', hm, hle, h0, hfit]
        rw [show (⟨g, 0, none⟩ : Addr).add k = ⟨g, k, none⟩ from by rw [Addr.add_mid]; simp]
        simp at hst
        rw [hst]
        rfl
    · refine own_of (by simp [h1]) hbg hfit hcm (setRow_heap _ _ _ _ _ _ hg) (by simp [bv_length]; omega) ?_
      rw [htk, ← bv_append]
      have : (bv l ++ bv (List.replicate n 0)).length = k + n := by simp [bv_length, h1]
      show List.take (k + n) _ = _
      generalize cur.toList.drop (k + n) = R
      rw [List.take_append_of_le_length (by omega), List.take_of_length_le (by omega)]
    · exact ⟨rfl, rfl, rfl, by simp [World.setRow], fun j hj => setRow_other _ _ _ _ (by omega)⟩
  · have hle : ¬ ((n : Int) ≤ 0) := by omega
    have hn0 : n ≠ 0 := by omega
    have h63' : ¬ (9223372036854775807 < (k : Int) + (n : Int)) := by omega
    have h48' : ¬ (281474976710656 < Builtin.nextslicecap (k + n) cap) := by
      have := growslice_fits (need := k + n) (old := cap) (bytes := 1) (by omega) (by omega)
      omega
    have hfo := run_firstCells_some (P := Tryd.prog) w.drew 1 k ⟨g, 0, none⟩ k cap (bv l) (by rw [bv_length]; omega) (fun j v hj => by
      have hj' : j < k := by have := (List.getElem?_eq_some_iff.1 hj).1; rw [bv_length] at this; omega
      show w.cell? _ = _
      rw [show (⟨g, 0, none⟩ : Addr).add j = ⟨g, j, none⟩ from by rw [Addr.add_mid]; simp, cell_of_row _ _ _ _ _ _ hg, ← hj, ← htk, List.getElem?_take_of_lt hj']
      simp)
    have hc1 := grownCap_ge w (k + n) cap 5
    have hc2 := grownCap_le_maxLen w (k + n) cap 5 (by unfold maxLen; omega)
    have hrun : (Builtin.append_ #[22, 3] 22 #[.slice (some ⟨g, 0, none⟩) k cap, .int .i64 n]).run Tryd.prog w = .ok (.slice (some ⟨w.heap.size, 0, none⟩) (k + n) (grownCap w (k + n) cap 5))
        (w.drew.alloc (.cells ((bv l).toArray ++ (Builtin.zeroCells (Value.int .u8 0).cells n ++ Builtin.zeroCells (Value.int .u8 0).cells (grownCap w (k + n) cap 5 - (k + n)))) 5)) := by
      simp [Builtin.append_, run_underlying hu, run_underlying hui, sizeOf, typeInfo, zeroValue, hi, hz, hs, hbt, asInt, asIntOf, hw, hm, hle, hneg, hbig, hbig', hn0, hfit, h63', h48', Question.forced, hfo, newRow, grownCap]
    refine ⟨_, _, _, hrun, own_of (by simp [h1]) hb hc1 hc2 (heap_alloc_new _ _) ?_ ?_, (Below.refl _ _).drew.alloc hb _⟩
    · simp [bv_length, Builtin.zeroCells, Value.cells]
      omega
    · rw [Array.toList_append, Array.toList_append, zeros_bv, List.toList_toArray, ← List.append_assoc, bv_append]
      have : (bv (l ++ List.replicate n 0)).length = k + n := by simp [bv_length, h1]
      rw [← this]
      simp
/-- the load of a whole tag, as an operation -/
theorem run_load_op {o : Oper} {ev : Operand → Value} {X : World} (x : Operand) (ho : o.op = .load 25 x) (g : Nat) (D : List Int) (hD : D.length = 32) (hx : ev x = .pointer (some ⟨g, 0, none⟩)) (hg : X.heap[g]? = some (.cells (ints .u8 D) 25 (0, 0))) : (execOp ev o).run Tryd.prog X = .ok (.value (.agg (ints .u8 D))) X := by
  unfold execOp
  simp only [ho, hx, Instr.loadAt, Instr.sureAddr, Sem.run_bind, Sem.run_pure, Result.andThen_ok, run_loadVar_row X g 25 25 (ints .u8 D) (0, 0) _ hg Tryd.underlying25 rfl (sized32 D hD)]
end Sha
end Go.Proofs.YtodbfkifendniaaDoor
