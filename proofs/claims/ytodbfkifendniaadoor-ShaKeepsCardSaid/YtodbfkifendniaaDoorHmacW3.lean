/- slices.Grow and slices.Concat, as Of calls them. -/
import Derived.Test.YtodbfkifendniaaDoorHmacW2
import Derived.Deep.AppendLies
namespace Go.Proofs.YtodbfkifendniaaDoor
open Go.ChangeShapes Go.WideShapes Go.ChangeAt Go.RowKit
namespace Sha
set_option linter.unusedSimpArgs false
/-- slice values that read as these parts -/
def PList (w : World) (xs : List Value) (ps : List (List Int)) : Prop :=
  xs.length = ps.length ∧ ∀ i, i < ps.length → ∃ a' m c, xs[i]? = some (.slice a' m c) ∧ m ≤ c ∧ c ≤ 9223372036854775807 ∧ SRow (fun _ => False) w a' m (ps.getD i [])
theorem PList.cons {w : World} {xs : List Value} {ps : List (List Int)} (h : PList w xs ps) {a : Option Addr} {m c : Nat} {l : List Int} (h1 : m ≤ c) (h2 : c ≤ 9223372036854775807) (h3 : SRow (fun _ => False) w a m l) : PList w ([.slice a m c] ++ xs) (l :: ps) := by
  obtain ⟨q1, q2⟩ := h
  refine ⟨by simp [q1], fun i hi => ?_⟩
  cases i with
  | zero => exact ⟨a, m, c, rfl, h1, h2, h3⟩
  | succ i =>
    obtain ⟨a', m', c', r1, r2, r3, r4⟩ := q2 i (by simp at hi; omega)
    exact ⟨a', m', c', by simpa using r1, r2, r3, by simpa using r4⟩
theorem PList.one {w : World} {xs : List Value} {ps : List (List Int)} (h : PList w xs ps) : ∀ u ∈ xs, u.oneCell' = true := by
  intro u hu
  obtain ⟨i, hi, rfl⟩ := List.mem_iff_getElem.1 hu
  obtain ⟨a', m, c, r1, _⟩ := h.2 i (by rw [← h.1]; exact hi)
  rw [List.getElem?_eq_getElem hi] at r1
  rw [Option.some.inj r1]
  rfl
theorem PList.prow {w w' : World} {xs : List Value} {ps : List (List Int)} (h : PList w xs ps) {base n : Nat} {v : Value} {a : Option Addr} {c : Nat} (hv : v = .slice a n c) (ho : w'.ownsRow base 22 1 v n xs) (hb : Below w.heap.size w w') : PRow w' a n ps := by
  obtain ⟨q1, q2⟩ := h
  obtain ⟨o1, o2⟩ := ho
  refine ⟨by omega, ?_⟩
  rcases o2 with ⟨rfl, h0⟩ | ⟨g, cap, cur, rfl, _, hg, _, _, hcs, htk⟩
  · exact Or.inl h0
  · simp only [Value.slice.injEq] at hv
    obtain ⟨rfl, _, _⟩ := hv
    refine Or.inr ⟨g, 0, rfl, fun i hi => ?_⟩
    obtain ⟨a', m, c', r1, r2, r3, r4⟩ := q2 i (by omega)
    refine ⟨a', m, c', ?_, r2, r3, r4.below' hb (Nat.le_refl _)⟩
    rw [Nat.zero_add, cell_of_row _ _ _ _ _ _ hg, ← r1, ← htk, List.getElem?_take_of_lt (by omega)]
    simp
theorem PRow.plist {w : World} {a : Option Addr} {n : Nat} {ps : List (List Int)} (h : PRow w a n ps) (hn : 0 < n) : ∃ b off xs, a = some ⟨b, off, none⟩ ∧ PList w xs ps ∧ ∀ j u, xs[j]? = some u → w.cell? ((⟨b, off, none⟩ : Addr).add j) = some u := by
  obtain ⟨h1, h2⟩ := h
  rcases h2 with h2 | ⟨b, off, rfl, hc⟩
  · omega
  · refine ⟨b, off, (List.range n).map (fun i => (w.cell? ⟨b, off + i, none⟩).getD undef), rfl, ⟨by simp [h1], fun i hi => ?_⟩, fun j u hj => ?_⟩
    · obtain ⟨a', m, c, q1, q2, q3, q4⟩ := hc i (by omega)
      refine ⟨a', m, c, ?_, q2, q3, q4⟩
      rw [List.getElem?_map, List.getElem?_range (by omega)]
      simp [q1]
    · have hj' : j < n := by have := (List.getElem?_eq_some_iff.1 hj).1; simpa using this
      obtain ⟨a', m, c, q1, _⟩ := hc j hj'
      rw [List.getElem?_map, List.getElem?_range hj'] at hj
      simp [q1] at hj
      rw [Addr.add_mid b off j, q1, hj]
theorem infoSl : (Tryd.prog.info? 22).map (fun i => (i.zero, i.size, i.bytes)) = some (some (.slice none 0 0), 1, 24) := by kernel_rfl
/-- nothing is put behind -/
theorem run_append_none (w : World) (g k cap c : Nat) (a : Option Addr) (hk : k ≤ cap) :
    (Builtin.append_ #[35, 35] 35 #[.slice (some ⟨g, 0, none⟩) k cap, .slice a 0 c]).run Tryd.prog w = .ok (.slice (some ⟨g, 0, none⟩) k cap) w := by
  obtain ⟨i, hi, hz, hs, hb⟩ := info_parts infoSl
  have hu := Tryd.underlying35
  cases a with
  | none => simp [Builtin.append_, run_underlying hu, sizeOf, typeInfo, hi, hs, Builtin.lenOf, Builtin.firstCells, hk, storeCells]
  | some x =>
    have hl := run_loadCells_list (P := Tryd.prog) w x [] (fun j v hj => by simp at hj)
    simp at hl
    simp [Builtin.append_, run_underlying hu, sizeOf, typeInfo, hi, hs, Builtin.lenOf, Builtin.firstCells, hk, hl, storeCells]
/-- room is made -/
theorem run_append_room (w : World) (n : Nat) (h0 : 0 < n) (hn : n ≤ 1000000000) :
    ∃ cap w', (Builtin.append_ #[35, 3] 35 #[.slice none 0 0, .int .i64 n]).run Tryd.prog w = .ok (.slice (some ⟨w.heap.size, 0, none⟩) n cap) w' ∧
      w'.ownsRow w.heap.size 22 1 (.slice (some ⟨w.heap.size, 0, none⟩) 0 cap) 0 [] ∧ 0 < cap ∧ Below w.heap.size w w' := by
  obtain ⟨i, hi, hz, hs, hb⟩ := info_parts infoSl
  have hu := Tryd.underlying35
  have hui := Tryd.underlying3
  have hw : IntKind.i64.wrap (n : Int) = n := by rw [IntKind.wrap_i64]; omega
  have hneg : ¬ ((n : Int) < 0) := by omega
  have hbig : ¬ (281474976710656 < (n : Int) * 24) := by omega
  have hn0 : n ≠ 0 := by omega
  have h63' : ¬ (9223372036854775807 < (n : Int)) := by omega
  have h48' : ¬ (281474976710656 < Builtin.nextslicecap n 0 * 24) := by rw [nextslicecap_zero h0]; omega
  have hm : max (n : Int) 0 = n := by omega
  have hle : ¬ ((n : Int) ≤ 0) := by omega
  have hrun : (Builtin.append_ #[35, 3] 35 #[.slice none 0 0, .int .i64 n]).run Tryd.prog w = .ok (.slice (some ⟨w.heap.size, 0, none⟩) n (grownCap w n 0 22))
      (w.drew.alloc (.cells (Builtin.zeroCells (Value.slice none 0 0).cells n ++ Builtin.zeroCells (Value.slice none 0 0).cells (grownCap w n 0 22 - n)) 22)) := by
    simp [Builtin.append_, run_underlying hu, run_underlying hui, sizeOf, typeInfo, zeroValue, hi, hz, hs, hb, asInt, asIntOf, hw, hm, hle, hneg, hbig, hn0, h63', h48', Question.forced, run_firstCells_none, newRow, grownCap]
  have hc1 := grownCap_ge w n 0 22
  have hc2 := grownCap_le_maxLen w n 0 22 (by unfold maxLen; omega)
  refine ⟨_, _, hrun, ⟨rfl, Or.inr ⟨w.heap.size, _, _, rfl, Nat.le_refl _, heap_alloc_new _ _, Nat.zero_le _, hc2, ?_, rfl⟩⟩, by omega, (Below.refl _ _).drew.alloc (Nat.le_refl _) _⟩
  simp [Builtin.zeroCells, Value.cells]
  omega
end Sha
end Go.Proofs.YtodbfkifendniaaDoor
