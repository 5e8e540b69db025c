/- Two lists of numbers that are one. -/
import Derived.Test.YtekicfaakjbmhaaRightsRef
namespace Go.Proofs.Ytekicfaakjbmhaa
open Go.ChangeShapes Go.WideShapes Go.ChangeAt Go.RowKit
namespace Rights
set_option linter.unusedVariables false
set_option linter.unusedSimpArgs false
/-- a list of numbers in memory -/
def NRow (w : World) (v : Value) (xs : List Int) : Prop :=
  ∃ a c, v = .slice a xs.length c ∧ (xs = [] ∨ ∃ b, a = some ⟨b, 0, none⟩ ∧ b < w.heap.size ∧ ∀ j, j < xs.length → w.cell? ⟨b, j, none⟩ = some (.int .u32 xs[j]!))
theorem NRow.block {w W : World} {v : Value} {xs : List Int} (h : NRow w v xs) (hb : ∀ k, k < w.heap.size → v.ownBlock = some k → W.heap[k]? = w.heap[k]?) (hs : w.heap.size ≤ W.heap.size) : NRow W v xs := by
  obtain ⟨a, c, rfl, h⟩ := h
  refine ⟨a, c, rfl, ?_⟩
  rcases h with h | ⟨b, rfl, hlt, h⟩
  · exact .inl h
  · exact .inr ⟨b, rfl, by omega, fun j hj => (World.cell?_of_block (hb b hlt rfl)).trans (h j hj)⟩
theorem NRow.below {w W : World} {v : Value} {xs : List Int} (h : NRow w v xs) (hb : Below w.heap.size w W) : NRow W v xs := h.block (fun k hk _ => hb.block k hk) hb.size
theorem NRow.of {w : World} {B : Nat} {v : Value} {xs : List Int} (h : w.ownsRow B 22 1 v xs.length (xs.map fun x => .int .u32 x)) : NRow w v xs := by
  have hh := h
  obtain ⟨_, ⟨rfl, h0⟩ | ⟨g, cap, cur, rfl, hg, hh, rest⟩⟩ := h
  · have : xs = [] := List.length_eq_zero_iff.1 h0
    subst this
    exact ⟨_, _, rfl, .inl rfl⟩
  · refine ⟨_, _, rfl, .inr ⟨g, rfl, lt_of_block hh, fun j hj => ?_⟩⟩
    rename_i h1
    refine (h1.cellAt j (by omega)).trans ?_
    rw [List.getElem?_map, List.getElem?_eq_getElem hj, getElem!_pos xs j hj]
    rfl
set_option maxHeartbeats 4000000 in
theorem same_any {va vb : Value} {xs : List Int} {w : World} (ha : NRow w va xs) (hb : NRow w vb xs) (hl : xs.length ≤ 300000) :
    Calls Try.prog 15 #[va, vb] w fun e W => e = .returned (.bool true) ∧ W = w := by
  obtain ⟨a, c, rfl, ha⟩ := ha
  obtain ⟨b, d, rfl, hb⟩ := hb
  have HA := Lib.hid ha
  have HB := Lib.hid hb
  obtain ⟨n, hn⟩ : ∃ n, xs.length = n := ⟨_, rfl⟩
  rw [hn] at hl ⊢
  have HN : Hid (xs.length = n) := hn
  clear ha hb hn
  go_enter Try.func15, Try.ntmps15
  go_wp2_with fail
  go_loopw [14] (fun iv wr => ∃ j : Nat, j ≤ n ∧ iv = .int .i64 j ∧ wr = w) (fun iv _ => n - (intOf iv).toNat)
  case atStart => exact ⟨0, by omega, rfl, rfl⟩
  case round =>
    obtain ⟨j, hj, rfl, rfl⟩ := hrel
    by_cases hjn : j < n
    · have j0 : (0 : Int) ≤ j := by omega
      have j1 : (j : Int) < n := by omega
      have hdj : decide ((j : Int) < (n : Int)) = true := by simp; omega
      obtain ⟨g1, rfl, _, h1⟩ := HA.out.resolve_left (by rintro rfl; have := HN.out; simp at this; omega)
      obtain ⟨g2, rfl, _, h2⟩ := HB.out.resolve_left (by rintro rfl; have := HN.out; simp at this; omega)
      have e1 := h1 j (by rw [HN.out]; exact hjn)
      have e2 := h2 j (by rw [HN.out]; exact hjn)
      clear h1 h2
      generalize xs[j]! = x at e1 e2
      go_wp2_with fail
      go_roundw
      case rel => exact ⟨j + 1, by omega, by go_num, by first | trivial | rfl⟩
      case measure => simp [intOf]; omega
    · have hdj : decide ((j : Int) < (n : Int)) = false := by simp; omega
      obtain rfl : j = n := by omega
      go_wp2_with fail
      refine bodyPost_ret (v := .bool true) (by simp [results, Try.f15, go_sem]) rfl ?_
      exact ⟨rfl, rfl⟩
end Rights
end Go.Proofs.Ytekicfaakjbmhaa
