/- Reading a value of a kind: kinds, and values without a list. -/
import Derived.Test.YtimhppgepiikbaaWireD7
import Derived.Test.YtimhppgepiikbaaWireMath4
import Derived.WalkSmall
namespace Go.Proofs.Ytimhppgepiikbaa
open Go.ChangeShapes Go.WideShapes Go.ChangeAt Go.RowKit
namespace Wire
set_option linter.unusedVariables false
/-- a value as its cells -/
def agg5 (k n i : Int) (ba : Option Addr) (bn bc : Nat) (la : Option Addr) (ln lc : Nat) : Array Value := #[.int .i64 k, .int .u64 n, .int .i64 i, .slice ba bn bc, .slice la ln lc]
theorem kind_flat (w : World) (k n i : Int) (ba la : Option Addr) (bn bc ln lc : Nat) (hk : ¬ k = 7) :
    Calls Try.prog 14 #[.agg #[.int .i64 k, .int .u64 n, .int .i64 i, .slice ba bn bc, .slice la ln lc]] w fun r w' => r = .returned (.agg #[.int .i64 k, .int .u64 1048576, .int .i64 0, .slice none 0 0, .slice none 0 0]) ∧ Below w.heap.size w w' := by
  have d7 : (k == 7) = false := by simpa using hk
  clear hk
  go_enter Try.func14, Try.ntmps14
  go_wp2_with fail
  exact bodyPost_ret (v := .agg #[.int .i64 k, .int .u64 1048576, .int .i64 0, .slice none 0 0, .slice none 0 0]) (by simp [results, Try.results14, go_sem]) rfl ⟨rfl, (((Below.refl _ _).alloc (Nat.le_refl _) _).alloc (by simp) _).alloc (by simp; omega) _⟩
/-- the kind of a list: its one thing's kind stands in a row of its own -/
theorem kind_list (w : World) (n i : Int) (ba la : Option Addr) (bn bc ln lc : Nat) (sub : F) (hr : FRow (fun _ => False) w la ln sub) (hc : ln ≤ lc) (hm : lc ≤ 9223372036854775807) :
    Calls Try.prog 14 #[.agg #[.int .i64 7, .int .u64 n, .int .i64 i, .slice ba bn bc, .slice la ln lc]] w fun r w' => ∃ b ek en, r = .returned (.agg #[.int .i64 7, .int .u64 1048576, .int .i64 0, .slice none 0 0, .slice (some ⟨b, 0, none⟩) 1 1]) ∧ w'.heap[b]? = some (.cells #[.int .i64 ek, .int .u64 en, .int .i64 0, .slice none 0 0, .slice none 0 0] 39 (0, 0)) ∧ w.heap.size ≤ b ∧
      ((sub = .nil ∧ ek = 1 ∧ en = 0) ∨ (∃ x1 x2 x3 x4 x5, sub = .cons ek x1 x2 x3 x4 x5 ∧ en = 1048576)) ∧ Below w.heap.size w w' := by
  by_cases h0 : ln = 0
  · subst h0
    have hs : sub = .nil := by
      have := hr.1
      cases sub with
      | nil => rfl
      | cons => simp [F.len] at this
    have HS := Lib.hid hs
    clear hr hs
    have HH : Hid (((((w.alloc (.cells #[.int .i64 7, .int .u64 n, .int .i64 i, .slice ba bn bc, .slice la 0 lc] 39)).alloc (.cells #[.int .i64 7, .int .u64 1048576, .int .i64 0, .slice none 0 0, .slice (some ⟨w.heap.size + 1 + 1 + 1, 0, none⟩) 1 1] 39)).alloc (.cells #[.int .i64 7, .int .u64 1048576, .int .i64 0, .slice none 0 0, .slice (some ⟨w.heap.size + 1 + 1 + 1, 0, none⟩) 1 1] 39)).alloc (.cells #[.int .i64 1, .int .u64 0, .int .i64 0, .slice none 0 0, .slice none 0 0] 39)).heap[w.heap.size + 1 + 1 + 1]? = some (.cells #[.int .i64 1, .int .u64 0, .int .i64 0, .slice none 0 0, .slice none 0 0] 39 (0, 0))) := by
      have h := heap_alloc_new (((w.alloc (.cells #[.int .i64 7, .int .u64 n, .int .i64 i, .slice ba bn bc, .slice la 0 lc] 39)).alloc (.cells #[.int .i64 7, .int .u64 1048576, .int .i64 0, .slice none 0 0, .slice (some ⟨w.heap.size + 1 + 1 + 1, 0, none⟩) 1 1] 39)).alloc (.cells #[.int .i64 7, .int .u64 1048576, .int .i64 0, .slice none 0 0, .slice (some ⟨w.heap.size + 1 + 1 + 1, 0, none⟩) 1 1] 39)) (.cells #[.int .i64 1, .int .u64 0, .int .i64 0, .slice none 0 0, .slice none 0 0] 39)
      have e : (((w.alloc (.cells #[.int .i64 7, .int .u64 n, .int .i64 i, .slice ba bn bc, .slice la 0 lc] 39)).alloc (.cells #[.int .i64 7, .int .u64 1048576, .int .i64 0, .slice none 0 0, .slice (some ⟨w.heap.size + 1 + 1 + 1, 0, none⟩) 1 1] 39)).alloc (.cells #[.int .i64 7, .int .u64 1048576, .int .i64 0, .slice none 0 0, .slice (some ⟨w.heap.size + 1 + 1 + 1, 0, none⟩) 1 1] 39)).heap.size = w.heap.size + 1 + 1 + 1 := by simp
      rw [e] at h
      exact h
    have HB : Hid (Below w.heap.size w ((((w.alloc (.cells #[.int .i64 7, .int .u64 n, .int .i64 i, .slice ba bn bc, .slice la 0 lc] 39)).alloc (.cells #[.int .i64 7, .int .u64 1048576, .int .i64 0, .slice none 0 0, .slice (some ⟨w.heap.size + 1 + 1 + 1, 0, none⟩) 1 1] 39)).alloc (.cells #[.int .i64 7, .int .u64 1048576, .int .i64 0, .slice none 0 0, .slice (some ⟨w.heap.size + 1 + 1 + 1, 0, none⟩) 1 1] 39)).alloc (.cells #[.int .i64 1, .int .u64 0, .int .i64 0, .slice none 0 0, .slice none 0 0] 39))) := ((((Below.refl _ _).alloc (Nat.le_refl _) _).alloc (by simp) _).alloc (by simp; omega) _).alloc (by simp; omega) _
    go_enter Try.func14, Try.ntmps14
    go_wp2_with fail
    exact bodyPost_ret (v := .agg #[.int .i64 7, .int .u64 1048576, .int .i64 0, .slice none 0 0, .slice (some ⟨w.heap.size + 1 + 1 + 1, 0, none⟩) 1 1]) (by simp [results, Try.results14, go_sem]) rfl ⟨_, 1, 0, rfl, HH.out, by omega, Or.inl ⟨HS.out, rfl, rfl⟩, HB.out⟩
  · obtain ⟨hlen, hrow⟩ := hr
    rcases hrow with hrow | ⟨b, o, rfl, hin⟩
    · omega
    cases sub with
    | nil => simp [F.len] at hlen; omega
    | cons x x1 x2 x3 x4 x5 =>
      have hx := hin.2.1
      have hlb := World.block_lt_of_cell? _ _ hx
      simp only at hlb
      have hlb1 : b < w.heap.size + 1 := by omega
      have hlb2 : b < w.heap.size + 1 + 1 := by omega
      have hlb3 : b < w.heap.size + 1 + 1 + 1 := by omega
      have hlb4 : b < w.heap.size + 1 + 1 + 1 + 1 := by omega
      have m0 : (0 : Int) ≤ 0 := by omega
      have hz : IntKind.i64.wrap 0 = 0 := by decide
      have n0 : 0 < ln := by omega
      have n1 : (0 : Int) < ln := by omega
      have dn : decide (0 < ln) = true := by simp; omega
      have HH : Hid ((((((w.alloc (.cells #[.int .i64 7, .int .u64 n, .int .i64 i, .slice ba bn bc, .slice (some ⟨b, o, none⟩) ln lc] 39)).alloc (.cells #[.int .i64 7, .int .u64 1048576, .int .i64 0, .slice none 0 0, .slice (some ⟨w.heap.size + 1 + 1 + 1 + 1, 0, none⟩) 1 1] 39)).alloc (.cells #[.int .i64 7, .int .u64 1048576, .int .i64 0, .slice none 0 0, .slice (some ⟨w.heap.size + 1 + 1 + 1 + 1, 0, none⟩) 1 1] 39)).alloc (.cells #[.int .i64 1, .int .u64 0, .int .i64 0, .slice none 0 0, .slice none 0 0] 39)).alloc (.cells #[.int .i64 x, .int .u64 1048576, .int .i64 0, .slice none 0 0, .slice none 0 0] 39)).heap[w.heap.size + 1 + 1 + 1 + 1]? = some (.cells #[.int .i64 x, .int .u64 1048576, .int .i64 0, .slice none 0 0, .slice none 0 0] 39 (0, 0))) := by
        have h := heap_alloc_new ((((w.alloc (.cells #[.int .i64 7, .int .u64 n, .int .i64 i, .slice ba bn bc, .slice (some ⟨b, o, none⟩) ln lc] 39)).alloc (.cells #[.int .i64 7, .int .u64 1048576, .int .i64 0, .slice none 0 0, .slice (some ⟨w.heap.size + 1 + 1 + 1 + 1, 0, none⟩) 1 1] 39)).alloc (.cells #[.int .i64 7, .int .u64 1048576, .int .i64 0, .slice none 0 0, .slice (some ⟨w.heap.size + 1 + 1 + 1 + 1, 0, none⟩) 1 1] 39)).alloc (.cells #[.int .i64 1, .int .u64 0, .int .i64 0, .slice none 0 0, .slice none 0 0] 39)) (.cells #[.int .i64 x, .int .u64 1048576, .int .i64 0, .slice none 0 0, .slice none 0 0] 39)
        have e : ((((w.alloc (.cells #[.int .i64 7, .int .u64 n, .int .i64 i, .slice ba bn bc, .slice (some ⟨b, o, none⟩) ln lc] 39)).alloc (.cells #[.int .i64 7, .int .u64 1048576, .int .i64 0, .slice none 0 0, .slice (some ⟨w.heap.size + 1 + 1 + 1 + 1, 0, none⟩) 1 1] 39)).alloc (.cells #[.int .i64 7, .int .u64 1048576, .int .i64 0, .slice none 0 0, .slice (some ⟨w.heap.size + 1 + 1 + 1 + 1, 0, none⟩) 1 1] 39)).alloc (.cells #[.int .i64 1, .int .u64 0, .int .i64 0, .slice none 0 0, .slice none 0 0] 39)).heap.size = w.heap.size + 1 + 1 + 1 + 1 := by simp
        rw [e] at h
        exact h
      have HB : Hid (Below w.heap.size w (((((w.alloc (.cells #[.int .i64 7, .int .u64 n, .int .i64 i, .slice ba bn bc, .slice (some ⟨b, o, none⟩) ln lc] 39)).alloc (.cells #[.int .i64 7, .int .u64 1048576, .int .i64 0, .slice none 0 0, .slice (some ⟨w.heap.size + 1 + 1 + 1 + 1, 0, none⟩) 1 1] 39)).alloc (.cells #[.int .i64 7, .int .u64 1048576, .int .i64 0, .slice none 0 0, .slice (some ⟨w.heap.size + 1 + 1 + 1 + 1, 0, none⟩) 1 1] 39)).alloc (.cells #[.int .i64 1, .int .u64 0, .int .i64 0, .slice none 0 0, .slice none 0 0] 39)).alloc (.cells #[.int .i64 x, .int .u64 1048576, .int .i64 0, .slice none 0 0, .slice none 0 0] 39))) := (((((Below.refl _ _).alloc (Nat.le_refl _) _).alloc (by simp) _).alloc (by simp; omega) _).alloc (by simp; omega) _).alloc (by simp; omega) _
      clear hin hlen h0
      go_enter Try.func14, Try.ntmps14
      go_wp2_with fail
      exact bodyPost_ret (v := .agg #[.int .i64 7, .int .u64 1048576, .int .i64 0, .slice none 0 0, .slice (some ⟨w.heap.size + 1 + 1 + 1 + 1, 0, none⟩) 1 1]) (by simp [results, Try.results14, go_sem]) rfl ⟨_, x, 1048576, rfl, HH.out, by omega, Or.inr ⟨_, _, _, _, _, rfl, rfl⟩, HB.out⟩
end Wire
end Go.Proofs.Ytimhppgepiikbaa
