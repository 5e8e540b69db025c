/- A reader in memory: well, left, fail. -/
import Derived.Test.YtimhppgepiikbaaWireW7
namespace Go.Proofs.Ytimhppgepiikbaa
open Go.ChangeShapes Go.WideShapes Go.ChangeAt Go.RowKit
namespace Wire
set_option linter.unusedVariables false
/-- a reader: its bytes, its place, its error -/
structure RS where
  d : List Int
  p : Nat
  e : Int
/-- this block, or those that may be written besides -/
def Gq (q : Nat → Prop) (g : Nat) (k : Nat) : Prop := k = g ∨ q k
/-- a reader in memory: with an error its bytes are never asked -/
def RSt (q : Nat → Prop) (g : Nat) (w : World) (s : RS) : Prop :=
  ∃ v, w.heap[g]? = some (.cells #[v, .int .i64 (s.p : Int), .int .i64 s.e] 63 (0, 0)) ∧ (0 ≤ s.e ∧ s.e ≤ 1000) ∧ s.p ≤ 1000000 ∧
    (s.e = 0 → ∃ a n c, v = .slice a n c ∧ SRow (Gq q g) w a n s.d ∧ s.p ≤ n ∧ n ≤ c ∧ c ≤ 9223372036854775807 ∧ n ≤ 1000000)
theorem RSt.kept {q : Nat → Prop} {g : Nat} {w w' : World} {s : RS} (h : RSt q g w s) (hk : Below w.heap.size w w') : RSt q g w' s := by
  obtain ⟨v, h1, h2, h3, h4⟩ := h
  refine ⟨v, (hk.block g (lt_of_block h1)).trans h1, h2, h3, fun he => ?_⟩
  obtain ⟨a, n, c, h5, h6, h7⟩ := h4 he
  exact ⟨a, n, c, h5, h6.kept (Kept.of_below hk), h7⟩
theorem RSt.drew {q : Nat → Prop} {g : Nat} {w : World} {s : RS} (h : RSt q g w s) : RSt q g w.drew s := h.kept ((Below.refl _ _).drew)
theorem RSt.cells {q : Nat → Prop} {g : Nat} {w : World} {s : RS} (h : RSt q g w s) : ∃ v, w.heap[g]? = some (.cells #[v, .int .i64 (s.p : Int), .int .i64 s.e] 63 (0, 0)) := by
  obtain ⟨v, h1, _⟩ := h; exact ⟨v, h1⟩
theorem rwell_any (g : Nat) (w : World) (v x : Value) (e : Int) (h : w.heap[g]? = some (.cells #[v, x, .int .i64 e] 63 (0, 0))) :
    Calls Try.prog 35 #[.pointer (some ⟨g, 0, none⟩)] w fun r w' => r = .returned (.bool (decide (e = 0))) ∧ w = w' := by
  have h1 : w.cell? ⟨g, 2, none⟩ = some (.int .i64 e) := by rw [cell_of_row _ _ _ _ _ _ h]; rfl
  clear h
  go_enter Try.func35, Try.ntmps35
  go_wp2_with fail
  go_ret
  exact ⟨rfl, rfl⟩
theorem left_any (g : Nat) (w : World) (a : Option Addr) (n c p : Nat) (x : Value) (hp : p ≤ n) (hn : n ≤ 1000000) (h : w.heap[g]? = some (.cells #[.slice a n c, .int .i64 (p : Int), x] 63 (0, 0))) :
    Calls Try.prog 36 #[.pointer (some ⟨g, 0, none⟩)] w fun r w' => r = .returned (.int .i64 ((n : Int) - (p : Int))) ∧ ∃ m, w' = w.drewN m := by
  have h0 : w.cell? ⟨g, 0, none⟩ = some (.slice a n c) := by rw [cell_of_row _ _ _ _ _ _ h]; rfl
  have h1 : w.cell? ⟨g, 1, none⟩ = some (.int .i64 (p : Int)) := by rw [cell_of_row _ _ _ _ _ _ h]; rfl
  have m0 : IntKind.i64.wrap ((n : Int) - (p : Int)) = (n : Int) - p := IntWalk.i64_in _ (by omega)
  clear h
  go_enter Try.func36, Try.ntmps36
  go_wp2_with fail
  go_quiet (fail)
  go_wp2_with fail
  go_ret
  exact ⟨rfl, _, rfl⟩
theorem rfail_ok (g : Nat) (w : World) (v : Value) (p e : Int) (h : w.heap[g]? = some (.cells #[v, .int .i64 p, .int .i64 0] 63 (0, 0))) :
    Calls Try.prog 43 #[.pointer (some ⟨g, 0, none⟩), .int .i64 e] w fun r w' => r = .returned (.tuple #[]) ∧ w'.heap[g]? = some (.cells #[.slice none 0 0, .int .i64 p, .int .i64 e] 63 (0, 0)) ∧ Kept (· = g) w w' := by
  have HH := Lib.hid h
  have c0 : w.cell? ⟨g, 0, none⟩ = some v := by rw [cell_of_row _ _ _ _ _ _ h]; rfl
  have c1 : w.cell? ⟨g, 1, none⟩ = some (.int .i64 p) := by rw [cell_of_row _ _ _ _ _ _ h]; rfl
  have c2 : w.cell? ⟨g, 2, none⟩ = some (.int .i64 0) := by rw [cell_of_row _ _ _ _ _ _ h]; rfl
  have f0 := row_free h 0
  have f1 := row_free h 1
  have f2 := row_free h 2
  clear h
  go_enter Try.func43, Try.ntmps43
  go_wp2_with fail
  refine (rwell_any g w v _ 0 HH.out).mono ?_
  rintro r w1 ⟨rfl, rfl⟩
  go_wp2_with fail
  go_end0
  exact ⟨rfl, row_setCell (row_setCell (row_setCell HH.out)), ((kept_set g 0 w _).trans (kept_set g 1 _ _)).trans (kept_set g 2 _ _)⟩
theorem rfail_no (g : Nat) (w : World) (v x : Value) (e e' : Int) (he : ¬ e' = 0) (h : w.heap[g]? = some (.cells #[v, x, .int .i64 e'] 63 (0, 0))) :
    Calls Try.prog 43 #[.pointer (some ⟨g, 0, none⟩), .int .i64 e] w fun r w' => r = .returned (.tuple #[]) ∧ w = w' := by
  have HH := Lib.hid h
  have hd : decide (e' = 0) = false := by simpa using he
  clear h he
  go_enter Try.func43, Try.ntmps43
  go_wp2_with fail
  refine (rwell_any g w v x e' HH.out).mono ?_
  rintro r w1 ⟨rfl, rfl⟩
  go_wp2_with fail
  go_end0
  exact ⟨rfl, rfl⟩
/-- an error is kept, if it is the first one -/
def RS.fail (s : RS) (e : Int) : RS := if s.e = 0 then ⟨s.d, s.p, e⟩ else s
theorem rfail_any {q : Nat → Prop} (g : Nat) (w : World) (s : RS) (e : Int) (he : 0 < e ∧ e ≤ 1000) (h : RSt q g w s) :
    Calls Try.prog 43 #[.pointer (some ⟨g, 0, none⟩), .int .i64 e] w fun r w' => r = .returned (.tuple #[]) ∧ RSt q g w' (s.fail e) ∧ Kept (· = g) w w' := by
  obtain ⟨D, p, e0⟩ := s
  by_cases h0 : e0 = 0
  · subst h0
    obtain ⟨v, h1, h2, h3, _⟩ := h
    refine (rfail_ok g w v _ e h1).mono ?_
    rintro r w' ⟨rfl, h4, h5⟩
    exact ⟨rfl, ⟨_, h4, by simp only [RS.fail, if_true]; omega, h3, fun h => by simp only [RS.fail, if_true] at h; omega⟩, h5⟩
  · obtain ⟨v, h1⟩ := h.cells
    refine (rfail_no g w v _ e e0 h0 h1).mono ?_
    rintro r w' ⟨rfl, rfl⟩
    exact ⟨rfl, by simp only [RS.fail]; rw [if_neg h0]; exact h, Kept.refl _ _⟩
end Wire
end Go.Proofs.Ytimhppgepiikbaa
