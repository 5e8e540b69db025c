/- A writer in memory: well, fail, number. -/
import Derived.Test.YtimhppgepiikbaaWireMem
import Derived.Deep.AppendLies
import Derived.Deep.RegionLaw
namespace Go.Proofs.Ytimhppgepiikbaa
open Go.ChangeShapes Go.WideShapes Go.ChangeAt Go.RowKit
namespace Wire
variable {gu : Option (Nat × Obj)}
/-- bytes as values -/
def bv (l : List Int) : List Value := l.map (Value.int .u8)
theorem bv_length (l : List Int) : (bv l).length = l.length := by simp [bv]
theorem bv_one (l : List Int) : ∀ u ∈ bv l, u.oneCell' = true := by
  intro u hu
  obtain ⟨z, _, rfl⟩ := List.mem_map.1 hu
  rfl
theorem bv_append (l m : List Int) : bv l ++ bv m = bv (l ++ m) := by simp [bv]
theorem infoByte : (Try.prog.info? 5).map (fun i => (i.zero, i.size, i.bytes)) = some (some (.int .u8 0), 1, 1) := by kernel_rfl
theorem row_setCell {w : World} {b j : Nat} {cs : Array Value} {t : TypeId} {fr : Nat × Nat} {u : Value} (h : w.heap[b]? = some (.cells cs t fr)) :
    (w.setCell ⟨b, j, none⟩ u).heap[b]? = some (.cells (cs.setIfInBounds j u) t fr) := by
  have hlt := lt_of_block h
  have h' : w.heap[b] = .cells cs t fr := by simpa [Array.getElem?_eq_getElem hlt] using h
  show (w.heap.modify b _)[b]? = _
  rw [Array.getElem?_eq_getElem (by simpa using hlt), Array.getElem_modify_self, h']
  rfl
theorem row_free {w : World} {b : Nat} {cs : Array Value} {t : TypeId} (h : w.heap[b]? = some (.cells cs t (0, 0))) (j : Nat) : w.frozen? ⟨b, j, none⟩ = false := by simp [World.frozen?, h]
theorem kept_set (g i : Nat) (w : World) (u : Value) : Kept (· = g) w (w.setCell ⟨g, i, none⟩ u) := (Kept.refl (· = g) w).setCell (x := ⟨g, i, none⟩) (Or.inl rfl) u
/-- a block that is no writer's, and stays as it is -/
def Guest (gu : Option (Nat × Obj)) (g : Nat) (v : Value) (w : World) : Prop := ∀ u o, gu = some (u, o) → w.heap[u]? = some o ∧ u ≠ g ∧ some u ≠ v.ownBlock
/-- a writer: its bytes, its error; its row is of this call's own -/
def WAt (gu : Option (Nat × Obj)) (B g : Nat) (w : World) (l : List Int) (e : Int) : Prop :=
  ∃ va n c, w.heap[g]? = some (.cells #[.slice va n c, .int .i64 e] 29 (0, 0)) ∧ B ≤ g ∧ w.ownsRow B 5 1 (.slice va n c) n (bv l) ∧ n ≤ 524288 ∧ (∀ z ∈ l, 0 ≤ z ∧ z ≤ 255) ∧ (0 ≤ e ∧ e ≤ 1000) ∧ Guest gu g (.slice va n c) w
theorem well_any (g : Nat) (w : World) (v : Value) (e : Int) (h : w.heap[g]? = some (.cells #[v, .int .i64 e] 29 (0, 0))) :
    Calls Try.prog 49 #[.pointer (some ⟨g, 0, none⟩)] w fun r w' => r = .returned (.bool (decide (e = 0))) ∧ w = w' := by
  have h1 : w.cell? ⟨g, 1, none⟩ = some (.int .i64 e) := by rw [cell_of_row _ _ _ _ _ _ h]; rfl
  clear h
  go_enter Try.func49, Try.ntmps49
  go_wp2_with fail
  go_ret
  exact ⟨rfl, rfl⟩
theorem fail_ok (g : Nat) (w : World) (v : Value) (e : Int) (h : w.heap[g]? = some (.cells #[v, .int .i64 0] 29 (0, 0))) :
    Calls Try.prog 38 #[.pointer (some ⟨g, 0, none⟩), .int .i64 e] w fun r w' => r = .returned (.tuple #[]) ∧ w'.heap[g]? = some (.cells #[.slice none 0 0, .int .i64 e] 29 (0, 0)) ∧ Kept (· = g) w w' := by
  have HH := Lib.hid h
  have c0 : w.cell? ⟨g, 0, none⟩ = some v := by rw [cell_of_row _ _ _ _ _ _ h]; rfl
  have c1 : w.cell? ⟨g, 1, none⟩ = some (.int .i64 0) := by rw [cell_of_row _ _ _ _ _ _ h]; rfl
  have f0 := row_free h 0
  have f1 := row_free h 1
  clear h
  go_enter Try.func38, Try.ntmps38
  go_wp2_with fail
  refine (well_any g w v 0 HH.out).mono ?_
  rintro r w1 ⟨rfl, rfl⟩
  go_wp2_with fail
  go_end0
  exact ⟨rfl, row_setCell (row_setCell HH.out), (kept_set g 0 w _).trans (kept_set g 1 _ _)⟩
theorem fail_no (g : Nat) (w : World) (v : Value) (e e' : Int) (he : ¬ e' = 0) (h : w.heap[g]? = some (.cells #[v, .int .i64 e'] 29 (0, 0))) :
    Calls Try.prog 38 #[.pointer (some ⟨g, 0, none⟩), .int .i64 e] w fun r w' => r = .returned (.tuple #[]) ∧ w = w' := by
  have HH := Lib.hid h
  have hd : decide (e' = 0) = false := by simpa using he
  have HE := Lib.hid he
  clear h he
  go_enter Try.func38, Try.ntmps38
  go_wp2_with fail
  refine (well_any g w v e' HH.out).mono ?_
  rintro r w1 ⟨rfl, rfl⟩
  go_wp2_with fail
  go_end0
  exact ⟨rfl, rfl⟩
end Wire
end Go.Proofs.Ytimhppgepiikbaa
