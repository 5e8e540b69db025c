/- The statements' own test of the layer: it answers true. -/
import Derived.Test.YtfjjfddlnbaloaaCrcW3
import Derived.Lib.SlBytesConst
namespace Go.Proofs.Ytfjjfddlnbaloaa
open Go.ChangeShapes Go.WideShapes Go.ChangeAt Go.RowKit

/-- a row that was just made -/
theorem row_new (w : World) (l : List Int) (C : Array Value) (t : TypeId) (fr : Nat × Nat) (n : Nat) (hC : C = (l.map (Value.int .u8)).toArray) (hby : ∀ z ∈ l, 0 ≤ z ∧ z ≤ 255) (hn : l.length = n) :
    Row (w.alloc (.cells C t fr)) (some ⟨w.heap.size, 0, none⟩) n l := by
  refine ⟨hn, hby, Or.inr ⟨w.heap.size, 0, rfl, fun i hi => ?_⟩⟩
  rw [cell_of_row _ _ _ _ _ _ (heap_alloc_new w _), hC]
  simp [show i < l.length from by omega]

def nine : List Int := [49, 50, 51, 52, 53, 54, 55, 56, 57]
def four : List Int := [49, 50, 51, 52]
def five : List Int := [53, 54, 55, 56, 57]
theorem nine_sum : Crc.U (Crc.more 0#32 nine) = 3421780262 := by decide +kernel
theorem five_more : Crc.U (Crc.more (Crc.V (Crc.U (Crc.more 0#32 four))) five) = 3421780262 := by decide +kernel

theorem works_any (w : World) :
    Calls Try.prog 9 #[] w fun e w' => e = .returned (.bool true) ∧ Below w.heap.size w w' := by
  have kc := fun (w : World) (C : Array Value) (n c : Nat) => Lib.run_convert_bytes_const (P := Try.prog) w 26 5 C n c Try.underlying26 Try.underlying5
  go_enter Try.func9, Try.ntmps9
  go_wp2_with fail
  refine (sum_any _ 9 _ nine _ (by omega) (row_new _ _ _ _ _ _ rfl (by decide) rfl)).mono ?_
  rintro e w1 ⟨rfl, hb1⟩
  have h1 : (Crc.U (Crc.more 0#32 nine) == 3421780262) = true := by rw [nine_sum]; rfl
  go_wp2_with fail
  refine (sum_any _ 4 _ four _ (by omega) (row_new _ _ _ _ _ _ rfl (by decide) rfl)).mono ?_
  rintro e w2 ⟨rfl, hb2⟩
  go_wp2_with fail
  refine (more_any _ _ 5 _ five _ (by omega) (row_new _ _ _ _ _ _ rfl (by decide) rfl)).mono ?_
  rintro e w3 ⟨rfl, hb3⟩
  have h2 : (Crc.U (Crc.more (Crc.V (Crc.U (Crc.more 0#32 four))) five) == 3421780262) = true := by rw [five_more]; rfl
  go_wp2_with fail
  go_ret
  refine ⟨rfl, ?_⟩
  have s1 := hb1.size
  have s2 := hb2.size
  simp at s1 s2
  refine (((Below.refl _ _).alloc (Nat.le_refl _) _).trans (hb1.mono (by simp))).trans ?_
  refine (((Below.refl _ _).alloc (by omega) _).trans (hb2.mono (by simp; omega))).trans ?_
  exact ((Below.refl _ _).alloc (by omega) _).trans (hb3.mono (by simp; omega))
end Go.Proofs.Ytfjjfddlnbaloaa
