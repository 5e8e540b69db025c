/- The document's own answers: the bytes of an instruction. -/
import Derived.Test.YtgiocecpkhmhhaaGreatDoorIsaR1
namespace Go.Proofs.YtgiocecpkhmhhaaGreatDoor
open Go.ChangeShapes Go.WideShapes Go.ChangeAt Go.RowKit
namespace Isa
set_option linter.unusedVariables false
set_option linter.unusedSimpArgs false
set_option maxHeartbeats 3200000 in
theorem rbytes_any (i : Iv) (h : i.wf) (w : World) : Calls Tryz.prog 47 #[iv i] w fun e w' =>
    ∃ V, e = .returned (.slice (some ⟨V, 0, none⟩) 8 8) ∧ w'.heap[V]? = some (.cells ((bytesI i).map (Value.int .u8)).toArray 5) ∧ Below w.heap.size w w' := by
  obtain ⟨op, a, b, c⟩ := i
  obtain ⟨⟨h1, h2⟩, ⟨h3, h4⟩, ⟨h5, h6⟩, ⟨h7, h8⟩⟩ := h
  simp only at *
  unfold iv bytesI
  simp only
  have t1 : IntKind.u16.wrap (b.tdiv 256) = b / 256 := by rw [Int.tdiv_eq_ediv_of_nonneg h5]; simp [IntKind.wrap, IntKind.bits, IntKind.signed]; omega
  have t2 : IntKind.u32.wrap (c.tdiv 256) = c / 256 := by rw [Int.tdiv_eq_ediv_of_nonneg h7]; simp [IntKind.wrap, IntKind.bits, IntKind.signed]; omega
  have t3 : IntKind.u32.wrap (c.tdiv 65536) = c / 65536 := by rw [Int.tdiv_eq_ediv_of_nonneg h7]; simp [IntKind.wrap, IntKind.bits, IntKind.signed]; omega
  have t4 : IntKind.u32.wrap (c.tdiv 16777216) = c / 16777216 := by rw [Int.tdiv_eq_ediv_of_nonneg h7]; simp [IntKind.wrap, IntKind.bits, IntKind.signed]; omega
  go_enter Tryz.func47, Tryz.ntmps47
  go_wp2_with fail
  go_ret
  refine ⟨w.heap.size + 1, rfl, ?_, ?_⟩
  · have := alloc_new (w.alloc (.cells #[.int .u8 op, .int .u8 a, .int .u16 b, .int .u32 c] 32)) (.cells #[.int .u8 op, .int .u8 a, .int .u8 (b % 256), .int .u8 (b / 256), .int .u8 (c % 256), .int .u8 (c / 256 % 256), .int .u8 (c / 65536 % 256), .int .u8 (c / 16777216)] 5)
    rw [World.size_alloc] at this
    exact this
  · go_grown
end Isa
end Go.Proofs.YtgiocecpkhmhhaaGreatDoor
