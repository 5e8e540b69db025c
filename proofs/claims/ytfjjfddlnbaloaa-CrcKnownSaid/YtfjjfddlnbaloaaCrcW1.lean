/- Contracts of the small functions: one bit goes through. -/
import Derived.Test.YtfjjfddlnbaloaaRows
import Derived.Test.YtfjjfddlnbaloaaCrcWords
import Derived.WalkKit
import Derived.ProofKit
import Derived.OpenShut
import Derived.Below
namespace Go.Proofs.Ytfjjfddlnbaloaa
open Go.ChangeShapes Go.WideShapes Go.ChangeAt Go.RowKit

theorem ret_int {k : IntKind} {a b : Int} (h : a = b) : Ending.returned (.int k a) = .returned (.int k b) := by rw [h]

theorem shift_any (r : Int) (w : World) (h0 : 0 ≤ r) (h1 : r < 4294967296) :
    Calls Try.prog 16 #[.int .u32 r] w fun e w' => e = .returned (.int .u32 (Crc.U (Crc.sh (Crc.V r)))) ∧ w = w' := by
  go_enter Try.func16, Try.ntmps16
  go_wp2
  · go_ret
    exact ⟨ret_int (Crc.shift_yes r h0 h1 (by assumption)), rfl⟩
  · go_ret
    exact ⟨ret_int (Crc.shift_no r h0 h1 (by assumption)), rfl⟩

theorem bit_any (r c : Int) (w : World) (h0 : 0 ≤ r) (h1 : r < 4294967296) (c0 : 0 ≤ c) (c1 : c < 4294967296) :
    Calls Try.prog 17 #[.int .u32 r, .int .u32 c] w fun e w' => e = .returned (.int .u32 (Crc.U (Crc.bit (Crc.V r) (Crc.V c)))) ∧ w = w' := by
  go_enter Try.func17, Try.ntmps17
  go_wp2
  · go_ret
    exact ⟨ret_int (Crc.bit_yes r c h0 h1 c0 c1 (by assumption)), rfl⟩
  · go_ret
    exact ⟨ret_int (Crc.bit_no r c h0 h1 c0 c1 (by assumption)), rfl⟩
end Go.Proofs.Ytfjjfddlnbaloaa
