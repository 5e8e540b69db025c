/- What the statements ask of the program's calls of layer 11, told once; the law's own small instruction. -/
import Derived.Test.YteingehdkpfpcaaDoorCodeMay
import Derived.Test.YteingehdkpfpcaaDoorFlowSame
import Derived.Test.YteingehdkpfpcaaDoorFlowVal
namespace Go.Proofs.YteingehdkpfpcaaDoor
open Go.ChangeShapes Go.WideShapes Go.ChangeAt Go.RowKit
namespace Flw
open Isa
set_option linter.unusedVariables false
set_option linter.unusedSimpArgs false
/-- flow.Check, of any program -/
def CheckC : Prop := ∀ (l : List Iv) (a : Option Addr) (n c : Nat) (w : World), Tabs w → n ≤ c → c ≤ 9223372036854775807 → IRow w a n l →
  Calls Tryd.prog 10 #[.slice a n c] w fun e w' => e = .returned (.tuple #[.int .i64 (chkN l : Nat), .int .i64 (chkE l)]) ∧ Below w.heap.size w w'
/-- flow.Come -/
def ComeC : Prop := ∀ (l : List Iv) (a : Option Addr) (n c : Nat) (w : World), Tabs w → n ≤ c → c ≤ 9223372036854775807 → IRow w a n l →
  Calls Tryd.prog 12 #[.slice a n c] w fun e w' => ∃ v, e = .returned v ∧ w'.ownsRow w.heap.size 4 1 v (comeL l).length (bls (comeL l)) ∧ Below w.heap.size w w'
/-- flow.Order -/
def OrderC : Prop := ∀ (l : List Iv) (a : Option Addr) (n c : Nat) (w : World), Tabs w → n ≤ c → c ≤ 9223372036854775807 → IRow w a n l →
  Calls Tryd.prog 13 #[.slice a n c] w fun e w' => ∃ v, e = .returned (.tuple #[v, .bool (ordA l).2]) ∧ numsP w.heap.size (ordA l).1 w' v ∧ Below w.heap.size w w'
/-- the law's behind: what flow.Behind goes over, gathered -/
def BehindC : Prop := ∀ (l : List Iv) (a : Option Addr) (n c : Nat) (k : Int) (w : World), Tabs w → n ≤ c → c ≤ 9223372036854775807 → -9223372036854775808 ≤ k → k ≤ 9223372036854775807 → IRow w a n l →
  Calls Tryd.prog 14 #[.slice a n c, .int .i64 k] w fun e w' => ∃ v, e = .returned v ∧ numsP w.heap.size (behA l k) w' v ∧ Below w.heap.size w w'
theorem do_any (op c : Int) (w : World) : Calls Tryd.prog 20 #[.int .u8 op, .int .u32 c] w fun e w' =>
    e = .returned (.agg #[.int .u8 op, .int .u8 0, .int .u16 0, .int .u32 c]) ∧ Below w.heap.size w w' := by
  have hx := alloc_new w (.cells #[.int .u8 0, .int .u8 0, .int .u16 0, .int .u32 0] 38)
  have HB := Lib.hid ((Below.refl w.heap.size w).alloc (Nat.le_refl _) (.cells #[.int .u8 0, .int .u8 0, .int .u16 0, .int .u32 0] 38))
  obtain ⟨V, hV⟩ : ∃ V, w.heap.size = V := ⟨_, rfl⟩
  go_enter Tryd.func20, Tryd.ntmps20
  go_upto_region 1 with fail
  have HV := Lib.hid hV
  rw [hV] at hx HB
  clear hV
  generalize w.alloc (.cells #[.int .u8 0, .int .u8 0, .int .u16 0, .int .u32 0] 38) = X at *
  obtain ⟨y0, y1, y2, y3⟩ := cells4 hx
  have f0 : X.frozen? ⟨V, 0, none⟩ = false := by simp [World.frozen?, hx]
  have f1 : X.frozen? ⟨V, 1, none⟩ = false := by simp [World.frozen?, hx]
  have f2 : X.frozen? ⟨V, 2, none⟩ = false := by simp [World.frozen?, hx]
  have f3 : X.frozen? ⟨V, 3, none⟩ = false := by simp [World.frozen?, hx]
  go_wp2_with fail
  refine bodyPost_ret (v := .agg #[.int .u8 op, .int .u8 0, .int .u16 0, .int .u32 c]) (by simp [results, Tryd.f20, y0, y1, y2, y3, go_sem]) rfl ?_
  exact ⟨rfl, by rw [HV.out]; exact (((HB.out.setCell (p := ⟨V, 0, none⟩) (Nat.le_refl _) _).setCell (p := ⟨V, 1, none⟩) (Nat.le_refl _) _).setCell (p := ⟨V, 2, none⟩) (Nat.le_refl _) _).setCell (p := ⟨V, 3, none⟩) (Nat.le_refl _) _⟩
end Flw
end Go.Proofs.YteingehdkpfpcaaDoor
