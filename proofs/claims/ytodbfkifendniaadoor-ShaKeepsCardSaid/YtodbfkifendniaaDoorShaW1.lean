/- Contracts of the small functions: turning words, and the four mixes. -/
import Derived.Test.YtodbfkifendniaaDoorRows
import Derived.Test.YtodbfkifendniaaDoorShaMath
import Derived.WalkKit
import Derived.ProofKit
import Derived.OpenShut
import Derived.Below
import Derived.Deep.QuietTactic
import Derived.BigQuiet
namespace Go.Proofs.YtodbfkifendniaaDoor
open Go.ChangeShapes Go.WideShapes Go.ChangeAt Go.RowKit
namespace Sha
theorem ret_int {k : IntKind} {a b : Int} (h : a = b) : Ending.returned (.int k a) = .returned (.int k b) := by rw [h]

theorem rotl2 (x : Int) (w : World) (h0 : 0 ≤ x) (h1 : x < 4294967296) :
    Calls Tryd.prog 40 #[.int .u32 x, .int .i64 (-2)] w fun e w' => e = .returned (.int .u32 (U (rot 2 (V x)))) ∧ w = w' := by
  have hb : bits BinOp.and IntKind.u64 (IntKind.u64.wrap (-2)) 31 = 30 := by decide
  go_enter Tryd.func40, Tryd.ntmps40
  go_wp2
  go_ret
  exact ⟨ret_int (rot_or' x 2 h0 h1 _ _ rfl rfl), rfl⟩
theorem turned2 (x : Int) (w : World) (h0 : 0 ≤ x) (h1 : x < 4294967296) :
    Calls Tryd.prog 37 #[.int .u32 x, .int .i64 2] w fun e w' => e = .returned (.int .u32 (U (rot 2 (V x)))) ∧ w = w' := by
  go_enter Tryd.func37, Tryd.ntmps37
  go_wp2_with fail
  refine (rotl2 x _ h0 h1).mono ?_
  rintro e w1 ⟨rfl, rfl⟩
  go_wp2_with fail
  go_ret
  exact ⟨rfl, rfl⟩
theorem rturned2 (x : Int) (w : World) (h0 : 0 ≤ x) (h1 : x < 4294967296) :
    Calls Tryd.prog 38 #[.int .u32 x, .int .i64 2] w fun e w' => e = .returned (.int .u32 (U (rot 2 (V x)))) ∧ ∃ m, w' = w.drewN m := by
  go_enter Tryd.func38, Tryd.ntmps38
  go_wp2
  go_quiet (fail)
  go_wp2
  go_ret
  exact ⟨ret_int (rot_or x 2 h0 h1 _ _ rfl rfl), _, rfl⟩

theorem rotl6 (x : Int) (w : World) (h0 : 0 ≤ x) (h1 : x < 4294967296) :
    Calls Tryd.prog 40 #[.int .u32 x, .int .i64 (-6)] w fun e w' => e = .returned (.int .u32 (U (rot 6 (V x)))) ∧ w = w' := by
  have hb : bits BinOp.and IntKind.u64 (IntKind.u64.wrap (-6)) 31 = 26 := by decide
  go_enter Tryd.func40, Tryd.ntmps40
  go_wp2
  go_ret
  exact ⟨ret_int (rot_or' x 6 h0 h1 _ _ rfl rfl), rfl⟩
theorem turned6 (x : Int) (w : World) (h0 : 0 ≤ x) (h1 : x < 4294967296) :
    Calls Tryd.prog 37 #[.int .u32 x, .int .i64 6] w fun e w' => e = .returned (.int .u32 (U (rot 6 (V x)))) ∧ w = w' := by
  go_enter Tryd.func37, Tryd.ntmps37
  go_wp2_with fail
  refine (rotl6 x _ h0 h1).mono ?_
  rintro e w1 ⟨rfl, rfl⟩
  go_wp2_with fail
  go_ret
  exact ⟨rfl, rfl⟩
theorem rturned6 (x : Int) (w : World) (h0 : 0 ≤ x) (h1 : x < 4294967296) :
    Calls Tryd.prog 38 #[.int .u32 x, .int .i64 6] w fun e w' => e = .returned (.int .u32 (U (rot 6 (V x)))) ∧ ∃ m, w' = w.drewN m := by
  go_enter Tryd.func38, Tryd.ntmps38
  go_wp2
  go_quiet (fail)
  go_wp2
  go_ret
  exact ⟨ret_int (rot_or x 6 h0 h1 _ _ rfl rfl), _, rfl⟩

theorem rotl7 (x : Int) (w : World) (h0 : 0 ≤ x) (h1 : x < 4294967296) :
    Calls Tryd.prog 40 #[.int .u32 x, .int .i64 (-7)] w fun e w' => e = .returned (.int .u32 (U (rot 7 (V x)))) ∧ w = w' := by
  have hb : bits BinOp.and IntKind.u64 (IntKind.u64.wrap (-7)) 31 = 25 := by decide
  go_enter Tryd.func40, Tryd.ntmps40
  go_wp2
  go_ret
  exact ⟨ret_int (rot_or' x 7 h0 h1 _ _ rfl rfl), rfl⟩
theorem turned7 (x : Int) (w : World) (h0 : 0 ≤ x) (h1 : x < 4294967296) :
    Calls Tryd.prog 37 #[.int .u32 x, .int .i64 7] w fun e w' => e = .returned (.int .u32 (U (rot 7 (V x)))) ∧ w = w' := by
  go_enter Tryd.func37, Tryd.ntmps37
  go_wp2_with fail
  refine (rotl7 x _ h0 h1).mono ?_
  rintro e w1 ⟨rfl, rfl⟩
  go_wp2_with fail
  go_ret
  exact ⟨rfl, rfl⟩
theorem rturned7 (x : Int) (w : World) (h0 : 0 ≤ x) (h1 : x < 4294967296) :
    Calls Tryd.prog 38 #[.int .u32 x, .int .i64 7] w fun e w' => e = .returned (.int .u32 (U (rot 7 (V x)))) ∧ ∃ m, w' = w.drewN m := by
  go_enter Tryd.func38, Tryd.ntmps38
  go_wp2
  go_quiet (fail)
  go_wp2
  go_ret
  exact ⟨ret_int (rot_or x 7 h0 h1 _ _ rfl rfl), _, rfl⟩

theorem rotl11 (x : Int) (w : World) (h0 : 0 ≤ x) (h1 : x < 4294967296) :
    Calls Tryd.prog 40 #[.int .u32 x, .int .i64 (-11)] w fun e w' => e = .returned (.int .u32 (U (rot 11 (V x)))) ∧ w = w' := by
  have hb : bits BinOp.and IntKind.u64 (IntKind.u64.wrap (-11)) 31 = 21 := by decide
  go_enter Tryd.func40, Tryd.ntmps40
  go_wp2
  go_ret
  exact ⟨ret_int (rot_or' x 11 h0 h1 _ _ rfl rfl), rfl⟩
theorem turned11 (x : Int) (w : World) (h0 : 0 ≤ x) (h1 : x < 4294967296) :
    Calls Tryd.prog 37 #[.int .u32 x, .int .i64 11] w fun e w' => e = .returned (.int .u32 (U (rot 11 (V x)))) ∧ w = w' := by
  go_enter Tryd.func37, Tryd.ntmps37
  go_wp2_with fail
  refine (rotl11 x _ h0 h1).mono ?_
  rintro e w1 ⟨rfl, rfl⟩
  go_wp2_with fail
  go_ret
  exact ⟨rfl, rfl⟩
theorem rturned11 (x : Int) (w : World) (h0 : 0 ≤ x) (h1 : x < 4294967296) :
    Calls Tryd.prog 38 #[.int .u32 x, .int .i64 11] w fun e w' => e = .returned (.int .u32 (U (rot 11 (V x)))) ∧ ∃ m, w' = w.drewN m := by
  go_enter Tryd.func38, Tryd.ntmps38
  go_wp2
  go_quiet (fail)
  go_wp2
  go_ret
  exact ⟨ret_int (rot_or x 11 h0 h1 _ _ rfl rfl), _, rfl⟩

theorem rotl13 (x : Int) (w : World) (h0 : 0 ≤ x) (h1 : x < 4294967296) :
    Calls Tryd.prog 40 #[.int .u32 x, .int .i64 (-13)] w fun e w' => e = .returned (.int .u32 (U (rot 13 (V x)))) ∧ w = w' := by
  have hb : bits BinOp.and IntKind.u64 (IntKind.u64.wrap (-13)) 31 = 19 := by decide
  go_enter Tryd.func40, Tryd.ntmps40
  go_wp2
  go_ret
  exact ⟨ret_int (rot_or' x 13 h0 h1 _ _ rfl rfl), rfl⟩
theorem turned13 (x : Int) (w : World) (h0 : 0 ≤ x) (h1 : x < 4294967296) :
    Calls Tryd.prog 37 #[.int .u32 x, .int .i64 13] w fun e w' => e = .returned (.int .u32 (U (rot 13 (V x)))) ∧ w = w' := by
  go_enter Tryd.func37, Tryd.ntmps37
  go_wp2_with fail
  refine (rotl13 x _ h0 h1).mono ?_
  rintro e w1 ⟨rfl, rfl⟩
  go_wp2_with fail
  go_ret
  exact ⟨rfl, rfl⟩
theorem rturned13 (x : Int) (w : World) (h0 : 0 ≤ x) (h1 : x < 4294967296) :
    Calls Tryd.prog 38 #[.int .u32 x, .int .i64 13] w fun e w' => e = .returned (.int .u32 (U (rot 13 (V x)))) ∧ ∃ m, w' = w.drewN m := by
  go_enter Tryd.func38, Tryd.ntmps38
  go_wp2
  go_quiet (fail)
  go_wp2
  go_ret
  exact ⟨ret_int (rot_or x 13 h0 h1 _ _ rfl rfl), _, rfl⟩

theorem rotl17 (x : Int) (w : World) (h0 : 0 ≤ x) (h1 : x < 4294967296) :
    Calls Tryd.prog 40 #[.int .u32 x, .int .i64 (-17)] w fun e w' => e = .returned (.int .u32 (U (rot 17 (V x)))) ∧ w = w' := by
  have hb : bits BinOp.and IntKind.u64 (IntKind.u64.wrap (-17)) 31 = 15 := by decide
  go_enter Tryd.func40, Tryd.ntmps40
  go_wp2
  go_ret
  exact ⟨ret_int (rot_or' x 17 h0 h1 _ _ rfl rfl), rfl⟩
theorem turned17 (x : Int) (w : World) (h0 : 0 ≤ x) (h1 : x < 4294967296) :
    Calls Tryd.prog 37 #[.int .u32 x, .int .i64 17] w fun e w' => e = .returned (.int .u32 (U (rot 17 (V x)))) ∧ w = w' := by
  go_enter Tryd.func37, Tryd.ntmps37
  go_wp2_with fail
  refine (rotl17 x _ h0 h1).mono ?_
  rintro e w1 ⟨rfl, rfl⟩
  go_wp2_with fail
  go_ret
  exact ⟨rfl, rfl⟩
theorem rturned17 (x : Int) (w : World) (h0 : 0 ≤ x) (h1 : x < 4294967296) :
    Calls Tryd.prog 38 #[.int .u32 x, .int .i64 17] w fun e w' => e = .returned (.int .u32 (U (rot 17 (V x)))) ∧ ∃ m, w' = w.drewN m := by
  go_enter Tryd.func38, Tryd.ntmps38
  go_wp2
  go_quiet (fail)
  go_wp2
  go_ret
  exact ⟨ret_int (rot_or x 17 h0 h1 _ _ rfl rfl), _, rfl⟩

theorem rotl18 (x : Int) (w : World) (h0 : 0 ≤ x) (h1 : x < 4294967296) :
    Calls Tryd.prog 40 #[.int .u32 x, .int .i64 (-18)] w fun e w' => e = .returned (.int .u32 (U (rot 18 (V x)))) ∧ w = w' := by
  have hb : bits BinOp.and IntKind.u64 (IntKind.u64.wrap (-18)) 31 = 14 := by decide
  go_enter Tryd.func40, Tryd.ntmps40
  go_wp2
  go_ret
  exact ⟨ret_int (rot_or' x 18 h0 h1 _ _ rfl rfl), rfl⟩
theorem turned18 (x : Int) (w : World) (h0 : 0 ≤ x) (h1 : x < 4294967296) :
    Calls Tryd.prog 37 #[.int .u32 x, .int .i64 18] w fun e w' => e = .returned (.int .u32 (U (rot 18 (V x)))) ∧ w = w' := by
  go_enter Tryd.func37, Tryd.ntmps37
  go_wp2_with fail
  refine (rotl18 x _ h0 h1).mono ?_
  rintro e w1 ⟨rfl, rfl⟩
  go_wp2_with fail
  go_ret
  exact ⟨rfl, rfl⟩
theorem rturned18 (x : Int) (w : World) (h0 : 0 ≤ x) (h1 : x < 4294967296) :
    Calls Tryd.prog 38 #[.int .u32 x, .int .i64 18] w fun e w' => e = .returned (.int .u32 (U (rot 18 (V x)))) ∧ ∃ m, w' = w.drewN m := by
  go_enter Tryd.func38, Tryd.ntmps38
  go_wp2
  go_quiet (fail)
  go_wp2
  go_ret
  exact ⟨ret_int (rot_or x 18 h0 h1 _ _ rfl rfl), _, rfl⟩

theorem rotl19 (x : Int) (w : World) (h0 : 0 ≤ x) (h1 : x < 4294967296) :
    Calls Tryd.prog 40 #[.int .u32 x, .int .i64 (-19)] w fun e w' => e = .returned (.int .u32 (U (rot 19 (V x)))) ∧ w = w' := by
  have hb : bits BinOp.and IntKind.u64 (IntKind.u64.wrap (-19)) 31 = 13 := by decide
  go_enter Tryd.func40, Tryd.ntmps40
  go_wp2
  go_ret
  exact ⟨ret_int (rot_or' x 19 h0 h1 _ _ rfl rfl), rfl⟩
theorem turned19 (x : Int) (w : World) (h0 : 0 ≤ x) (h1 : x < 4294967296) :
    Calls Tryd.prog 37 #[.int .u32 x, .int .i64 19] w fun e w' => e = .returned (.int .u32 (U (rot 19 (V x)))) ∧ w = w' := by
  go_enter Tryd.func37, Tryd.ntmps37
  go_wp2_with fail
  refine (rotl19 x _ h0 h1).mono ?_
  rintro e w1 ⟨rfl, rfl⟩
  go_wp2_with fail
  go_ret
  exact ⟨rfl, rfl⟩
theorem rturned19 (x : Int) (w : World) (h0 : 0 ≤ x) (h1 : x < 4294967296) :
    Calls Tryd.prog 38 #[.int .u32 x, .int .i64 19] w fun e w' => e = .returned (.int .u32 (U (rot 19 (V x)))) ∧ ∃ m, w' = w.drewN m := by
  go_enter Tryd.func38, Tryd.ntmps38
  go_wp2
  go_quiet (fail)
  go_wp2
  go_ret
  exact ⟨ret_int (rot_or x 19 h0 h1 _ _ rfl rfl), _, rfl⟩

theorem rotl22 (x : Int) (w : World) (h0 : 0 ≤ x) (h1 : x < 4294967296) :
    Calls Tryd.prog 40 #[.int .u32 x, .int .i64 (-22)] w fun e w' => e = .returned (.int .u32 (U (rot 22 (V x)))) ∧ w = w' := by
  have hb : bits BinOp.and IntKind.u64 (IntKind.u64.wrap (-22)) 31 = 10 := by decide
  go_enter Tryd.func40, Tryd.ntmps40
  go_wp2
  go_ret
  exact ⟨ret_int (rot_or' x 22 h0 h1 _ _ rfl rfl), rfl⟩
theorem turned22 (x : Int) (w : World) (h0 : 0 ≤ x) (h1 : x < 4294967296) :
    Calls Tryd.prog 37 #[.int .u32 x, .int .i64 22] w fun e w' => e = .returned (.int .u32 (U (rot 22 (V x)))) ∧ w = w' := by
  go_enter Tryd.func37, Tryd.ntmps37
  go_wp2_with fail
  refine (rotl22 x _ h0 h1).mono ?_
  rintro e w1 ⟨rfl, rfl⟩
  go_wp2_with fail
  go_ret
  exact ⟨rfl, rfl⟩
theorem rturned22 (x : Int) (w : World) (h0 : 0 ≤ x) (h1 : x < 4294967296) :
    Calls Tryd.prog 38 #[.int .u32 x, .int .i64 22] w fun e w' => e = .returned (.int .u32 (U (rot 22 (V x)))) ∧ ∃ m, w' = w.drewN m := by
  go_enter Tryd.func38, Tryd.ntmps38
  go_wp2
  go_quiet (fail)
  go_wp2
  go_ret
  exact ⟨ret_int (rot_or x 22 h0 h1 _ _ rfl rfl), _, rfl⟩

theorem rotl25 (x : Int) (w : World) (h0 : 0 ≤ x) (h1 : x < 4294967296) :
    Calls Tryd.prog 40 #[.int .u32 x, .int .i64 (-25)] w fun e w' => e = .returned (.int .u32 (U (rot 25 (V x)))) ∧ w = w' := by
  have hb : bits BinOp.and IntKind.u64 (IntKind.u64.wrap (-25)) 31 = 7 := by decide
  go_enter Tryd.func40, Tryd.ntmps40
  go_wp2
  go_ret
  exact ⟨ret_int (rot_or' x 25 h0 h1 _ _ rfl rfl), rfl⟩
theorem turned25 (x : Int) (w : World) (h0 : 0 ≤ x) (h1 : x < 4294967296) :
    Calls Tryd.prog 37 #[.int .u32 x, .int .i64 25] w fun e w' => e = .returned (.int .u32 (U (rot 25 (V x)))) ∧ w = w' := by
  go_enter Tryd.func37, Tryd.ntmps37
  go_wp2_with fail
  refine (rotl25 x _ h0 h1).mono ?_
  rintro e w1 ⟨rfl, rfl⟩
  go_wp2_with fail
  go_ret
  exact ⟨rfl, rfl⟩
theorem rturned25 (x : Int) (w : World) (h0 : 0 ≤ x) (h1 : x < 4294967296) :
    Calls Tryd.prog 38 #[.int .u32 x, .int .i64 25] w fun e w' => e = .returned (.int .u32 (U (rot 25 (V x)))) ∧ ∃ m, w' = w.drewN m := by
  go_enter Tryd.func38, Tryd.ntmps38
  go_wp2
  go_quiet (fail)
  go_wp2
  go_ret
  exact ⟨ret_int (rot_or x 25 h0 h1 _ _ rfl rfl), _, rfl⟩

theorem mixFar_any (x : Int) (w : World) (h0 : 0 ≤ x) (h1 : x < 4294967296) :
    Calls Tryd.prog 36 #[.int .u32 x] w fun e w' => e = .returned (.int .u32 (U (s0 (V x)))) ∧ w = w' := by
  go_enter Tryd.func36, Tryd.ntmps36
  go_wp2_with fail
  refine (turned7 x _ h0 h1).mono ?_
  rintro e w1 ⟨rfl, rfl⟩
  go_wp2_with fail
  refine (turned18 x _ h0 h1).mono ?_
  rintro e w1 ⟨rfl, rfl⟩
  go_wp2_with fail
  go_ret
  refine ⟨ret_int ?_, rfl⟩
  rw [xor_U, xor_U, V_U, V_U, V_U, show (8 : Int) = ((2 ^ 3 : Nat) : Int) from rfl, V_div x 3 h0 h1]; rfl

theorem mixNear_any (x : Int) (w : World) (h0 : 0 ≤ x) (h1 : x < 4294967296) :
    Calls Tryd.prog 35 #[.int .u32 x] w fun e w' => e = .returned (.int .u32 (U (s1 (V x)))) ∧ w = w' := by
  go_enter Tryd.func35, Tryd.ntmps35
  go_wp2_with fail
  refine (turned17 x _ h0 h1).mono ?_
  rintro e w1 ⟨rfl, rfl⟩
  go_wp2_with fail
  refine (turned19 x _ h0 h1).mono ?_
  rintro e w1 ⟨rfl, rfl⟩
  go_wp2_with fail
  go_ret
  refine ⟨ret_int ?_, rfl⟩
  rw [xor_U, xor_U, V_U, V_U, V_U, show (1024 : Int) = ((2 ^ 10 : Nat) : Int) from rfl, V_div x 10 h0 h1]; rfl

theorem mixA_any (x : Int) (w : World) (h0 : 0 ≤ x) (h1 : x < 4294967296) :
    Calls Tryd.prog 30 #[.int .u32 x] w fun e w' => e = .returned (.int .u32 (U (S0 (V x)))) ∧ w = w' := by
  go_enter Tryd.func30, Tryd.ntmps30
  go_wp2_with fail
  refine (turned2 x _ h0 h1).mono ?_
  rintro e w1 ⟨rfl, rfl⟩
  go_wp2_with fail
  refine (turned13 x _ h0 h1).mono ?_
  rintro e w1 ⟨rfl, rfl⟩
  go_wp2_with fail
  refine (turned22 x _ h0 h1).mono ?_
  rintro e w1 ⟨rfl, rfl⟩
  go_wp2_with fail
  go_ret
  refine ⟨ret_int ?_, rfl⟩
  rw [xor_U, xor_U, V_U, V_U, V_U, V_U]; rfl

theorem mixE_any (x : Int) (w : World) (h0 : 0 ≤ x) (h1 : x < 4294967296) :
    Calls Tryd.prog 29 #[.int .u32 x] w fun e w' => e = .returned (.int .u32 (U (S1 (V x)))) ∧ w = w' := by
  go_enter Tryd.func29, Tryd.ntmps29
  go_wp2_with fail
  refine (turned6 x _ h0 h1).mono ?_
  rintro e w1 ⟨rfl, rfl⟩
  go_wp2_with fail
  refine (turned11 x _ h0 h1).mono ?_
  rintro e w1 ⟨rfl, rfl⟩
  go_wp2_with fail
  refine (turned25 x _ h0 h1).mono ?_
  rintro e w1 ⟨rfl, rfl⟩
  go_wp2_with fail
  go_ret
  refine ⟨ret_int ?_, rfl⟩
  rw [xor_U, xor_U, V_U, V_U, V_U, V_U]; rfl
end Sha
end Go.Proofs.YtodbfkifendniaaDoor
