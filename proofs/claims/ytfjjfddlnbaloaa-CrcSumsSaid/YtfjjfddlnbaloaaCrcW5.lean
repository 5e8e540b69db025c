/- What the document's own answer comes to. -/
import Derived.Test.YtfjjfddlnbaloaaCrcW4
namespace Go.Proofs.Ytfjjfddlnbaloaa
open Go.ChangeShapes Go.WideShapes Go.ChangeAt Go.RowKit

theorem remainder_any (r : Int) (a : Option Addr) (n cap : Nat) (l : List Int) (w : World) (r0 : 0 ≤ r) (r1 : r < 4294967296) (hn : n ≤ 9223372036854775807) (hrow : Row w a n l) :
    Calls Try.prog 15 #[.int .u32 r, .slice a n cap] w fun e w' => e = .returned (.int .u32 (Crc.U (Crc.rem (Crc.V r) l))) ∧ w = w' := by
  have HRow := Lib.hid hrow
  clear hrow
  go_enter Try.func15, Try.ntmps15
  go_wp2_with fail
  go_loop [0, 5] (fun r' i => ∃ k : Nat, k ≤ n ∧ i = .int .i64 k ∧ r' = .int .u32 (Crc.U (Crc.rem (Crc.V r) (l.take k)))) (fun _ i => n - (intOf i).toNat)
  case atStart => exact ⟨0, by omega, rfl, by simp only [List.take_zero, Crc.rem_nil]; rw [Crc.U_V r r0 r1]⟩
  case round =>
    obtain ⟨k, hk, rfl, rfl⟩ := hrel
    by_cases hlt : k < n
    · obtain ⟨hlen, hby, hcs⟩ := HRow.out
      rcases hcs with hcs | ⟨b, off, rfl, hc⟩
      · omega
      · have hcell := hc k hlt
        have hz := hby (l.getD k 0) (by simp [show k < l.length from by omega])
        have HN := Lib.hid (take_next l k (by omega))
        generalize l.getD k 0 = z at *
        obtain ⟨z0, z1⟩ := hz
        clear hc hby hlen
        generalize hR : Crc.rem (Crc.V r) (l.take k) = R at *
        have HR := Lib.hid hR
        clear hR
        have hd : decide (k < n) = true := by simp; omega
        have k0 : (0 : Int) ≤ k := by omega
        have k1 : (k : Int) < n := by omega
        go_wp2_with fail
        go_loop [0, 6, 7] (fun r' c i => ∃ (j : Nat) (x y : Crc.W), j ≤ 8 ∧ i = .int .i64 j ∧ r' = .int .u32 (Crc.U x) ∧ c = .int .u32 (Crc.U y) ∧ Hid (Crc.bitN (8 - j) x y = Crc.byte R z)) (fun _ _ i => 8 - (intOf i).toNat)
        case atStart => exact ⟨0, R, Crc.V z, by omega, rfl, rfl, by rw [Crc.U_V z z0 (by omega)], (Crc.byte_bits R z (Crc.byte_small z z0 z1)).symm⟩
        case round =>
          obtain ⟨j, x, y, hj, rfl, rfl, rfl, HB⟩ := hrel
          have x0 := Crc.U_lo x
          have x1 := Crc.U_hi x
          have y0 := Crc.U_lo y
          have y1 := Crc.U_hi y
          by_cases hj8 : j < 8
          · have hd8 : decide ((j : Int) < 8) = true := by simp; omega
            go_wp2_with fail
            refine (bit_any _ _ _ x0 x1 y0 y1).mono ?_
            rintro e w' ⟨rfl, rfl⟩
            go_wp2_with fail
            go_round
            case rel =>
              refine ⟨j + 1, Crc.bit x y, y >>> 1, by omega, by go_num, by rw [Crc.V_U, Crc.V_U], ?_, ?_⟩
              · rw [Crc.U_half]
              · have := HB.out
                rw [show 8 - j = (8 - (j + 1)) + 1 from by omega] at this
                exact this
            case measure => simp [intOf]; omega
          · have hd8 : decide ((j : Int) < 8) = false := by simp; omega
            go_wp2_with fail
            go_round
            case rel =>
              have := HB.out
              rw [show 8 - j = 0 from by omega] at this
              exact ⟨k + 1, by omega, by go_num, by rw [HN.out, Crc.rem_snoc, HR.out, ← this]; rfl⟩
            case measure => simp [intOf]; omega
    · have hd : decide (k < n) = false := by simp; omega
      go_wp2_with fail
      go_ret
      refine ⟨ret_int ?_, rfl⟩
      rw [List.take_of_length_le (by have := HRow.out.1; omega)]

theorem refsum_any (a : Option Addr) (n cap : Nat) (l : List Int) (w : World) (hn : n ≤ 9223372036854775807) (hrow : Row w a n l) :
    Calls Try.prog 12 #[.slice a n cap] w fun e w' => e = .returned (.int .u32 (Crc.U (Crc.more 0#32 l))) ∧ w = w' := by
  have HRow := Lib.hid hrow
  clear hrow
  go_enter Try.func12, Try.ntmps12
  go_wp2_with fail
  refine (remainder_any _ _ _ _ l _ (by omega) (by omega) hn HRow.out).mono ?_
  rintro e w1 ⟨rfl, rfl⟩
  have u0 := Crc.U_lo (Crc.rem (Crc.V 4294967295) l)
  have u1 := Crc.U_hi (Crc.rem (Crc.V 4294967295) l)
  go_wp2_with fail
  go_ret
  refine ⟨ret_int ?_, rfl⟩
  rw [Crc.not_sub]; rfl

theorem refmore_any (s : Int) (a : Option Addr) (n cap : Nat) (l : List Int) (w : World) (s0 : 0 ≤ s) (s1 : s < 4294967296) (hn : n ≤ 9223372036854775807) (hrow : Row w a n l) :
    Calls Try.prog 13 #[.int .u32 s, .slice a n cap] w fun e w' => e = .returned (.int .u32 (Crc.U (Crc.more (Crc.V s) l))) ∧ w = w' := by
  have HRow := Lib.hid hrow
  clear hrow
  go_enter Try.func13, Try.ntmps13
  go_wp2_with fail
  refine (remainder_any _ _ _ _ l _ (by omega) (by omega) hn HRow.out).mono ?_
  rintro e w1 ⟨rfl, rfl⟩
  have u0 := Crc.U_lo (Crc.rem (Crc.V (4294967295 - s)) l)
  have u1 := Crc.U_hi (Crc.rem (Crc.V (4294967295 - s)) l)
  go_wp2_with fail
  go_ret
  refine ⟨ret_int ?_, rfl⟩
  have e : Crc.V (4294967295 - s) = ~~~ Crc.V s := by
    rw [← Crc.U_V s s0 s1, Crc.not_sub, Crc.V_U, Crc.V_U]
  rw [e, Crc.not_sub]; rfl
end Go.Proofs.Ytfjjfddlnbaloaa
