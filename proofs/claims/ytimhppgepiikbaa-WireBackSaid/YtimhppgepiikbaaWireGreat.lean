/- Great: whether values are more than are gone through. -/
import Derived.Test.YtimhppgepiikbaaWireMem
namespace Go.Proofs.Ytimhppgepiikbaa
open Go.ChangeShapes Go.WideShapes Go.ChangeAt Go.RowKit
namespace Wire
theorem great_any (p : Nat → Prop) : ∀ (m : Nat) (f : F), f.size < m → ∀ (w : World) (a : Option Addr) (n c : Nat) (d : Int), FRow p w a n f → n ≤ c → c ≤ 9223372036854775807 → 0 ≤ d → d ≤ 100 →
    Calls Try.prog 6 #[.slice a n c, .int .i64 d] w fun e w' => e = .returned (.bool (great f 0 d)) ∧ w = w' := by
  intro m
  induction m with
  | zero => intro f hf; omega
  | succ m ih =>
    intro f hf w a n c d hr hc hcm h0 h1
    have HR := Lib.hid hr
    have HI := Lib.hid ih
    have HF := Lib.hid hf
    clear hr ih hf
    go_enter Try.func6, Try.ntmps6
    go_wp2_with fail
    go_loop [5, 6] (fun s i => ∃ (k : Nat) (t : Int), k ≤ n ∧ i = .int .i64 k ∧ s = .int .i64 t ∧ 0 ≤ t ∧ t ≤ 100000 ∧ great f 0 d = great (f.drop k) t d) (fun _ i => n - (intOf i).toNat)
    case atStart => exact ⟨0, 0, by omega, rfl, rfl, by omega, by omega, by rw [F.drop_zero]⟩
    case round =>
      obtain ⟨k, t, hk, rfl, rfl, ht0, ht1, hg⟩ := hrel
      by_cases hlt : k < n
      · have k0 : (0 : Int) ≤ k := by omega
        have k1 : (k : Int) < n := by omega
        have hd : decide (k < n) = true := by simp; omega
        obtain ⟨hlen, hrow⟩ := HR.out
        rcases hrow with hrow | ⟨b, o, rfl, hin⟩
        · omega
        obtain ⟨x, nn, ii, bs, sub, hdr⟩ := f.drop_cons k (by omega)
        have hin' := FIn.drop f k hin
        rw [hdr] at hin' hg
        have hsz := f.drop_size k
        rw [hdr] at hsz
        simp only [F.size] at hsz
        obtain ⟨_, g0, g1, g2, ⟨ba, bn, bc, g3, b1, b2, b3⟩, ⟨la, ln, lc, g4, l1, l2, l3, l4⟩, hbd, _⟩ := hin'
        have hbl := b3.1
        simp only [great] at hg
        rw [hbl] at hg
        have HG := Lib.hid hg
        have HSub := HI.out sub (by have := HF.out; omega) w la ln lc (d + 1) ⟨l3, l4⟩ l1 l2 (by omega)
        have HL3 := Lib.hid l3
        have HHS := Lib.hid HSub
        clear hg hlen hin hdr hsz b3 l3 l4 hbl hbd HSub g0 g1 g2
        by_cases c1 : 2000 < t + 1 + (bn : Int) / 64
        · have hc1 : decide (2000 < t + 1 + (bn : Int) / 64) = true := by simp; omega
          go_wp2_with fail
          go_ret
          exact ⟨ret_bool (by rw [HG.out, if_pos c1]), rfl⟩
        · have hc1 : decide (2000 < t + 1 + (bn : Int) / 64) = false := by simp; omega
          by_cases c2 : 20 < d
          · have hc2 : decide (20 < d) = true := by simp; omega
            go_wp2_with fail
            go_ret
            exact ⟨ret_bool (by rw [HG.out, if_neg (by omega), if_pos c2]), rfl⟩
          · have hc2 : decide (20 < d) = false := by simp; omega
            have HC1 := Lib.hid c1
            have HC2 := Lib.hid c2
            clear c1 c2
            cases hgs : great sub 0 (d + 1) with
            | true =>
              have HGs := Lib.hid hgs
              rw [hgs] at HHS
              clear hgs
              go_wp2_with fail
              refine (HHS.out (by have := HC2.out; omega)).mono ?_
              rintro e w1 ⟨rfl, rfl⟩
              go_wp2_with fail
              go_ret
              exact ⟨ret_bool (by rw [HG.out, if_neg (by have := HC1.out; omega), if_neg (by have := HC2.out; omega), if_pos HGs.out]), rfl⟩
            | false =>
              have HGs := Lib.hid hgs
              rw [hgs] at HHS
              have hsmall := great_len sub (d + 1) hgs
              have hs2 : (ln : Int) ≤ 2000 := by have := HL3.out; omega
              clear hgs hsmall
              go_wp2_with fail
              refine (HHS.out (by have := HC2.out; omega)).mono ?_
              rintro e w1 ⟨rfl, rfl⟩
              go_wp2_with fail
              go_round
              case rel => exact ⟨k + 1, t + 1 + (bn : Int) / 64 + ln, by omega, by go_num, rfl, by omega, by have := HC1.out; omega, by rw [HG.out, if_neg (by have := HC1.out; omega), if_neg (by have := HC2.out; omega), if_neg (by rw [HGs.out]; decide), HL3.out]⟩
              case measure => simp [intOf]; omega
      · have hd : decide (k < n) = false := by simp; omega
        have hall : f.drop k = .nil := F.drop_all f k (by have := HR.out.1; omega)
        rw [hall] at hg
        simp only [great] at hg
        have HG := Lib.hid hg
        clear hg hall
        go_wp2_with fail
        go_ret
        exact ⟨ret_bool (by rw [HG.out]), rfl⟩
end Wire
end Go.Proofs.Ytimhppgepiikbaa
