/- A block's numbers: what the call answers, and that nothing that was there has turned. -/
import Derived.Test.YtodbfkifendniaaDoorShaMem
import Derived.Deep.RegionHeld3
import Derived.IntWalk
import Derived.Outline
namespace Go.Proofs.YtodbfkifendniaaDoor
open Go.ChangeShapes Go.WideShapes Go.ChangeAt Go.RowKit
namespace Sha
theorem begin_any (w : World) : Calls Tryd.prog 17 #[] w fun e w' => e = .returned (.agg (ints .u32 (H0.all.map U))) ∧ Below w.heap.size w w' := by
  go_enter Tryd.func17, Tryd.ntmps17
  go_wp2
  exact bodyPost_ret (v := .agg (ints .u32 (H0.all.map U))) (by simp [results, Tryd.results17, go_sem]; rfl) rfl ⟨rfl, (Below.refl _ _).alloc (Nat.le_refl _) _⟩

theorem part_code (b : List Int) (t j : Nat) (v z : Int) (hv : v = U (part b t j)) (hz : z = b.getD (4 * t + j) 0) : bits .or .u32 (v * 256 % 4294967296) z = U (part b t (j + 1)) := by
  subst hv; subst hz
  rw [or_U, V_mod, show (256 : Int) = ((2 ^ 8 : Nat) : Int) from rfl, V_pow, V_U]; rfl
theorem set_set_part (b : List Int) (t : Nat) (x y : Int) : ((tab b t).set t x).set t y = (tab b t).set t y := by simp
theorem next_low (b : List Int) (k : Nat) (h : k < 16) : part b k 4 = next b (sched b k) k := by
  rw [part_four]; simp [next, h]
theorem next_high (b : List Int) (k : Nat) (h : ¬ k < 16) (p q r s : Int) (hp : p = (tab b k).getD (k - 2) 0) (hq : q = (tab b k).getD (k - 7) 0) (hr : r = (tab b k).getD (k - 15) 0) (hs : s = (tab b k).getD (k - 16) 0) :
    ((((U (s1 (V p)) + q) % 4294967296) + U (s0 (V r))) % 4294967296 + s) % 4294967296 = U (next b (sched b k) k) := by
  rw [tab_at b k _ (by omega)] at hp hq hr hs
  subst hp; subst hq; subst hr; subst hs
  rw [add_U, V_mod, V_add, V_mod, V_add]
  simp only [V_U, next, h, if_false]

def Nums (b : List Int) (w : World) (k : Nat) (wr : World) : Prop :=
  wr.heap.size = w.heap.size + 3 ∧ IntRow wr w.heap.size .u8 b 41 ∧ IntRow wr (w.heap.size + 1) .u32 (tab b 0) 55 ∧ IntRow wr (w.heap.size + 2) .u32 (tab b k) 55 ∧ Below w.heap.size w wr

theorem tab_zero (b : List Int) : ints .u32 (tab b 0) = #[Value.int IntKind.u32 0, Value.int IntKind.u32 0, Value.int IntKind.u32 0, Value.int IntKind.u32 0, Value.int IntKind.u32 0, Value.int IntKind.u32 0, Value.int IntKind.u32 0, Value.int IntKind.u32 0, Value.int IntKind.u32 0, Value.int IntKind.u32 0, Value.int IntKind.u32 0, Value.int IntKind.u32 0, Value.int IntKind.u32 0, Value.int IntKind.u32 0, Value.int IntKind.u32 0, Value.int IntKind.u32 0, Value.int IntKind.u32 0, Value.int IntKind.u32 0, Value.int IntKind.u32 0, Value.int IntKind.u32 0, Value.int IntKind.u32 0, Value.int IntKind.u32 0, Value.int IntKind.u32 0, Value.int IntKind.u32 0, Value.int IntKind.u32 0, Value.int IntKind.u32 0, Value.int IntKind.u32 0, Value.int IntKind.u32 0, Value.int IntKind.u32 0, Value.int IntKind.u32 0, Value.int IntKind.u32 0, Value.int IntKind.u32 0, Value.int IntKind.u32 0, Value.int IntKind.u32 0, Value.int IntKind.u32 0, Value.int IntKind.u32 0, Value.int IntKind.u32 0, Value.int IntKind.u32 0, Value.int IntKind.u32 0, Value.int IntKind.u32 0, Value.int IntKind.u32 0, Value.int IntKind.u32 0, Value.int IntKind.u32 0, Value.int IntKind.u32 0, Value.int IntKind.u32 0, Value.int IntKind.u32 0, Value.int IntKind.u32 0, Value.int IntKind.u32 0, Value.int IntKind.u32 0, Value.int IntKind.u32 0, Value.int IntKind.u32 0, Value.int IntKind.u32 0, Value.int IntKind.u32 0, Value.int IntKind.u32 0, Value.int IntKind.u32 0, Value.int IntKind.u32 0, Value.int IntKind.u32 0, Value.int IntKind.u32 0, Value.int IntKind.u32 0, Value.int IntKind.u32 0, Value.int IntKind.u32 0, Value.int IntKind.u32 0, Value.int IntKind.u32 0, Value.int IntKind.u32 0] := rfl
theorem cell_set_drew (w : World) (B i j : Nat) (u v : Value) (h : w.cell? ⟨B, i, none⟩ = some v) (hne : i ≠ j) : (w.setCell ⟨B, j, none⟩ u).drew.cell? ⟨B, i, none⟩ = some v := by
  show (w.setCell ⟨B, j, none⟩ u).cell? ⟨B, i, none⟩ = some v
  rw [← h]
  exact World.cell?_setCell_other _ _ _ _ (by intro e; exact hne (by injection e with _ h2; exact h2.symm))
set_option maxRecDepth 100000 in
set_option maxHeartbeats 2000000 in
theorem bn (b : List Int) (w : World) (hb : b.length = 64) (hby : ∀ z ∈ b, 0 ≤ z ∧ z ≤ 255) :
    Calls Tryd.prog 28 #[.agg (ints .u8 b)] w fun e w' => e = .returned (.agg (ints .u32 (tab b 64))) ∧ Below w.heap.size w w' := by
  have HB := Lib.hid hb
  have HBy := Lib.hid hby
  clear hb hby
  go_enter Tryd.func28, Tryd.ntmps28
  go_wp2
  go_loopw [8] (fun i wr => ∃ k : Nat, k ≤ 16 ∧ i = .int .i64 k ∧ Nums b w k wr) (fun i _ => 16 - (intOf i).toNat)
  case atStart =>
    refine ⟨0, by omega, rfl, by simp, ?_, ?_, ?_, (((Below.refl _ _).alloc (Nat.le_refl _) _).alloc (by simp) _).alloc (by simp; omega) _⟩
    · refine IntRow.alloc (IntRow.alloc ?_ _) _
      exact heap_alloc_new _ _
    · refine IntRow.alloc ?_ _
      unfold IntRow; rw [tab_zero]
      exact heap_alloc2_new _ _ _
    · unfold IntRow; rw [tab_zero]
      have h := heap_alloc_new ((w.alloc (Obj.cells (ints IntKind.u8 b) 41)).alloc (Obj.cells #[Value.int IntKind.u32 0, Value.int IntKind.u32 0, Value.int IntKind.u32 0, Value.int IntKind.u32 0, Value.int IntKind.u32 0, Value.int IntKind.u32 0, Value.int IntKind.u32 0, Value.int IntKind.u32 0, Value.int IntKind.u32 0, Value.int IntKind.u32 0, Value.int IntKind.u32 0, Value.int IntKind.u32 0, Value.int IntKind.u32 0, Value.int IntKind.u32 0, Value.int IntKind.u32 0, Value.int IntKind.u32 0, Value.int IntKind.u32 0, Value.int IntKind.u32 0, Value.int IntKind.u32 0, Value.int IntKind.u32 0, Value.int IntKind.u32 0, Value.int IntKind.u32 0, Value.int IntKind.u32 0, Value.int IntKind.u32 0, Value.int IntKind.u32 0, Value.int IntKind.u32 0, Value.int IntKind.u32 0, Value.int IntKind.u32 0, Value.int IntKind.u32 0, Value.int IntKind.u32 0, Value.int IntKind.u32 0, Value.int IntKind.u32 0, Value.int IntKind.u32 0, Value.int IntKind.u32 0, Value.int IntKind.u32 0, Value.int IntKind.u32 0, Value.int IntKind.u32 0, Value.int IntKind.u32 0, Value.int IntKind.u32 0, Value.int IntKind.u32 0, Value.int IntKind.u32 0, Value.int IntKind.u32 0, Value.int IntKind.u32 0, Value.int IntKind.u32 0, Value.int IntKind.u32 0, Value.int IntKind.u32 0, Value.int IntKind.u32 0, Value.int IntKind.u32 0, Value.int IntKind.u32 0, Value.int IntKind.u32 0, Value.int IntKind.u32 0, Value.int IntKind.u32 0, Value.int IntKind.u32 0, Value.int IntKind.u32 0, Value.int IntKind.u32 0, Value.int IntKind.u32 0, Value.int IntKind.u32 0, Value.int IntKind.u32 0, Value.int IntKind.u32 0, Value.int IntKind.u32 0, Value.int IntKind.u32 0, Value.int IntKind.u32 0, Value.int IntKind.u32 0, Value.int IntKind.u32 0] 55)) (Obj.cells #[Value.int IntKind.u32 0, Value.int IntKind.u32 0, Value.int IntKind.u32 0, Value.int IntKind.u32 0, Value.int IntKind.u32 0, Value.int IntKind.u32 0, Value.int IntKind.u32 0, Value.int IntKind.u32 0, Value.int IntKind.u32 0, Value.int IntKind.u32 0, Value.int IntKind.u32 0, Value.int IntKind.u32 0, Value.int IntKind.u32 0, Value.int IntKind.u32 0, Value.int IntKind.u32 0, Value.int IntKind.u32 0, Value.int IntKind.u32 0, Value.int IntKind.u32 0, Value.int IntKind.u32 0, Value.int IntKind.u32 0, Value.int IntKind.u32 0, Value.int IntKind.u32 0, Value.int IntKind.u32 0, Value.int IntKind.u32 0, Value.int IntKind.u32 0, Value.int IntKind.u32 0, Value.int IntKind.u32 0, Value.int IntKind.u32 0, Value.int IntKind.u32 0, Value.int IntKind.u32 0, Value.int IntKind.u32 0, Value.int IntKind.u32 0, Value.int IntKind.u32 0, Value.int IntKind.u32 0, Value.int IntKind.u32 0, Value.int IntKind.u32 0, Value.int IntKind.u32 0, Value.int IntKind.u32 0, Value.int IntKind.u32 0, Value.int IntKind.u32 0, Value.int IntKind.u32 0, Value.int IntKind.u32 0, Value.int IntKind.u32 0, Value.int IntKind.u32 0, Value.int IntKind.u32 0, Value.int IntKind.u32 0, Value.int IntKind.u32 0, Value.int IntKind.u32 0, Value.int IntKind.u32 0, Value.int IntKind.u32 0, Value.int IntKind.u32 0, Value.int IntKind.u32 0, Value.int IntKind.u32 0, Value.int IntKind.u32 0, Value.int IntKind.u32 0, Value.int IntKind.u32 0, Value.int IntKind.u32 0, Value.int IntKind.u32 0, Value.int IntKind.u32 0, Value.int IntKind.u32 0, Value.int IntKind.u32 0, Value.int IntKind.u32 0, Value.int IntKind.u32 0, Value.int IntKind.u32 0] 55)
      simpa using h
  case round =>
    obtain ⟨k, hk, rfl, hN⟩ := hrel
    have HN := Lib.hid hN
    clear hN
    by_cases hlt : k < 16
    · have k0 : (0 : Int) ≤ k := by omega
      have k1 : (k : Int) < 16 := by omega
      have hd : decide ((k : Int) < 16) = true := by simp; omega
      have hsl := slice_lh wr 41 64 (by kernel_rfl) (by kernel_rfl) (by kernel_rfl) w.heap.size 0 (4 * k) (4 * k + 4) (4 * (k : Int)) (4 * (k : Int) + 4) (by omega) (by omega) (by omega) (by omega) (by omega)
      rw [show 4 * k + 4 - 4 * k = 4 from by omega, Nat.zero_add] at hsl
      go_wp2
      clear hsl
      obtain ⟨wo, rfl⟩ : ∃ wo : World, wo = wr := ⟨_, rfl⟩
      go_loopw [18] (fun i wq => ∃ j : Nat, j ≤ 4 ∧ i = .int .i64 j ∧ wq.heap.size = w.heap.size + 3 ∧ IntRow wq w.heap.size .u8 b 41 ∧ IntRow wq (w.heap.size + 1) .u32 (tab b 0) 55 ∧ IntRow wq (w.heap.size + 2) .u32 ((tab b k).set k (U (part b k j))) 55 ∧ Below w.heap.size w wq) (fun i _ => 4 - (intOf i).toNat)
      case atStart =>
        obtain ⟨h1, h2, h3, h4, h5⟩ := HN.out
        exact ⟨0, by omega, rfl, h1, h2, h3, by rw [tab_set_zero b k (by omega)]; exact h4, h5⟩
      case round =>
        obtain ⟨j, hj, rfl, hM⟩ := hrel
        have HM := Lib.hid hM
        clear hM
        have j0 : (0 : Int) ≤ j := by omega
        by_cases hjt : j < 4
        · have j1 : (j : Int) < 4 := by omega
          have hdj : decide ((j : Int) < 4) = true := by simp; omega
          obtain ⟨m1, m2, m3, m4, m5⟩ := HM.out
          have hl := tab_length b k (by omega)
          have c1 := m2.cell (4 * k + j) (by rw [HB.out]; omega)
          have c2 := m4.cell k (by simp; omega)
          have e2 : ((tab b k).set k (U (part b k j))).getD k 0 = U (part b k j) := by simp [List.getD, hl, show k < 64 from by omega]
          rw [e2] at c2
          have f2 := m4.free k
          have hz : 0 ≤ b.getD (4 * k + j) 0 ∧ b.getD (4 * k + j) 0 ≤ 255 := HBy.out _ (by have := HB.out; simp [List.getD, show 4 * k + j < b.length from by omega])
          have HP := Lib.hid (part_code b k j _ _ rfl rfl)
          have M1 := Lib.hid m1
          have M2 := Lib.hid m2
          have M3 := Lib.hid m3
          have M4 := Lib.hid m4
          have M5 := Lib.hid m5
          clear m1 m2 m3 m4 m5 hl e2
          have u0 := U_lo (part b k j)
          have u1 := U_hi (part b k j)
          generalize b.getD (4 * k + j) 0 = z at *
          obtain ⟨z0, z1⟩ := hz
          go_wp2
          go_roundw
          case rel =>
            refine ⟨j + 1, by omega, by go_num, by simp [M1.out], M2.out.other _ _ (by show (_ : Nat) ≠ w.heap.size + 1 + 1; omega), M3.out.other _ _ (by show (_ : Nat) ≠ w.heap.size + 1 + 1; omega), ?_, M5.out.setCell (by simp; omega) _⟩
            have h := M4.out.set k (bits .or .u32 (U (part b k j) * 256 % 4294967296) z)
            rw [set_set_part, HP.out] at h
            rw [HP.out]
            exact h
          case measure => simp [intOf]; omega
        · obtain rfl : j = 4 := by omega
          go_wp2
          go_roundw
          case rel =>
            obtain ⟨m1, m2, m3, m4, m5⟩ := HM.out
            refine ⟨k + 1, by omega, by go_num, m1, m2, m3, ?_, m5⟩
            rw [← tab_set b k (by omega), ← next_low b k hlt]
            exact m4
          case measure => simp [intOf]; omega
    · have HK16 : Hid (k = 16) := (by omega : k = 16)
      have hd16 : decide ((k : Int) < 16) = false := by simp; omega
      go_wp2
      obtain ⟨wo, rfl⟩ : ∃ wo : World, wo = wr := ⟨_, rfl⟩
      go_loopw [7] (fun i wq => ∃ j : Nat, 16 ≤ j ∧ j ≤ 64 ∧ i = .int .i64 j ∧ Nums b w j wq) (fun i _ => 64 - (intOf i).toNat)
      case atStart => exact ⟨16, by omega, by omega, rfl, by rw [← HK16.out]; exact HN.out⟩
      case round =>
        obtain ⟨j, hj16, hj, rfl, hM⟩ := hrel
        have HM := Lib.hid hM
        clear hM HN
        by_cases hjt : j < 64
        · have j0 : (16 : Int) ≤ j := by omega
          have j1 : (j : Int) < 64 := by omega
          have hdj : decide ((j : Int) < 64) = true := by simp; omega
          have hl := tab_length b j hj
          obtain ⟨m1, m2, m3, m4, m5⟩ := HM.out
          have HC := Lib.hid (next_high b j (by omega) _ _ _ _ rfl rfl rfl rfl)
          have c1 := m4.cell (j - 2) (by omega)
          have c2 := m4.cell (j - 7) (by omega)
          have c3 := m4.cell (j - 15) (by omega)
          have c4 := m4.cell (j - 16) (by omega)
          have r1 : 0 ≤ (tab b j).getD (j - 2) 0 ∧ (tab b j).getD (j - 2) 0 < 4294967296 := by rw [tab_at b j _ (by omega)]; exact ⟨U_lo _, U_hi _⟩
          have r3 : 0 ≤ (tab b j).getD (j - 15) 0 ∧ (tab b j).getD (j - 15) 0 < 4294967296 := by rw [tab_at b j _ (by omega)]; exact ⟨U_lo _, U_hi _⟩
          have f5 := m4.free j
          have h5 : ∃ v, wr.cell? ⟨w.heap.size + 2, j, none⟩ = some v := ⟨_, m4.cell j (by omega)⟩
          have M1 := Lib.hid m1
          have M2 := Lib.hid m2
          have M3 := Lib.hid m3
          have M4 := Lib.hid m4
          have M5 := Lib.hid m5
          have HR := Lib.hid (m4.set j (U (next b (sched b j) j)))
          clear m1 m2 m3 m4 m5 hl HM
          generalize (tab b j).getD (j - 2) 0 = p at *
          generalize (tab b j).getD (j - 7) 0 = q at *
          generalize (tab b j).getD (j - 15) 0 = r at *
          generalize (tab b j).getD (j - 16) 0 = t at *
          obtain ⟨p0, p1⟩ := r1
          obtain ⟨r0, r1⟩ := r3
          obtain ⟨v5, c5⟩ := h5
          have g1 : ((j : Int) - 2).toNat = j - 2 := by omega
          have g2 : ((j : Int) - 7).toNat = j - 7 := by omega
          have g3 : ((j : Int) - 15).toNat = j - 15 := by omega
          have g4 : ((j : Int) - 16).toNat = j - 16 := by omega
          have n1 : j - 2 ≠ j := by omega
          have n2 : j - 7 ≠ j := by omega
          have n3 : j - 15 ≠ j := by omega
          have n4 : j - 16 ≠ j := by omega
          have HS : Hid (∀ u : Value, (wr.setCell ⟨w.heap.size + 1 + 1, j, none⟩ u).drew.cell? ⟨w.heap.size + 2, j - 2, none⟩ = some (.int .u32 p) ∧ (wr.setCell ⟨w.heap.size + 1 + 1, j, none⟩ u).drew.cell? ⟨w.heap.size + 2, j - 7, none⟩ = some (.int .u32 q) ∧ (wr.setCell ⟨w.heap.size + 1 + 1, j, none⟩ u).drew.cell? ⟨w.heap.size + 2, j - 15, none⟩ = some (.int .u32 r) ∧ (wr.setCell ⟨w.heap.size + 1 + 1, j, none⟩ u).drew.cell? ⟨w.heap.size + 2, j - 16, none⟩ = some (.int .u32 t)) :=
            fun u => ⟨cell_set_drew _ _ _ _ _ _ c1 n1, cell_set_drew _ _ _ _ _ _ c2 n2, cell_set_drew _ _ _ _ _ _ c3 n3, cell_set_drew _ _ _ _ _ _ c4 n4⟩
          have q1 : IntKind.i64.wrap ((j : Int) - 2) = (j : Int) - 2 := IntWalk.i64_in _ (by omega)
          have q2 : IntKind.i64.wrap ((j : Int) - 7) = (j : Int) - 7 := IntWalk.i64_in _ (by omega)
          have q3 : IntKind.i64.wrap ((j : Int) - 15) = (j : Int) - 15 := IntWalk.i64_in _ (by omega)
          have q4 : IntKind.i64.wrap ((j : Int) - 16) = (j : Int) - 16 := IntWalk.i64_in _ (by omega)
          have a1 : (0 : Int) ≤ (j : Int) - 2 := by omega
          have a2 : (0 : Int) ≤ (j : Int) - 7 := by omega
          have a3 : (0 : Int) ≤ (j : Int) - 15 := by omega
          have a4 : (0 : Int) ≤ (j : Int) - 16 := by omega
          have b1 : (2 : Int) ≤ (j : Int) := by omega
          have b2 : (7 : Int) ≤ (j : Int) := by omega
          have b3 : (15 : Int) ≤ (j : Int) := by omega
          have d1 : (j : Int) - 2 < 64 := by omega
          have d2 : (j : Int) - 7 < 64 := by omega
          have d3 : (j : Int) - 15 < 64 := by omega
          have d4 : (j : Int) - 16 < 64 := by omega
          have d5 : (0 : Int) ≤ (j : Int) := by omega
          go_wp2
          go_region_held3 (fun w' => w'.cell? ⟨w.heap.size + 2, j - 2, none⟩ = some (.int .u32 p) ∧ w'.cell? ⟨w.heap.size + 2, j - 7, none⟩ = some (.int .u32 q) ∧ w'.cell? ⟨w.heap.size + 2, j - 15, none⟩ = some (.int .u32 r) ∧ w'.cell? ⟨w.heap.size + 2, j - 16, none⟩ = some (.int .u32 t)) (first | exact HS.out _ | go_keep) (first | (go_at_call 35; ((with_reducible refine (mixNear_any _ _ ?_ ?_).mono ?_); (first | assumption | skip); (first | assumption | skip); rintro e w' ⟨rfl, rfl⟩)) | (go_at_call 36; ((with_reducible refine (mixFar_any _ _ ?_ ?_).mono ?_); (first | assumption | skip); (first | assumption | skip); rintro e w' ⟨rfl, rfl⟩)))
          clear q1 q2 q3 q4 g1 g2 g3 g4 HS
          have e5 : IntKind.u32.wrap (IntKind.u32.wrap (IntKind.u32.wrap (U (s1 (V p)) + q) + U (s0 (V r))) + t) = U (next b (sched b j) j) := by
            rw [IntKind.wrap_u32', IntKind.wrap_u32', IntKind.wrap_u32']; exact HC.out
          go_wp2
          go_roundw
          case rel =>
            refine ⟨j + 1, by omega, by omega, by go_num, by simp [M1.out], M2.out.other _ _ (by show (_ : Nat) ≠ w.heap.size + 1 + 1; omega), M3.out.other _ _ (by show (_ : Nat) ≠ w.heap.size + 1 + 1; omega), ?_, (M5.out.setCell (by simp; omega) _).drew⟩
            have h := HR.out
            rw [tab_set b j hjt] at h
            exact h
          case measure => simp [intOf]; omega
        · have HK : Hid (j = 64) := (by omega : j = 64)
          have hdj : decide ((j : Int) < 64) = false := by simp; omega
          have HT : Hid ((Tryd.prog.info? 55).map (·.size) = some (ints .u32 (tab b j)).size) := by
            show _ = _
            rw [ints_size, tab_length b j hj]; kernel_rfl
          obtain ⟨m1, m2, m3, m4, m5⟩ := HM.out
          have M3 := Lib.hid m3
          have M4 := Lib.hid m4
          have M5 := Lib.hid m5
          have hst : Sem.run Tryd.prog (storeCells ⟨w.heap.size + 1, 0, none⟩ (ints .u32 (tab b j)).toList) wr = .ok () (wr.setRow (w.heap.size + 1) (ints .u32 (tab b j))) := by
            have := run_storeCells_from (P := Tryd.prog) (w.heap.size + 1) 55 (ints .u32 (tab b j)).toList 0 (ints .u32 (tab b 0)) wr m3 (by simp [ints_size, tab_length b j hj, tab_length b 0 (by omega)]) (ints_one _ _)
            simpa using this
          have M4' : Hid (wr.heap[w.heap.size + 1 + 1]? = some (.cells (ints .u32 (tab b j)) 55 (0, 0))) := m4
          clear m1 m2 m3 m4 m5
          have hz : (ints .u32 (tab b j)).size = 64 := by rw [ints_size, tab_length b j hj]
          go_wp2_with (with_reducible refine wpList_load_row rfl 55 (.tmp 3) rfl (w.heap.size + 1 + 1) rfl 55 (ints .u32 (tab b j)) (0, 0) _ M4'.out Tryd.underlying55 rfl HT.out ?_)
          clear hst
          have hrow := setRow_heap wr (w.heap.size + 1) (ints .u32 (tab b 0)) (ints .u32 (tab b j)) 55 (0, 0) M3.out
          refine bodyPost_ret (v := .agg (ints .u32 (tab b j))) (results_cell_row (p := 2) (ty := 55) rfl _ _ (w.heap.size + 1) 55 (ints .u32 (tab b j)) (0, 0) _ rfl hrow Tryd.underlying55 rfl HT.out) rfl ⟨by rw [HK.out], M5.out.trans ((below_setRow _ _ _).mono (by omega))⟩
end Sha
end Go.Proofs.YtodbfkifendniaaDoor
