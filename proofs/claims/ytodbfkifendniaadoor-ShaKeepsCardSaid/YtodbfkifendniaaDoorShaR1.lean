/- The document's own answer: the eight numbers behind a block. -/
import Derived.Test.YtodbfkifendniaaDoorShaR0
namespace Go.Proofs.YtodbfkifendniaaDoor
open Go.ChangeShapes Go.WideShapes Go.ChangeAt Go.RowKit
namespace Sha
theorem word_code (b : List Int) (t : Nat) : bits .or .u32 (bits .or .u32 (bits .or .u32 (b.getD (4 * t) 0 * 16777216) (b.getD (4 * t + 1) 0 * 65536)) (b.getD (4 * t + 2) 0 * 256)) (b.getD (4 * t + 3) 0) = U (word b t) := by
  rw [or_U, or_U, or_U, V_U, V_U, show (16777216 : Int) = ((2 ^ 24 : Nat) : Int) from rfl, show (65536 : Int) = ((2 ^ 16 : Nat) : Int) from rfl, show (256 : Int) = ((2 ^ 8 : Nat) : Int) from rfl, V_pow, V_pow, V_pow]
  rfl

theorem s0_code (x : Int) (h0 : 0 ≤ x) (h1 : x < 4294967296) : bits .xor .u32 (bits .xor .u32 (U (rot 7 (V x))) (U (rot 18 (V x)))) (x / 8) = U (s0 (V x)) := by
  rw [xor_U, xor_U, V_U, V_U, V_U, show (8 : Int) = ((2 ^ 3 : Nat) : Int) from rfl, V_div x 3 h0 h1]; rfl
theorem s1_code (x : Int) (h0 : 0 ≤ x) (h1 : x < 4294967296) : bits .xor .u32 (bits .xor .u32 (U (rot 17 (V x))) (U (rot 19 (V x)))) (x / 1024) = U (s1 (V x)) := by
  rw [xor_U, xor_U, V_U, V_U, V_U, show (1024 : Int) = ((2 ^ 10 : Nat) : Int) from rfl, V_div x 10 h0 h1]; rfl
theorem next_ref (b : List Int) (k : Nat) (h : ¬ k < 16) (p q r s : Int) (hp : p = (tab b k).getD (k - 2) 0) (hq : q = (tab b k).getD (k - 7) 0) (hr : r = (tab b k).getD (k - 15) 0) (hs : s = (tab b k).getD (k - 16) 0) :
    U (s1 (V p)) + q + U (s0 (V r)) + s = U (s1 (V p)) + q + U (s0 (V r)) + s ∧ IntKind.u32.wrap (IntKind.u32.wrap (IntKind.u32.wrap (U (s1 (V p)) + q) + U (s0 (V r))) + s) = U (next b (sched b k) k) :=
  ⟨rfl, by rw [IntKind.wrap_u32', IntKind.wrap_u32', IntKind.wrap_u32']; exact next_high b k h p q r s hp hq hr hs⟩

def RNums (s : S) (b : List Int) (w : World) (k : Nat) (wr : World) : Prop :=
  wr.heap.size = w.heap.size + 3 ∧ IntRow wr w.heap.size .u32 (s.all.map U) 37 ∧ IntRow wr (w.heap.size + 1) .u32 [0, 0, 0, 0, 0, 0, 0, 0] 37 ∧ IntRow wr (w.heap.size + 2) .u32 (tab b k) 55 ∧ Below w.heap.size w wr

theorem S1_code (e : W) : bits .xor .u32 (bits .xor .u32 (U (rot 6 (V (U e)))) (U (rot 11 (V (U e))))) (U (rot 25 (V (U e)))) = U (S1 (V (U e))) := by
  simp only [xor_U, V_U]; rfl
theorem S0_code (e : W) : bits .xor .u32 (bits .xor .u32 (U (rot 2 (V (U e)))) (U (rot 13 (V (U e))))) (U (rot 22 (V (U e)))) = U (S0 (V (U e))) := by
  simp only [xor_U, V_U]; rfl
def RMid (s : S) (b : List Int) (w : World) (bk : Nat) (wr : World) : Prop :=
  IntRow wr w.heap.size .u32 (s.all.map U) 37 ∧ IntRow wr (w.heap.size + 1) .u32 [0, 0, 0, 0, 0, 0, 0, 0] 37 ∧ IntRow wr (w.heap.size + 2) .u32 (tab b 64) 55 ∧ IntRow wr bk .u32 Ks 55 ∧ Below w.heap.size w wr
theorem RMid.drewN {s : S} {b : List Int} {w : World} {bk : Nat} {wr : World} (h : RMid s b w bk wr) (n : Nat) : RMid s b w bk (wr.drewN n) :=
  ⟨h.1, h.2.1, h.2.2.1, h.2.2.2.1, h.2.2.2.2.1, h.2.2.2.2.2, h.2.2.2.2.3, h.2.2.2.2.4, h.2.2.2.2.5⟩

set_option maxRecDepth 100000 in
set_option maxHeartbeats 2000000 in
theorem rblock_any (s : S) (b : List Int) (B o cap : Nat) (w : World) (hb : b.length = 64) (hby : ∀ z ∈ b, 0 ≤ z ∧ z ≤ 255) (hc : ∀ i, i < 64 → w.cell? ⟨B, o + i, none⟩ = some (.int .u8 (b.getD i 0))) :
    Calls Tryd.prog 34 #[.agg (ints .u32 (s.all.map U)), .slice (some ⟨B, o, none⟩) 64 cap] w fun e w' => e = .returned (.agg (ints .u32 ((block s b).all.map U))) ∧ Below w.heap.size w w' := by
  have HB := Lib.hid hb
  have HBy := Lib.hid hby
  have HC := Lib.hid hc
  clear hb hby hc
  go_enter Tryd.func34, Tryd.ntmps34
  go_wp2_with fail
  go_loopw [6] (fun i wr => ∃ k : Nat, k ≤ 64 ∧ i = .int .i64 k ∧ RNums s b w k wr) (fun i _ => 64 - (intOf i).toNat)
  case atStart =>
    refine ⟨0, by omega, rfl, by simp, ?_, ?_, ?_, (((Below.refl _ _).alloc (Nat.le_refl _) _).alloc (by simp) _).alloc (by simp; omega) _⟩
    · refine IntRow.alloc (IntRow.alloc ?_ _) _
      exact heap_alloc_new _ _
    · refine IntRow.alloc ?_ _
      exact heap_alloc2_new _ _ _
    · unfold IntRow; rw [tab_zero]
      have h := heap_alloc_new ((w.alloc (Obj.cells (ints .u32 (s.all.map U)) 37)).alloc (Obj.cells #[.int .u32 0, .int .u32 0, .int .u32 0, .int .u32 0, .int .u32 0, .int .u32 0, .int .u32 0, .int .u32 0] 37)) (Obj.cells #[Value.int IntKind.u32 0, Value.int IntKind.u32 0, Value.int IntKind.u32 0, Value.int IntKind.u32 0, Value.int IntKind.u32 0, Value.int IntKind.u32 0, Value.int IntKind.u32 0, Value.int IntKind.u32 0, Value.int IntKind.u32 0, Value.int IntKind.u32 0, Value.int IntKind.u32 0, Value.int IntKind.u32 0, Value.int IntKind.u32 0, Value.int IntKind.u32 0, Value.int IntKind.u32 0, Value.int IntKind.u32 0, Value.int IntKind.u32 0, Value.int IntKind.u32 0, Value.int IntKind.u32 0, Value.int IntKind.u32 0, Value.int IntKind.u32 0, Value.int IntKind.u32 0, Value.int IntKind.u32 0, Value.int IntKind.u32 0, Value.int IntKind.u32 0, Value.int IntKind.u32 0, Value.int IntKind.u32 0, Value.int IntKind.u32 0, Value.int IntKind.u32 0, Value.int IntKind.u32 0, Value.int IntKind.u32 0, Value.int IntKind.u32 0, Value.int IntKind.u32 0, Value.int IntKind.u32 0, Value.int IntKind.u32 0, Value.int IntKind.u32 0, Value.int IntKind.u32 0, Value.int IntKind.u32 0, Value.int IntKind.u32 0, Value.int IntKind.u32 0, Value.int IntKind.u32 0, Value.int IntKind.u32 0, Value.int IntKind.u32 0, Value.int IntKind.u32 0, Value.int IntKind.u32 0, Value.int IntKind.u32 0, Value.int IntKind.u32 0, Value.int IntKind.u32 0, Value.int IntKind.u32 0, Value.int IntKind.u32 0, Value.int IntKind.u32 0, Value.int IntKind.u32 0, Value.int IntKind.u32 0, Value.int IntKind.u32 0, Value.int IntKind.u32 0, Value.int IntKind.u32 0, Value.int IntKind.u32 0, Value.int IntKind.u32 0, Value.int IntKind.u32 0, Value.int IntKind.u32 0, Value.int IntKind.u32 0, Value.int IntKind.u32 0, Value.int IntKind.u32 0, Value.int IntKind.u32 0] 55)
      simpa using h
  case round =>
    obtain ⟨k, hk, rfl, hN⟩ := hrel
    have HN := Lib.hid hN
    clear hN
    by_cases hlt : k < 64
    · have k0 : (0 : Int) ≤ k := by omega
      have k1 : (k : Int) < 64 := by omega
      have hd : decide ((k : Int) < 64) = true := by simp; omega
      obtain ⟨m1, m2, m3, m4, m5⟩ := HN.out
      have M1 := Lib.hid m1
      have M2 := Lib.hid m2
      have M3 := Lib.hid m3
      have M4 := Lib.hid m4
      have M5 := Lib.hid m5
      clear m1 m2 m3 m4 m5 HN
      by_cases h16 : k < 16
      · have k16 : (k : Int) < 16 := by omega
        have hd16 : decide ((k : Int) < 16) = true := by simp; omega
        have hbc : ∀ i, i < 64 → wr.cell? ⟨B, o + i, none⟩ = some (.int .u8 (b.getD i 0)) := fun i hi => by
          rw [M5.out.cell (World.block_lt_of_cell? _ _ (HC.out i hi))]; exact HC.out i hi
        have c1 := hbc (4 * k) (by omega)
        have c2 := hbc (4 * k + 1) (by omega)
        have c3 := hbc (4 * k + 2) (by omega)
        have c4 := hbc (4 * k + 3) (by omega)
        have hBlt : B < w.heap.size := World.block_lt_of_cell? _ _ (HC.out 0 (by omega))
        have hbr : ∀ i, i < 64 → 0 ≤ b.getD i 0 ∧ b.getD i 0 ≤ 255 := fun i hi => HBy.out _ (by have := HB.out; simp [List.getD, show i < b.length from by omega])
        have r1 := hbr (4 * k) (by omega)
        have r2 := hbr (4 * k + 1) (by omega)
        have r3 := hbr (4 * k + 2) (by omega)
        have r4 := hbr (4 * k + 3) (by omega)
        have HW := Lib.hid (word_code b k)
        have hl := tab_length b k hk
        have c5 := M4.out.cell k (by omega)
        have f5 := M4.out.free k
        have HR := Lib.hid (M4.out.set k (U (next b (sched b k) k)))
        have HNx : Hid (next b (sched b k) k = word b k) := by show _ = _; simp [next, h16]
        clear hbc hbr hl
        generalize b.getD (4 * k) 0 = x1 at *
        generalize b.getD (4 * k + 1) 0 = x2 at *
        generalize b.getD (4 * k + 2) 0 = x3 at *
        generalize b.getD (4 * k + 3) 0 = x4 at *
        generalize (tab b k).getD k 0 = x5 at *
        obtain ⟨r10, r11⟩ := r1
        obtain ⟨r20, r21⟩ := r2
        obtain ⟨r30, r31⟩ := r3
        obtain ⟨r40, r41⟩ := r4
        have HS : Hid (∀ u : Value, (wr.setCell ⟨w.heap.size + 1 + 1, k, none⟩ u).drew.cell? ⟨B, o + 4 * k, none⟩ = some (.int .u8 x1) ∧ (wr.setCell ⟨w.heap.size + 1 + 1, k, none⟩ u).drew.cell? ⟨B, o + (4 * k + 1), none⟩ = some (.int .u8 x2) ∧ (wr.setCell ⟨w.heap.size + 1 + 1, k, none⟩ u).drew.cell? ⟨B, o + (4 * k + 2), none⟩ = some (.int .u8 x3) ∧ (wr.setCell ⟨w.heap.size + 1 + 1, k, none⟩ u).drew.cell? ⟨B, o + (4 * k + 3), none⟩ = some (.int .u8 x4)) := fun u => by
          refine ⟨(World.cell?_setCell_far wr _ _ u ?_).trans c1, (World.cell?_setCell_far wr _ _ u ?_).trans c2, (World.cell?_setCell_far wr _ _ u ?_).trans c3, (World.cell?_setCell_far wr _ _ u ?_).trans c4⟩
          all_goals show w.heap.size + 1 + 1 ≠ B; omega
        have g0 : (4 * (k : Int)).toNat = 4 * k := by omega
        have g1 : (4 * (k : Int) + 1).toNat = 4 * k + 1 := by omega
        have g2 : (4 * (k : Int) + 2).toNat = 4 * k + 2 := by omega
        have g3 : (4 * (k : Int) + 3).toNat = 4 * k + 3 := by omega
        have a0 : (0 : Int) ≤ 4 * (k : Int) := by omega
        have a1 : (0 : Int) ≤ 4 * (k : Int) + 1 := by omega
        have a2 : (0 : Int) ≤ 4 * (k : Int) + 2 := by omega
        have a3 : (0 : Int) ≤ 4 * (k : Int) + 3 := by omega
        have d0 : 4 * (k : Int) < 64 := by omega
        have d1 : 4 * (k : Int) + 1 < 64 := by omega
        have d2 : 4 * (k : Int) + 2 < 64 := by omega
        have d3 : 4 * (k : Int) + 3 < 64 := by omega
        have q0 : IntKind.i64.wrap (4 * (k : Int)) = 4 * (k : Int) := IntWalk.i64_in _ (by omega)
        have q1 : IntKind.i64.wrap (4 * (k : Int) + 1) = 4 * (k : Int) + 1 := IntWalk.i64_in _ (by omega)
        have q2 : IntKind.i64.wrap (4 * (k : Int) + 2) = 4 * (k : Int) + 2 := IntWalk.i64_in _ (by omega)
        have q3 : IntKind.i64.wrap (4 * (k : Int) + 3) = 4 * (k : Int) + 3 := IntWalk.i64_in _ (by omega)
        go_wp2_with fail
        go_region_held3 (fun w' => w'.cell? ⟨B, o + 4 * k, none⟩ = some (.int .u8 x1) ∧ w'.cell? ⟨B, o + (4 * k + 1), none⟩ = some (.int .u8 x2) ∧ w'.cell? ⟨B, o + (4 * k + 2), none⟩ = some (.int .u8 x3) ∧ w'.cell? ⟨B, o + (4 * k + 3), none⟩ = some (.int .u8 x4)) (first | exact HS.out _ | go_keep) (fail)
        clear q0 q1 q2 q3 g0 g1 g2 g3 HS c1 c2 c3 c4
        go_wp2_with fail
        go_roundw
        case rel =>
          rw [HW.out, ← HNx.out]
          refine ⟨k + 1, by omega, by go_num, by simp [M1.out], M2.out.other _ _ (by show (_ : Nat) ≠ w.heap.size + 1 + 1; omega), M3.out.other _ _ (by show (_ : Nat) ≠ w.heap.size + 1 + 1; omega), ?_, (M5.out.setCell (by simp; omega) _).drew⟩
          have h := HR.out
          rw [tab_set b k hlt] at h
          exact h
        case measure => simp [intOf]; omega
      · have k16 : (16 : Int) ≤ (k : Int) := by omega
        have hd16 : decide ((k : Int) < 16) = false := by simp; omega
        have hl := tab_length b k hk
        have HX := Lib.hid (next_ref b k h16 _ _ _ _ rfl rfl rfl rfl)
        have c15 := M4.out.cell (k - 15) (by omega)
        have c2 := M4.out.cell (k - 2) (by omega)
        have c7 := M4.out.cell (k - 7) (by omega)
        have c16 := M4.out.cell (k - 16) (by omega)
        have c5 := M4.out.cell k (by omega)
        have f5 := M4.out.free k
        have rr : ∀ i, i < k → 0 ≤ (tab b k).getD i 0 ∧ (tab b k).getD i 0 < 4294967296 := fun i hi => by rw [tab_at b k i hi]; exact ⟨U_lo _, U_hi _⟩
        have r15 := rr (k - 15) (by omega)
        have r2 := rr (k - 2) (by omega)
        have HR := Lib.hid (M4.out.set k (U (next b (sched b k) k)))
        clear rr hl
        generalize (tab b k).getD (k - 15) 0 = x15 at *
        generalize (tab b k).getD (k - 2) 0 = x2 at *
        generalize (tab b k).getD (k - 7) 0 = x7 at *
        generalize (tab b k).getD (k - 16) 0 = x16 at *
        generalize (tab b k).getD k 0 = x0 at *
        obtain ⟨p0, p1⟩ := r15
        obtain ⟨q0, q1⟩ := r2
        have hs0 := s0_code x15 p0 p1
        have hs1 := s1_code x2 q0 q1
        have g15 : ((k : Int) - 15).toNat = k - 15 := by omega
        have g2 : ((k : Int) - 2).toNat = k - 2 := by omega
        have g7 : ((k : Int) - 7).toNat = k - 7 := by omega
        have g16 : ((k : Int) - 16).toNat = k - 16 := by omega
        go_wp2_with fail
        refine (rturned7 x15 _ p0 p1).mono ?_
        rintro e w1 ⟨rfl, n1, rfl⟩
        go_wp2_with fail
        refine (rturned18 x15 _ p0 p1).mono ?_
        rintro e w1 ⟨rfl, n2, rfl⟩
        go_wp2_with fail
        refine (rturned17 x2 _ q0 q1).mono ?_
        rintro e w1 ⟨rfl, n3, rfl⟩
        go_wp2_with fail
        refine (rturned19 x2 _ q0 q1).mono ?_
        rintro e w1 ⟨rfl, n4, rfl⟩
        go_wp2_with fail
        clear hs0 hs1
        have hc2 : (wr.drewN (n1 + n2 + n3 + n4)).cell? ⟨w.heap.size + 2, k - 7, none⟩ = some (.int .u32 x7) := c7
        have hc3 : (wr.drewN (n1 + n2 + n3 + n4)).cell? ⟨w.heap.size + 2, k - 16, none⟩ = some (.int .u32 x16) := c16
        have hc4 : (wr.drewN (n1 + n2 + n3 + n4)).cell? ⟨w.heap.size + 2, k, none⟩ = some (.int .u32 x0) := c5
        have hf4 : (wr.drewN (n1 + n2 + n3 + n4)).frozen? ⟨w.heap.size + 2, k, none⟩ = false := f5
        have N1 : Hid ((wr.drewN (n1 + n2 + n3 + n4)).heap.size = w.heap.size + 3) := M1.out
        have N2 : Hid (IntRow (wr.drewN (n1 + n2 + n3 + n4)) w.heap.size .u32 (s.all.map U) 37) := M2.out
        have N3 : Hid (IntRow (wr.drewN (n1 + n2 + n3 + n4)) (w.heap.size + 1) .u32 [0, 0, 0, 0, 0, 0, 0, 0] 37) := M3.out
        have N4 : Hid (IntRow (wr.drewN (n1 + n2 + n3 + n4)) (w.heap.size + 2) .u32 (tab b k) 55) := M4.out
        have N5 : Hid (Below w.heap.size w (wr.drewN (n1 + n2 + n3 + n4))) := ⟨M5.out.1, M5.out.2, M5.out.3, M5.out.4, M5.out.5⟩
        clear c15 c2 c7 c16 c5 f5 M1 M2 M3 M4 M5 HR g15 g2
        generalize wr.drewN (n1 + n2 + n3 + n4) = W2 at *
        have HR := Lib.hid (N4.out.set k (U (next b (sched b k) k)))
        have n7 : k - 7 ≠ k := by omega
        have n16 : k - 16 ≠ k := by omega
        have HS : Hid (∀ u : Value, (W2.setCell ⟨w.heap.size + 1 + 1, k, none⟩ u).drew.cell? ⟨w.heap.size + 2, k - 7, none⟩ = some (.int .u32 x7) ∧ (W2.setCell ⟨w.heap.size + 1 + 1, k, none⟩ u).drew.cell? ⟨w.heap.size + 2, k - 16, none⟩ = some (.int .u32 x16)) :=
          fun u => ⟨cell_set_drew _ _ _ _ _ _ hc2 n7, cell_set_drew _ _ _ _ _ _ hc3 n16⟩
        have b7 : (7 : Int) ≤ (k : Int) := by omega
        have a7 : (0 : Int) ≤ (k : Int) - 7 := by omega
        have a16 : (0 : Int) ≤ (k : Int) - 16 := by omega
        have d7 : (k : Int) - 7 < 64 := by omega
        have d16 : (k : Int) - 16 < 64 := by omega
        have v7 : IntKind.i64.wrap ((k : Int) - 7) = (k : Int) - 7 := IntWalk.i64_in _ (by omega)
        have v16 : IntKind.i64.wrap ((k : Int) - 16) = (k : Int) - 16 := IntWalk.i64_in _ (by omega)
        go_region_held3 (fun w' => w'.cell? ⟨w.heap.size + 2, k - 7, none⟩ = some (.int .u32 x7) ∧ w'.cell? ⟨w.heap.size + 2, k - 16, none⟩ = some (.int .u32 x16)) (first | exact HS.out _ | go_keep) (fail)
        clear v7 v16 g7 g16 HS
        have e5 := HX.out.2
        go_wp2_with fail
        go_roundw
        case rel =>
          refine ⟨k + 1, by omega, by go_num, by simp [N1.out], N2.out.other _ _ (by show (_ : Nat) ≠ w.heap.size + 1 + 1; omega), N3.out.other _ _ (by show (_ : Nat) ≠ w.heap.size + 1 + 1; omega), ?_, (N5.out.setCell (by simp; omega) _).drew⟩
          have h := HR.out
          rw [tab_set b k hlt] at h
          exact h
        case measure => simp [intOf]; omega
    · have HK : Hid (k = 64) := (by omega : k = 64)
      have hd : decide ((k : Int) < 64) = false := by simp; omega
      obtain ⟨m1, m2, m3, m4, m5⟩ := HN.out
      have M1 := Lib.hid m1
      have M2 := Lib.hid m2
      have M3 := Lib.hid m3
      have M4 := Lib.hid m4
      have M5 := Lib.hid m5
      rw [HK.out] at m4
      have M4' := Lib.hid m4
      clear m1 m2 m3 m4 m5 HN M4
      go_wp2_with fail
      refine (primes_any _).mono ?_
      rintro e w1 ⟨rfl, hb1⟩
      have hz : (ints .u32 Ks).size = 64 := by rw [ints_size, Ks_length]
      have hst : Sem.run Tryd.prog (storeCells ⟨w1.heap.size, 0, none⟩ (ints .u32 Ks).toList) (w1.alloc (.cells #[Value.int IntKind.u32 0, Value.int IntKind.u32 0, Value.int IntKind.u32 0, Value.int IntKind.u32 0, Value.int IntKind.u32 0, Value.int IntKind.u32 0, Value.int IntKind.u32 0, Value.int IntKind.u32 0, Value.int IntKind.u32 0, Value.int IntKind.u32 0, Value.int IntKind.u32 0, Value.int IntKind.u32 0, Value.int IntKind.u32 0, Value.int IntKind.u32 0, Value.int IntKind.u32 0, Value.int IntKind.u32 0, Value.int IntKind.u32 0, Value.int IntKind.u32 0, Value.int IntKind.u32 0, Value.int IntKind.u32 0, Value.int IntKind.u32 0, Value.int IntKind.u32 0, Value.int IntKind.u32 0, Value.int IntKind.u32 0, Value.int IntKind.u32 0, Value.int IntKind.u32 0, Value.int IntKind.u32 0, Value.int IntKind.u32 0, Value.int IntKind.u32 0, Value.int IntKind.u32 0, Value.int IntKind.u32 0, Value.int IntKind.u32 0, Value.int IntKind.u32 0, Value.int IntKind.u32 0, Value.int IntKind.u32 0, Value.int IntKind.u32 0, Value.int IntKind.u32 0, Value.int IntKind.u32 0, Value.int IntKind.u32 0, Value.int IntKind.u32 0, Value.int IntKind.u32 0, Value.int IntKind.u32 0, Value.int IntKind.u32 0, Value.int IntKind.u32 0, Value.int IntKind.u32 0, Value.int IntKind.u32 0, Value.int IntKind.u32 0, Value.int IntKind.u32 0, Value.int IntKind.u32 0, Value.int IntKind.u32 0, Value.int IntKind.u32 0, Value.int IntKind.u32 0, Value.int IntKind.u32 0, Value.int IntKind.u32 0, Value.int IntKind.u32 0, Value.int IntKind.u32 0, Value.int IntKind.u32 0, Value.int IntKind.u32 0, Value.int IntKind.u32 0, Value.int IntKind.u32 0, Value.int IntKind.u32 0, Value.int IntKind.u32 0, Value.int IntKind.u32 0, Value.int IntKind.u32 0] 55)) = .ok () (w1.alloc (.cells (ints .u32 Ks) 55)) := by
        rw [← tab_zero']
        exact run_storeCells_new w1 55 _ _ (by rw [hz]; kernel_rfl) (by rw [hz, ints_size]; simp) (ints_all _ _)
      go_wp2_with fail
      clear hst hz
      have hs1 := hb1.size
      have hs2 := M1.out
      have hbW : Below wr.heap.size wr (w1.alloc (.cells (ints .u32 Ks) 55)) := hb1.alloc hb1.size _
      have hM : RMid s b w w1.heap.size (w1.alloc (.cells (ints .u32 Ks) 55)) := ⟨M2.out.below hbW (by omega), M3.out.below hbW (by omega), M4'.out.below hbW (by omega), heap_alloc_new _ _, M5.out.trans (hbW.mono (by omega))⟩
      have HM := Lib.hid hM
      clear hM hbW hb1 M1 M2 M3 M4' M5 hs1 hs2
      generalize w1.alloc (.cells (ints .u32 Ks) 55) = W at *
      generalize w1.heap.size = bk at *
      have c0 := HM.out.1.cell 0 (by simp [S.all])
      have c1 := HM.out.1.cell 1 (by simp [S.all])
      have c2 := HM.out.1.cell 2 (by simp [S.all])
      have c3 := HM.out.1.cell 3 (by simp [S.all])
      have c4 := HM.out.1.cell 4 (by simp [S.all])
      have c5 := HM.out.1.cell 5 (by simp [S.all])
      have c6 := HM.out.1.cell 6 (by simp [S.all])
      have c7 := HM.out.1.cell 7 (by simp [S.all])
      change W.cell? ⟨w.heap.size, 0, none⟩ = some (.int .u32 (U s.a)) at c0
      change W.cell? ⟨w.heap.size, 1, none⟩ = some (.int .u32 (U s.b)) at c1
      change W.cell? ⟨w.heap.size, 2, none⟩ = some (.int .u32 (U s.c)) at c2
      change W.cell? ⟨w.heap.size, 3, none⟩ = some (.int .u32 (U s.d)) at c3
      change W.cell? ⟨w.heap.size, 4, none⟩ = some (.int .u32 (U s.e)) at c4
      change W.cell? ⟨w.heap.size, 5, none⟩ = some (.int .u32 (U s.f)) at c5
      change W.cell? ⟨w.heap.size, 6, none⟩ = some (.int .u32 (U s.g)) at c6
      change W.cell? ⟨w.heap.size, 7, none⟩ = some (.int .u32 (U s.h)) at c7
      go_quiet (fail)
      clear c0 c1 c2 c3 c4 c5 c6 c7
      go_wp2_with fail
      have hM2 : RMid s b w bk (W.drewN nq) := HM.out.drewN nq
      have HM2 := Lib.hid hM2
      clear hM2 HM
      generalize W.drewN nq = W2 at *
      go_loopw [12, 13, 14, 15, 16, 17, 18, 19, 20] (fun a1 a2 a3 a4 a5 a6 a7 a8 i wq => ∃ j : Nat, j ≤ 64 ∧ i = .int .i64 j ∧ a1 = .int .u32 (U (rounds (sched b 64) s j).a) ∧ a2 = .int .u32 (U (rounds (sched b 64) s j).b) ∧ a3 = .int .u32 (U (rounds (sched b 64) s j).c) ∧ a4 = .int .u32 (U (rounds (sched b 64) s j).d) ∧ a5 = .int .u32 (U (rounds (sched b 64) s j).e) ∧ a6 = .int .u32 (U (rounds (sched b 64) s j).f) ∧ a7 = .int .u32 (U (rounds (sched b 64) s j).g) ∧ a8 = .int .u32 (U (rounds (sched b 64) s j).h) ∧ RMid s b w bk wq) (fun _ _ _ _ _ _ _ _ i _ => 64 - (intOf i).toNat)
      case atStart => exact ⟨0, by omega, rfl, rfl, rfl, rfl, rfl, rfl, rfl, rfl, rfl, HM2.out⟩
      case round =>
        obtain ⟨j, hj, rfl, rfl, rfl, rfl, rfl, rfl, rfl, rfl, rfl, hN⟩ := hrel
        have HN := Lib.hid hN
        clear hN HM2
        by_cases hjt : j < 64
        · have j0 : (0 : Int) ≤ j := by omega
          have j1 : (j : Int) < 64 := by omega
          have hdj : decide ((j : Int) < 64) = true := by simp; omega
          have HS : Hid (rounds (sched b 64) s (j + 1) = step (rounds (sched b 64) s j) (kAt j) ((sched b 64).getD j 0#32)) := rfl
          have cK := HN.out.2.2.2.1.cell j (by rw [Ks_length]; exact hjt)
          rw [U_kAt j hjt] at cK
          have cW := HN.out.2.2.1.cell j (by rw [tab_length b 64 (by omega)]; exact hjt)
          rw [tab_at b 64 j hjt] at cW
          generalize rounds (sched b 64) s j = r at *
          generalize kAt j = kk at *
          generalize (sched b 64).getD j 0#32 = ww at *
          have e0 := U_lo r.e
          have e1 := U_hi r.e
          have f0 := U_lo r.a
          have f1 := U_hi r.a
          have HS1 := Lib.hid (S1_code r.e)
          have HS0 := Lib.hid (S0_code r.a)
          have HU := Lib.hid (stepU_code r kk ww)
          have HV := Lib.hid (stepV_code r)
          go_wp2_with fail
          go_quiet ((first | (go_at_call 38; with_reducible exact Calls.quiet_of (rturned6 (U r.e) _ e0 e1)) | (go_at_call 38; with_reducible exact Calls.quiet_of (rturned11 (U r.e) _ e0 e1)) | (go_at_call 38; with_reducible exact Calls.quiet_of (rturned25 (U r.e) _ e0 e1))))
          clear cK cW
          rw [HS1.out, HU.out]
          generalize U r.h + U (S1 (V (U r.e))) = t1
          generalize (bits .xor .u32 (if IntKind.u32.signed = true then -1 else IntKind.u32.max) (U r.e)) = t2
          have hN2 := HN.out.drewN nq
          have HN2 := Lib.hid hN2
          clear hN2 HN
          generalize wr.drewN nq = W3 at *
          have hS0 := HS0.out
          have hV := HV.out
          go_wp2_with fail
          refine (rturned2 (U r.a) _ f0 f1).mono ?_
          rintro e w2 ⟨rfl, n1, rfl⟩
          go_wp2_with fail
          refine (rturned13 (U r.a) _ f0 f1).mono ?_
          rintro e w2 ⟨rfl, n2, rfl⟩
          go_wp2_with fail
          refine (rturned22 (U r.a) _ f0 f1).mono ?_
          rintro e w2 ⟨rfl, n3, rfl⟩
          go_wp2_with fail
          clear hS0 hV
          go_roundw
          case rel =>
            refine ⟨j + 1, by omega, by go_num, ?_⟩
            rw [HS.out]
            exact ⟨by rw [sum_code]; rfl, rfl, rfl, rfl, by rw [sum_code]; rfl, rfl, rfl, rfl, HN2.out.drewN _⟩
          case measure => simp [intOf]; omega
        · have HJ : Hid (j = 64) := (by omega : j = 64)
          have hdj : decide ((j : Int) < 64) = false := by simp; omega
          have HBl : Hid (block s b = s.add (rounds (sched b 64) s j)) := by rw [HJ.out]; rfl
          generalize rounds (sched b 64) s j = r at *
          have c0 := HN.out.1.cell 0 (by simp [S.all])
          have c1 := HN.out.1.cell 1 (by simp [S.all])
          have c2 := HN.out.1.cell 2 (by simp [S.all])
          have c3 := HN.out.1.cell 3 (by simp [S.all])
          have c4 := HN.out.1.cell 4 (by simp [S.all])
          have c5 := HN.out.1.cell 5 (by simp [S.all])
          have c6 := HN.out.1.cell 6 (by simp [S.all])
          have c7 := HN.out.1.cell 7 (by simp [S.all])
          change wr.cell? ⟨w.heap.size, 0, none⟩ = some (.int .u32 (U s.a)) at c0
          change wr.cell? ⟨w.heap.size, 1, none⟩ = some (.int .u32 (U s.b)) at c1
          change wr.cell? ⟨w.heap.size, 2, none⟩ = some (.int .u32 (U s.c)) at c2
          change wr.cell? ⟨w.heap.size, 3, none⟩ = some (.int .u32 (U s.d)) at c3
          change wr.cell? ⟨w.heap.size, 4, none⟩ = some (.int .u32 (U s.e)) at c4
          change wr.cell? ⟨w.heap.size, 5, none⟩ = some (.int .u32 (U s.f)) at c5
          change wr.cell? ⟨w.heap.size, 6, none⟩ = some (.int .u32 (U s.g)) at c6
          change wr.cell? ⟨w.heap.size, 7, none⟩ = some (.int .u32 (U s.h)) at c7
          have s1' := sum_code s.a r.a
          have s2' := sum_code s.b r.b
          have s3' := sum_code s.c r.c
          have s4' := sum_code s.d r.d
          have s5' := sum_code s.e r.e
          have s6' := sum_code s.f r.f
          have s7' := sum_code s.g r.g
          have s8' := sum_code s.h r.h
          have hlen8 : ((s.add r).all.map U).length = 8 := by simp [S.all]
          have hst : Sem.run Tryd.prog (storeCells ⟨w.heap.size + 1, 0, none⟩ (ints .u32 ((s.add r).all.map U)).toList) wr = .ok () (wr.setRow (w.heap.size + 1) (ints .u32 ((s.add r).all.map U))) := by
            have := run_storeCells_from (P := Tryd.prog) (w.heap.size + 1) 37 (ints .u32 ((s.add r).all.map U)).toList 0 (ints .u32 [0, 0, 0, 0, 0, 0, 0, 0]) wr HN.out.2.1 (by simp [ints_size, S.all]) (ints_one _ _)
            simpa [ints_size, hlen8] using this
          have hz : (ints .u32 ((s.add r).all.map U)).size = 8 := by rw [ints_size, hlen8]
          clear hlen8
          have HT : Hid ((Tryd.prog.info? 37).map (·.size) = some (ints .u32 ((s.add r).all.map U)).size) := by
            show _ = _
            rw [hz]; kernel_rfl
          have hrow := setRow_heap wr (w.heap.size + 1) (ints .u32 [0, 0, 0, 0, 0, 0, 0, 0]) (ints .u32 ((s.add r).all.map U)) 37 (0, 0) HN.out.2.1
          have HRow := Lib.hid hrow
          have HB5 := Lib.hid HN.out.2.2.2.2
          clear hrow HN
          go_wp2_with ((with_reducible refine wpList_build rfl 37 _ rfl (.agg (ints .u32 ((s.add r).all.map U))) ?_ ?_); (kernel_rfl))
          refine bodyPost_ret (v := .agg (ints .u32 ((s.add r).all.map U))) (results_cell_row (p := 4) (ty := 37) rfl _ _ (w.heap.size + 1) 37 (ints .u32 ((s.add r).all.map U)) (0, 0) _ rfl HRow.out Tryd.underlying37 rfl HT.out) rfl ⟨by rw [HBl.out], HB5.out.trans ((below_setRow _ _ _).mono (by omega))⟩
end Sha
end Go.Proofs.YtodbfkifendniaaDoor
