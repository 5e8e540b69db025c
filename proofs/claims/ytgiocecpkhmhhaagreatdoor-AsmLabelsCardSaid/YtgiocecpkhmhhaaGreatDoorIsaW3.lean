/- Instructions and their bytes: isa.Bytes, isa.Read. -/
import Derived.Test.YtgiocecpkhmhhaaGreatDoorIsaW2
import Derived.Laws.BitsAllLaws
namespace Go.Proofs.YtgiocecpkhmhhaaGreatDoor
open Go.ChangeShapes Go.WideShapes Go.ChangeAt Go.RowKit
namespace Isa
set_option linter.unusedVariables false
set_option linter.unusedSimpArgs false
/-- eight bytes as an array -/
def b8 (x0 x1 x2 x3 x4 x5 x6 x7 : Int) : Value := .agg #[.int .u8 x0, .int .u8 x1, .int .u8 x2, .int .u8 x3, .int .u8 x4, .int .u8 x5, .int .u8 x6, .int .u8 x7]
def bytesV (i : Iv) : Value := b8 i.op i.a (i.b % 256) (i.b / 256) (i.c % 256) (i.c / 256 % 256) (i.c / 65536 % 256) (i.c / 16777216)
set_option maxHeartbeats 3200000 in
theorem bytes_any (i : Iv) (h : i.wf) (w : World) : Calls Tryz.prog 46 #[iv i] w fun e w' => e = .returned (bytesV i) ∧ Below w.heap.size w w' := by
  obtain ⟨op, a, b, c⟩ := i
  obtain ⟨⟨h1, h2⟩, ⟨h3, h4⟩, ⟨h5, h6⟩, ⟨h7, h8⟩⟩ := h
  simp only at *
  unfold iv bytesV b8
  simp only
  go_enter Tryz.func46, Tryz.ntmps46
  go_wp2_with fail
  refine bodyPost_ret (v := .agg #[.int .u8 op, .int .u8 a, .int .u8 (b % 256), .int .u8 (b / 256), .int .u8 (c % 256), .int .u8 (c / 256 % 256), .int .u8 (c / 65536 % 256), .int .u8 (c / 16777216)]) (by simp [results, Tryz.f46, go_sem]) rfl ⟨rfl, ?_⟩
  go_grown
theorem or16 (x y : Int) (hx : 0 ≤ x ∧ x ≤ 255) (hy : 0 ≤ y ∧ y ≤ 255) : bits .or .u16 x (y * 256) = x + 256 * y := by
  rw [u16_or _ _ (by omega) (by omega) (by omega) (by omega)]
  obtain ⟨X, rfl⟩ := Int.eq_ofNat_of_zero_le hx.1
  obtain ⟨Y, rfl⟩ := Int.eq_ofNat_of_zero_le hy.1
  have e : ((Y : Int) * 256).toNat = 2 ^ 8 * Y := by omega
  rw [e, Int.toNat_natCast, Nat.or_comm, ← Nat.two_pow_add_eq_or_of_lt (show X < 2 ^ 8 by omega)]
  omega
theorem or8 (x y : Int) (hx : 0 ≤ x ∧ x < 256) (hy : 0 ≤ y ∧ y ≤ 255) : bits .or .u32 x (y * 256) = x + 256 * y := by
  rw [u32_or _ _ (by omega) (by omega) (by omega) (by omega)]
  obtain ⟨X, rfl⟩ := Int.eq_ofNat_of_zero_le hx.1
  obtain ⟨Y, rfl⟩ := Int.eq_ofNat_of_zero_le hy.1
  have e : ((Y : Int) * 256).toNat = 2 ^ 8 * Y := by omega
  rw [e, Int.toNat_natCast, Nat.or_comm, ← Nat.two_pow_add_eq_or_of_lt (show X < 2 ^ 8 by omega)]
  omega
theorem or32 (x y : Int) (hx : 0 ≤ x ∧ x < 65536) (hy : 0 ≤ y ∧ y ≤ 255) : bits .or .u32 x (y * 65536) = x + 65536 * y := by
  rw [u32_or _ _ (by omega) (by omega) (by omega) (by omega)]
  obtain ⟨X, rfl⟩ := Int.eq_ofNat_of_zero_le hx.1
  obtain ⟨Y, rfl⟩ := Int.eq_ofNat_of_zero_le hy.1
  have e : ((Y : Int) * 65536).toNat = 2 ^ 16 * Y := by omega
  rw [e, Int.toNat_natCast, Nat.or_comm, ← Nat.two_pow_add_eq_or_of_lt (show X < 2 ^ 16 by omega)]
  omega
theorem or24 (x y : Int) (hx : 0 ≤ x ∧ x < 16777216) (hy : 0 ≤ y ∧ y ≤ 255) : bits .or .u32 x (y * 16777216) = x + 16777216 * y := by
  rw [u32_or _ _ (by omega) (by omega) (by omega) (by omega)]
  obtain ⟨X, rfl⟩ := Int.eq_ofNat_of_zero_le hx.1
  obtain ⟨Y, rfl⟩ := Int.eq_ofNat_of_zero_le hy.1
  have e : ((Y : Int) * 16777216).toNat = 2 ^ 24 * Y := by omega
  rw [e, Int.toNat_natCast, Nat.or_comm, ← Nat.two_pow_add_eq_or_of_lt (show X < 2 ^ 24 by omega)]
  omega
set_option maxHeartbeats 3200000 in
theorem ofBytes_any (x0 x1 x2 x3 x4 x5 x6 x7 : Int) (h0 : 0 ≤ x0 ∧ x0 ≤ 255) (h1 : 0 ≤ x1 ∧ x1 ≤ 255) (h2 : 0 ≤ x2 ∧ x2 ≤ 255) (h3 : 0 ≤ x3 ∧ x3 ≤ 255) (h4 : 0 ≤ x4 ∧ x4 ≤ 255) (h5 : 0 ≤ x5 ∧ x5 ≤ 255) (h6 : 0 ≤ x6 ∧ x6 ≤ 255) (h7 : 0 ≤ x7 ∧ x7 ≤ 255) (w : World) :
    Calls Tryz.prog 66 #[b8 x0 x1 x2 x3 x4 x5 x6 x7] w fun e w' => e = .returned (iv (readI [x0, x1, x2, x3, x4, x5, x6, x7])) ∧ Below w.heap.size w w' := by
  have e1 := or16 x2 x3 h2 h3
  have e2 := or8 x4 x5 (by omega) h5
  have e3 := or32 (x4 + 256 * x5) x6 (by omega) h6
  have e4 := or24 (x4 + 256 * x5 + 65536 * x6) x7 (by omega) h7
  have E : Hid (iv (readI [x0, x1, x2, x3, x4, x5, x6, x7]) = .agg #[.int .u8 x0, .int .u8 x1, .int .u16 (bits .or .u16 x2 (x3 * 256)), .int .u32 (bits .or .u32 (bits .or .u32 (bits .or .u32 x4 (x5 * 256)) (x6 * 65536)) (x7 * 16777216))]) := by
    show _ = _
    rw [e1, e2, e3, e4]
    rfl
  clear e1 e2 e3 e4
  generalize iv (readI [x0, x1, x2, x3, x4, x5, x6, x7]) = R at *
  unfold b8
  go_enter Tryz.func66, Tryz.ntmps66
  go_wp2_with fail
  refine bodyPost_ret (v := .agg #[.int .u8 x0, .int .u8 x1, .int .u16 (bits .or .u16 x2 (x3 * 256)), .int .u32 (bits .or .u32 (bits .or .u32 (bits .or .u32 x4 (x5 * 256)) (x6 * 65536)) (x7 * 16777216))]) (by simp [results, Tryz.f66, go_sem]) rfl ⟨by rw [E.out], ?_⟩
  go_grown
/-! ### Rows of bytes -/
/-- a slice with this address and length has these bytes -/
def Row (w : World) (a : Option Addr) (n : Nat) (l : List Int) : Prop :=
  l.length = n ∧ (∀ z ∈ l, 0 ≤ z ∧ z ≤ 255) ∧ (n = 0 ∨ ∃ b off, a = some ⟨b, off, none⟩ ∧ ∀ i, i < n → w.cell? ⟨b, off + i, none⟩ = some (.int .u8 (l.getD i 0)))
theorem Row.below {w w' : World} {a : Option Addr} {n : Nat} {l : List Int} (h : Row w a n l) {B : Nat} (hb : Below B w w') (hB : w.heap.size ≤ B) : Row w' a n l := by
  obtain ⟨h1, h2, h3⟩ := h
  refine ⟨h1, h2, ?_⟩
  rcases h3 with h3 | ⟨b, off, rfl, hc⟩
  · exact Or.inl h3
  · exact Or.inr ⟨b, off, rfl, fun i hi => (hb.cell (show b < B from Nat.lt_of_lt_of_le (World.block_lt_of_cell? _ _ (hc i hi)) hB)).trans (hc i hi)⟩
theorem readI_at (l : List Int) : readI l = readI [l.getD 0 0, l.getD 1 0, l.getD 2 0, l.getD 3 0, l.getD 4 0, l.getD 5 0, l.getD 6 0, l.getD 7 0] := rfl
set_option maxHeartbeats 3200000 in
theorem read_any (l : List Int) (a : Option Addr) (n c : Nat) (hc : n ≤ c) (hc2 : c ≤ 9223372036854775807) (w : World) (hT : Tabs w) (h : Row w a n l) :
    Calls Tryz.prog 44 #[.slice a n c] w fun e w' => e = .returned (.tuple #[iv (rdI l), .int .i64 (rdE l)]) ∧ Below w.heap.size w w' := by
  obtain ⟨hl, hb, hr⟩ := h
  subst hl
  by_cases h8 : l.length < 8
  · have hE : rdE l = 40 := by unfold rdE; rw [if_pos h8]
    have hI : rdI l = ⟨0, 0, 0, 0⟩ := by unfold rdI; rw [hE]; rfl
    rw [hE, hI]
    have hd : decide ((l.length : Int) < 8) = true := decide_eq_true (by omega)
    clear hE hI hr hb hT
    generalize l.length = n at *
    unfold iv
    go_enter Tryz.func44, Tryz.ntmps44
    go_wp2_with fail
    refine bodyPost_ret (v := .tuple #[.agg #[.int .u8 0, .int .u8 0, .int .u16 0, .int .u32 0], .int .i64 40]) (by simp [results, Tryz.f44, go_sem]) rfl ⟨rfl, ?_⟩
    go_grown
  · obtain ⟨p, off, rfl, hcell⟩ := hr.resolve_left (by omega)
    have hd : decide ((l.length : Int) < 8) = false := decide_eq_false (by omega)
    have hO := Lib.hid (ofBytes_any (l.getD 0 0) (l.getD 1 0) (l.getD 2 0) (l.getD 3 0) (l.getD 4 0) (l.getD 5 0) (l.getD 6 0) (l.getD 7 0) (at8 hb 0) (at8 hb 1) (at8 hb 2) (at8 hb 3) (at8 hb 4) (at8 hb 5) (at8 hb 6) (at8 hb 7))
    rw [← readI_at] at hO
    have hM := Lib.hid (fun W (hb' : Below w.heap.size w W) => may_any (readI l) (readI_wf hb) W (hT.below hb' (Nat.le_refl _)))
    have hE : Hid (rdE l = if mayI (readI l) then 0 else 90) := by show _ = _; unfold rdE; rw [if_neg h8]
    have hI : Hid (rdI l = if mayI (readI l) then readI l else ⟨0, 0, 0, 0⟩) := by show _ = _; unfold rdI; rw [hE.out]; cases mayI (readI l) <;> simp
    have hX : ∀ k, k < 8 → p < w.heap.size ∧ w.cell? ⟨p, off + k, none⟩ = some (.int .u8 (l.getD k 0)) := fun k hk => ⟨World.block_lt_of_cell? _ _ (hcell 0 (by omega)), hcell k (by omega)⟩
    have hp := (hX 0 (by omega)).1
    have hA : ∀ W, (Instr.arrayAt 72 (.slice (some ⟨p, off, none⟩) 8 c)).run Tryz.prog W = .ok (.pointer (some ⟨p, off, none⟩)) W := fun W => by simp [Instr.arrayAt, run_underlying Tryz.underlying72]
    have c0 : ∀ o, (w.alloc o).cell? ⟨p, off, none⟩ = some (.int .u8 (l.getD 0 0)) := fun o => (((Below.refl w.heap.size w).alloc (Nat.le_refl _) o).cell (show p < w.heap.size from hp)).trans (hX 0 (by omega)).2
    have c1 : ∀ o, (w.alloc o).cell? ⟨p, off + 1, none⟩ = some (.int .u8 (l.getD 1 0)) := fun o => (((Below.refl w.heap.size w).alloc (Nat.le_refl _) o).cell (show p < w.heap.size from hp)).trans (hX 1 (by omega)).2
    have c2 : ∀ o, (w.alloc o).cell? ⟨p, off + 2, none⟩ = some (.int .u8 (l.getD 2 0)) := fun o => (((Below.refl w.heap.size w).alloc (Nat.le_refl _) o).cell (show p < w.heap.size from hp)).trans (hX 2 (by omega)).2
    have c3 : ∀ o, (w.alloc o).cell? ⟨p, off + 3, none⟩ = some (.int .u8 (l.getD 3 0)) := fun o => (((Below.refl w.heap.size w).alloc (Nat.le_refl _) o).cell (show p < w.heap.size from hp)).trans (hX 3 (by omega)).2
    have c4 : ∀ o, (w.alloc o).cell? ⟨p, off + 4, none⟩ = some (.int .u8 (l.getD 4 0)) := fun o => (((Below.refl w.heap.size w).alloc (Nat.le_refl _) o).cell (show p < w.heap.size from hp)).trans (hX 4 (by omega)).2
    have c5 : ∀ o, (w.alloc o).cell? ⟨p, off + 5, none⟩ = some (.int .u8 (l.getD 5 0)) := fun o => (((Below.refl w.heap.size w).alloc (Nat.le_refl _) o).cell (show p < w.heap.size from hp)).trans (hX 5 (by omega)).2
    have c6 : ∀ o, (w.alloc o).cell? ⟨p, off + 6, none⟩ = some (.int .u8 (l.getD 6 0)) := fun o => (((Below.refl w.heap.size w).alloc (Nat.le_refl _) o).cell (show p < w.heap.size from hp)).trans (hX 6 (by omega)).2
    have c7 : ∀ o, (w.alloc o).cell? ⟨p, off + 7, none⟩ = some (.int .u8 (l.getD 7 0)) := fun o => (((Below.refl w.heap.size w).alloc (Nat.le_refl _) o).cell (show p < w.heap.size from hp)).trans (hX 7 (by omega)).2
    have w0 := at8 hb 0
    have w1 := at8 hb 1
    have w2 := at8 hb 2
    have w3 := at8 hb 3
    have w4 := at8 hb 4
    have w5 := at8 hb 5
    have w6 := at8 hb 6
    have w7 := at8 hb 7
    have h8' : 8 ≤ l.length := by omega
    clear hr hT hcell hX h8 hb
    generalize rdE l = E at *
    generalize rdI l = I at *
    generalize readI l = i at *
    generalize mayI i = m at *
    generalize l.getD 0 0 = y0 at *
    generalize l.getD 1 0 = y1 at *
    generalize l.getD 2 0 = y2 at *
    generalize l.getD 3 0 = y3 at *
    generalize l.getD 4 0 = y4 at *
    generalize l.getD 5 0 = y5 at *
    generalize l.getD 6 0 = y6 at *
    generalize l.getD 7 0 = y7 at *
    generalize l.length = n at *
    obtain ⟨op, a, b, cc⟩ := i
    unfold iv at hO hM ⊢
    unfold b8 at hO
    simp only at hO hM
    go_enter Tryz.func44, Tryz.ntmps44
    go_wp2_with (first | simp only [hA] | simp only [c0] | simp only [c1] | simp only [c2] | simp only [c3] | simp only [c4] | simp only [c5] | simp only [c6] | simp only [c7])
    refine (hO.out _).mono ?_
    rintro e w1 ⟨rfl, hb1⟩
    go_wp2_with fail
    have HX : Hid ((w1.alloc (.cells #[.int .u8 op, .int .u8 a, .int .u16 b, .int .u32 cc] 32)).heap[w.heap.size]? = some (.cells #[.int .u8 0, .int .u8 0, .int .u16 0, .int .u32 0] 32)) := by
      show _ = _
      rw [Below.heap_alloc _ _ _ (by have := hb1.size; simp at this; omega), hb1.block _ (by simp), alloc_new]
    have HY : Hid ((w1.alloc (.cells #[.int .u8 op, .int .u8 a, .int .u16 b, .int .u32 cc] 32)).heap[w1.heap.size]? = some (.cells #[.int .u8 op, .int .u8 a, .int .u16 b, .int .u32 cc] 32)) := by
      show _ = _
      rw [alloc_new]
    have HB : Hid (Below w.heap.size w (w1.alloc (.cells #[.int .u8 op, .int .u8 a, .int .u16 b, .int .u32 cc] 32))) := by
      show Below _ _ _
      have := hb1.size
      simp at this
      refine Below.alloc (Below.trans (Below.alloc (Below.refl _ _) (Nat.le_refl _) _) (hb1.mono (by simp))) (by omega) _
    have hne : w.heap.size ≠ w1.heap.size := by have := hb1.size; simp at this; omega
    clear c0 c1 c2 c3 c4 c5 c6 c7
    generalize w1.alloc (.cells #[.int .u8 op, .int .u8 a, .int .u16 b, .int .u32 cc] 32) = W3 at *
    generalize w1.heap.size = V1 at *
    clear hb1 w1 hO
    refine (hM.out _ HB.out).mono ?_
    rintro e w4 ⟨rfl, hb4⟩
    have hle : w.heap.size ≤ W3.heap.size := Nat.le_of_lt (lt_of_block HX.out)
    have hx := (hb4.block _ (lt_of_block HX.out)).trans HX.out
    have hf : ∀ j, w4.frozen? ⟨w.heap.size, j, none⟩ = false := fun j => by simp [World.frozen?, hx]
    obtain ⟨d0, d1, d2, d3⟩ := cells4 hx
    obtain ⟨z0, z1, z2, z3⟩ := cells4 ((hb4.block _ (lt_of_block HY.out)).trans HY.out)
    have HB4 : Below w.heap.size w w4 := HB.out.trans (hb4.mono hle)
    clear hx hb4 HX HY HB W3 hM hle
    cases m
    · go_wp2_with (simp only [hf])
      refine bodyPost_ret (v := .tuple #[.agg #[.int .u8 0, .int .u8 0, .int .u16 0, .int .u32 0], .int .i64 90]) (by simp [results, Tryz.f44, go_sem, d0, d1, d2, d3]) rfl ⟨by rw [show E = 90 from hE.out, show I = ⟨0, 0, 0, 0⟩ from hI.out], ?_⟩
      go_grown
    · go_wp2_with (simp only [hf])
      refine bodyPost_ret (v := .tuple #[.agg #[.int .u8 op, .int .u8 a, .int .u16 b, .int .u32 cc], .int .i64 0]) (by simp [results, Tryz.f44, go_sem, d0, d1, d2, d3]) rfl ⟨by rw [show E = 0 from hE.out, show I = ⟨op, a, b, cc⟩ from hI.out], ?_⟩
      go_grown
end Isa
end Go.Proofs.YtgiocecpkhmhhaaGreatDoor
