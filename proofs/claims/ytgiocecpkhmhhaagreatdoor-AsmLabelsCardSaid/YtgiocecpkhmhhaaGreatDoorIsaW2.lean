/- isa.May: whether anything is an instruction. -/
import Derived.Test.YtgiocecpkhmhhaaGreatDoorIsaW1
namespace Go.Proofs.YtgiocecpkhmhhaaGreatDoor
open Go.ChangeShapes Go.WideShapes Go.ChangeAt Go.RowKit
namespace Isa
set_option linter.unusedVariables false
set_option linter.unusedSimpArgs false
theorem lt_of_block {W : World} {k : Nat} {o : Obj} (h : W.heap[k]? = some o) : k < W.heap.size := (Array.getElem?_eq_some_iff.1 h).1
theorem alloc_new (w : World) (o : Obj) : (w.alloc o).heap[w.heap.size]? = some o := by
  show (w.heap.push o)[w.heap.size]? = some o
  simp
theorem cells_at {X : World} {V : Nat} {cs : Array Value} {t : TypeId} {fr : Nat × Nat} (h : X.heap[V]? = some (.cells cs t fr)) (k : Nat) : X.cell? ⟨V, k, none⟩ = cs[k]? := by
  simp [World.cell?, h]
theorem cells4 {X : World} {V : Nat} {v0 v1 v2 v3 : Value} {t : TypeId} {fr : Nat × Nat} (h : X.heap[V]? = some (.cells #[v0, v1, v2, v3] t fr)) :
    X.cell? ⟨V, 0, none⟩ = some v0 ∧ X.cell? ⟨V, 1, none⟩ = some v1 ∧ X.cell? ⟨V, 2, none⟩ = some v2 ∧ X.cell? ⟨V, 3, none⟩ = some v3 :=
  ⟨cells_at h 0, cells_at h 1, cells_at h 2, cells_at h 3⟩
theorem cells8 {X : World} {V : Nat} {v0 v1 v2 v3 v4 v5 v6 v7 : Value} {t : TypeId} {fr : Nat × Nat} (h : X.heap[V]? = some (.cells #[v0, v1, v2, v3, v4, v5, v6, v7] t fr)) :
    X.cell? ⟨V, 0, none⟩ = some v0 ∧ X.cell? ⟨V, 1, none⟩ = some v1 ∧ X.cell? ⟨V, 2, none⟩ = some v2 ∧ X.cell? ⟨V, 3, none⟩ = some v3 ∧ X.cell? ⟨V, 4, none⟩ = some v4 ∧ X.cell? ⟨V, 5, none⟩ = some v5 ∧ X.cell? ⟨V, 6, none⟩ = some v6 ∧ X.cell? ⟨V, 7, none⟩ = some v7 :=
  ⟨cells_at h 0, cells_at h 1, cells_at h 2, cells_at h 3, cells_at h 4, cells_at h 5, cells_at h 6, cells_at h 7⟩
/-! ### In numbers -/
def mayK (i : Iv) : Bool := isS (sB (nm i.op)) && letsAB (isM i.op) (bAI i.op) i.a && letsB (bBI i.op) i.b && (nCI i.op || i.c == 0)
theorem isS_eq (l : List UInt8) : isS (sB l) = !l.isEmpty := by
  unfold isS
  rw [Lib.toList_data, sB_list]
theorem nm_fin2 : ∀ p : Fin 28, (!(nm (p.val : Nat)).isEmpty) = decide (1 ≤ p.val) := by decide +kernel
theorem isS_nm {op : Int} (h : 0 ≤ op) : isS (sB (nm op)) = (decide (1 ≤ op) && decide (op ≤ 27)) := by
  obtain ⟨n, rfl⟩ := Int.eq_ofNat_of_zero_le h
  rw [isS_eq]
  by_cases hn : n < 28
  · rw [nm_fin2 ⟨n, hn⟩, Bool.eq_iff_iff]; simp; omega
  · rw [show nm (n : Int) = [] from getD_far _ _ _ (by simp [names]; omega), Bool.eq_iff_iff]; simp; omega
theorem mayK_eq {i : Iv} (h : i.wf) : mayK i = mayI i := by
  obtain ⟨⟨h1, h2⟩, ⟨h3, h4⟩, ⟨h5, h6⟩, ⟨h7, h8⟩⟩ := h
  unfold mayK
  rw [isS_nm h1]
  unfold mayI letsAB letsB bAI bBI nCI
  by_cases c1 : isC i.op = true
  · have c2 : isM i.op = false := by unfold isM isC at *; simp at *; omega
    have c3 : isAB i.op = false := by unfold isAB isC at *; simp at *; omega
    have c4 : isA i.op = false := by unfold isA isC at *; simp at *; omega
    have c5 : 1 ≤ i.op ∧ i.op ≤ 27 := by unfold isC at *; simp at *; omega
    simp only [c1, c2, c3, c4, c5]
    rw [Bool.eq_iff_iff]; simp; omega
  · simp only [Bool.not_eq_true] at c1
    by_cases c2 : isM i.op = true
    · have c3 : isAB i.op = false := by unfold isAB isM at *; simp at *; omega
      have c4 : isA i.op = false := by unfold isA isM at *; simp at *; omega
      have c5 : 1 ≤ i.op ∧ i.op ≤ 27 := by unfold isM at *; simp at *; omega
      simp only [c1, c2, c3, c4, c5]
      rw [Bool.eq_iff_iff]; simp; omega
    · simp only [Bool.not_eq_true] at c2
      by_cases c3 : isAB i.op = true
      · have c4 : isA i.op = false := by unfold isA isAB at *; simp at *; omega
        have c5 : 1 ≤ i.op ∧ i.op ≤ 27 := by unfold isAB at *; simp at *; omega
        simp only [c1, c2, c3, c4, c5]
        rw [Bool.eq_iff_iff]; simp; omega
      · simp only [Bool.not_eq_true] at c3
        by_cases c4 : isA i.op = true
        · have c5 : 1 ≤ i.op ∧ i.op ≤ 27 := by unfold isA at *; simp at *; omega
          simp only [c1, c2, c3, c4, c5]
          rw [Bool.eq_iff_iff]; simp; omega
        · simp only [Bool.not_eq_true] at c4
          simp only [c1, c2, c3, c4]
          rw [Bool.eq_iff_iff]; simp; omega
/-! ### May -/
set_option maxHeartbeats 3200000 in
theorem may_any (i : Iv) (h : i.wf) (w : World) (hT : Tabs w) : Calls Tryz.prog 33 #[iv i] w fun e w' => e = .returned (.bool (mayI i)) ∧ Below w.heap.size w w' := by
  have hm := mayK_eq h
  unfold mayK at hm
  obtain ⟨⟨h1, h2⟩, ⟨h3, h4⟩, ⟨h5, h6⟩, ⟨h7, h8⟩⟩ := h
  have hk := Lib.hid (fun W (hb : Below w.heap.size w W) => kind_any i.op h1 h2 W (hT.below hb (Nat.le_refl _)))
  have hI := Lib.hid (fun W => is_any (sB (nm i.op)) (takesI i.op) (givesI i.op) (bAI i.op) (bBI i.op) (isM i.op) (nCI i.op) (jumpsI i.op) W)
  have hA := Lib.hid (fun W => letsA_any (sB (nm i.op)) (takesI i.op) (givesI i.op) (bAI i.op) (bBI i.op) (isM i.op) (nCI i.op) (jumpsI i.op) i.a h3 h4 W)
  have hL := Lib.hid (fun W => lets_any (bBI i.op) i.b W)
  clear hT
  unfold kindV kindA at hk
  unfold iv
  generalize mayI i = m at *
  obtain ⟨op, a, b, c⟩ := i
  simp only at *
  generalize isS (sB (nm op)) = s1 at *
  generalize letsAB (isM op) (bAI op) a = s2 at *
  generalize letsB (bBI op) b = s3 at *
  generalize sB (nm op) = x0 at *
  generalize takesI op = x1 at *
  generalize givesI op = x2 at *
  generalize isM op = x3 at *
  generalize bAI op = x4 at *
  generalize bBI op = x5 at *
  generalize nCI op = x6 at *
  generalize jumpsI op = x7 at *
  subst hm
  go_enter Tryz.func33, Tryz.ntmps33
  go_wp2_with fail
  refine (hk.out _ (by go_grown)).mono ?_
  rintro e w1 ⟨rfl, hb⟩
  go_wp2_with fail
  have HX : Hid ((w1.alloc (.cells #[.string x0, .int .i64 x1, .int .i64 x2, .bool x3, .int .i64 x4, .int .i64 x5, .bool x6, .bool x7] 82)).heap[w.heap.size]? = some (.cells #[.int .u8 op, .int .u8 a, .int .u16 b, .int .u32 c] 32)) := by
    show _ = _
    rw [Below.heap_alloc _ _ _ (by have := hb.size; simp at this; omega), hb.block _ (by simp), alloc_new]
  have HY : Hid ((w1.alloc (.cells #[.string x0, .int .i64 x1, .int .i64 x2, .bool x3, .int .i64 x4, .int .i64 x5, .bool x6, .bool x7] 82)).heap[w1.heap.size]? = some (.cells #[.string x0, .int .i64 x1, .int .i64 x2, .bool x3, .int .i64 x4, .int .i64 x5, .bool x6, .bool x7] 82)) := by
    show _ = _
    rw [alloc_new]
  have HB : Hid (Below w.heap.size w (w1.alloc (.cells #[.string x0, .int .i64 x1, .int .i64 x2, .bool x3, .int .i64 x4, .int .i64 x5, .bool x6, .bool x7] 82))) := by
    show Below _ _ _
    have := hb.size
    simp at this
    refine Below.alloc (Below.trans (Below.alloc (Below.refl _ _) (Nat.le_refl _) _) (hb.mono (by simp))) (by omega) _
  generalize w1.alloc (.cells #[.string x0, .int .i64 x1, .int .i64 x2, .bool x3, .int .i64 x4, .int .i64 x5, .bool x6, .bool x7] 82) = W3 at *
  generalize w1.heap.size = V1 at *
  obtain ⟨V, hV⟩ : ∃ V, w.heap.size = V := ⟨_, rfl⟩
  rw [hV] at HX HB ⊢
  have hle : V ≤ W3.heap.size := Nat.le_of_lt (lt_of_block HX.out)
  clear hb w1 hk
  refine (hI.out _).mono ?_
  rintro e w2 ⟨rfl, hb2⟩
  obtain ⟨y0, y1, y2, y3⟩ := cells4 ((hb2.block _ (lt_of_block HX.out)).trans HX.out)
  obtain ⟨z0, z1, z2, z3, z4, z5, z6, z7⟩ := cells8 ((hb2.block _ (lt_of_block HY.out)).trans HY.out)
  have HB2 : Hid (Below V w w2) := HB.out.trans (hb2.mono hle)
  cases s1
  · go_wp2_with fail
    go_ret
    exact ⟨rfl, by rw [hV]; exact HB2.out⟩
  go_wp2_with fail
  refine (hA.out _).mono ?_
  rintro e w4 ⟨rfl, hb4⟩
  have hle2 : W3.heap.size ≤ w2.heap.size := hb2.size
  obtain ⟨p0, p1, p2, p3⟩ := cells4 (((hb2.trans (hb4.mono hle2)).block _ (lt_of_block HX.out)).trans HX.out)
  obtain ⟨q0, q1, q2, q3, q4, q5, q6, q7⟩ := cells8 (((hb2.trans (hb4.mono hle2)).block _ (lt_of_block HY.out)).trans HY.out)
  have HB4 : Hid (Below V w w4) := HB2.out.trans (hb4.mono (by omega))
  clear y0 y1 y2 y3 z0 z1 z2 z3 z4 z5 z6 z7
  cases s2
  · go_wp2_with fail
    go_ret
    exact ⟨rfl, by rw [hV]; exact HB4.out⟩
  go_wp2_with fail
  refine (hL.out _).mono ?_
  rintro e w5 ⟨rfl, hb5⟩
  have hle4 : W3.heap.size ≤ w4.heap.size := Nat.le_trans hle2 hb4.size
  have hb35 := (hb2.trans (hb4.mono hle2)).trans (hb5.mono hle4)
  obtain ⟨r0, r1, r2, r3⟩ := cells4 ((hb35.block _ (lt_of_block HX.out)).trans HX.out)
  obtain ⟨s0, s1, s2, s4, s5, s6, s7, s8⟩ := cells8 ((hb35.block _ (lt_of_block HY.out)).trans HY.out)
  have HB5 : Hid (Below V w w5) := HB4.out.trans (hb5.mono (by omega))
  clear p0 p1 p2 p3 q0 q1 q2 q3 q4 q5 q6 q7
  cases s3
  · go_wp2_with fail
    go_ret
    exact ⟨rfl, by rw [hV]; exact HB5.out⟩
  cases x6
  · go_wp2_with fail
    go_ret
    exact ⟨ret_bool (by simp), by rw [hV]; exact HB5.out⟩
  · go_wp2_with fail
    go_ret
    exact ⟨rfl, by rw [hV]; exact HB5.out⟩
end Isa
end Go.Proofs.YtgiocecpkhmhhaaGreatDoor
