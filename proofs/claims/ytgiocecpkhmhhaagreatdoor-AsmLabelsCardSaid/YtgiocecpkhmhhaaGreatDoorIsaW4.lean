/- isa.Text and isa.Op: the text of an instruction, and the Op of a name. -/
import Derived.Test.YtgiocecpkhmhhaaGreatDoorIsaW3
namespace Go.Proofs.YtgiocecpkhmhhaaGreatDoor
open Go.ChangeShapes Go.WideShapes Go.ChangeAt Go.RowKit
namespace Isa
set_option linter.unusedVariables false
set_option linter.unusedSimpArgs false
theorem sB_add (l m : List UInt8) : sB l ++ sB m = sB (l ++ m) := by
  have h : (sB l ++ sB m).data.toList = l ++ m := by rw [ByteArray.data_append, Array.toList_append, sB_list, sB_list]
  exact sB_of h
theorem sB_blank : (⟨#[32]⟩ : ByteArray) = sB [32] := rfl
theorem sB_nil : (⟨#[]⟩ : ByteArray) = sB [] := rfl
/-- the kinds of an Op that may be -/
theorem op_kinds {i : Iv} (h : mayI i = true) :
    (isM i.op = false ∧ bAI i.op = 0 ∧ bBI i.op = 0 ∧ nCI i.op = true ∧ txt i = nm i.op ++ ([32] ++ dd i.c)) ∨
    (isM i.op = true ∧ bAI i.op = 0 ∧ bBI i.op = 0 ∧ nCI i.op = true ∧ txt i = nm i.op ++ dd i.a ++ ([32] ++ dd i.c)) ∨
    (isM i.op = false ∧ bAI i.op = 16 ∧ bBI i.op = 0 ∧ nCI i.op = false ∧ txt i = nm i.op ++ ([32] ++ dd i.a)) ∨
    (isM i.op = false ∧ bAI i.op = 16 ∧ bBI i.op = 16 ∧ nCI i.op = false ∧ txt i = nm i.op ++ ([32] ++ dd i.a) ++ ([32] ++ dd i.b)) ∨
    (isM i.op = false ∧ bAI i.op = 0 ∧ bBI i.op = 0 ∧ nCI i.op = false ∧ txt i = nm i.op) := by
  rw [txt_may h]
  unfold rest bAI bBI nCI
  by_cases c1 : isC i.op = true
  · have c2 : isM i.op = false := by unfold isM isC at *; simp at *; omega
    have c3 : isAB i.op = false := by unfold isAB isC at *; simp at *; omega
    have c4 : isA i.op = false := by unfold isA isC at *; simp at *; omega
    left
    simp [c1, c2, c3, c4]
  · simp only [Bool.not_eq_true] at c1
    by_cases c2 : isM i.op = true
    · have c3 : isAB i.op = false := by unfold isAB isM at *; simp at *; omega
      have c4 : isA i.op = false := by unfold isA isM at *; simp at *; omega
      right; left
      simp [c1, c2, c3, c4]
    · simp only [Bool.not_eq_true] at c2
      by_cases c3 : isAB i.op = true
      · have c4 : isA i.op = false := by unfold isA isAB at *; simp at *; omega
        right; right; right; left
        simp [c1, c2, c3, c4]
      · simp only [Bool.not_eq_true] at c3
        by_cases c4 : isA i.op = true
        · right; right; left
          simp [c1, c2, c3, c4]
        · simp only [Bool.not_eq_true] at c4
          right; right; right; right
          simp [c1, c2, c3, c4]
theorem sB_size (l : List UInt8) : (sB l).size = l.length := by simp [sB, ByteArray.size]
theorem dd_size {x : Int} (h : x ≤ 4294967295) : (sB (dd x)).size ≤ 10 := by
  rw [sB_size]
  exact decDigits_len 9 _ (by omega)
theorem nm_size {op : Int} (h : 0 ≤ op) : (sB (nm op)).size ≤ 5 := by
  rw [sB_size]
  by_cases h1 : 1 ≤ op ∧ op ≤ 27
  · exact (nm_len h1).2
  · by_cases h0 : op = 0
    · subst h0; decide
    · rw [show nm op = [] from getD_far _ _ _ (by simp [names]; omega)]; simp
theorem ret_str {a b : ByteArray} (h : a = b) : Ending.returned (.string a) = .returned (.string b) := by rw [h]
set_option maxHeartbeats 6400000 in
theorem text_any (i : Iv) (h : i.wf) (w : World) (hT : Tabs w) : Calls Tryz.prog 62 #[iv i] w fun e w' => e = .returned (.string (sB (txt i))) ∧ Below w.heap.size w w' := by
  have hk := Lib.hid (fun W (hb : Below w.heap.size w W) => kind_any i.op h.op.1 h.op.2 W (hT.below hb (Nat.le_refl _)))
  have hM := Lib.hid (fun W (hb : Below w.heap.size w W) => may_any i h W (hT.below hb (Nat.le_refl _)))
  have hDA := Lib.hid (fun W (hb : Below w.heap.size w W) => digits_any i.a h.a.1 (by have := h.a.2; omega) W (hT.below hb (Nat.le_refl _)))
  have hDB := Lib.hid (fun W (hb : Below w.heap.size w W) => digits_any i.b h.b.1 (by have := h.b.2; omega) W (hT.below hb (Nat.le_refl _)))
  have hDC := Lib.hid (fun W (hb : Below w.heap.size w W) => digits_any i.c h.c.1 h.c.2 W (hT.below hb (Nat.le_refl _)))
  obtain ⟨⟨h1, h2⟩, ⟨h3, h4⟩, ⟨h5, h6⟩, ⟨h7, h8⟩⟩ := h
  unfold kindV kindA at hk
  clear hT
  by_cases hm : mayI i = true
  · rw [hm] at hM
    have HK := Lib.hid (op_kinds hm)
    clear hm
    obtain ⟨op, a, b, c⟩ := i
    unfold iv at hM ⊢
    simp only at *
    generalize txt ⟨op, a, b, c⟩ = T at *
    have HK2 : Hid ((isM op = false ∧ bAI op = 0 ∧ bBI op = 0 ∧ nCI op = true ∧ sB T = sB (nm op) ++ (⟨#[32]⟩ ++ sB (dd c))) ∨
        (isM op = true ∧ bAI op = 0 ∧ bBI op = 0 ∧ nCI op = true ∧ sB T = sB (nm op) ++ sB (dd a) ++ (⟨#[32]⟩ ++ sB (dd c))) ∨
        (isM op = false ∧ bAI op = 16 ∧ bBI op = 0 ∧ nCI op = false ∧ sB T = sB (nm op) ++ (⟨#[32]⟩ ++ sB (dd a))) ∨
        (isM op = false ∧ bAI op = 16 ∧ bBI op = 16 ∧ nCI op = false ∧ sB T = sB (nm op) ++ (⟨#[32]⟩ ++ sB (dd a)) ++ (⟨#[32]⟩ ++ sB (dd b))) ∨
        (isM op = false ∧ bAI op = 0 ∧ bBI op = 0 ∧ nCI op = false ∧ sB T = sB (nm op))) := by
      simp only [sB_blank, sB_add]
      show _
      rcases HK.out with ⟨q1, q2, q3, q4, rfl⟩ | ⟨q1, q2, q3, q4, rfl⟩ | ⟨q1, q2, q3, q4, rfl⟩ | ⟨q1, q2, q3, q4, rfl⟩ | ⟨q1, q2, q3, q4, rfl⟩
      · exact .inl ⟨q1, q2, q3, q4, rfl⟩
      · exact .inr (.inl ⟨q1, q2, q3, q4, rfl⟩)
      · exact .inr (.inr (.inl ⟨q1, q2, q3, q4, rfl⟩))
      · exact .inr (.inr (.inr (.inl ⟨q1, q2, q3, q4, rfl⟩)))
      · exact .inr (.inr (.inr (.inr ⟨q1, q2, q3, q4, rfl⟩)))
    clear HK
    have sx := nm_size h1
    have sa := dd_size (x := a) (by omega)
    have sb := dd_size (x := b) (by omega)
    have sc := dd_size (x := c) (by omega)
    generalize sB T = U at *
    generalize sB (nm op) = x0 at *
    generalize sB (dd a) = da at *
    generalize sB (dd b) = db at *
    generalize sB (dd c) = dc at *
    generalize takesI op = x1 at *
    generalize givesI op = x2 at *
    generalize isM op = x3 at *
    generalize bAI op = x4 at *
    generalize bBI op = x5 at *
    generalize nCI op = x6 at *
    generalize jumpsI op = x7 at *
    go_enter Tryz.func62, Tryz.ntmps62
    go_wp2_with fail
    refine (hM.out _ (by go_grown)).mono ?_
    rintro e w0 ⟨rfl, hb0⟩
    have HB0 : Below w.heap.size w w0 := Below.trans (Below.alloc (Below.refl _ _) (Nat.le_refl _) _) (hb0.mono (by simp))
    have hx0 : w0.heap[w.heap.size]? = some (.cells #[.int .u8 op, .int .u8 a, .int .u16 b, .int .u32 c] 32) := (hb0.block _ (by simp)).trans (alloc_new _ _)
    obtain ⟨y0, y1, y2, y3⟩ := cells4 hx0
    clear hb0
    go_wp2_with fail
    refine (hk.out _ HB0).mono ?_
    rintro e w1 ⟨rfl, hb⟩
    have hle0 := HB0.size
    have hl0 := lt_of_block hx0
    have HX : Hid ((w1.alloc (.cells #[.string x0, .int .i64 x1, .int .i64 x2, .bool x3, .int .i64 x4, .int .i64 x5, .bool x6, .bool x7] 82)).heap[w.heap.size]? = some (.cells #[.int .u8 op, .int .u8 a, .int .u16 b, .int .u32 c] 32)) := by
      show _ = _
      rw [Below.heap_alloc _ _ _ (by have := hb.size; omega), hb.block _ hl0, hx0]
    have HY : Hid ((w1.alloc (.cells #[.string x0, .int .i64 x1, .int .i64 x2, .bool x3, .int .i64 x4, .int .i64 x5, .bool x6, .bool x7] 82)).heap[w1.heap.size]? = some (.cells #[.string x0, .int .i64 x1, .int .i64 x2, .bool x3, .int .i64 x4, .int .i64 x5, .bool x6, .bool x7] 82)) := by
      show _ = _
      rw [alloc_new]
    have HB : Hid (Below w.heap.size w (w1.alloc (.cells #[.string x0, .int .i64 x1, .int .i64 x2, .bool x3, .int .i64 x4, .int .i64 x5, .bool x6, .bool x7] 82))) := by
      show Below _ _ _
      have := hb.size
      refine Below.alloc (HB0.trans (hb.mono hle0)) (by omega) _
    clear y0 y1 y2 y3 hx0 HB0 hle0 hl0 hb
    obtain ⟨V, hV⟩ : ∃ V, w.heap.size = V := ⟨_, rfl⟩
    rw [hV] at HX HB hDA hDB hDC ⊢
    clear hk hM
    have hle : V ≤ (w1.alloc (.cells #[.string x0, .int .i64 x1, .int .i64 x2, .bool x3, .int .i64 x4, .int .i64 x5, .bool x6, .bool x7] 82)).heap.size := Nat.le_of_lt (lt_of_block HX.out)
    rcases HK2.out with ⟨rfl, rfl, rfl, rfl, hR⟩ | ⟨rfl, rfl, rfl, rfl, hR⟩ | ⟨rfl, rfl, rfl, rfl, hR⟩ | ⟨rfl, rfl, rfl, rfl, hR⟩ | ⟨rfl, rfl, rfl, rfl, hR⟩
    · have hR := Lib.hid (ret_str hR).symm
      clear HK2
      obtain ⟨y0, y1, y2, y3⟩ := cells4 HX.out
      obtain ⟨z0, z1, z2, z3, z4, z5, z6, z7⟩ := cells8 HY.out
      go_wp2_with fail
      refine (hDC.out _ (HB.out)).mono ?_
      rintro e w5 ⟨rfl, hbw5⟩
      have h3w5 := hbw5
      have HBw5 : Below V w w5 := (HB.out).trans (h3w5.mono hle)
      clear y0 y1 y2 y3 z0 z1 z2 z3 z4 z5 z6 z7
      obtain ⟨y0, y1, y2, y3⟩ := cells4 ((h3w5.block _ (lt_of_block HX.out)).trans HX.out)
      obtain ⟨z0, z1, z2, z3, z4, z5, z6, z7⟩ := cells8 ((h3w5.block _ (lt_of_block HY.out)).trans HY.out)
      go_wp2_with fail
      go_ret
      exact ⟨hR.out, by rw [hV]; exact HBw5⟩
    · have hR := Lib.hid (ret_str hR).symm
      clear HK2
      obtain ⟨y0, y1, y2, y3⟩ := cells4 HX.out
      obtain ⟨z0, z1, z2, z3, z4, z5, z6, z7⟩ := cells8 HY.out
      go_wp2_with fail
      refine (hDA.out _ (HB.out)).mono ?_
      rintro e w5 ⟨rfl, hbw5⟩
      have h3w5 := hbw5
      have HBw5 : Below V w w5 := (HB.out).trans (h3w5.mono hle)
      clear y0 y1 y2 y3 z0 z1 z2 z3 z4 z5 z6 z7
      obtain ⟨y0, y1, y2, y3⟩ := cells4 ((h3w5.block _ (lt_of_block HX.out)).trans HX.out)
      obtain ⟨z0, z1, z2, z3, z4, z5, z6, z7⟩ := cells8 ((h3w5.block _ (lt_of_block HY.out)).trans HY.out)
      go_wp2_with fail
      refine (hDC.out _ (HBw5)).mono ?_
      rintro e w6 ⟨rfl, hbw6⟩
      have h3w6 := h3w5.trans (hbw6.mono h3w5.size)
      have HBw6 : Below V w w6 := (HB.out).trans (h3w6.mono hle)
      clear y0 y1 y2 y3 z0 z1 z2 z3 z4 z5 z6 z7
      obtain ⟨y0, y1, y2, y3⟩ := cells4 ((h3w6.block _ (lt_of_block HX.out)).trans HX.out)
      obtain ⟨z0, z1, z2, z3, z4, z5, z6, z7⟩ := cells8 ((h3w6.block _ (lt_of_block HY.out)).trans HY.out)
      go_wp2_with fail
      go_ret
      exact ⟨hR.out, by rw [hV]; exact HBw6⟩
    · have hR := Lib.hid (ret_str hR).symm
      clear HK2
      obtain ⟨y0, y1, y2, y3⟩ := cells4 HX.out
      obtain ⟨z0, z1, z2, z3, z4, z5, z6, z7⟩ := cells8 HY.out
      go_wp2_with fail
      refine (hDA.out _ (HB.out)).mono ?_
      rintro e w5 ⟨rfl, hbw5⟩
      have h3w5 := hbw5
      have HBw5 : Below V w w5 := (HB.out).trans (h3w5.mono hle)
      clear y0 y1 y2 y3 z0 z1 z2 z3 z4 z5 z6 z7
      obtain ⟨y0, y1, y2, y3⟩ := cells4 ((h3w5.block _ (lt_of_block HX.out)).trans HX.out)
      obtain ⟨z0, z1, z2, z3, z4, z5, z6, z7⟩ := cells8 ((h3w5.block _ (lt_of_block HY.out)).trans HY.out)
      go_wp2_with fail
      go_ret
      exact ⟨hR.out, by rw [hV]; exact HBw5⟩
    · have hR := Lib.hid (ret_str hR).symm
      clear HK2
      obtain ⟨y0, y1, y2, y3⟩ := cells4 HX.out
      obtain ⟨z0, z1, z2, z3, z4, z5, z6, z7⟩ := cells8 HY.out
      go_wp2_with fail
      refine (hDA.out _ (HB.out)).mono ?_
      rintro e w5 ⟨rfl, hbw5⟩
      have h3w5 := hbw5
      have HBw5 : Below V w w5 := (HB.out).trans (h3w5.mono hle)
      clear y0 y1 y2 y3 z0 z1 z2 z3 z4 z5 z6 z7
      obtain ⟨y0, y1, y2, y3⟩ := cells4 ((h3w5.block _ (lt_of_block HX.out)).trans HX.out)
      obtain ⟨z0, z1, z2, z3, z4, z5, z6, z7⟩ := cells8 ((h3w5.block _ (lt_of_block HY.out)).trans HY.out)
      go_wp2_with fail
      refine (hDB.out _ (HBw5)).mono ?_
      rintro e w6 ⟨rfl, hbw6⟩
      have h3w6 := h3w5.trans (hbw6.mono h3w5.size)
      have HBw6 : Below V w w6 := (HB.out).trans (h3w6.mono hle)
      clear y0 y1 y2 y3 z0 z1 z2 z3 z4 z5 z6 z7
      obtain ⟨y0, y1, y2, y3⟩ := cells4 ((h3w6.block _ (lt_of_block HX.out)).trans HX.out)
      obtain ⟨z0, z1, z2, z3, z4, z5, z6, z7⟩ := cells8 ((h3w6.block _ (lt_of_block HY.out)).trans HY.out)
      go_wp2_with fail
      go_ret
      exact ⟨hR.out, by rw [hV]; exact HBw6⟩
    · have hR := Lib.hid (ret_str hR).symm
      clear HK2
      obtain ⟨y0, y1, y2, y3⟩ := cells4 HX.out
      obtain ⟨z0, z1, z2, z3, z4, z5, z6, z7⟩ := cells8 HY.out
      go_wp2_with fail
      go_ret
      exact ⟨hR.out, by rw [hV]; exact HB.out⟩
  · simp only [Bool.not_eq_true] at hm
    rw [hm] at hM
    have HT : Hid (sB (txt i) = ⟨#[]⟩) := by show _ = _; rw [txt_none hm]; rfl
    generalize sB (txt i) = T at *
    obtain ⟨op, a, b, c⟩ := i
    unfold iv at hM ⊢
    simp only at *
    clear hm hk hDA hDB hDC
    go_enter Tryz.func62, Tryz.ntmps62
    go_wp2_with fail
    refine (hM.out _ (by go_grown)).mono ?_
    rintro e w0 ⟨rfl, hb0⟩
    have HB0 : Below w.heap.size w w0 := Below.trans (Below.alloc (Below.refl _ _) (Nat.le_refl _) _) (hb0.mono (by simp))
    go_wp2_with fail
    go_ret
    exact ⟨ret_str HT.out.symm, HB0⟩
end Isa
end Go.Proofs.YtgiocecpkhmhhaaGreatDoor
