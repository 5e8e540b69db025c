/- The layer's small test: the chapter's rows. -/
import Derived.Test.YtnaefpjbeidkgaaDoorIsaZeros
import Derived.Test.YtnaefpjbeidkgaaDoorIsaEq
namespace Go.Proofs.YtnaefpjbeidkgaaDoor
open Go.ChangeShapes Go.WideShapes Go.ChangeAt Go.RowKit
namespace Isa
set_option linter.unusedVariables false
set_option linter.unusedSimpArgs false
theorem row_block {W : World} {V : Nat} {l : List Int} {t : TypeId} {fr : Nat × Nat} (h : W.heap[V]? = some (.cells (bts l) t fr)) (hb : ∀ z ∈ l, 0 ≤ z ∧ z ≤ 255) : Row W (some ⟨V, 0, none⟩) l.length l :=
  ⟨rfl, hb, .inr ⟨V, 0, rfl, fun i hi => by rw [Nat.zero_add, cells_at h, bts_at l i hi]⟩⟩
/-- Read of a new row -/
theorem read_new (l : List Int) (n : Nat) (hn : l.length = n) (hb : ∀ z ∈ l, 0 ≤ z ∧ z ≤ 255) (h64 : n ≤ 9223372036854775807) (W : World) (hT : Tabs W) (t : TypeId) (cs : Array Value) (hcs : cs = bts l) (i : Iv) (hi : rdI l = i) (e : Int) (he : rdE l = e) (V : Nat) (hV : W.heap.size = V) :
    Calls Tryd.prog 20 #[.slice (some ⟨V, 0, none⟩) n n] (W.alloc (.cells cs t)) fun en w' => en = .returned (.tuple #[iv i, .int .i64 e]) ∧ Below W.heap.size W w' := by
  subst hi he hn hcs hV
  have hb1 := (Below.refl W.heap.size W).alloc (Nat.le_refl _) (.cells (bts l) t)
  refine (read_any l _ l.length l.length (Nat.le_refl _) h64 _ (hT.below hb1 (Nat.le_refl _)) (row_block (alloc_new _ _) hb)).mono ?_
  rintro en w' ⟨rfl, h2⟩
  exact ⟨rfl, hb1.trans (h2.mono (by simp))⟩
theorem k1 : bytesV ⟨1, 0, 0, 258⟩ = .agg #[.int .u8 1, .int .u8 0, .int .u8 0, .int .u8 0, .int .u8 2, .int .u8 1, .int .u8 0, .int .u8 0] := by rfl
theorem k2 : rdI [23, 1, 2, 0, 0, 0, 0, 0] = ⟨23, 1, 2, 0⟩ := by decide +kernel
theorem k3 : rdE [23, 1, 2, 0, 0, 0, 0, 0] = 0 := by decide +kernel
theorem k4 : txt ⟨23, 1, 2, 0⟩ = [114, 101, 97, 100, 32, 49, 32, 50] := by decide +kernel
theorem k5 : txt ⟨17, 2, 0, 16⟩ = [108, 111, 97, 100, 50, 32, 49, 54] := by decide +kernel
theorem k6 : rdE [17, 3, 0, 0, 0, 0, 0, 0] = 90 ∧ rdI [17, 3, 0, 0, 0, 0, 0, 0] = ⟨0, 0, 0, 0⟩ := by decide +kernel
theorem k7 : rdE [0, 0, 0, 0, 0, 0, 0, 0] = 90 ∧ rdI [0, 0, 0, 0, 0, 0, 0, 0] = ⟨0, 0, 0, 0⟩ := by decide +kernel
theorem k8 : rdE [2, 0, 0, 0, 1, 0, 0, 0] = 90 ∧ rdI [2, 0, 0, 0, 1, 0, 0, 0] = ⟨0, 0, 0, 0⟩ := by decide +kernel
theorem k9 : rdE [0, 0, 0, 0, 0, 0, 0] = 40 ∧ rdI [0, 0, 0, 0, 0, 0, 0] = ⟨0, 0, 0, 0⟩ := by decide +kernel
theorem eqA (w : World) : (Op.equalIn 10000 27 (.agg #[.int .u8 1, .int .u8 0, .int .u8 0, .int .u8 0, .int .u8 2, .int .u8 1, .int .u8 0, .int .u8 0]) (.agg #[.int .u8 1, .int .u8 0, .int .u8 0, .int .u8 0, .int .u8 2, .int .u8 1, .int .u8 0, .int .u8 0])).run Tryd.prog w = .ok true w := by kernel_rfl
theorem eqB (w : World) : (Op.equalIn 10000 25 (.agg #[.int .u8 23, .int .u8 1, .int .u16 2, .int .u32 0]) (.agg #[.int .u8 23, .int .u8 1, .int .u16 2, .int .u32 0])).run Tryd.prog w = .ok true w := by kernel_rfl
set_option maxHeartbeats 1600000 in
theorem known_any (w : World) (hT : Tabs w) : Calls Tryd.prog 8 #[] w fun e w' => e = .returned (.bool true) ∧ Below w.heap.size w w' := by
  have h1 := bytes_any ⟨1, 0, 0, 258⟩ ⟨by decide, by decide, by decide, by decide⟩ w
  rw [k1] at h1
  have H1 := Lib.hid h1
  have HT := Lib.hid (fun W (hb : Below w.heap.size w W) => hT.below hb (Nat.le_refl _))
  have H4 : Hid (∀ W, Below w.heap.size w W → Calls Tryd.prog 13 #[.agg #[.int .u8 23, .int .u8 1, .int .u16 2, .int .u32 0]] W fun e w' => e = .returned (.string ⟨#[114, 101, 97, 100, 32, 49, 32, 50]⟩) ∧ Below W.heap.size W w') := fun W hb => by
    have := text_any ⟨23, 1, 2, 0⟩ ⟨by decide, by decide, by decide, by decide⟩ W (hT.below hb (Nat.le_refl _))
    rw [k4] at this
    exact this
  have H5 : Hid (∀ W, Below w.heap.size w W → Calls Tryd.prog 13 #[.agg #[.int .u8 17, .int .u8 2, .int .u16 0, .int .u32 16]] W fun e w' => e = .returned (.string ⟨#[108, 111, 97, 100, 50, 32, 49, 54]⟩) ∧ Below W.heap.size W w') := fun W hb => by
    have := text_any ⟨17, 2, 0, 16⟩ ⟨by decide, by decide, by decide, by decide⟩ W (hT.below hb (Nat.le_refl _))
    rw [k5] at this
    exact this
  clear h1 hT
  go_enter Tryd.func8, Tryd.ntmps8
  go_wp2_with fail
  refine H1.out.mono ?_
  rintro e w1 ⟨rfl, hb1⟩
  go_wp2_with fail
  have HB1 : Hid (Below w.heap.size w (w1.alloc (.cells #[.int .u8 1, .int .u8 0, .int .u8 0, .int .u8 0, .int .u8 2, .int .u8 1, .int .u8 0, .int .u8 0] 27))) := Below.alloc hb1 hb1.size _
  have HX1 : Hid ((w1.alloc (.cells #[.int .u8 1, .int .u8 0, .int .u8 0, .int .u8 0, .int .u8 2, .int .u8 1, .int .u8 0, .int .u8 0] 27)).heap[w1.heap.size]? = some (.cells #[.int .u8 1, .int .u8 0, .int .u8 0, .int .u8 0, .int .u8 2, .int .u8 1, .int .u8 0, .int .u8 0] 27)) := alloc_new _ _
  have hsz : (w1.alloc (.cells #[.int .u8 1, .int .u8 0, .int .u8 0, .int .u8 0, .int .u8 2, .int .u8 1, .int .u8 0, .int .u8 0] 27)).heap.size = w1.heap.size + 1 := World.size_alloc _ _
  have hw1 := hb1.size
  generalize w1.alloc (.cells #[.int .u8 1, .int .u8 0, .int .u8 0, .int .u8 0, .int .u8 2, .int .u8 1, .int .u8 0, .int .u8 0] 27) = W1 at *
  generalize w1.heap.size = V1 at *
  clear hb1 w1
  refine (read_new [23, 1, 2, 0, 0, 0, 0, 0] 8 rfl (by decide) (by omega) W1 (HT.out _ HB1.out) 5 _ rfl ⟨23, 1, 2, 0⟩ k2 0 k3 (V1 + 1) hsz).mono ?_
  unfold iv
  rintro e w2 ⟨rfl, hb2⟩
  have hs2 := hb2.size
  have HB2 : ∀ o, Below w.heap.size w (w2.alloc o) := fun o => Below.alloc (HB1.out.trans (hb2.mono HB1.out.size)) (by omega) _
  have HX2 := Lib.hid ((hb2.block _ (lt_of_block HX1.out)).trans HX1.out)
  have HX3 := Lib.hid (fun o => (Below.heap_alloc w2 o V1 (by omega)).trans HX2.out)
  have c0 := fun o => (cells_at (HX3.out o) 0).trans (rfl : (#[.int .u8 1, .int .u8 0, .int .u8 0, .int .u8 0, .int .u8 2, .int .u8 1, .int .u8 0, .int .u8 0] : Array Value)[0]? = some (.int .u8 1))
  have c1 := fun o => (cells_at (HX3.out o) 1).trans (rfl : (#[.int .u8 1, .int .u8 0, .int .u8 0, .int .u8 0, .int .u8 2, .int .u8 1, .int .u8 0, .int .u8 0] : Array Value)[1]? = some (.int .u8 0))
  have c2 := fun o => (cells_at (HX3.out o) 2).trans (rfl : (#[.int .u8 1, .int .u8 0, .int .u8 0, .int .u8 0, .int .u8 2, .int .u8 1, .int .u8 0, .int .u8 0] : Array Value)[2]? = some (.int .u8 0))
  have c3 := fun o => (cells_at (HX3.out o) 3).trans (rfl : (#[.int .u8 1, .int .u8 0, .int .u8 0, .int .u8 0, .int .u8 2, .int .u8 1, .int .u8 0, .int .u8 0] : Array Value)[3]? = some (.int .u8 0))
  have c4 := fun o => (cells_at (HX3.out o) 4).trans (rfl : (#[.int .u8 1, .int .u8 0, .int .u8 0, .int .u8 0, .int .u8 2, .int .u8 1, .int .u8 0, .int .u8 0] : Array Value)[4]? = some (.int .u8 2))
  have c5 := fun o => (cells_at (HX3.out o) 5).trans (rfl : (#[.int .u8 1, .int .u8 0, .int .u8 0, .int .u8 0, .int .u8 2, .int .u8 1, .int .u8 0, .int .u8 0] : Array Value)[5]? = some (.int .u8 1))
  have c6 := fun o => (cells_at (HX3.out o) 6).trans (rfl : (#[.int .u8 1, .int .u8 0, .int .u8 0, .int .u8 0, .int .u8 2, .int .u8 1, .int .u8 0, .int .u8 0] : Array Value)[6]? = some (.int .u8 0))
  have c7 := fun o => (cells_at (HX3.out o) 7).trans (rfl : (#[.int .u8 1, .int .u8 0, .int .u8 0, .int .u8 0, .int .u8 2, .int .u8 1, .int .u8 0, .int .u8 0] : Array Value)[7]? = some (.int .u8 0))
  go_wp2_with (first | (simp only [eqA, Result.andThen_ok, Bool.not_true]) | (simp only [eqB, Result.andThen_ok, Bool.not_true]) | simp only [c0] | simp only [c1] | simp only [c2] | simp only [c3] | simp only [c4] | simp only [c5] | simp only [c6] | simp only [c7])
  refine (H4.out _ (HB2 _)).mono ?_
  rintro e w3 ⟨rfl, hb3⟩
  have HB3 := (HB2 (.cells #[.int .u8 23, .int .u8 1, .int .u16 2, .int .u32 0] 25)).trans (hb3.mono (HB2 (.cells #[.int .u8 23, .int .u8 1, .int .u16 2, .int .u32 0] 25)).size)
  go_wp2_with fail
  refine (H5.out _ HB3).mono ?_
  rintro e w4 ⟨rfl, hb4⟩
  have HB4 := HB3.trans (hb4.mono HB3.size)
  clear hb4 hb3 HB3 HX3 HX2 HB2 hb2 hs2 c0 c1 c2 c3 c4 c5 c6 c7
  go_wp2_with fail
  refine (read_new [17, 3, 0, 0, 0, 0, 0, 0] 8 rfl (by decide) (by omega) _ (HT.out _ HB4) 5 _ rfl ⟨0, 0, 0, 0⟩ k6.2 90 k6.1 _ rfl).mono ?_
  unfold iv
  rintro e w5 ⟨rfl, hb5⟩
  have HB5 : Below w.heap.size w (w5.alloc (.cells #[.int .u8 0, .int .u8 0, .int .u16 0, .int .u32 0] 25)) := Below.alloc (HB4.trans (hb5.mono HB4.size)) (Nat.le_trans HB4.size hb5.size) _
  clear HB4 hb5
  go_wp2_with (first | rw [mk8] | rw [mk7])
  refine (read_new [0, 0, 0, 0, 0, 0, 0, 0] 8 rfl (by decide) (by omega) (w5.alloc (.cells #[.int .u8 0, .int .u8 0, .int .u16 0, .int .u32 0] 25)) (HT.out _ HB5) 5 _ rfl ⟨0, 0, 0, 0⟩ k7.2 90 k7.1 (w5.heap.size + 1) (World.size_alloc _ _)).mono ?_
  unfold iv
  rintro e w6 ⟨rfl, hb6⟩
  have HB6 : Below w.heap.size w (w6.alloc (.cells #[.int .u8 0, .int .u8 0, .int .u16 0, .int .u32 0] 25)) := Below.alloc (HB5.trans (hb6.mono HB5.size)) (Nat.le_trans HB5.size hb6.size) _
  clear HB5 hb6
  go_wp2_with (first | rw [mk8] | rw [mk7])
  refine (read_new [2, 0, 0, 0, 1, 0, 0, 0] 8 rfl (by decide) (by omega) (w6.alloc (.cells #[.int .u8 0, .int .u8 0, .int .u16 0, .int .u32 0] 25)) (HT.out _ HB6) 5 _ rfl ⟨0, 0, 0, 0⟩ k8.2 90 k8.1 (w6.heap.size + 1) (World.size_alloc _ _)).mono ?_
  unfold iv
  rintro e w7 ⟨rfl, hb7⟩
  have HB7 : Below w.heap.size w (w7.alloc (.cells #[.int .u8 0, .int .u8 0, .int .u16 0, .int .u32 0] 25)) := Below.alloc (HB6.trans (hb7.mono HB6.size)) (Nat.le_trans HB6.size hb7.size) _
  clear HB6 hb7
  go_wp2_with (first | rw [mk8] | rw [mk7])
  refine (read_new [0, 0, 0, 0, 0, 0, 0] 7 rfl (by decide) (by omega) (w7.alloc (.cells #[.int .u8 0, .int .u8 0, .int .u16 0, .int .u32 0] 25)) (HT.out _ HB7) 5 _ rfl ⟨0, 0, 0, 0⟩ k9.2 40 k9.1 (w7.heap.size + 1) (World.size_alloc _ _)).mono ?_
  unfold iv
  rintro e w8 ⟨rfl, hb8⟩
  have HB8 : Below w.heap.size w (w8.alloc (.cells #[.int .u8 0, .int .u8 0, .int .u16 0, .int .u32 0] 25)) := Below.alloc (HB7.trans (hb8.mono HB7.size)) (Nat.le_trans HB7.size hb8.size) _
  clear HB7 hb8
  go_wp2_with fail
  go_ret
  exact ⟨rfl, HB8⟩
end Isa
end Go.Proofs.YtnaefpjbeidkgaaDoor
