/- The program's answers: the bytes of instructions. -/
import Derived.Test.YtgiocecpkhmhhaaGreatDoorAsmW4
import Derived.Test.YtgiocecpkhmhhaaGreatDoorAsmR7
import Derived.Test.YtgiocecpkhmhhaaGreatDoorIsaW3
namespace Go.Proofs.YtgiocecpkhmhhaaGreatDoor
open Go.ChangeShapes Go.WideShapes Go.ChangeAt Go.RowKit
namespace Asm
open Isa
set_option linter.unusedVariables false
set_option linter.unusedSimpArgs false
theorem cells8 {w : World} {V : Nat} {v0 v1 v2 v3 v4 v5 v6 v7 : Value} {t : TypeId} {fr : Nat × Nat} (h : w.heap[V]? = some (.cells #[v0, v1, v2, v3, v4, v5, v6, v7] t fr)) : ∀ j u, ([v0, v1, v2, v3, v4, v5, v6, v7] : List Value)[j]? = some u → w.cell? ⟨V, 0 + j, none⟩ = some u := fun j u hj => by
  rw [Nat.zero_add, cells_at h, List.getElem?_toArray]; exact hj
theorem make_bytes (w : World) (n : Nat) (hn : n ≤ 1000000) : ∃ w', (Instr.makeSlice 38 (.int .i64 0) (.int .i64 ((8 * n : Nat) : Int))).run Tryz.prog w = .ok (.slice (some ⟨w.heap.size, 0, none⟩) 0 (8 * n)) w' ∧
    w'.ownsRow w.heap.size 5 1 (.slice (some ⟨w.heap.size, 0, none⟩) 0 (8 * n)) 0 [] ∧ Below w.heap.size w w' := by
  obtain ⟨i0, hi, hz0, hz1, hz2⟩ := info_parts infoB
  obtain ⟨w', h1, h2, h3⟩ := run_make_own (P := Tryz.prog) w w.heap.size 38 5 i0 (.int .u8 0) 1 Tryz.underlying38 hi hz0 hz1 .i64 .i64 (8 * n) (by rw [hz2]; omega) (by unfold maxLen; omega) (Nat.le_refl _)
  exact ⟨w', h1, h2, Below.grown (Below.refl _ _) h3 (Nat.le_refl _) (fun k hk => by cases hk)⟩
set_option maxRecDepth 100000 in
set_option maxHeartbeats 3200000 in
theorem bytesLv_any (l : List Iv) (a : Option Addr) (n c : Nat) (hm : n ≤ 1000000) (w : World) (h : IRow w a n l) : Calls Tryz.prog 19 #[.slice a n c] w fun e w' =>
    ∃ v, e = .returned v ∧ w'.ownsRow w.heap.size 5 1 v (8 * n) (bv (bytesL l)) ∧ Below w.heap.size w w' := by
  have HA := Lib.hid (fun W (hb : Below w.heap.size w W) k (hk : k < n) => (h.below hb (Nat.le_refl _)).at k hk)
  have hln : l.length = n := h.1
  have HL := Lib.hid hln
  have HT := Lib.hid (fun k (hk : k < n) => bytesL_take l k (by omega))
  obtain ⟨w0, hmk, hown0, hbel0⟩ := make_bytes w n hm
  have HO0 := Lib.hid hown0
  have HB0 := Lib.hid hbel0
  rw [show ((8 * n : Nat) : Int) = (n : Int) * 8 from by omega] at hmk
  clear h hown0 hbel0
  go_enter Tryz.func19, Tryz.ntmps19
  go_wp2_with fail
  clear hmk
  go_loopw [3, 13] (fun v i wr => ∃ k : Nat, k ≤ n ∧ i = .int .i64 k ∧ wr.ownsRow w.heap.size 5 1 v (8 * k) (bv (bytesL (l.take k))) ∧ Below w.heap.size w wr) (fun _ i _ => n - (intOf i).toNat)
  case atStart => exact ⟨0, by omega, rfl, HO0.out, HB0.out⟩
  case round =>
    obtain ⟨k, hk, rfl, hown, hbel⟩ := hrel
    have HO := Lib.hid hown
    have HBl := Lib.hid hbel
    obtain ⟨va, vc, rfl, _, _⟩ := own_shape hown
    clear hown hbel
    by_cases hlt : k < n
    · have hd : decide ((k : Int) < (n : Int)) = true := decide_eq_true (by omega)
      have k0 : (0 : Int) ≤ k := by omega
      have k1 : (k : Int) < n := by omega
      obtain ⟨b, off, rfl, hc, hw⟩ := HA.out wr HBl.out k hlt
      obtain ⟨c0, c1, c2, c3⟩ := hc
      have HT2 := Lib.hid (HT.out k hlt)
      have HR := Lib.hid (fun W => bytes_any (l.getD k iv0) hw W)
      have HBy : Hid (bytesI (l.getD k iv0) = [(l.getD k iv0).op, (l.getD k iv0).a, (l.getD k iv0).b % 256, (l.getD k iv0).b / 256, (l.getD k iv0).c % 256, (l.getD k iv0).c / 256 % 256, (l.getD k iv0).c / 65536 % 256, (l.getD k iv0).c / 16777216]) := rfl
      clear hw
      unfold bytesV b8 at HR
      generalize l.getD k iv0 = x at *
      obtain ⟨op, ia, ib, ic⟩ := x
      unfold iv at HR
      simp only at *
      generalize ib % 256 = z2 at *
      generalize ib / 256 = z3 at *
      generalize ic % 256 = z4 at *
      generalize ic / 256 % 256 = z5 at *
      generalize ic / 65536 % 256 = z6 at *
      generalize ic / 16777216 = z7 at *
      obtain ⟨cs, hcs⟩ : ∃ cs, cs = (.cells #[.int .u8 op, .int .u8 ia, .int .u16 ib, .int .u32 ic] 32 : Obj) := ⟨_, rfl⟩
      have hx0 := alloc_new wr cs
      have HX := Lib.hid ((Below.refl wr.heap.size wr).alloc (Nat.le_refl _) cs)
      rw [hcs] at hx0 HX
      clear hcs
      go_wp2_with fail
      refine (HR.out _).mono ?_
      rintro e w2 ⟨rfl, hb2⟩
      have HX2 := HX.out.trans (hb2.mono HX.out.size)
      have hb3 : Below w.heap.size w w2 := HBl.out.trans (HX2.mono HBl.out.size)
      obtain ⟨cs, hcs⟩ : ∃ cs, cs = (.cells #[.int .u8 op, .int .u8 ia, .int .u8 z2, .int .u8 z3, .int .u8 z4, .int .u8 z5, .int .u8 z6, .int .u8 z7] 72 : Obj) := ⟨_, rfl⟩
      have hV := alloc_new w2 cs
      have hb4 : Below w.heap.size w (w2.alloc cs) := hb3.alloc hb3.size _
      have HX3 := HX2.alloc HX2.size cs
      have hown2 := own_below HO.out HX3 (Nat.le_refl _)
      rw [hcs] at hV hb4 hown2
      obtain ⟨g, cap, W', hap, hown2, hb5⟩ := app_row (ts := 38) Tryz.underlying38 infoB rfl (by decide) (by decide) hown2 hb4.size 8 (by decide) (by omega) w2.heap.size 0 8 _ rfl (cells8 hV) (by intro u hu; simp at hu; rcases hu with rfl | rfl | rfl | rfl | rfl | rfl | rfl | rfl <;> rfl) 38
      have HO2 := Lib.hid hown2
      have HB2 := Lib.hid (hb4.trans hb5)
      clear hown2 hb4 hb3 hb2 hb5 HX3 HX2 HX hx0 hV c0 c1 c2 c3 hcs
      go_wp2_with (at_builtin; refine wpList_append_run rfl (.tmp 19) (.tmp 20) 38 38 rfl _ _ _ W' 38 rfl rfl rfl hap ?_)
      refine ⟨⟨k + 1, by omega, by simp, ?_, HB2.out⟩, by simp [intOf]; omega⟩
      have e1 : 8 * (k + 1) = 8 * k + 8 := by omega
      have := own_off HO2.out (show _ = bv (bytesL (l.take (k + 1))) from by rw [HT2.out, HBy.out]; unfold bv; rw [List.map_append]; rfl)
      rw [e1]
      exact this
    · obtain rfl : k = n := by omega
      have hd : decide ((k : Int) < (k : Int)) = false := decide_eq_false (by omega)
      go_wp2_with fail
      go_ret
      have := HO.out
      rw [List.take_of_length_le (by rw [HL.out]; exact Nat.le_refl _)] at this
      exact ⟨_, rfl, this, HBl.out⟩
end Asm
end Go.Proofs.YtgiocecpkhmhhaaGreatDoor
