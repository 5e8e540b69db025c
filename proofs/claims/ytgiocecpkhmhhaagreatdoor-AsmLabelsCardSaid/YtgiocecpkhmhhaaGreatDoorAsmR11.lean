/- The document's own answers: what the words of a line are. (Made by tools/gen_asmr11.py.) -/
import Derived.Test.YtgiocecpkhmhhaaGreatDoorAsmR10
import Derived.Deep.DeepCutAuto
import Derived.Deep.CutBlock
namespace Go.Proofs.YtgiocecpkhmhhaaGreatDoor
open Go.ChangeShapes Go.WideShapes Go.ChangeAt Go.RowKit
namespace Asm
open Isa
set_option linter.unusedVariables false
set_option linter.unusedSimpArgs false
theorem extract_take (l : List UInt8) (k : Nat) : (sB l).extract 0 k = sB (l.take k) := by
  apply sB_of
  simp [sB]
set_option maxRecDepth 100000 in
set_option maxHeartbeats 12800000 in
theorem one_any (l : List (List UInt8)) (a : Option Addr) (n c : Nat) (hn : n ≤ c) (hc : c ≤ 9223372036854775807) (hne : l ≠ []) (hgood : ∀ s ∈ l, s ≠ []) (hlen : ∀ s ∈ l, s.length ≤ 1000000000) (w : World) (h : SRow w a n l) :
    Calls Tryz.prog 53 #[.slice a n c] w fun e w' => ∃ y : Av, e = .returned (.tuple #[avV y, .int .i64 (one l).2]) ∧ ((one l).2 = 0 → y = (one l).1) ∧ Below w.heap.size w w' := by
  obtain ⟨fst, rst, hl0⟩ : ∃ fst rst, l = fst :: rst := by
    cases l with
    | nil => exact absurd rfl hne
    | cons x r => exact ⟨x, r, rfl⟩
  have hln : rst.length + 1 = n := by rw [← h.1, hl0]; rfl
  subst hln
  have HRa := Lib.hid (fun W (hb : Below w.heap.size w W) => h.below hb (Nat.le_refl _))
  obtain ⟨_, hro⟩ := h
  obtain ⟨b0, off0, rfl, hce⟩ := hro.resolve_left (by omega)
  have hc0 : w.cell? ⟨b0, off0, none⟩ = some (.string (sB fst)) := by have := hce 0 (by omega); rw [hl0] at this; exact this
  clear hro hce hne
  have hfne : fst.length ≠ 0 := fun e => hgood fst (by rw [hl0]; simp) (List.length_eq_zero_iff.1 e)
  have hfl : fst.length ≤ 1000000000 := hlen fst (by rw [hl0]; simp)
  have hsz : ((sB fst).size : Int) = fst.length := by rw [sB_size]
  have hi : ∀ W, (Instr.index 9 (.string (sB fst)) (.int .i64 ((fst.length : Int) - 1))).run Tryz.prog W = .ok (.int .u8 ((fst.getD (fst.length - 1) 0).toNat : Int)) W := fun W => by
    have := letter fst (fst.length - 1) (by omega) W
    rwa [show ((fst.length - 1 : Nat) : Int) = (fst.length : Int) - 1 from by omega] at this
  have HLast : Hid (fst.getLast? = some (fst.getD (fst.length - 1) 0)) := by
    show _ = _
    rw [List.getLast?_eq_getElem?, List.getD_eq_getElem?_getD, List.getElem?_eq_getElem (show fst.length - 1 < fst.length by omega)]
    rfl
  have HX : Hid ((fst.getD (fst.length - 1) 0).toNat = 58 ↔ fst.getD (fst.length - 1) 0 = 58) := ⟨fun e => UInt8.toNat_inj.1 (by rw [e]; rfl), fun e => by rw [e]; rfl⟩
  generalize fst.getD (fst.length - 1) 0 = x at *
  have hx1 : decide ((0 : Int) ≤ (fst.length : Int) - 1) = true := decide_eq_true (by omega)
  obtain ⟨V0, hV0e⟩ : ∃ V0, w.heap.size = V0 := ⟨_, rfl⟩
  obtain ⟨V1, hV1e⟩ : ∃ V1, V0 + 1 = V1 := ⟨_, rfl⟩
  have hr0 : ((w.alloc (.cells #[.string ⟨#[]⟩, .int .u8 0, .int .u8 0, .int .u16 0, .int .u32 0, .string ⟨#[]⟩] 34)).alloc (.cells #[.string ⟨#[]⟩, .int .u8 0, .int .u8 0, .int .u16 0, .int .u32 0, .string ⟨#[]⟩] 34)).heap[V0]? = some (.cells #[.string ⟨#[]⟩, .int .u8 0, .int .u8 0, .int .u16 0, .int .u32 0, .string ⟨#[]⟩] 34) := by rw [← hV0e]; exact (Below.heap_alloc _ _ _ (by simp)).trans (alloc_new _ _)
  have hb0 : ((w.alloc (.cells #[.string ⟨#[]⟩, .int .u8 0, .int .u8 0, .int .u16 0, .int .u32 0, .string ⟨#[]⟩] 34)).alloc (.cells #[.string ⟨#[]⟩, .int .u8 0, .int .u8 0, .int .u16 0, .int .u32 0, .string ⟨#[]⟩] 34)).heap[V1]? = some (.cells #[.string ⟨#[]⟩, .int .u8 0, .int .u8 0, .int .u16 0, .int .u32 0, .string ⟨#[]⟩] 34) := by have := alloc_new (w.alloc (.cells #[.string ⟨#[]⟩, .int .u8 0, .int .u8 0, .int .u16 0, .int .u32 0, .string ⟨#[]⟩] 34)) (.cells #[.string ⟨#[]⟩, .int .u8 0, .int .u8 0, .int .u16 0, .int .u32 0, .string ⟨#[]⟩] 34); rw [World.size_alloc, hV0e, hV1e] at this; exact this
  have HB0 := Lib.hid (show Below w.heap.size w ((w.alloc (.cells #[.string ⟨#[]⟩, .int .u8 0, .int .u8 0, .int .u16 0, .int .u32 0, .string ⟨#[]⟩] 34)).alloc (.cells #[.string ⟨#[]⟩, .int .u8 0, .int .u8 0, .int .u16 0, .int .u32 0, .string ⟨#[]⟩] 34)) from by go_grown)
  have hV0 : w.heap.size ≤ V0 := by omega
  have hV1 : w.heap.size ≤ V1 := by omega
  have hV01 : V0 ≠ V1 := by omega
  have hcA : ((w.alloc (.cells #[.string ⟨#[]⟩, .int .u8 0, .int .u8 0, .int .u16 0, .int .u32 0, .string ⟨#[]⟩] 34)).alloc (.cells #[.string ⟨#[]⟩, .int .u8 0, .int .u8 0, .int .u16 0, .int .u32 0, .string ⟨#[]⟩] 34)).cell? ⟨b0, off0, none⟩ = some (.string (sB fst)) := (World.cell?_of_block (HB0.out.block b0 (World.block_lt_of_cell? _ _ hc0))).trans hc0
  clear hc0
  go_enter Tryz.func53, Tryz.ntmps53
  go_upto_if 21 with fail
  generalize (w.alloc (.cells #[.string ⟨#[]⟩, .int .u8 0, .int .u8 0, .int .u16 0, .int .u32 0, .string ⟨#[]⟩] 34)).alloc (.cells #[.string ⟨#[]⟩, .int .u8 0, .int .u8 0, .int .u16 0, .int .u32 0, .string ⟨#[]⟩] 34) = W0 at *
  clear hV0e hV1e
  go_cut [0] (fun v wx => ∃ (lb : List UInt8) (rest : List (List UInt8)) (a' : Option Addr) (n' c' : Nat), v = .slice a' n' c' ∧ one l = oneR lb rest ∧ rest.length = n' ∧ (∀ W, Below w.heap.size w W → SRow W a' n' rest) ∧ (∀ s ∈ rest, s.length ≤ 1000000000) ∧ wx.heap[V0]? = some (.cells #[.string ⟨#[]⟩, .int .u8 0, .int .u8 0, .int .u16 0, .int .u32 0, .string ⟨#[]⟩] 34) ∧ wx.heap[V1]? = some (.cells #[.string (sB lb), .int .u8 0, .int .u8 0, .int .u16 0, .int .u32 0, .string ⟨#[]⟩] 34) ∧ Below w.heap.size w wx)
  case first =>
    by_cases hx58 : x = 58
    · have hx2 : ((x.toNat : Int) == 58) = true := by rw [HX.out.2 hx58]; rfl
      obtain ⟨lb, hlb⟩ : ∃ lb, lb = fst.dropLast := ⟨_, rfl⟩
      have hlbl : lb.length ≤ 1000000000 := by rw [hlb, List.length_dropLast]; omega
      have hlast : (l.getD 0 []).getLast? = some 58 := by rw [hl0]; show fst.getLast? = _; rw [HLast.out, hx58]
      have HO1 : Hid (one l = if isLbl lb = true then oneR lb rst else (av0, 101)) := by show _ = _; unfold one; rw [if_pos hlast, hlb, hl0]; rfl
      have hsl : ∀ W, (Instr.slice 9 (.string (sB fst)) none (some (.int .i64 ((fst.length : Int) - 1))) none).run Tryz.prog W = .ok (.string (sB lb)) W := fun W => by
        rw [run_slice_string_h W 9 (sB fst) Tryz.underlying9 .i64 ((fst.length : Int) - 1) (by omega) (by rw [sB_size]; omega), show ((fst.length : Int) - 1).toNat = fst.length - 1 from by omega, extract_take, ← List.dropLast_eq_take, ← hlb]
      obtain ⟨n', hn'⟩ : ∃ n', n' = rst.length := ⟨_, rfl⟩
      obtain ⟨A, hA⟩ : ∃ A, A = (if rst.length + 1 = c then (if c = 1 then some (⟨b0, off0, none⟩ : Addr) else some ⟨b0, off0 + 1, none⟩) else some ⟨b0, off0 + 1, none⟩) := ⟨_, rfl⟩
      have hsl2 : ∀ W, (Instr.slice 48 (.slice (some ⟨b0, off0, none⟩) (rst.length + 1) c) (some (.int .i64 1)) none none).run Tryz.prog W = .ok (.slice A n' (c - 1)) W := fun W => by
        rw [hn']
        have hz := Tryz.sizeOf9 W
        rw [run_slice_l W 48 _ _ _ (by kernel_rfl) .i64 1 (by omega) (by omega), show Tryz.prog.elem 48 = 9 from by kernel_rfl, hz]
        simp only [Result.andThen, sliced, hA]
        by_cases hc1 : c = 1
        · subst hc1
          have : rst.length = 0 := by omega
          simp [this]
        · rw [if_neg (by omega)]
          split
          · simp [hc1, Addr.add]
          · simp [Addr.add]
      have HR : Hid (∀ W, Below w.heap.size w W → SRow W A n' rst) := fun W hb => by
        rw [hn']
        obtain ⟨_, hro⟩ := HRa.out W hb
        obtain ⟨bq, oq, eq, hce⟩ := hro.resolve_left (by omega)
        injection eq with eq
        injection eq with eq1 eq2
        subst eq1 eq2
        refine ⟨rfl, ?_⟩
        by_cases h0 : rst.length = 0
        · exact .inl h0
        · right
          refine ⟨b0, off0 + 1, by rw [hA]; split; rw [if_neg (by omega)]; rfl, fun j hj => ?_⟩
          have := hce (j + 1) (by omega)
          rw [hl0, List.getD_cons_succ] at this
          rw [← this]
          congr 2
          omega
      have HRl : Hid (rst.length = n') := hn'.symm
      have hlens : Hid (∀ s ∈ rst, s.length ≤ 1000000000) := fun s hs => hlen s (by rw [hl0]; exact List.mem_cons_of_mem _ hs)
      have HLb := Lib.hid (fun W (hb : Below w.heap.size w W) => label_any lb (by omega) W)
      have HSl2 := Lib.hid hsl2
      clear hsl2 hx58 HRa HLast HX hfne hi hlast hlb hA
      obtain ⟨y0, y1, y2, y3, y4, y5⟩ := cells6 hb0
      have hf : ∀ j, W0.frozen? ⟨V1, j, none⟩ = false := fun j => by simp [World.frozen?, hb0]
      have hb1 : (W0.setCell ⟨V1, 0, none⟩ (.string (sB lb))).heap[V1]? = some (.cells #[.string (sB lb), .int .u8 0, .int .u8 0, .int .u16 0, .int .u32 0, .string ⟨#[]⟩] 34) := by
        have := (row_set (j := 0) (u := .string (sB lb)) hb0)
        simpa using this
      have hr1 : (W0.setCell ⟨V1, 0, none⟩ (.string (sB lb))).heap[V0]? = some (.cells #[.string ⟨#[]⟩, .int .u8 0, .int .u8 0, .int .u16 0, .int .u32 0, .string ⟨#[]⟩] 34) := ((setCell_other _ ⟨V1, 0, none⟩ (.string (sB lb)) hV01).trans hr0)
      have HB1 := Lib.hid (HB0.out.setCell (p := ⟨V1, 0, none⟩) hV1 (.string (sB lb)))
      go_upto_region 5 with (first | simp only [hf] | simp only [hsl, Result.andThen_ok])
      generalize (W0.setCell ⟨V1, 0, none⟩ (.string (sB lb))) = W1 at *
      clear y0 y1 y2 y3 y4 y5 hf
      clear hb0 hr0 hsl hfl hcA hx1 hsz
      obtain ⟨y0, y1, y2, y3, y4, y5⟩ := cells6 hb1
      by_cases hlb : ¬ isLbl lb = true
      · have HE : Hid ((one l).2 = 101) := by show _ = _; rw [HO1.out, if_neg hlb]
        rw [show isLbl lb = false from by simpa using hlb] at HLb
        go_wp2_with fail
        refine (HLb.out _ HB1.out).mono ?_
        rintro e W101 ⟨rfl, hbel⟩
        have HB101 := Lib.hid (HB1.out.trans (hbel.mono HB1.out.size))
        have hb101 := (hbel.block _ (lt_of_block hb1)).trans hb1
        have hr101 := (hbel.block _ (lt_of_block hr1)).trans hr1
        clear hbel
        obtain ⟨y0, y1, y2, y3, y4, y5⟩ := cells6 hb101
        obtain ⟨z0, z1, z2, z3, z4, z5⟩ := cells6 hr101
        have hf : ∀ j, W101.frozen? ⟨V0, j, none⟩ = false := fun j => by simp [World.frozen?, hr101]
        go_wp2_with (simp only [hf])
        have hq : ((((((W101.setCell ⟨V0, 0, none⟩ (.string (sB lb))).setCell ⟨V0, 1, none⟩ (.int .u8 0)).setCell ⟨V0, 2, none⟩ (.int .u8 0)).setCell ⟨V0, 3, none⟩ (.int .u16 0)).setCell ⟨V0, 4, none⟩ (.int .u32 0)).setCell ⟨V0, 5, none⟩ (.string ⟨#[]⟩)).heap[V0]? = some (.cells #[.string (sB lb), .int .u8 0, .int .u8 0, .int .u16 0, .int .u32 0, .string ⟨#[]⟩] 34) := by
          have := (row_set (j := 5) (u := .string ⟨#[]⟩) (row_set (j := 4) (u := .int .u32 0) (row_set (j := 3) (u := .int .u16 0) (row_set (j := 2) (u := .int .u8 0) (row_set (j := 1) (u := .int .u8 0) (row_set (j := 0) (u := .string (sB lb)) hr101))))))
          simpa using this
        have HQ := Lib.hid ((((((HB101.out.setCell (p := ⟨V0, 0, none⟩) hV0 (.string (sB lb))).setCell (p := ⟨V0, 1, none⟩) hV0 (.int .u8 0)).setCell (p := ⟨V0, 2, none⟩) hV0 (.int .u8 0)).setCell (p := ⟨V0, 3, none⟩) hV0 (.int .u16 0)).setCell (p := ⟨V0, 4, none⟩) hV0 (.int .u32 0)).setCell (p := ⟨V0, 5, none⟩) hV0 (.string ⟨#[]⟩))
        obtain ⟨d0, d1, d2, d3, d4, d5⟩ := cells6 hq
        refine bodyPost_ret (v := .tuple #[.agg #[.string (sB lb), .int .u8 0, .int .u8 0, .int .u16 0, .int .u32 0, .string ⟨#[]⟩], .int .i64 101]) (by simp [results, Tryz.f53, go_sem, d0, d1, d2, d3, d4, d5]) rfl ?_
        exact ⟨⟨lb, ⟨0, 0, 0, 0⟩, []⟩, (by rw [HE.out]; rfl), (fun h => by rw [HE.out] at h; cases h), HQ.out⟩
      · have hlb := Decidable.not_not.1 hlb
        have HO : Hid (one l = oneR lb rst) := by show _ = _; rw [HO1.out, if_pos hlb]
        rw [hlb] at HLb
        go_wp2_with fail
        refine (HLb.out _ HB1.out).mono ?_
        rintro e W102 ⟨rfl, hbel⟩
        have HB102 := Lib.hid (HB1.out.trans (hbel.mono HB1.out.size))
        have hb102 := (hbel.block _ (lt_of_block hb1)).trans hb1
        have hr102 := (hbel.block _ (lt_of_block hr1)).trans hr1
        clear hbel
        have hsl2 := HSl2.out
        clear hb1 hr1 y0 y1 y2 y3 y4 y5 HO1 HLb
        go_upto_region 8 with (simp only [hsl2, Result.andThen_ok])
        clear hsl2 HSl2
        generalize W102 = W0 at *
        have HB0 := HB102
        have hr0 := hr102
        have hb0 := hb102
        clear HB102 hr102 hb102 HB1
        go_meet
        exact ⟨lb, rst, A, n', c - 1, (by rw [hn']), HO.out, HRl.out, HR.out, hlens.out, hr0, hb0, HB0.out⟩
    · have hx2 : ((x.toNat : Int) == 58) = false := beq_eq_false_iff_ne.2 (fun e => hx58 (HX.out.1 (by omega)))
      have HO : Hid (one l = oneR [] l) := by show _ = _; unfold one; rw [if_neg (by rw [hl0]; show fst.getLast? ≠ _; rw [HLast.out]; intro e; exact hx58 (Option.some.inj e))]
      obtain ⟨rest, hre⟩ : ∃ rest, rest = l := ⟨_, rfl⟩
      have HR : Hid (∀ W, Below w.heap.size w W → SRow W (some ⟨b0, off0, none⟩) (rst.length + 1) rest) := by rw [hre]; exact HRa.out
      have HRl : Hid (rest.length = rst.length + 1) := by show _ = _; rw [hre, hl0]; rfl
      have hlens : Hid (∀ s ∈ rest, s.length ≤ 1000000000) := by rw [hre]; exact hlen
      have HO : Hid (one l = oneR [] rest) := by rw [hre]; exact HO.out
      clear hre HRa HLast HX hx58 hfne hfl hsz hi hx1 hcA hlen hgood hl0
      have hb0 : W0.heap[V1]? = some (.cells #[.string (sB []), .int .u8 0, .int .u8 0, .int .u16 0, .int .u32 0, .string ⟨#[]⟩] 34) := hb0
      go_wp2_with fail
      go_meet
      exact ⟨[], rest, some ⟨b0, off0, none⟩, rst.length + 1, c, rfl, HO.out, HRl.out, HR.out, hlens.out, hr0, hb0, HB0.out⟩
  case rest =>
    obtain ⟨lb, rest, a', n', c', rfl, kHO, kHRl, kHR, khlens, hr0, hb0, kHB0⟩ := hcut
    clear HRa HLast HX hfne hfl hsz hi hx1 hcA hlen hgood hl0
    have HO := Lib.hid kHO
    have HRl := Lib.hid kHRl
    have HR := Lib.hid kHR
    have hlens := Lib.hid khlens
    have HB0 := Lib.hid kHB0
    clear kHO kHRl kHR khlens kHB0
    cases rest with
    | nil =>
      obtain rfl : n' = 0 := HRl.out.symm
      have HE : Hid ((one l).2 = 100) := by show _ = _; rw [HO.out]; rfl
      obtain ⟨y0, y1, y2, y3, y4, y5⟩ := cells6 hb0
      obtain ⟨z0, z1, z2, z3, z4, z5⟩ := cells6 hr0
      have hf : ∀ j, wc.frozen? ⟨V0, j, none⟩ = false := fun j => by simp [World.frozen?, hr0]
      go_wp2_with (simp only [hf])
      have hq : ((((((wc.setCell ⟨V0, 0, none⟩ (.string (sB lb))).setCell ⟨V0, 1, none⟩ (.int .u8 0)).setCell ⟨V0, 2, none⟩ (.int .u8 0)).setCell ⟨V0, 3, none⟩ (.int .u16 0)).setCell ⟨V0, 4, none⟩ (.int .u32 0)).setCell ⟨V0, 5, none⟩ (.string ⟨#[]⟩)).heap[V0]? = some (.cells #[.string (sB lb), .int .u8 0, .int .u8 0, .int .u16 0, .int .u32 0, .string ⟨#[]⟩] 34) := by
        have := (row_set (j := 5) (u := .string ⟨#[]⟩) (row_set (j := 4) (u := .int .u32 0) (row_set (j := 3) (u := .int .u16 0) (row_set (j := 2) (u := .int .u8 0) (row_set (j := 1) (u := .int .u8 0) (row_set (j := 0) (u := .string (sB lb)) hr0))))))
        simpa using this
      have HQ := Lib.hid ((((((HB0.out.setCell (p := ⟨V0, 0, none⟩) hV0 (.string (sB lb))).setCell (p := ⟨V0, 1, none⟩) hV0 (.int .u8 0)).setCell (p := ⟨V0, 2, none⟩) hV0 (.int .u8 0)).setCell (p := ⟨V0, 3, none⟩) hV0 (.int .u16 0)).setCell (p := ⟨V0, 4, none⟩) hV0 (.int .u32 0)).setCell (p := ⟨V0, 5, none⟩) hV0 (.string ⟨#[]⟩))
      obtain ⟨d0, d1, d2, d3, d4, d5⟩ := cells6 hq
      refine bodyPost_ret (v := .tuple #[.agg #[.string (sB lb), .int .u8 0, .int .u8 0, .int .u16 0, .int .u32 0, .string ⟨#[]⟩], .int .i64 100]) (by simp [results, Tryz.f53, go_sem, d0, d1, d2, d3, d4, d5]) rfl ?_
      exact ⟨⟨lb, ⟨0, 0, 0, 0⟩, []⟩, (by rw [HE.out]; rfl), (fun h => by rw [HE.out] at h; cases h), HQ.out⟩
    | cons w0 r =>
      have hn0 : n' = r.length + 1 := HRl.out.symm
      subst hn0
      have HRw := Lib.hid (fun W hb => HR.out W hb)
      obtain ⟨_, hro⟩ := HR.out _ HB0.out
      obtain ⟨b, off, rfl, hce⟩ := hro.resolve_left (by simp)
      have hc0 : wc.cell? ⟨b, off, none⟩ = some (.string (sB w0)) := hce 0 (by omega)
      clear hro hce
      have g0 : (((r.length + 1 : Nat) : Int) == 0) = false := beq_eq_false_iff_ne.2 (by omega)
      have HOp := Lib.hid (fun W (hb : Below w.heap.size w W) => rop2_any w0 W)
      have HI : Hid (one l = oneI lb w0 r) := HO.out
      have hlen : ∀ s ∈ r, s.length ≤ 1000000000 := fun s hs => hlens.out s (List.mem_cons_of_mem _ hs)
      have HV : Hid ((opW w0).1 ≠ 0 → (((opW w0).1 = 17 ∨ (opW w0).1 = 18) ∧ ((opW w0).2 = 1 ∨ (opW w0).2 = 2 ∨ (opW w0).2 = 4)) ∨ (1 ≤ (opW w0).1 ∧ (opW w0).1 ≤ 27 ∧ (opW w0).1 ≠ 17 ∧ (opW w0).1 ≠ 18 ∧ (opW w0).2 = 0)) := fun h => by rcases opW_inv h with ⟨q1, q2, _⟩ | ⟨q1, q2, q3, q4, q5, _⟩; exact .inl ⟨q1, q2⟩; exact .inr ⟨q1, q2, q3, q4, q5⟩
      have HID : Hid (oneI lb w0 r = if (opW w0).1 = 0 ∨ r.length ≠ want (opW w0).1 then (av0, 100) else if want (opW w0).1 = 0 then (⟨lb, ⟨(opW w0).1, (opW w0).2, 0, 0⟩, []⟩, 0) else if jumpsI (opW w0).1 = true ∧ isLbl (r.getD 0 []) = true then (⟨lb, ⟨(opW w0).1, (opW w0).2, 0, 0⟩, r.getD 0 []⟩, 0) else if isC (opW w0).1 = true ∨ isM (opW w0).1 = true then if valI (r.getD 0 []) 4294967295 < 0 then (av0, 42) else (⟨lb, ⟨(opW w0).1, (opW w0).2, 0, valI (r.getD 0 []) 4294967295⟩, []⟩, 0) else if valI (r.getD 0 []) 15 < 0 ∨ want (opW w0).1 = 2 ∧ valI (r.getD 1 []) 15 < 0 then (av0, 42) else (⟨lb, ⟨(opW w0).1, valI (r.getD 0 []) 15, if want (opW w0).1 = 2 then valI (r.getD 1 []) 15 else 0, 0⟩, []⟩, 0)) := rfl
      generalize (opW w0).1 = o at *
      generalize (opW w0).2 = z at *
      generalize sB w0 = S0 at *
      go_wp2_with fail
      refine (HOp.out _ HB0.out).mono ?_
      rintro e W103 ⟨rfl, hbel⟩
      have HB103 := Lib.hid (HB0.out.trans (hbel.mono HB0.out.size))
      have hb103 := (hbel.block _ (lt_of_block hb0)).trans hb0
      have hr103 := (hbel.block _ (lt_of_block hr0)).trans hr0
      clear hbel
      clear hc0 g0 HOp
      obtain ⟨y0, y1, y2, y3, y4, y5⟩ := cells6 hb103
      have hf : ∀ j, W103.frozen? ⟨V1, j, none⟩ = false := fun j => by simp [World.frozen?, hb103]
      have hb104 : ((W103.setCell ⟨V1, 1, none⟩ (.int .u8 o)).setCell ⟨V1, 2, none⟩ (.int .u8 z)).heap[V1]? = some (.cells #[.string (sB lb), .int .u8 o, .int .u8 z, .int .u16 0, .int .u32 0, .string ⟨#[]⟩] 34) := by
        have := (row_set (j := 2) (u := .int .u8 z) (row_set (j := 1) (u := .int .u8 o) hb103))
        simpa using this
      have hr104 : ((W103.setCell ⟨V1, 1, none⟩ (.int .u8 o)).setCell ⟨V1, 2, none⟩ (.int .u8 z)).heap[V0]? = some (.cells #[.string ⟨#[]⟩, .int .u8 0, .int .u8 0, .int .u16 0, .int .u32 0, .string ⟨#[]⟩] 34) := ((setCell_other _ ⟨V1, 2, none⟩ (.int .u8 z) hV01).trans ((setCell_other _ ⟨V1, 1, none⟩ (.int .u8 o) hV01).trans hr103))
      have HB104 := Lib.hid ((HB103.out.setCell (p := ⟨V1, 1, none⟩) hV1 (.int .u8 o)).setCell (p := ⟨V1, 2, none⟩) hV1 (.int .u8 z))
      go_upto_region 13 with (first | simp only [hf])
      generalize ((W103.setCell ⟨V1, 1, none⟩ (.int .u8 o)).setCell ⟨V1, 2, none⟩ (.int .u8 z)) = W104 at *
      clear y0 y1 y2 y3 y4 y5 hf
      clear hb103 hr103
      by_cases q0 : o = 0
      · subst q0
        have HE : Hid ((one l).2 = 100) := by show _ = _; rw [HI.out, HID.out, if_pos (.inl rfl)]
        clear HI HID HV
        obtain ⟨y0, y1, y2, y3, y4, y5⟩ := cells6 hb104
        obtain ⟨z0, z1, z2, z3, z4, z5⟩ := cells6 hr104
        have hf : ∀ j, W104.frozen? ⟨V0, j, none⟩ = false := fun j => by simp [World.frozen?, hr104]
        go_wp2_with (simp only [hf])
        have hq : ((((((W104.setCell ⟨V0, 0, none⟩ (.string (sB lb))).setCell ⟨V0, 1, none⟩ (.int .u8 0)).setCell ⟨V0, 2, none⟩ (.int .u8 z)).setCell ⟨V0, 3, none⟩ (.int .u16 0)).setCell ⟨V0, 4, none⟩ (.int .u32 0)).setCell ⟨V0, 5, none⟩ (.string ⟨#[]⟩)).heap[V0]? = some (.cells #[.string (sB lb), .int .u8 0, .int .u8 z, .int .u16 0, .int .u32 0, .string ⟨#[]⟩] 34) := by
          have := (row_set (j := 5) (u := .string ⟨#[]⟩) (row_set (j := 4) (u := .int .u32 0) (row_set (j := 3) (u := .int .u16 0) (row_set (j := 2) (u := .int .u8 z) (row_set (j := 1) (u := .int .u8 0) (row_set (j := 0) (u := .string (sB lb)) hr104))))))
          simpa using this
        have HQ := Lib.hid ((((((HB104.out.setCell (p := ⟨V0, 0, none⟩) hV0 (.string (sB lb))).setCell (p := ⟨V0, 1, none⟩) hV0 (.int .u8 0)).setCell (p := ⟨V0, 2, none⟩) hV0 (.int .u8 z)).setCell (p := ⟨V0, 3, none⟩) hV0 (.int .u16 0)).setCell (p := ⟨V0, 4, none⟩) hV0 (.int .u32 0)).setCell (p := ⟨V0, 5, none⟩) hV0 (.string ⟨#[]⟩))
        obtain ⟨d0, d1, d2, d3, d4, d5⟩ := cells6 hq
        refine bodyPost_ret (v := .tuple #[.agg #[.string (sB lb), .int .u8 0, .int .u8 z, .int .u16 0, .int .u32 0, .string ⟨#[]⟩], .int .i64 100]) (by simp [results, Tryz.f53, go_sem, d0, d1, d2, d3, d4, d5]) rfl ?_
        exact ⟨⟨lb, ⟨0, z, 0, 0⟩, []⟩, (by rw [HE.out]; rfl), (fun h => by rw [HE.out] at h; cases h), HQ.out⟩
      have hop := HV.out q0
      have hor : 1 ≤ o ∧ o ≤ 27 := by omega
      by_cases q23 : o = 23
      · subst q23
        have hw : want 23 = 2 := by decide
        by_cases hl : r.length = 2
        · have HE0 : Hid (oneI lb w0 r = if jumpsI 23 = true ∧ isLbl (r.getD 0 []) = true then (⟨lb, ⟨23, z, 0, 0⟩, r.getD 0 []⟩, 0) else if isC 23 = true ∨ isM 23 = true then if valI (r.getD 0 []) 4294967295 < 0 then (av0, 42) else (⟨lb, ⟨23, z, 0, valI (r.getD 0 []) 4294967295⟩, []⟩, 0) else if valI (r.getD 0 []) 15 < 0 ∨ want 23 = 2 ∧ valI (r.getD 1 []) 15 < 0 then (av0, 42) else (⟨lb, ⟨23, valI (r.getD 0 []) 15, if want 23 = 2 then valI (r.getD 1 []) 15 else 0, 0⟩, []⟩, 0)) := by show _ = _; rw [HID.out, if_neg (fun h => h.elim (fun h => by omega) (fun h => h (by rw [hw]; exact hl))), if_neg (by omega)]
          have gl : (((r.length + 1 : Nat) : Int) != ((1 : Int) + 2)) = false := by simp; omega
          have gl2 : (((r.length + 1 : Nat) : Int) != (3 : Int)) = false := by simp; omega
          obtain ⟨s, t, rfl⟩ := len2 hl
          rw [show ([s, t].getD 0 []) = s from rfl, show ([s, t].getD 1 []) = t from rfl] at HE0
          have hs : s.length ≤ 1000000000 := hlen s (by simp)
          have ht : t.length ≤ 1000000000 := hlen t (by simp)
          have HJm := Lib.hid (fun W (hb : Below w.heap.size w W) => rjumps_any 23 W)
          have HLb := Lib.hid (fun W (hb : Below w.heap.size w W) => label_any s (by omega) W)
          have HV1 := Lib.hid (fun W (hb : Below w.heap.size w W) => value_any s (by omega) 4294967295 (by decide) (by decide) W)
          have HV2 := Lib.hid (fun W (hb : Below w.heap.size w W) => value_any s (by omega) 15 (by decide) (by decide) W)
          have HV3 := Lib.hid (fun W (hb : Below w.heap.size w W) => value_any t (by omega) 15 (by decide) (by decide) W)
          have hj : jumpsI 23 = false := by decide
          rw [hj] at HJm HE0
          obtain ⟨_, hro⟩ := HRw.out _ HB104.out
          obtain ⟨bq, oq, eq, hce⟩ := hro.resolve_left (by simp)
          injection eq with eq
          injection eq with eq1 eq2
          subst eq1 eq2
          have hc1 := hce 1 (by simp)
          simp only [List.getD_cons_succ, List.getD_cons_zero] at hc1
          clear hro hce
          clear HID HV hl 
          rw [if_neg (by rintro ⟨h, _⟩; cases h)] at HE0
          go_wp2_with fail
          refine (HJm.out _ HB104.out).mono ?_
          rintro e W113 ⟨rfl, hbel⟩
          have HB113 := Lib.hid (HB104.out.trans (hbel.mono HB104.out.size))
          have hb113 := (hbel.block _ (lt_of_block hb104)).trans hb104
          have hr113 := (hbel.block _ (lt_of_block hr104)).trans hr104
          clear hbel
          obtain ⟨_, hro⟩ := HRw.out _ HB113.out
          obtain ⟨bq, oq, eq, hce⟩ := hro.resolve_left (by simp)
          injection eq with eq
          injection eq with eq1 eq2
          subst eq1 eq2
          have hc1 := hce 1 (by simp)
          simp only [List.getD_cons_succ, List.getD_cons_zero] at hc1
          clear hro hce
          have hcm : ¬ (isC 23 = true ∨ isM 23 = true) := by decide
          rw [if_neg hcm] at HE0
          have hvi := val_inv (s := s) (m := 15)
          generalize valI s 15 = v at *
          have hui := val_inv (s := t) (m := 15)
          generalize valI t 15 = u at *
          rw [hw, if_pos rfl] at HE0
          by_cases hv : v < 0
          · have HE : Hid ((one l).2 = 42) := by show _ = _; rw [HI.out, HE0.out, if_pos (.inl hv)]
            have gv : decide (v < 0) = true := decide_eq_true hv
            clear hvi
            go_wp2_with fail
            refine (HV2.out _ HB113.out).mono ?_
            rintro e W114 ⟨rfl, hbel⟩
            have HB114 := Lib.hid (HB113.out.trans (hbel.mono HB113.out.size))
            have hb114 := (hbel.block _ (lt_of_block hb113)).trans hb113
            have hr114 := (hbel.block _ (lt_of_block hr113)).trans hr113
            clear hbel
            obtain ⟨_, hro⟩ := HRw.out _ HB114.out
            obtain ⟨bq, oq, eq, hce⟩ := hro.resolve_left (by simp)
            injection eq with eq
            injection eq with eq1 eq2
            subst eq1 eq2
            have hc2 := hce 2 (by simp)
            simp only [List.getD_cons_succ, List.getD_cons_zero] at hc2
            clear hro hce
            go_wp2_with fail
            refine (HV3.out _ HB114.out).mono ?_
            rintro e W115 ⟨rfl, hbel⟩
            have HB115 := Lib.hid (HB114.out.trans (hbel.mono HB114.out.size))
            have hb115 := (hbel.block _ (lt_of_block hb114)).trans hb114
            have hr115 := (hbel.block _ (lt_of_block hr114)).trans hr114
            clear hbel
            obtain ⟨y0, y1, y2, y3, y4, y5⟩ := cells6 hb115
            obtain ⟨z0, z1, z2, z3, z4, z5⟩ := cells6 hr115
            have hf : ∀ j, W115.frozen? ⟨V0, j, none⟩ = false := fun j => by simp [World.frozen?, hr115]
            go_wp2_with (simp only [hf])
            have hq : ((((((W115.setCell ⟨V0, 0, none⟩ (.string (sB lb))).setCell ⟨V0, 1, none⟩ (.int .u8 23)).setCell ⟨V0, 2, none⟩ (.int .u8 z)).setCell ⟨V0, 3, none⟩ (.int .u16 0)).setCell ⟨V0, 4, none⟩ (.int .u32 0)).setCell ⟨V0, 5, none⟩ (.string ⟨#[]⟩)).heap[V0]? = some (.cells #[.string (sB lb), .int .u8 23, .int .u8 z, .int .u16 0, .int .u32 0, .string ⟨#[]⟩] 34) := by
              have := (row_set (j := 5) (u := .string ⟨#[]⟩) (row_set (j := 4) (u := .int .u32 0) (row_set (j := 3) (u := .int .u16 0) (row_set (j := 2) (u := .int .u8 z) (row_set (j := 1) (u := .int .u8 23) (row_set (j := 0) (u := .string (sB lb)) hr115))))))
              simpa using this
            have HQ := Lib.hid ((((((HB115.out.setCell (p := ⟨V0, 0, none⟩) hV0 (.string (sB lb))).setCell (p := ⟨V0, 1, none⟩) hV0 (.int .u8 23)).setCell (p := ⟨V0, 2, none⟩) hV0 (.int .u8 z)).setCell (p := ⟨V0, 3, none⟩) hV0 (.int .u16 0)).setCell (p := ⟨V0, 4, none⟩) hV0 (.int .u32 0)).setCell (p := ⟨V0, 5, none⟩) hV0 (.string ⟨#[]⟩))
            obtain ⟨d0, d1, d2, d3, d4, d5⟩ := cells6 hq
            refine bodyPost_ret (v := .tuple #[.agg #[.string (sB lb), .int .u8 23, .int .u8 z, .int .u16 0, .int .u32 0, .string ⟨#[]⟩], .int .i64 42]) (by simp [results, Tryz.f53, go_sem, d0, d1, d2, d3, d4, d5]) rfl ?_
            exact ⟨⟨lb, ⟨23, z, 0, 0⟩, []⟩, (by rw [HE.out]; rfl), (fun h => by rw [HE.out] at h; cases h), HQ.out⟩
          · by_cases hu : u < 0
            · have HE : Hid ((one l).2 = 42) := by show _ = _; rw [HI.out, HE0.out, if_pos (.inr ⟨rfl, hu⟩)]
              have gv : decide (v < 0) = false := decide_eq_false hv
              have gu : decide (u < 0) = true := decide_eq_true hu
              clear hvi hui
              go_wp2_with fail
              refine (HV2.out _ HB113.out).mono ?_
              rintro e W116 ⟨rfl, hbel⟩
              have HB116 := Lib.hid (HB113.out.trans (hbel.mono HB113.out.size))
              have hb116 := (hbel.block _ (lt_of_block hb113)).trans hb113
              have hr116 := (hbel.block _ (lt_of_block hr113)).trans hr113
              clear hbel
              obtain ⟨_, hro⟩ := HRw.out _ HB116.out
              obtain ⟨bq, oq, eq, hce⟩ := hro.resolve_left (by simp)
              injection eq with eq
              injection eq with eq1 eq2
              subst eq1 eq2
              have hc2 := hce 2 (by simp)
              simp only [List.getD_cons_succ, List.getD_cons_zero] at hc2
              clear hro hce
              go_wp2_with fail
              refine (HV3.out _ HB116.out).mono ?_
              rintro e W117 ⟨rfl, hbel⟩
              have HB117 := Lib.hid (HB116.out.trans (hbel.mono HB116.out.size))
              have hb117 := (hbel.block _ (lt_of_block hb116)).trans hb116
              have hr117 := (hbel.block _ (lt_of_block hr116)).trans hr116
              clear hbel
              obtain ⟨y0, y1, y2, y3, y4, y5⟩ := cells6 hb117
              obtain ⟨z0, z1, z2, z3, z4, z5⟩ := cells6 hr117
              have hf : ∀ j, W117.frozen? ⟨V0, j, none⟩ = false := fun j => by simp [World.frozen?, hr117]
              go_wp2_with (simp only [hf])
              have hq : ((((((W117.setCell ⟨V0, 0, none⟩ (.string (sB lb))).setCell ⟨V0, 1, none⟩ (.int .u8 23)).setCell ⟨V0, 2, none⟩ (.int .u8 z)).setCell ⟨V0, 3, none⟩ (.int .u16 0)).setCell ⟨V0, 4, none⟩ (.int .u32 0)).setCell ⟨V0, 5, none⟩ (.string ⟨#[]⟩)).heap[V0]? = some (.cells #[.string (sB lb), .int .u8 23, .int .u8 z, .int .u16 0, .int .u32 0, .string ⟨#[]⟩] 34) := by
                have := (row_set (j := 5) (u := .string ⟨#[]⟩) (row_set (j := 4) (u := .int .u32 0) (row_set (j := 3) (u := .int .u16 0) (row_set (j := 2) (u := .int .u8 z) (row_set (j := 1) (u := .int .u8 23) (row_set (j := 0) (u := .string (sB lb)) hr117))))))
                simpa using this
              have HQ := Lib.hid ((((((HB117.out.setCell (p := ⟨V0, 0, none⟩) hV0 (.string (sB lb))).setCell (p := ⟨V0, 1, none⟩) hV0 (.int .u8 23)).setCell (p := ⟨V0, 2, none⟩) hV0 (.int .u8 z)).setCell (p := ⟨V0, 3, none⟩) hV0 (.int .u16 0)).setCell (p := ⟨V0, 4, none⟩) hV0 (.int .u32 0)).setCell (p := ⟨V0, 5, none⟩) hV0 (.string ⟨#[]⟩))
              obtain ⟨d0, d1, d2, d3, d4, d5⟩ := cells6 hq
              refine bodyPost_ret (v := .tuple #[.agg #[.string (sB lb), .int .u8 23, .int .u8 z, .int .u16 0, .int .u32 0, .string ⟨#[]⟩], .int .i64 42]) (by simp [results, Tryz.f53, go_sem, d0, d1, d2, d3, d4, d5]) rfl ?_
              exact ⟨⟨lb, ⟨23, z, 0, 0⟩, []⟩, (by rw [HE.out]; rfl), (fun h => by rw [HE.out] at h; cases h), HQ.out⟩
            · have HE : Hid (one l = (⟨lb, ⟨23, v, u, 0⟩, []⟩, 0)) := by show _ = _; rw [HI.out, HE0.out, if_neg (by rintro (h | ⟨_, h⟩); exact hv h; exact hu h)]
              have gv : decide (v < 0) = false := decide_eq_false hv
              have gu : decide (u < 0) = false := decide_eq_false hu
              have hvm := (hvi (by omega)).2.1
              have hum := (hui (by omega)).2.1
              have hcv : IntKind.u8.wrap v = v := by simp [IntKind.wrap, IntKind.bits, IntKind.signed]; omega
              have hcu : IntKind.u16.wrap u = u := by simp [IntKind.wrap, IntKind.bits, IntKind.signed]; omega
              clear hvi hui
              go_wp2_with fail
              refine (HV2.out _ HB113.out).mono ?_
              rintro e W118 ⟨rfl, hbel⟩
              have HB118 := Lib.hid (HB113.out.trans (hbel.mono HB113.out.size))
              have hb118 := (hbel.block _ (lt_of_block hb113)).trans hb113
              have hr118 := (hbel.block _ (lt_of_block hr113)).trans hr113
              clear hbel
              obtain ⟨_, hro⟩ := HRw.out _ HB118.out
              obtain ⟨bq, oq, eq, hce⟩ := hro.resolve_left (by simp)
              injection eq with eq
              injection eq with eq1 eq2
              subst eq1 eq2
              have hc2 := hce 2 (by simp)
              simp only [List.getD_cons_succ, List.getD_cons_zero] at hc2
              clear hro hce
              go_wp2_with fail
              refine (HV3.out _ HB118.out).mono ?_
              rintro e W119 ⟨rfl, hbel⟩
              have HB119 := Lib.hid (HB118.out.trans (hbel.mono HB118.out.size))
              have hb119 := (hbel.block _ (lt_of_block hb118)).trans hb118
              have hr119 := (hbel.block _ (lt_of_block hr118)).trans hr118
              clear hbel
              obtain ⟨y0, y1, y2, y3, y4, y5⟩ := cells6 hb119
              have hf : ∀ j, W119.frozen? ⟨V1, j, none⟩ = false := fun j => by simp [World.frozen?, hb119]
              have hb120 : ((W119.setCell ⟨V1, 2, none⟩ (.int .u8 v)).setCell ⟨V1, 3, none⟩ (.int .u16 u)).heap[V1]? = some (.cells #[.string (sB lb), .int .u8 23, .int .u8 v, .int .u16 u, .int .u32 0, .string ⟨#[]⟩] 34) := by
                have := (row_set (j := 3) (u := .int .u16 u) (row_set (j := 2) (u := .int .u8 v) hb119))
                simpa using this
              have hr120 : ((W119.setCell ⟨V1, 2, none⟩ (.int .u8 v)).setCell ⟨V1, 3, none⟩ (.int .u16 u)).heap[V0]? = some (.cells #[.string ⟨#[]⟩, .int .u8 0, .int .u8 0, .int .u16 0, .int .u32 0, .string ⟨#[]⟩] 34) := ((setCell_other _ ⟨V1, 3, none⟩ (.int .u16 u) hV01).trans ((setCell_other _ ⟨V1, 2, none⟩ (.int .u8 v) hV01).trans hr119))
              have HB120 := Lib.hid ((HB119.out.setCell (p := ⟨V1, 2, none⟩) hV1 (.int .u8 v)).setCell (p := ⟨V1, 3, none⟩) hV1 (.int .u16 u))
              go_upto_region 39 with (first | simp only [hf])
              generalize ((W119.setCell ⟨V1, 2, none⟩ (.int .u8 v)).setCell ⟨V1, 3, none⟩ (.int .u16 u)) = W120 at *
              clear y0 y1 y2 y3 y4 y5 hf
              clear hcv hcu
              obtain ⟨y0, y1, y2, y3, y4, y5⟩ := cells6 hb120
              obtain ⟨z0, z1, z2, z3, z4, z5⟩ := cells6 hr120
              have hf : ∀ j, W120.frozen? ⟨V0, j, none⟩ = false := fun j => by simp [World.frozen?, hr120]
              go_wp2_with (simp only [hf])
              have hq : ((((((W120.setCell ⟨V0, 0, none⟩ (.string (sB lb))).setCell ⟨V0, 1, none⟩ (.int .u8 23)).setCell ⟨V0, 2, none⟩ (.int .u8 v)).setCell ⟨V0, 3, none⟩ (.int .u16 u)).setCell ⟨V0, 4, none⟩ (.int .u32 0)).setCell ⟨V0, 5, none⟩ (.string ⟨#[]⟩)).heap[V0]? = some (.cells #[.string (sB lb), .int .u8 23, .int .u8 v, .int .u16 u, .int .u32 0, .string ⟨#[]⟩] 34) := by
                have := (row_set (j := 5) (u := .string ⟨#[]⟩) (row_set (j := 4) (u := .int .u32 0) (row_set (j := 3) (u := .int .u16 u) (row_set (j := 2) (u := .int .u8 v) (row_set (j := 1) (u := .int .u8 23) (row_set (j := 0) (u := .string (sB lb)) hr120))))))
                simpa using this
              have HQ := Lib.hid ((((((HB120.out.setCell (p := ⟨V0, 0, none⟩) hV0 (.string (sB lb))).setCell (p := ⟨V0, 1, none⟩) hV0 (.int .u8 23)).setCell (p := ⟨V0, 2, none⟩) hV0 (.int .u8 v)).setCell (p := ⟨V0, 3, none⟩) hV0 (.int .u16 u)).setCell (p := ⟨V0, 4, none⟩) hV0 (.int .u32 0)).setCell (p := ⟨V0, 5, none⟩) hV0 (.string ⟨#[]⟩))
              obtain ⟨d0, d1, d2, d3, d4, d5⟩ := cells6 hq
              refine bodyPost_ret (v := .tuple #[.agg #[.string (sB lb), .int .u8 23, .int .u8 v, .int .u16 u, .int .u32 0, .string ⟨#[]⟩], .int .i64 0]) (by simp [results, Tryz.f53, go_sem, d0, d1, d2, d3, d4, d5]) rfl ?_
              exact ⟨⟨lb, ⟨23, v, u, 0⟩, []⟩, (by rw [HE.out]; rfl), (fun _ => by rw [HE.out]), HQ.out⟩
        · have HE : Hid ((one l).2 = 100) := by show _ = _; rw [HI.out, HID.out, if_pos (.inr (by rw [hw]; exact hl))]
          have gl : (((r.length + 1 : Nat) : Int) != ((1 : Int) + 2)) = true := by simp; omega
          have gl2 : (((r.length + 1 : Nat) : Int) != (3 : Int)) = true := by simp; omega
          clear HI HID HV hw hl 
          obtain ⟨y0, y1, y2, y3, y4, y5⟩ := cells6 hb104
          obtain ⟨z0, z1, z2, z3, z4, z5⟩ := cells6 hr104
          have hf : ∀ j, W104.frozen? ⟨V0, j, none⟩ = false := fun j => by simp [World.frozen?, hr104]
          go_wp2_with (simp only [hf])
          have hq : ((((((W104.setCell ⟨V0, 0, none⟩ (.string (sB lb))).setCell ⟨V0, 1, none⟩ (.int .u8 23)).setCell ⟨V0, 2, none⟩ (.int .u8 z)).setCell ⟨V0, 3, none⟩ (.int .u16 0)).setCell ⟨V0, 4, none⟩ (.int .u32 0)).setCell ⟨V0, 5, none⟩ (.string ⟨#[]⟩)).heap[V0]? = some (.cells #[.string (sB lb), .int .u8 23, .int .u8 z, .int .u16 0, .int .u32 0, .string ⟨#[]⟩] 34) := by
            have := (row_set (j := 5) (u := .string ⟨#[]⟩) (row_set (j := 4) (u := .int .u32 0) (row_set (j := 3) (u := .int .u16 0) (row_set (j := 2) (u := .int .u8 z) (row_set (j := 1) (u := .int .u8 23) (row_set (j := 0) (u := .string (sB lb)) hr104))))))
            simpa using this
          have HQ := Lib.hid ((((((HB104.out.setCell (p := ⟨V0, 0, none⟩) hV0 (.string (sB lb))).setCell (p := ⟨V0, 1, none⟩) hV0 (.int .u8 23)).setCell (p := ⟨V0, 2, none⟩) hV0 (.int .u8 z)).setCell (p := ⟨V0, 3, none⟩) hV0 (.int .u16 0)).setCell (p := ⟨V0, 4, none⟩) hV0 (.int .u32 0)).setCell (p := ⟨V0, 5, none⟩) hV0 (.string ⟨#[]⟩))
          obtain ⟨d0, d1, d2, d3, d4, d5⟩ := cells6 hq
          refine bodyPost_ret (v := .tuple #[.agg #[.string (sB lb), .int .u8 23, .int .u8 z, .int .u16 0, .int .u32 0, .string ⟨#[]⟩], .int .i64 100]) (by simp [results, Tryz.f53, go_sem, d0, d1, d2, d3, d4, d5]) rfl ?_
          exact ⟨⟨lb, ⟨23, z, 0, 0⟩, []⟩, (by rw [HE.out]; rfl), (fun h => by rw [HE.out] at h; cases h), HQ.out⟩
      by_cases q25 : o = 25
      · subst q25
        have hw : want 25 = 2 := by decide
        by_cases hl : r.length = 2
        · have HE0 : Hid (oneI lb w0 r = if jumpsI 25 = true ∧ isLbl (r.getD 0 []) = true then (⟨lb, ⟨25, z, 0, 0⟩, r.getD 0 []⟩, 0) else if isC 25 = true ∨ isM 25 = true then if valI (r.getD 0 []) 4294967295 < 0 then (av0, 42) else (⟨lb, ⟨25, z, 0, valI (r.getD 0 []) 4294967295⟩, []⟩, 0) else if valI (r.getD 0 []) 15 < 0 ∨ want 25 = 2 ∧ valI (r.getD 1 []) 15 < 0 then (av0, 42) else (⟨lb, ⟨25, valI (r.getD 0 []) 15, if want 25 = 2 then valI (r.getD 1 []) 15 else 0, 0⟩, []⟩, 0)) := by show _ = _; rw [HID.out, if_neg (fun h => h.elim (fun h => by omega) (fun h => h (by rw [hw]; exact hl))), if_neg (by omega)]
          have gl : (((r.length + 1 : Nat) : Int) != ((1 : Int) + 2)) = false := by simp; omega
          have gl2 : (((r.length + 1 : Nat) : Int) != (3 : Int)) = false := by simp; omega
          obtain ⟨s, t, rfl⟩ := len2 hl
          rw [show ([s, t].getD 0 []) = s from rfl, show ([s, t].getD 1 []) = t from rfl] at HE0
          have hs : s.length ≤ 1000000000 := hlen s (by simp)
          have ht : t.length ≤ 1000000000 := hlen t (by simp)
          have HJm := Lib.hid (fun W (hb : Below w.heap.size w W) => rjumps_any 25 W)
          have HLb := Lib.hid (fun W (hb : Below w.heap.size w W) => label_any s (by omega) W)
          have HV1 := Lib.hid (fun W (hb : Below w.heap.size w W) => value_any s (by omega) 4294967295 (by decide) (by decide) W)
          have HV2 := Lib.hid (fun W (hb : Below w.heap.size w W) => value_any s (by omega) 15 (by decide) (by decide) W)
          have HV3 := Lib.hid (fun W (hb : Below w.heap.size w W) => value_any t (by omega) 15 (by decide) (by decide) W)
          have hj : jumpsI 25 = false := by decide
          rw [hj] at HJm HE0
          obtain ⟨_, hro⟩ := HRw.out _ HB104.out
          obtain ⟨bq, oq, eq, hce⟩ := hro.resolve_left (by simp)
          injection eq with eq
          injection eq with eq1 eq2
          subst eq1 eq2
          have hc1 := hce 1 (by simp)
          simp only [List.getD_cons_succ, List.getD_cons_zero] at hc1
          clear hro hce
          clear HID HV hl 
          rw [if_neg (by rintro ⟨h, _⟩; cases h)] at HE0
          go_wp2_with fail
          refine (HJm.out _ HB104.out).mono ?_
          rintro e W129 ⟨rfl, hbel⟩
          have HB129 := Lib.hid (HB104.out.trans (hbel.mono HB104.out.size))
          have hb129 := (hbel.block _ (lt_of_block hb104)).trans hb104
          have hr129 := (hbel.block _ (lt_of_block hr104)).trans hr104
          clear hbel
          obtain ⟨_, hro⟩ := HRw.out _ HB129.out
          obtain ⟨bq, oq, eq, hce⟩ := hro.resolve_left (by simp)
          injection eq with eq
          injection eq with eq1 eq2
          subst eq1 eq2
          have hc1 := hce 1 (by simp)
          simp only [List.getD_cons_succ, List.getD_cons_zero] at hc1
          clear hro hce
          have hcm : ¬ (isC 25 = true ∨ isM 25 = true) := by decide
          rw [if_neg hcm] at HE0
          have hvi := val_inv (s := s) (m := 15)
          generalize valI s 15 = v at *
          have hui := val_inv (s := t) (m := 15)
          generalize valI t 15 = u at *
          rw [hw, if_pos rfl] at HE0
          by_cases hv : v < 0
          · have HE : Hid ((one l).2 = 42) := by show _ = _; rw [HI.out, HE0.out, if_pos (.inl hv)]
            have gv : decide (v < 0) = true := decide_eq_true hv
            clear hvi
            go_wp2_with fail
            refine (HV2.out _ HB129.out).mono ?_
            rintro e W130 ⟨rfl, hbel⟩
            have HB130 := Lib.hid (HB129.out.trans (hbel.mono HB129.out.size))
            have hb130 := (hbel.block _ (lt_of_block hb129)).trans hb129
            have hr130 := (hbel.block _ (lt_of_block hr129)).trans hr129
            clear hbel
            obtain ⟨_, hro⟩ := HRw.out _ HB130.out
            obtain ⟨bq, oq, eq, hce⟩ := hro.resolve_left (by simp)
            injection eq with eq
            injection eq with eq1 eq2
            subst eq1 eq2
            have hc2 := hce 2 (by simp)
            simp only [List.getD_cons_succ, List.getD_cons_zero] at hc2
            clear hro hce
            go_wp2_with fail
            refine (HV3.out _ HB130.out).mono ?_
            rintro e W131 ⟨rfl, hbel⟩
            have HB131 := Lib.hid (HB130.out.trans (hbel.mono HB130.out.size))
            have hb131 := (hbel.block _ (lt_of_block hb130)).trans hb130
            have hr131 := (hbel.block _ (lt_of_block hr130)).trans hr130
            clear hbel
            obtain ⟨y0, y1, y2, y3, y4, y5⟩ := cells6 hb131
            obtain ⟨z0, z1, z2, z3, z4, z5⟩ := cells6 hr131
            have hf : ∀ j, W131.frozen? ⟨V0, j, none⟩ = false := fun j => by simp [World.frozen?, hr131]
            go_wp2_with (simp only [hf])
            have hq : ((((((W131.setCell ⟨V0, 0, none⟩ (.string (sB lb))).setCell ⟨V0, 1, none⟩ (.int .u8 25)).setCell ⟨V0, 2, none⟩ (.int .u8 z)).setCell ⟨V0, 3, none⟩ (.int .u16 0)).setCell ⟨V0, 4, none⟩ (.int .u32 0)).setCell ⟨V0, 5, none⟩ (.string ⟨#[]⟩)).heap[V0]? = some (.cells #[.string (sB lb), .int .u8 25, .int .u8 z, .int .u16 0, .int .u32 0, .string ⟨#[]⟩] 34) := by
              have := (row_set (j := 5) (u := .string ⟨#[]⟩) (row_set (j := 4) (u := .int .u32 0) (row_set (j := 3) (u := .int .u16 0) (row_set (j := 2) (u := .int .u8 z) (row_set (j := 1) (u := .int .u8 25) (row_set (j := 0) (u := .string (sB lb)) hr131))))))
              simpa using this
            have HQ := Lib.hid ((((((HB131.out.setCell (p := ⟨V0, 0, none⟩) hV0 (.string (sB lb))).setCell (p := ⟨V0, 1, none⟩) hV0 (.int .u8 25)).setCell (p := ⟨V0, 2, none⟩) hV0 (.int .u8 z)).setCell (p := ⟨V0, 3, none⟩) hV0 (.int .u16 0)).setCell (p := ⟨V0, 4, none⟩) hV0 (.int .u32 0)).setCell (p := ⟨V0, 5, none⟩) hV0 (.string ⟨#[]⟩))
            obtain ⟨d0, d1, d2, d3, d4, d5⟩ := cells6 hq
            refine bodyPost_ret (v := .tuple #[.agg #[.string (sB lb), .int .u8 25, .int .u8 z, .int .u16 0, .int .u32 0, .string ⟨#[]⟩], .int .i64 42]) (by simp [results, Tryz.f53, go_sem, d0, d1, d2, d3, d4, d5]) rfl ?_
            exact ⟨⟨lb, ⟨25, z, 0, 0⟩, []⟩, (by rw [HE.out]; rfl), (fun h => by rw [HE.out] at h; cases h), HQ.out⟩
          · by_cases hu : u < 0
            · have HE : Hid ((one l).2 = 42) := by show _ = _; rw [HI.out, HE0.out, if_pos (.inr ⟨rfl, hu⟩)]
              have gv : decide (v < 0) = false := decide_eq_false hv
              have gu : decide (u < 0) = true := decide_eq_true hu
              clear hvi hui
              go_wp2_with fail
              refine (HV2.out _ HB129.out).mono ?_
              rintro e W132 ⟨rfl, hbel⟩
              have HB132 := Lib.hid (HB129.out.trans (hbel.mono HB129.out.size))
              have hb132 := (hbel.block _ (lt_of_block hb129)).trans hb129
              have hr132 := (hbel.block _ (lt_of_block hr129)).trans hr129
              clear hbel
              obtain ⟨_, hro⟩ := HRw.out _ HB132.out
              obtain ⟨bq, oq, eq, hce⟩ := hro.resolve_left (by simp)
              injection eq with eq
              injection eq with eq1 eq2
              subst eq1 eq2
              have hc2 := hce 2 (by simp)
              simp only [List.getD_cons_succ, List.getD_cons_zero] at hc2
              clear hro hce
              go_wp2_with fail
              refine (HV3.out _ HB132.out).mono ?_
              rintro e W133 ⟨rfl, hbel⟩
              have HB133 := Lib.hid (HB132.out.trans (hbel.mono HB132.out.size))
              have hb133 := (hbel.block _ (lt_of_block hb132)).trans hb132
              have hr133 := (hbel.block _ (lt_of_block hr132)).trans hr132
              clear hbel
              obtain ⟨y0, y1, y2, y3, y4, y5⟩ := cells6 hb133
              obtain ⟨z0, z1, z2, z3, z4, z5⟩ := cells6 hr133
              have hf : ∀ j, W133.frozen? ⟨V0, j, none⟩ = false := fun j => by simp [World.frozen?, hr133]
              go_wp2_with (simp only [hf])
              have hq : ((((((W133.setCell ⟨V0, 0, none⟩ (.string (sB lb))).setCell ⟨V0, 1, none⟩ (.int .u8 25)).setCell ⟨V0, 2, none⟩ (.int .u8 z)).setCell ⟨V0, 3, none⟩ (.int .u16 0)).setCell ⟨V0, 4, none⟩ (.int .u32 0)).setCell ⟨V0, 5, none⟩ (.string ⟨#[]⟩)).heap[V0]? = some (.cells #[.string (sB lb), .int .u8 25, .int .u8 z, .int .u16 0, .int .u32 0, .string ⟨#[]⟩] 34) := by
                have := (row_set (j := 5) (u := .string ⟨#[]⟩) (row_set (j := 4) (u := .int .u32 0) (row_set (j := 3) (u := .int .u16 0) (row_set (j := 2) (u := .int .u8 z) (row_set (j := 1) (u := .int .u8 25) (row_set (j := 0) (u := .string (sB lb)) hr133))))))
                simpa using this
              have HQ := Lib.hid ((((((HB133.out.setCell (p := ⟨V0, 0, none⟩) hV0 (.string (sB lb))).setCell (p := ⟨V0, 1, none⟩) hV0 (.int .u8 25)).setCell (p := ⟨V0, 2, none⟩) hV0 (.int .u8 z)).setCell (p := ⟨V0, 3, none⟩) hV0 (.int .u16 0)).setCell (p := ⟨V0, 4, none⟩) hV0 (.int .u32 0)).setCell (p := ⟨V0, 5, none⟩) hV0 (.string ⟨#[]⟩))
              obtain ⟨d0, d1, d2, d3, d4, d5⟩ := cells6 hq
              refine bodyPost_ret (v := .tuple #[.agg #[.string (sB lb), .int .u8 25, .int .u8 z, .int .u16 0, .int .u32 0, .string ⟨#[]⟩], .int .i64 42]) (by simp [results, Tryz.f53, go_sem, d0, d1, d2, d3, d4, d5]) rfl ?_
              exact ⟨⟨lb, ⟨25, z, 0, 0⟩, []⟩, (by rw [HE.out]; rfl), (fun h => by rw [HE.out] at h; cases h), HQ.out⟩
            · have HE : Hid (one l = (⟨lb, ⟨25, v, u, 0⟩, []⟩, 0)) := by show _ = _; rw [HI.out, HE0.out, if_neg (by rintro (h | ⟨_, h⟩); exact hv h; exact hu h)]
              have gv : decide (v < 0) = false := decide_eq_false hv
              have gu : decide (u < 0) = false := decide_eq_false hu
              have hvm := (hvi (by omega)).2.1
              have hum := (hui (by omega)).2.1
              have hcv : IntKind.u8.wrap v = v := by simp [IntKind.wrap, IntKind.bits, IntKind.signed]; omega
              have hcu : IntKind.u16.wrap u = u := by simp [IntKind.wrap, IntKind.bits, IntKind.signed]; omega
              clear hvi hui
              go_wp2_with fail
              refine (HV2.out _ HB129.out).mono ?_
              rintro e W134 ⟨rfl, hbel⟩
              have HB134 := Lib.hid (HB129.out.trans (hbel.mono HB129.out.size))
              have hb134 := (hbel.block _ (lt_of_block hb129)).trans hb129
              have hr134 := (hbel.block _ (lt_of_block hr129)).trans hr129
              clear hbel
              obtain ⟨_, hro⟩ := HRw.out _ HB134.out
              obtain ⟨bq, oq, eq, hce⟩ := hro.resolve_left (by simp)
              injection eq with eq
              injection eq with eq1 eq2
              subst eq1 eq2
              have hc2 := hce 2 (by simp)
              simp only [List.getD_cons_succ, List.getD_cons_zero] at hc2
              clear hro hce
              go_wp2_with fail
              refine (HV3.out _ HB134.out).mono ?_
              rintro e W135 ⟨rfl, hbel⟩
              have HB135 := Lib.hid (HB134.out.trans (hbel.mono HB134.out.size))
              have hb135 := (hbel.block _ (lt_of_block hb134)).trans hb134
              have hr135 := (hbel.block _ (lt_of_block hr134)).trans hr134
              clear hbel
              obtain ⟨y0, y1, y2, y3, y4, y5⟩ := cells6 hb135
              have hf : ∀ j, W135.frozen? ⟨V1, j, none⟩ = false := fun j => by simp [World.frozen?, hb135]
              have hb136 : ((W135.setCell ⟨V1, 2, none⟩ (.int .u8 v)).setCell ⟨V1, 3, none⟩ (.int .u16 u)).heap[V1]? = some (.cells #[.string (sB lb), .int .u8 25, .int .u8 v, .int .u16 u, .int .u32 0, .string ⟨#[]⟩] 34) := by
                have := (row_set (j := 3) (u := .int .u16 u) (row_set (j := 2) (u := .int .u8 v) hb135))
                simpa using this
              have hr136 : ((W135.setCell ⟨V1, 2, none⟩ (.int .u8 v)).setCell ⟨V1, 3, none⟩ (.int .u16 u)).heap[V0]? = some (.cells #[.string ⟨#[]⟩, .int .u8 0, .int .u8 0, .int .u16 0, .int .u32 0, .string ⟨#[]⟩] 34) := ((setCell_other _ ⟨V1, 3, none⟩ (.int .u16 u) hV01).trans ((setCell_other _ ⟨V1, 2, none⟩ (.int .u8 v) hV01).trans hr135))
              have HB136 := Lib.hid ((HB135.out.setCell (p := ⟨V1, 2, none⟩) hV1 (.int .u8 v)).setCell (p := ⟨V1, 3, none⟩) hV1 (.int .u16 u))
              go_upto_region 39 with (first | simp only [hf])
              generalize ((W135.setCell ⟨V1, 2, none⟩ (.int .u8 v)).setCell ⟨V1, 3, none⟩ (.int .u16 u)) = W136 at *
              clear y0 y1 y2 y3 y4 y5 hf
              clear hcv hcu
              obtain ⟨y0, y1, y2, y3, y4, y5⟩ := cells6 hb136
              obtain ⟨z0, z1, z2, z3, z4, z5⟩ := cells6 hr136
              have hf : ∀ j, W136.frozen? ⟨V0, j, none⟩ = false := fun j => by simp [World.frozen?, hr136]
              go_wp2_with (simp only [hf])
              have hq : ((((((W136.setCell ⟨V0, 0, none⟩ (.string (sB lb))).setCell ⟨V0, 1, none⟩ (.int .u8 25)).setCell ⟨V0, 2, none⟩ (.int .u8 v)).setCell ⟨V0, 3, none⟩ (.int .u16 u)).setCell ⟨V0, 4, none⟩ (.int .u32 0)).setCell ⟨V0, 5, none⟩ (.string ⟨#[]⟩)).heap[V0]? = some (.cells #[.string (sB lb), .int .u8 25, .int .u8 v, .int .u16 u, .int .u32 0, .string ⟨#[]⟩] 34) := by
                have := (row_set (j := 5) (u := .string ⟨#[]⟩) (row_set (j := 4) (u := .int .u32 0) (row_set (j := 3) (u := .int .u16 u) (row_set (j := 2) (u := .int .u8 v) (row_set (j := 1) (u := .int .u8 25) (row_set (j := 0) (u := .string (sB lb)) hr136))))))
                simpa using this
              have HQ := Lib.hid ((((((HB136.out.setCell (p := ⟨V0, 0, none⟩) hV0 (.string (sB lb))).setCell (p := ⟨V0, 1, none⟩) hV0 (.int .u8 25)).setCell (p := ⟨V0, 2, none⟩) hV0 (.int .u8 v)).setCell (p := ⟨V0, 3, none⟩) hV0 (.int .u16 u)).setCell (p := ⟨V0, 4, none⟩) hV0 (.int .u32 0)).setCell (p := ⟨V0, 5, none⟩) hV0 (.string ⟨#[]⟩))
              obtain ⟨d0, d1, d2, d3, d4, d5⟩ := cells6 hq
              refine bodyPost_ret (v := .tuple #[.agg #[.string (sB lb), .int .u8 25, .int .u8 v, .int .u16 u, .int .u32 0, .string ⟨#[]⟩], .int .i64 0]) (by simp [results, Tryz.f53, go_sem, d0, d1, d2, d3, d4, d5]) rfl ?_
              exact ⟨⟨lb, ⟨25, v, u, 0⟩, []⟩, (by rw [HE.out]; rfl), (fun _ => by rw [HE.out]), HQ.out⟩
        · have HE : Hid ((one l).2 = 100) := by show _ = _; rw [HI.out, HID.out, if_pos (.inr (by rw [hw]; exact hl))]
          have gl : (((r.length + 1 : Nat) : Int) != ((1 : Int) + 2)) = true := by simp; omega
          have gl2 : (((r.length + 1 : Nat) : Int) != (3 : Int)) = true := by simp; omega
          clear HI HID HV hw hl 
          obtain ⟨y0, y1, y2, y3, y4, y5⟩ := cells6 hb104
          obtain ⟨z0, z1, z2, z3, z4, z5⟩ := cells6 hr104
          have hf : ∀ j, W104.frozen? ⟨V0, j, none⟩ = false := fun j => by simp [World.frozen?, hr104]
          go_wp2_with (simp only [hf])
          have hq : ((((((W104.setCell ⟨V0, 0, none⟩ (.string (sB lb))).setCell ⟨V0, 1, none⟩ (.int .u8 25)).setCell ⟨V0, 2, none⟩ (.int .u8 z)).setCell ⟨V0, 3, none⟩ (.int .u16 0)).setCell ⟨V0, 4, none⟩ (.int .u32 0)).setCell ⟨V0, 5, none⟩ (.string ⟨#[]⟩)).heap[V0]? = some (.cells #[.string (sB lb), .int .u8 25, .int .u8 z, .int .u16 0, .int .u32 0, .string ⟨#[]⟩] 34) := by
            have := (row_set (j := 5) (u := .string ⟨#[]⟩) (row_set (j := 4) (u := .int .u32 0) (row_set (j := 3) (u := .int .u16 0) (row_set (j := 2) (u := .int .u8 z) (row_set (j := 1) (u := .int .u8 25) (row_set (j := 0) (u := .string (sB lb)) hr104))))))
            simpa using this
          have HQ := Lib.hid ((((((HB104.out.setCell (p := ⟨V0, 0, none⟩) hV0 (.string (sB lb))).setCell (p := ⟨V0, 1, none⟩) hV0 (.int .u8 25)).setCell (p := ⟨V0, 2, none⟩) hV0 (.int .u8 z)).setCell (p := ⟨V0, 3, none⟩) hV0 (.int .u16 0)).setCell (p := ⟨V0, 4, none⟩) hV0 (.int .u32 0)).setCell (p := ⟨V0, 5, none⟩) hV0 (.string ⟨#[]⟩))
          obtain ⟨d0, d1, d2, d3, d4, d5⟩ := cells6 hq
          refine bodyPost_ret (v := .tuple #[.agg #[.string (sB lb), .int .u8 25, .int .u8 z, .int .u16 0, .int .u32 0, .string ⟨#[]⟩], .int .i64 100]) (by simp [results, Tryz.f53, go_sem, d0, d1, d2, d3, d4, d5]) rfl ?_
          exact ⟨⟨lb, ⟨25, z, 0, 0⟩, []⟩, (by rw [HE.out]; rfl), (fun h => by rw [HE.out] at h; cases h), HQ.out⟩
      by_cases q27 : o = 27
      · subst q27
        have hw : want 27 = 0 := by decide
        by_cases hl : r.length = 0
        · have HE : Hid (one l = (⟨lb, ⟨27, z, 0, 0⟩, []⟩, 0)) := by show _ = _; rw [HI.out, HID.out, if_neg (fun h => h.elim (fun h => by omega) (fun h => h (by rw [hw]; exact hl))), if_pos hw]
          have gl : (((r.length + 1 : Nat) : Int) != ((1 : Int) + 0)) = false := by simp; omega
          have gl2 : (((r.length + 1 : Nat) : Int) != (1 : Int)) = false := by simp; omega
          clear HI HID HV hw hl 
          obtain ⟨y0, y1, y2, y3, y4, y5⟩ := cells6 hb104
          obtain ⟨z0, z1, z2, z3, z4, z5⟩ := cells6 hr104
          have hf : ∀ j, W104.frozen? ⟨V0, j, none⟩ = false := fun j => by simp [World.frozen?, hr104]
          go_wp2_with (simp only [hf])
          have hq : ((((((W104.setCell ⟨V0, 0, none⟩ (.string (sB lb))).setCell ⟨V0, 1, none⟩ (.int .u8 27)).setCell ⟨V0, 2, none⟩ (.int .u8 z)).setCell ⟨V0, 3, none⟩ (.int .u16 0)).setCell ⟨V0, 4, none⟩ (.int .u32 0)).setCell ⟨V0, 5, none⟩ (.string ⟨#[]⟩)).heap[V0]? = some (.cells #[.string (sB lb), .int .u8 27, .int .u8 z, .int .u16 0, .int .u32 0, .string ⟨#[]⟩] 34) := by
            have := (row_set (j := 5) (u := .string ⟨#[]⟩) (row_set (j := 4) (u := .int .u32 0) (row_set (j := 3) (u := .int .u16 0) (row_set (j := 2) (u := .int .u8 z) (row_set (j := 1) (u := .int .u8 27) (row_set (j := 0) (u := .string (sB lb)) hr104))))))
            simpa using this
          have HQ := Lib.hid ((((((HB104.out.setCell (p := ⟨V0, 0, none⟩) hV0 (.string (sB lb))).setCell (p := ⟨V0, 1, none⟩) hV0 (.int .u8 27)).setCell (p := ⟨V0, 2, none⟩) hV0 (.int .u8 z)).setCell (p := ⟨V0, 3, none⟩) hV0 (.int .u16 0)).setCell (p := ⟨V0, 4, none⟩) hV0 (.int .u32 0)).setCell (p := ⟨V0, 5, none⟩) hV0 (.string ⟨#[]⟩))
          obtain ⟨d0, d1, d2, d3, d4, d5⟩ := cells6 hq
          refine bodyPost_ret (v := .tuple #[.agg #[.string (sB lb), .int .u8 27, .int .u8 z, .int .u16 0, .int .u32 0, .string ⟨#[]⟩], .int .i64 0]) (by simp [results, Tryz.f53, go_sem, d0, d1, d2, d3, d4, d5]) rfl ?_
          exact ⟨⟨lb, ⟨27, z, 0, 0⟩, []⟩, (by rw [HE.out]; rfl), (fun _ => by rw [HE.out]), HQ.out⟩
        · have HE : Hid ((one l).2 = 100) := by show _ = _; rw [HI.out, HID.out, if_pos (.inr (by rw [hw]; exact hl))]
          have gl : (((r.length + 1 : Nat) : Int) != ((1 : Int) + 0)) = true := by simp; omega
          have gl2 : (((r.length + 1 : Nat) : Int) != (1 : Int)) = true := by simp; omega
          clear HI HID HV hw hl 
          obtain ⟨y0, y1, y2, y3, y4, y5⟩ := cells6 hb104
          obtain ⟨z0, z1, z2, z3, z4, z5⟩ := cells6 hr104
          have hf : ∀ j, W104.frozen? ⟨V0, j, none⟩ = false := fun j => by simp [World.frozen?, hr104]
          go_wp2_with (simp only [hf])
          have hq : ((((((W104.setCell ⟨V0, 0, none⟩ (.string (sB lb))).setCell ⟨V0, 1, none⟩ (.int .u8 27)).setCell ⟨V0, 2, none⟩ (.int .u8 z)).setCell ⟨V0, 3, none⟩ (.int .u16 0)).setCell ⟨V0, 4, none⟩ (.int .u32 0)).setCell ⟨V0, 5, none⟩ (.string ⟨#[]⟩)).heap[V0]? = some (.cells #[.string (sB lb), .int .u8 27, .int .u8 z, .int .u16 0, .int .u32 0, .string ⟨#[]⟩] 34) := by
            have := (row_set (j := 5) (u := .string ⟨#[]⟩) (row_set (j := 4) (u := .int .u32 0) (row_set (j := 3) (u := .int .u16 0) (row_set (j := 2) (u := .int .u8 z) (row_set (j := 1) (u := .int .u8 27) (row_set (j := 0) (u := .string (sB lb)) hr104))))))
            simpa using this
          have HQ := Lib.hid ((((((HB104.out.setCell (p := ⟨V0, 0, none⟩) hV0 (.string (sB lb))).setCell (p := ⟨V0, 1, none⟩) hV0 (.int .u8 27)).setCell (p := ⟨V0, 2, none⟩) hV0 (.int .u8 z)).setCell (p := ⟨V0, 3, none⟩) hV0 (.int .u16 0)).setCell (p := ⟨V0, 4, none⟩) hV0 (.int .u32 0)).setCell (p := ⟨V0, 5, none⟩) hV0 (.string ⟨#[]⟩))
          obtain ⟨d0, d1, d2, d3, d4, d5⟩ := cells6 hq
          refine bodyPost_ret (v := .tuple #[.agg #[.string (sB lb), .int .u8 27, .int .u8 z, .int .u16 0, .int .u32 0, .string ⟨#[]⟩], .int .i64 100]) (by simp [results, Tryz.f53, go_sem, d0, d1, d2, d3, d4, d5]) rfl ?_
          exact ⟨⟨lb, ⟨27, z, 0, 0⟩, []⟩, (by rw [HE.out]; rfl), (fun h => by rw [HE.out] at h; cases h), HQ.out⟩
      by_cases q1 : o = 1
      · subst q1
        have hw : want 1 = 1 := by decide
        by_cases hl : r.length = 1
        · have HE0 : Hid (oneI lb w0 r = if jumpsI 1 = true ∧ isLbl (r.getD 0 []) = true then (⟨lb, ⟨1, z, 0, 0⟩, r.getD 0 []⟩, 0) else if isC 1 = true ∨ isM 1 = true then if valI (r.getD 0 []) 4294967295 < 0 then (av0, 42) else (⟨lb, ⟨1, z, 0, valI (r.getD 0 []) 4294967295⟩, []⟩, 0) else if valI (r.getD 0 []) 15 < 0 ∨ want 1 = 2 ∧ valI (r.getD 1 []) 15 < 0 then (av0, 42) else (⟨lb, ⟨1, valI (r.getD 0 []) 15, if want 1 = 2 then valI (r.getD 1 []) 15 else 0, 0⟩, []⟩, 0)) := by show _ = _; rw [HID.out, if_neg (fun h => h.elim (fun h => by omega) (fun h => h (by rw [hw]; exact hl))), if_neg (by omega)]
          have gl : (((r.length + 1 : Nat) : Int) != ((1 : Int) + 1)) = false := by simp; omega
          have gl2 : (((r.length + 1 : Nat) : Int) != (2 : Int)) = false := by simp; omega
          obtain ⟨s, rfl⟩ := len1 hl
          rw [show ([s].getD 0 []) = s from rfl] at HE0
          have hs : s.length ≤ 1000000000 := hlen s (by simp)
          have HJm := Lib.hid (fun W (hb : Below w.heap.size w W) => rjumps_any 1 W)
          have HLb := Lib.hid (fun W (hb : Below w.heap.size w W) => label_any s (by omega) W)
          have HV1 := Lib.hid (fun W (hb : Below w.heap.size w W) => value_any s (by omega) 4294967295 (by decide) (by decide) W)
          have HV2 := Lib.hid (fun W (hb : Below w.heap.size w W) => value_any s (by omega) 15 (by decide) (by decide) W)
          have hj : jumpsI 1 = false := by decide
          rw [hj] at HJm HE0
          obtain ⟨_, hro⟩ := HRw.out _ HB104.out
          obtain ⟨bq, oq, eq, hce⟩ := hro.resolve_left (by simp)
          injection eq with eq
          injection eq with eq1 eq2
          subst eq1 eq2
          have hc1 := hce 1 (by simp)
          simp only [List.getD_cons_succ, List.getD_cons_zero] at hc1
          clear hro hce
          clear HID HV hl 
          rw [if_neg (by rintro ⟨h, _⟩; cases h)] at HE0
          go_wp2_with fail
          refine (HJm.out _ HB104.out).mono ?_
          rintro e W141 ⟨rfl, hbel⟩
          have HB141 := Lib.hid (HB104.out.trans (hbel.mono HB104.out.size))
          have hb141 := (hbel.block _ (lt_of_block hb104)).trans hb104
          have hr141 := (hbel.block _ (lt_of_block hr104)).trans hr104
          clear hbel
          obtain ⟨_, hro⟩ := HRw.out _ HB141.out
          obtain ⟨bq, oq, eq, hce⟩ := hro.resolve_left (by simp)
          injection eq with eq
          injection eq with eq1 eq2
          subst eq1 eq2
          have hc1 := hce 1 (by simp)
          simp only [List.getD_cons_succ, List.getD_cons_zero] at hc1
          clear hro hce
          have hcm : isC 1 = true ∨ isM 1 = true := (.inl (by decide))
          rw [if_pos hcm] at HE0
          have hvi := val_inv (s := s) (m := 4294967295)
          generalize valI s 4294967295 = v at *
          by_cases hv : v < 0
          · rw [if_pos hv] at HE0
            have HE : Hid ((one l).2 = 42) := by show _ = _; rw [HI.out, HE0.out]
            have gv : decide (v < 0) = true := decide_eq_true hv
            clear hvi
            go_wp2_with fail
            refine (HV1.out _ HB141.out).mono ?_
            rintro e W142 ⟨rfl, hbel⟩
            have HB142 := Lib.hid (HB141.out.trans (hbel.mono HB141.out.size))
            have hb142 := (hbel.block _ (lt_of_block hb141)).trans hb141
            have hr142 := (hbel.block _ (lt_of_block hr141)).trans hr141
            clear hbel
            obtain ⟨y0, y1, y2, y3, y4, y5⟩ := cells6 hb142
            obtain ⟨z0, z1, z2, z3, z4, z5⟩ := cells6 hr142
            have hf : ∀ j, W142.frozen? ⟨V0, j, none⟩ = false := fun j => by simp [World.frozen?, hr142]
            go_wp2_with (simp only [hf])
            have hq : ((((((W142.setCell ⟨V0, 0, none⟩ (.string (sB lb))).setCell ⟨V0, 1, none⟩ (.int .u8 1)).setCell ⟨V0, 2, none⟩ (.int .u8 z)).setCell ⟨V0, 3, none⟩ (.int .u16 0)).setCell ⟨V0, 4, none⟩ (.int .u32 0)).setCell ⟨V0, 5, none⟩ (.string ⟨#[]⟩)).heap[V0]? = some (.cells #[.string (sB lb), .int .u8 1, .int .u8 z, .int .u16 0, .int .u32 0, .string ⟨#[]⟩] 34) := by
              have := (row_set (j := 5) (u := .string ⟨#[]⟩) (row_set (j := 4) (u := .int .u32 0) (row_set (j := 3) (u := .int .u16 0) (row_set (j := 2) (u := .int .u8 z) (row_set (j := 1) (u := .int .u8 1) (row_set (j := 0) (u := .string (sB lb)) hr142))))))
              simpa using this
            have HQ := Lib.hid ((((((HB142.out.setCell (p := ⟨V0, 0, none⟩) hV0 (.string (sB lb))).setCell (p := ⟨V0, 1, none⟩) hV0 (.int .u8 1)).setCell (p := ⟨V0, 2, none⟩) hV0 (.int .u8 z)).setCell (p := ⟨V0, 3, none⟩) hV0 (.int .u16 0)).setCell (p := ⟨V0, 4, none⟩) hV0 (.int .u32 0)).setCell (p := ⟨V0, 5, none⟩) hV0 (.string ⟨#[]⟩))
            obtain ⟨d0, d1, d2, d3, d4, d5⟩ := cells6 hq
            refine bodyPost_ret (v := .tuple #[.agg #[.string (sB lb), .int .u8 1, .int .u8 z, .int .u16 0, .int .u32 0, .string ⟨#[]⟩], .int .i64 42]) (by simp [results, Tryz.f53, go_sem, d0, d1, d2, d3, d4, d5]) rfl ?_
            exact ⟨⟨lb, ⟨1, z, 0, 0⟩, []⟩, (by rw [HE.out]; rfl), (fun h => by rw [HE.out] at h; cases h), HQ.out⟩
          · rw [if_neg hv] at HE0
            have HE : Hid (one l = (⟨lb, ⟨1, z, 0, v⟩, []⟩, 0)) := by show _ = _; rw [HI.out, HE0.out]
            have gv : decide (v < 0) = false := decide_eq_false hv
            have hvm := (hvi (by omega)).2.1
            have hcv : IntKind.u32.wrap v = v := by simp [IntKind.wrap, IntKind.bits, IntKind.signed]; omega
            clear hvi
            go_wp2_with fail
            refine (HV1.out _ HB141.out).mono ?_
            rintro e W143 ⟨rfl, hbel⟩
            have HB143 := Lib.hid (HB141.out.trans (hbel.mono HB141.out.size))
            have hb143 := (hbel.block _ (lt_of_block hb141)).trans hb141
            have hr143 := (hbel.block _ (lt_of_block hr141)).trans hr141
            clear hbel
            obtain ⟨y0, y1, y2, y3, y4, y5⟩ := cells6 hb143
            have hf : ∀ j, W143.frozen? ⟨V1, j, none⟩ = false := fun j => by simp [World.frozen?, hb143]
            have hb144 : (W143.setCell ⟨V1, 4, none⟩ (.int .u32 v)).heap[V1]? = some (.cells #[.string (sB lb), .int .u8 1, .int .u8 z, .int .u16 0, .int .u32 v, .string ⟨#[]⟩] 34) := by
              have := (row_set (j := 4) (u := .int .u32 v) hb143)
              simpa using this
            have hr144 : (W143.setCell ⟨V1, 4, none⟩ (.int .u32 v)).heap[V0]? = some (.cells #[.string ⟨#[]⟩, .int .u8 0, .int .u8 0, .int .u16 0, .int .u32 0, .string ⟨#[]⟩] 34) := ((setCell_other _ ⟨V1, 4, none⟩ (.int .u32 v) hV01).trans hr143)
            have HB144 := Lib.hid (HB143.out.setCell (p := ⟨V1, 4, none⟩) hV1 (.int .u32 v))
            go_upto_region 30 with (first | simp only [hf])
            generalize (W143.setCell ⟨V1, 4, none⟩ (.int .u32 v)) = W144 at *
            clear y0 y1 y2 y3 y4 y5 hf
            clear hcv
            obtain ⟨y0, y1, y2, y3, y4, y5⟩ := cells6 hb144
            obtain ⟨z0, z1, z2, z3, z4, z5⟩ := cells6 hr144
            have hf : ∀ j, W144.frozen? ⟨V0, j, none⟩ = false := fun j => by simp [World.frozen?, hr144]
            go_wp2_with (simp only [hf])
            have hq : ((((((W144.setCell ⟨V0, 0, none⟩ (.string (sB lb))).setCell ⟨V0, 1, none⟩ (.int .u8 1)).setCell ⟨V0, 2, none⟩ (.int .u8 z)).setCell ⟨V0, 3, none⟩ (.int .u16 0)).setCell ⟨V0, 4, none⟩ (.int .u32 v)).setCell ⟨V0, 5, none⟩ (.string ⟨#[]⟩)).heap[V0]? = some (.cells #[.string (sB lb), .int .u8 1, .int .u8 z, .int .u16 0, .int .u32 v, .string ⟨#[]⟩] 34) := by
              have := (row_set (j := 5) (u := .string ⟨#[]⟩) (row_set (j := 4) (u := .int .u32 v) (row_set (j := 3) (u := .int .u16 0) (row_set (j := 2) (u := .int .u8 z) (row_set (j := 1) (u := .int .u8 1) (row_set (j := 0) (u := .string (sB lb)) hr144))))))
              simpa using this
            have HQ := Lib.hid ((((((HB144.out.setCell (p := ⟨V0, 0, none⟩) hV0 (.string (sB lb))).setCell (p := ⟨V0, 1, none⟩) hV0 (.int .u8 1)).setCell (p := ⟨V0, 2, none⟩) hV0 (.int .u8 z)).setCell (p := ⟨V0, 3, none⟩) hV0 (.int .u16 0)).setCell (p := ⟨V0, 4, none⟩) hV0 (.int .u32 v)).setCell (p := ⟨V0, 5, none⟩) hV0 (.string ⟨#[]⟩))
            obtain ⟨d0, d1, d2, d3, d4, d5⟩ := cells6 hq
            refine bodyPost_ret (v := .tuple #[.agg #[.string (sB lb), .int .u8 1, .int .u8 z, .int .u16 0, .int .u32 v, .string ⟨#[]⟩], .int .i64 0]) (by simp [results, Tryz.f53, go_sem, d0, d1, d2, d3, d4, d5]) rfl ?_
            exact ⟨⟨lb, ⟨1, z, 0, v⟩, []⟩, (by rw [HE.out]; rfl), (fun _ => by rw [HE.out]), HQ.out⟩
        · have HE : Hid ((one l).2 = 100) := by show _ = _; rw [HI.out, HID.out, if_pos (.inr (by rw [hw]; exact hl))]
          have gl : (((r.length + 1 : Nat) : Int) != ((1 : Int) + 1)) = true := by simp; omega
          have gl2 : (((r.length + 1 : Nat) : Int) != (2 : Int)) = true := by simp; omega
          clear HI HID HV hw hl 
          obtain ⟨y0, y1, y2, y3, y4, y5⟩ := cells6 hb104
          obtain ⟨z0, z1, z2, z3, z4, z5⟩ := cells6 hr104
          have hf : ∀ j, W104.frozen? ⟨V0, j, none⟩ = false := fun j => by simp [World.frozen?, hr104]
          go_wp2_with (simp only [hf])
          have hq : ((((((W104.setCell ⟨V0, 0, none⟩ (.string (sB lb))).setCell ⟨V0, 1, none⟩ (.int .u8 1)).setCell ⟨V0, 2, none⟩ (.int .u8 z)).setCell ⟨V0, 3, none⟩ (.int .u16 0)).setCell ⟨V0, 4, none⟩ (.int .u32 0)).setCell ⟨V0, 5, none⟩ (.string ⟨#[]⟩)).heap[V0]? = some (.cells #[.string (sB lb), .int .u8 1, .int .u8 z, .int .u16 0, .int .u32 0, .string ⟨#[]⟩] 34) := by
            have := (row_set (j := 5) (u := .string ⟨#[]⟩) (row_set (j := 4) (u := .int .u32 0) (row_set (j := 3) (u := .int .u16 0) (row_set (j := 2) (u := .int .u8 z) (row_set (j := 1) (u := .int .u8 1) (row_set (j := 0) (u := .string (sB lb)) hr104))))))
            simpa using this
          have HQ := Lib.hid ((((((HB104.out.setCell (p := ⟨V0, 0, none⟩) hV0 (.string (sB lb))).setCell (p := ⟨V0, 1, none⟩) hV0 (.int .u8 1)).setCell (p := ⟨V0, 2, none⟩) hV0 (.int .u8 z)).setCell (p := ⟨V0, 3, none⟩) hV0 (.int .u16 0)).setCell (p := ⟨V0, 4, none⟩) hV0 (.int .u32 0)).setCell (p := ⟨V0, 5, none⟩) hV0 (.string ⟨#[]⟩))
          obtain ⟨d0, d1, d2, d3, d4, d5⟩ := cells6 hq
          refine bodyPost_ret (v := .tuple #[.agg #[.string (sB lb), .int .u8 1, .int .u8 z, .int .u16 0, .int .u32 0, .string ⟨#[]⟩], .int .i64 100]) (by simp [results, Tryz.f53, go_sem, d0, d1, d2, d3, d4, d5]) rfl ?_
          exact ⟨⟨lb, ⟨1, z, 0, 0⟩, []⟩, (by rw [HE.out]; rfl), (fun h => by rw [HE.out] at h; cases h), HQ.out⟩
      by_cases q16 : 2 ≤ o ∧ o ≤ 16
      · have hw : want o = 0 := by unfold want; rw [if_neg (by simp; omega), if_pos (by simp; omega)]
        by_cases hl : r.length = 0
        · have HE : Hid (one l = (⟨lb, ⟨o, z, 0, 0⟩, []⟩, 0)) := by show _ = _; rw [HI.out, HID.out, if_neg (fun h => h.elim (fun h => by omega) (fun h => h (by rw [hw]; exact hl))), if_pos hw]
          have gl : (((r.length + 1 : Nat) : Int) != ((1 : Int) + 0)) = false := by simp; omega
          have gl2 : (((r.length + 1 : Nat) : Int) != (1 : Int)) = false := by simp; omega
          have p23 : (o == 23) = false := beq_eq_false_iff_ne.2 (by omega)
          have p25 : (o == 25) = false := beq_eq_false_iff_ne.2 (by omega)
          have p27 : (o == 27) = false := beq_eq_false_iff_ne.2 (by omega)
          have p0 : (o == 0) = false := beq_eq_false_iff_ne.2 (by omega)
          have p2 : decide ((2 : Int) ≤ o) = true := decide_eq_true (by omega)
          have p16 : decide (o ≤ 16) = true := decide_eq_true (by omega)
          clear HI HID HV hw hl 
          obtain ⟨y0, y1, y2, y3, y4, y5⟩ := cells6 hb104
          obtain ⟨z0, z1, z2, z3, z4, z5⟩ := cells6 hr104
          have hf : ∀ j, W104.frozen? ⟨V0, j, none⟩ = false := fun j => by simp [World.frozen?, hr104]
          go_wp2_with (simp only [hf])
          have hq : ((((((W104.setCell ⟨V0, 0, none⟩ (.string (sB lb))).setCell ⟨V0, 1, none⟩ (.int .u8 o)).setCell ⟨V0, 2, none⟩ (.int .u8 z)).setCell ⟨V0, 3, none⟩ (.int .u16 0)).setCell ⟨V0, 4, none⟩ (.int .u32 0)).setCell ⟨V0, 5, none⟩ (.string ⟨#[]⟩)).heap[V0]? = some (.cells #[.string (sB lb), .int .u8 o, .int .u8 z, .int .u16 0, .int .u32 0, .string ⟨#[]⟩] 34) := by
            have := (row_set (j := 5) (u := .string ⟨#[]⟩) (row_set (j := 4) (u := .int .u32 0) (row_set (j := 3) (u := .int .u16 0) (row_set (j := 2) (u := .int .u8 z) (row_set (j := 1) (u := .int .u8 o) (row_set (j := 0) (u := .string (sB lb)) hr104))))))
            simpa using this
          have HQ := Lib.hid ((((((HB104.out.setCell (p := ⟨V0, 0, none⟩) hV0 (.string (sB lb))).setCell (p := ⟨V0, 1, none⟩) hV0 (.int .u8 o)).setCell (p := ⟨V0, 2, none⟩) hV0 (.int .u8 z)).setCell (p := ⟨V0, 3, none⟩) hV0 (.int .u16 0)).setCell (p := ⟨V0, 4, none⟩) hV0 (.int .u32 0)).setCell (p := ⟨V0, 5, none⟩) hV0 (.string ⟨#[]⟩))
          obtain ⟨d0, d1, d2, d3, d4, d5⟩ := cells6 hq
          refine bodyPost_ret (v := .tuple #[.agg #[.string (sB lb), .int .u8 o, .int .u8 z, .int .u16 0, .int .u32 0, .string ⟨#[]⟩], .int .i64 0]) (by simp [results, Tryz.f53, go_sem, d0, d1, d2, d3, d4, d5]) rfl ?_
          exact ⟨⟨lb, ⟨o, z, 0, 0⟩, []⟩, (by rw [HE.out]; rfl), (fun _ => by rw [HE.out]), HQ.out⟩
        · have HE : Hid ((one l).2 = 100) := by show _ = _; rw [HI.out, HID.out, if_pos (.inr (by rw [hw]; exact hl))]
          have gl : (((r.length + 1 : Nat) : Int) != ((1 : Int) + 0)) = true := by simp; omega
          have gl2 : (((r.length + 1 : Nat) : Int) != (1 : Int)) = true := by simp; omega
          have p23 : (o == 23) = false := beq_eq_false_iff_ne.2 (by omega)
          have p25 : (o == 25) = false := beq_eq_false_iff_ne.2 (by omega)
          have p27 : (o == 27) = false := beq_eq_false_iff_ne.2 (by omega)
          have p0 : (o == 0) = false := beq_eq_false_iff_ne.2 (by omega)
          have p2 : decide ((2 : Int) ≤ o) = true := decide_eq_true (by omega)
          have p16 : decide (o ≤ 16) = true := decide_eq_true (by omega)
          clear HI HID HV hw hl 
          obtain ⟨y0, y1, y2, y3, y4, y5⟩ := cells6 hb104
          obtain ⟨z0, z1, z2, z3, z4, z5⟩ := cells6 hr104
          have hf : ∀ j, W104.frozen? ⟨V0, j, none⟩ = false := fun j => by simp [World.frozen?, hr104]
          go_wp2_with (simp only [hf])
          have hq : ((((((W104.setCell ⟨V0, 0, none⟩ (.string (sB lb))).setCell ⟨V0, 1, none⟩ (.int .u8 o)).setCell ⟨V0, 2, none⟩ (.int .u8 z)).setCell ⟨V0, 3, none⟩ (.int .u16 0)).setCell ⟨V0, 4, none⟩ (.int .u32 0)).setCell ⟨V0, 5, none⟩ (.string ⟨#[]⟩)).heap[V0]? = some (.cells #[.string (sB lb), .int .u8 o, .int .u8 z, .int .u16 0, .int .u32 0, .string ⟨#[]⟩] 34) := by
            have := (row_set (j := 5) (u := .string ⟨#[]⟩) (row_set (j := 4) (u := .int .u32 0) (row_set (j := 3) (u := .int .u16 0) (row_set (j := 2) (u := .int .u8 z) (row_set (j := 1) (u := .int .u8 o) (row_set (j := 0) (u := .string (sB lb)) hr104))))))
            simpa using this
          have HQ := Lib.hid ((((((HB104.out.setCell (p := ⟨V0, 0, none⟩) hV0 (.string (sB lb))).setCell (p := ⟨V0, 1, none⟩) hV0 (.int .u8 o)).setCell (p := ⟨V0, 2, none⟩) hV0 (.int .u8 z)).setCell (p := ⟨V0, 3, none⟩) hV0 (.int .u16 0)).setCell (p := ⟨V0, 4, none⟩) hV0 (.int .u32 0)).setCell (p := ⟨V0, 5, none⟩) hV0 (.string ⟨#[]⟩))
          obtain ⟨d0, d1, d2, d3, d4, d5⟩ := cells6 hq
          refine bodyPost_ret (v := .tuple #[.agg #[.string (sB lb), .int .u8 o, .int .u8 z, .int .u16 0, .int .u32 0, .string ⟨#[]⟩], .int .i64 100]) (by simp [results, Tryz.f53, go_sem, d0, d1, d2, d3, d4, d5]) rfl ?_
          exact ⟨⟨lb, ⟨o, z, 0, 0⟩, []⟩, (by rw [HE.out]; rfl), (fun h => by rw [HE.out] at h; cases h), HQ.out⟩
      by_cases q19 : o = 19 ∨ o = 20
      · have hw : want o = 1 := want_C (by unfold isC; simp; omega)
        by_cases hl : r.length = 1
        · have HE0 : Hid (oneI lb w0 r = if jumpsI o = true ∧ isLbl (r.getD 0 []) = true then (⟨lb, ⟨o, z, 0, 0⟩, r.getD 0 []⟩, 0) else if isC o = true ∨ isM o = true then if valI (r.getD 0 []) 4294967295 < 0 then (av0, 42) else (⟨lb, ⟨o, z, 0, valI (r.getD 0 []) 4294967295⟩, []⟩, 0) else if valI (r.getD 0 []) 15 < 0 ∨ want o = 2 ∧ valI (r.getD 1 []) 15 < 0 then (av0, 42) else (⟨lb, ⟨o, valI (r.getD 0 []) 15, if want o = 2 then valI (r.getD 1 []) 15 else 0, 0⟩, []⟩, 0)) := by show _ = _; rw [HID.out, if_neg (fun h => h.elim (fun h => by omega) (fun h => h (by rw [hw]; exact hl))), if_neg (by omega)]
          have gl : (((r.length + 1 : Nat) : Int) != ((1 : Int) + 1)) = false := by simp; omega
          have gl2 : (((r.length + 1 : Nat) : Int) != (2 : Int)) = false := by simp; omega
          have p23 : (o == 23) = false := beq_eq_false_iff_ne.2 (by omega)
          have p25 : (o == 25) = false := beq_eq_false_iff_ne.2 (by omega)
          have p27 : (o == 27) = false := beq_eq_false_iff_ne.2 (by omega)
          have p0 : (o == 0) = false := beq_eq_false_iff_ne.2 (by omega)
          have p1 : (o == 1) = false := beq_eq_false_iff_ne.2 (by omega)
          have p2 : decide ((2 : Int) ≤ o) = true := decide_eq_true (by omega)
          have p16 : decide (o ≤ 16) = false := decide_eq_false (by omega)
          have p17 : decide ((17 : Int) ≤ o) = true := decide_eq_true (by omega)
          have p20 : decide (o ≤ 20) = true := decide_eq_true (by omega)
          obtain ⟨s, rfl⟩ := len1 hl
          rw [show ([s].getD 0 []) = s from rfl] at HE0
          have hs : s.length ≤ 1000000000 := hlen s (by simp)
          have HJm := Lib.hid (fun W (hb : Below w.heap.size w W) => rjumps_any o W)
          have HLb := Lib.hid (fun W (hb : Below w.heap.size w W) => label_any s (by omega) W)
          have HV1 := Lib.hid (fun W (hb : Below w.heap.size w W) => value_any s (by omega) 4294967295 (by decide) (by decide) W)
          have HV2 := Lib.hid (fun W (hb : Below w.heap.size w W) => value_any s (by omega) 15 (by decide) (by decide) W)
          have hj : jumpsI o = true := by unfold jumpsI; simp; omega
          rw [hj] at HJm HE0
          obtain ⟨_, hro⟩ := HRw.out _ HB104.out
          obtain ⟨bq, oq, eq, hce⟩ := hro.resolve_left (by simp)
          injection eq with eq
          injection eq with eq1 eq2
          subst eq1 eq2
          have hc1 := hce 1 (by simp)
          simp only [List.getD_cons_succ, List.getD_cons_zero] at hc1
          clear hro hce
          clear HID HV hl 
          by_cases hb : isLbl s = true
          · rw [if_pos ⟨rfl, hb⟩] at HE0
            have HE : Hid (one l = (⟨lb, ⟨o, z, 0, 0⟩, s⟩, 0)) := by show _ = _; rw [HI.out, HE0.out]
            rw [hb] at HLb
            go_wp2_with fail
            refine (HJm.out _ HB104.out).mono ?_
            rintro e W145 ⟨rfl, hbel⟩
            have HB145 := Lib.hid (HB104.out.trans (hbel.mono HB104.out.size))
            have hb145 := (hbel.block _ (lt_of_block hb104)).trans hb104
            have hr145 := (hbel.block _ (lt_of_block hr104)).trans hr104
            clear hbel
            obtain ⟨_, hro⟩ := HRw.out _ HB145.out
            obtain ⟨bq, oq, eq, hce⟩ := hro.resolve_left (by simp)
            injection eq with eq
            injection eq with eq1 eq2
            subst eq1 eq2
            have hc1 := hce 1 (by simp)
            simp only [List.getD_cons_succ, List.getD_cons_zero] at hc1
            clear hro hce
            go_wp2_with fail
            refine (HLb.out _ HB145.out).mono ?_
            rintro e W146 ⟨rfl, hbel⟩
            have HB146 := Lib.hid (HB145.out.trans (hbel.mono HB145.out.size))
            have hb146 := (hbel.block _ (lt_of_block hb145)).trans hb145
            have hr146 := (hbel.block _ (lt_of_block hr145)).trans hr145
            clear hbel
            obtain ⟨_, hro⟩ := HRw.out _ HB146.out
            obtain ⟨bq, oq, eq, hce⟩ := hro.resolve_left (by simp)
            injection eq with eq
            injection eq with eq1 eq2
            subst eq1 eq2
            have hc1 := hce 1 (by simp)
            simp only [List.getD_cons_succ, List.getD_cons_zero] at hc1
            clear hro hce
            obtain ⟨y0, y1, y2, y3, y4, y5⟩ := cells6 hb146
            have hf : ∀ j, W146.frozen? ⟨V1, j, none⟩ = false := fun j => by simp [World.frozen?, hb146]
            have hb147 : (W146.setCell ⟨V1, 5, none⟩ (.string (sB s))).heap[V1]? = some (.cells #[.string (sB lb), .int .u8 o, .int .u8 z, .int .u16 0, .int .u32 0, .string (sB s)] 34) := by
              have := (row_set (j := 5) (u := .string (sB s)) hb146)
              simpa using this
            have hr147 : (W146.setCell ⟨V1, 5, none⟩ (.string (sB s))).heap[V0]? = some (.cells #[.string ⟨#[]⟩, .int .u8 0, .int .u8 0, .int .u16 0, .int .u32 0, .string ⟨#[]⟩] 34) := ((setCell_other _ ⟨V1, 5, none⟩ (.string (sB s)) hV01).trans hr146)
            have HB147 := Lib.hid (HB146.out.setCell (p := ⟨V1, 5, none⟩) hV1 (.string (sB s)))
            go_upto_region 24 with (first | simp only [hf])
            generalize (W146.setCell ⟨V1, 5, none⟩ (.string (sB s))) = W147 at *
            clear y0 y1 y2 y3 y4 y5 hf
            obtain ⟨y0, y1, y2, y3, y4, y5⟩ := cells6 hb147
            obtain ⟨z0, z1, z2, z3, z4, z5⟩ := cells6 hr147
            have hf : ∀ j, W147.frozen? ⟨V0, j, none⟩ = false := fun j => by simp [World.frozen?, hr147]
            go_wp2_with (simp only [hf])
            have hq : ((((((W147.setCell ⟨V0, 0, none⟩ (.string (sB lb))).setCell ⟨V0, 1, none⟩ (.int .u8 o)).setCell ⟨V0, 2, none⟩ (.int .u8 z)).setCell ⟨V0, 3, none⟩ (.int .u16 0)).setCell ⟨V0, 4, none⟩ (.int .u32 0)).setCell ⟨V0, 5, none⟩ (.string (sB s))).heap[V0]? = some (.cells #[.string (sB lb), .int .u8 o, .int .u8 z, .int .u16 0, .int .u32 0, .string (sB s)] 34) := by
              have := (row_set (j := 5) (u := .string (sB s)) (row_set (j := 4) (u := .int .u32 0) (row_set (j := 3) (u := .int .u16 0) (row_set (j := 2) (u := .int .u8 z) (row_set (j := 1) (u := .int .u8 o) (row_set (j := 0) (u := .string (sB lb)) hr147))))))
              simpa using this
            have HQ := Lib.hid ((((((HB147.out.setCell (p := ⟨V0, 0, none⟩) hV0 (.string (sB lb))).setCell (p := ⟨V0, 1, none⟩) hV0 (.int .u8 o)).setCell (p := ⟨V0, 2, none⟩) hV0 (.int .u8 z)).setCell (p := ⟨V0, 3, none⟩) hV0 (.int .u16 0)).setCell (p := ⟨V0, 4, none⟩) hV0 (.int .u32 0)).setCell (p := ⟨V0, 5, none⟩) hV0 (.string (sB s)))
            obtain ⟨d0, d1, d2, d3, d4, d5⟩ := cells6 hq
            refine bodyPost_ret (v := .tuple #[.agg #[.string (sB lb), .int .u8 o, .int .u8 z, .int .u16 0, .int .u32 0, .string (sB s)], .int .i64 0]) (by simp [results, Tryz.f53, go_sem, d0, d1, d2, d3, d4, d5]) rfl ?_
            exact ⟨⟨lb, ⟨o, z, 0, 0⟩, s⟩, (by rw [HE.out]; rfl), (fun _ => by rw [HE.out]), HQ.out⟩
          · rw [if_neg (fun h => hb h.2)] at HE0
            rw [show isLbl s = false from by simpa using hb] at HLb
            go_wp2_with fail
            refine (HJm.out _ HB104.out).mono ?_
            rintro e W148 ⟨rfl, hbel⟩
            have HB148 := Lib.hid (HB104.out.trans (hbel.mono HB104.out.size))
            have hb148 := (hbel.block _ (lt_of_block hb104)).trans hb104
            have hr148 := (hbel.block _ (lt_of_block hr104)).trans hr104
            clear hbel
            obtain ⟨_, hro⟩ := HRw.out _ HB148.out
            obtain ⟨bq, oq, eq, hce⟩ := hro.resolve_left (by simp)
            injection eq with eq
            injection eq with eq1 eq2
            subst eq1 eq2
            have hc1 := hce 1 (by simp)
            simp only [List.getD_cons_succ, List.getD_cons_zero] at hc1
            clear hro hce
            go_wp2_with fail
            refine (HLb.out _ HB148.out).mono ?_
            rintro e W149 ⟨rfl, hbel⟩
            have HB149 := Lib.hid (HB148.out.trans (hbel.mono HB148.out.size))
            have hb149 := (hbel.block _ (lt_of_block hb148)).trans hb148
            have hr149 := (hbel.block _ (lt_of_block hr148)).trans hr148
            clear hbel
            obtain ⟨_, hro⟩ := HRw.out _ HB149.out
            obtain ⟨bq, oq, eq, hce⟩ := hro.resolve_left (by simp)
            injection eq with eq
            injection eq with eq1 eq2
            subst eq1 eq2
            have hc1 := hce 1 (by simp)
            simp only [List.getD_cons_succ, List.getD_cons_zero] at hc1
            clear hro hce
            have hcm : isC o = true ∨ isM o = true := (.inl (by unfold isC; simp; omega))
            rw [if_pos hcm] at HE0
            have hvi := val_inv (s := s) (m := 4294967295)
            generalize valI s 4294967295 = v at *
            by_cases hv : v < 0
            · rw [if_pos hv] at HE0
              have HE : Hid ((one l).2 = 42) := by show _ = _; rw [HI.out, HE0.out]
              have gv : decide (v < 0) = true := decide_eq_true hv
              clear hvi
              go_wp2_with fail
              refine (HV1.out _ HB149.out).mono ?_
              rintro e W150 ⟨rfl, hbel⟩
              have HB150 := Lib.hid (HB149.out.trans (hbel.mono HB149.out.size))
              have hb150 := (hbel.block _ (lt_of_block hb149)).trans hb149
              have hr150 := (hbel.block _ (lt_of_block hr149)).trans hr149
              clear hbel
              obtain ⟨y0, y1, y2, y3, y4, y5⟩ := cells6 hb150
              obtain ⟨z0, z1, z2, z3, z4, z5⟩ := cells6 hr150
              have hf : ∀ j, W150.frozen? ⟨V0, j, none⟩ = false := fun j => by simp [World.frozen?, hr150]
              go_wp2_with (simp only [hf])
              have hq : ((((((W150.setCell ⟨V0, 0, none⟩ (.string (sB lb))).setCell ⟨V0, 1, none⟩ (.int .u8 o)).setCell ⟨V0, 2, none⟩ (.int .u8 z)).setCell ⟨V0, 3, none⟩ (.int .u16 0)).setCell ⟨V0, 4, none⟩ (.int .u32 0)).setCell ⟨V0, 5, none⟩ (.string ⟨#[]⟩)).heap[V0]? = some (.cells #[.string (sB lb), .int .u8 o, .int .u8 z, .int .u16 0, .int .u32 0, .string ⟨#[]⟩] 34) := by
                have := (row_set (j := 5) (u := .string ⟨#[]⟩) (row_set (j := 4) (u := .int .u32 0) (row_set (j := 3) (u := .int .u16 0) (row_set (j := 2) (u := .int .u8 z) (row_set (j := 1) (u := .int .u8 o) (row_set (j := 0) (u := .string (sB lb)) hr150))))))
                simpa using this
              have HQ := Lib.hid ((((((HB150.out.setCell (p := ⟨V0, 0, none⟩) hV0 (.string (sB lb))).setCell (p := ⟨V0, 1, none⟩) hV0 (.int .u8 o)).setCell (p := ⟨V0, 2, none⟩) hV0 (.int .u8 z)).setCell (p := ⟨V0, 3, none⟩) hV0 (.int .u16 0)).setCell (p := ⟨V0, 4, none⟩) hV0 (.int .u32 0)).setCell (p := ⟨V0, 5, none⟩) hV0 (.string ⟨#[]⟩))
              obtain ⟨d0, d1, d2, d3, d4, d5⟩ := cells6 hq
              refine bodyPost_ret (v := .tuple #[.agg #[.string (sB lb), .int .u8 o, .int .u8 z, .int .u16 0, .int .u32 0, .string ⟨#[]⟩], .int .i64 42]) (by simp [results, Tryz.f53, go_sem, d0, d1, d2, d3, d4, d5]) rfl ?_
              exact ⟨⟨lb, ⟨o, z, 0, 0⟩, []⟩, (by rw [HE.out]; rfl), (fun h => by rw [HE.out] at h; cases h), HQ.out⟩
            · rw [if_neg hv] at HE0
              have HE : Hid (one l = (⟨lb, ⟨o, z, 0, v⟩, []⟩, 0)) := by show _ = _; rw [HI.out, HE0.out]
              have gv : decide (v < 0) = false := decide_eq_false hv
              have hvm := (hvi (by omega)).2.1
              have hcv : IntKind.u32.wrap v = v := by simp [IntKind.wrap, IntKind.bits, IntKind.signed]; omega
              clear hvi
              go_wp2_with fail
              refine (HV1.out _ HB149.out).mono ?_
              rintro e W151 ⟨rfl, hbel⟩
              have HB151 := Lib.hid (HB149.out.trans (hbel.mono HB149.out.size))
              have hb151 := (hbel.block _ (lt_of_block hb149)).trans hb149
              have hr151 := (hbel.block _ (lt_of_block hr149)).trans hr149
              clear hbel
              obtain ⟨y0, y1, y2, y3, y4, y5⟩ := cells6 hb151
              have hf : ∀ j, W151.frozen? ⟨V1, j, none⟩ = false := fun j => by simp [World.frozen?, hb151]
              have hb152 : (W151.setCell ⟨V1, 4, none⟩ (.int .u32 v)).heap[V1]? = some (.cells #[.string (sB lb), .int .u8 o, .int .u8 z, .int .u16 0, .int .u32 v, .string ⟨#[]⟩] 34) := by
                have := (row_set (j := 4) (u := .int .u32 v) hb151)
                simpa using this
              have hr152 : (W151.setCell ⟨V1, 4, none⟩ (.int .u32 v)).heap[V0]? = some (.cells #[.string ⟨#[]⟩, .int .u8 0, .int .u8 0, .int .u16 0, .int .u32 0, .string ⟨#[]⟩] 34) := ((setCell_other _ ⟨V1, 4, none⟩ (.int .u32 v) hV01).trans hr151)
              have HB152 := Lib.hid (HB151.out.setCell (p := ⟨V1, 4, none⟩) hV1 (.int .u32 v))
              go_upto_region 30 with (first | simp only [hf])
              generalize (W151.setCell ⟨V1, 4, none⟩ (.int .u32 v)) = W152 at *
              clear y0 y1 y2 y3 y4 y5 hf
              clear hcv
              obtain ⟨y0, y1, y2, y3, y4, y5⟩ := cells6 hb152
              obtain ⟨z0, z1, z2, z3, z4, z5⟩ := cells6 hr152
              have hf : ∀ j, W152.frozen? ⟨V0, j, none⟩ = false := fun j => by simp [World.frozen?, hr152]
              go_wp2_with (simp only [hf])
              have hq : ((((((W152.setCell ⟨V0, 0, none⟩ (.string (sB lb))).setCell ⟨V0, 1, none⟩ (.int .u8 o)).setCell ⟨V0, 2, none⟩ (.int .u8 z)).setCell ⟨V0, 3, none⟩ (.int .u16 0)).setCell ⟨V0, 4, none⟩ (.int .u32 v)).setCell ⟨V0, 5, none⟩ (.string ⟨#[]⟩)).heap[V0]? = some (.cells #[.string (sB lb), .int .u8 o, .int .u8 z, .int .u16 0, .int .u32 v, .string ⟨#[]⟩] 34) := by
                have := (row_set (j := 5) (u := .string ⟨#[]⟩) (row_set (j := 4) (u := .int .u32 v) (row_set (j := 3) (u := .int .u16 0) (row_set (j := 2) (u := .int .u8 z) (row_set (j := 1) (u := .int .u8 o) (row_set (j := 0) (u := .string (sB lb)) hr152))))))
                simpa using this
              have HQ := Lib.hid ((((((HB152.out.setCell (p := ⟨V0, 0, none⟩) hV0 (.string (sB lb))).setCell (p := ⟨V0, 1, none⟩) hV0 (.int .u8 o)).setCell (p := ⟨V0, 2, none⟩) hV0 (.int .u8 z)).setCell (p := ⟨V0, 3, none⟩) hV0 (.int .u16 0)).setCell (p := ⟨V0, 4, none⟩) hV0 (.int .u32 v)).setCell (p := ⟨V0, 5, none⟩) hV0 (.string ⟨#[]⟩))
              obtain ⟨d0, d1, d2, d3, d4, d5⟩ := cells6 hq
              refine bodyPost_ret (v := .tuple #[.agg #[.string (sB lb), .int .u8 o, .int .u8 z, .int .u16 0, .int .u32 v, .string ⟨#[]⟩], .int .i64 0]) (by simp [results, Tryz.f53, go_sem, d0, d1, d2, d3, d4, d5]) rfl ?_
              exact ⟨⟨lb, ⟨o, z, 0, v⟩, []⟩, (by rw [HE.out]; rfl), (fun _ => by rw [HE.out]), HQ.out⟩
        · have HE : Hid ((one l).2 = 100) := by show _ = _; rw [HI.out, HID.out, if_pos (.inr (by rw [hw]; exact hl))]
          have gl : (((r.length + 1 : Nat) : Int) != ((1 : Int) + 1)) = true := by simp; omega
          have gl2 : (((r.length + 1 : Nat) : Int) != (2 : Int)) = true := by simp; omega
          have p23 : (o == 23) = false := beq_eq_false_iff_ne.2 (by omega)
          have p25 : (o == 25) = false := beq_eq_false_iff_ne.2 (by omega)
          have p27 : (o == 27) = false := beq_eq_false_iff_ne.2 (by omega)
          have p0 : (o == 0) = false := beq_eq_false_iff_ne.2 (by omega)
          have p1 : (o == 1) = false := beq_eq_false_iff_ne.2 (by omega)
          have p2 : decide ((2 : Int) ≤ o) = true := decide_eq_true (by omega)
          have p16 : decide (o ≤ 16) = false := decide_eq_false (by omega)
          have p17 : decide ((17 : Int) ≤ o) = true := decide_eq_true (by omega)
          have p20 : decide (o ≤ 20) = true := decide_eq_true (by omega)
          clear HI HID HV hw hl 
          obtain ⟨y0, y1, y2, y3, y4, y5⟩ := cells6 hb104
          obtain ⟨z0, z1, z2, z3, z4, z5⟩ := cells6 hr104
          have hf : ∀ j, W104.frozen? ⟨V0, j, none⟩ = false := fun j => by simp [World.frozen?, hr104]
          go_wp2_with (simp only [hf])
          have hq : ((((((W104.setCell ⟨V0, 0, none⟩ (.string (sB lb))).setCell ⟨V0, 1, none⟩ (.int .u8 o)).setCell ⟨V0, 2, none⟩ (.int .u8 z)).setCell ⟨V0, 3, none⟩ (.int .u16 0)).setCell ⟨V0, 4, none⟩ (.int .u32 0)).setCell ⟨V0, 5, none⟩ (.string ⟨#[]⟩)).heap[V0]? = some (.cells #[.string (sB lb), .int .u8 o, .int .u8 z, .int .u16 0, .int .u32 0, .string ⟨#[]⟩] 34) := by
            have := (row_set (j := 5) (u := .string ⟨#[]⟩) (row_set (j := 4) (u := .int .u32 0) (row_set (j := 3) (u := .int .u16 0) (row_set (j := 2) (u := .int .u8 z) (row_set (j := 1) (u := .int .u8 o) (row_set (j := 0) (u := .string (sB lb)) hr104))))))
            simpa using this
          have HQ := Lib.hid ((((((HB104.out.setCell (p := ⟨V0, 0, none⟩) hV0 (.string (sB lb))).setCell (p := ⟨V0, 1, none⟩) hV0 (.int .u8 o)).setCell (p := ⟨V0, 2, none⟩) hV0 (.int .u8 z)).setCell (p := ⟨V0, 3, none⟩) hV0 (.int .u16 0)).setCell (p := ⟨V0, 4, none⟩) hV0 (.int .u32 0)).setCell (p := ⟨V0, 5, none⟩) hV0 (.string ⟨#[]⟩))
          obtain ⟨d0, d1, d2, d3, d4, d5⟩ := cells6 hq
          refine bodyPost_ret (v := .tuple #[.agg #[.string (sB lb), .int .u8 o, .int .u8 z, .int .u16 0, .int .u32 0, .string ⟨#[]⟩], .int .i64 100]) (by simp [results, Tryz.f53, go_sem, d0, d1, d2, d3, d4, d5]) rfl ?_
          exact ⟨⟨lb, ⟨o, z, 0, 0⟩, []⟩, (by rw [HE.out]; rfl), (fun h => by rw [HE.out] at h; cases h), HQ.out⟩
      by_cases q17 : o = 17 ∨ o = 18
      · have hw : want o = 1 := want_M (by unfold isM; simp; omega)
        by_cases hl : r.length = 1
        · have HE0 : Hid (oneI lb w0 r = if jumpsI o = true ∧ isLbl (r.getD 0 []) = true then (⟨lb, ⟨o, z, 0, 0⟩, r.getD 0 []⟩, 0) else if isC o = true ∨ isM o = true then if valI (r.getD 0 []) 4294967295 < 0 then (av0, 42) else (⟨lb, ⟨o, z, 0, valI (r.getD 0 []) 4294967295⟩, []⟩, 0) else if valI (r.getD 0 []) 15 < 0 ∨ want o = 2 ∧ valI (r.getD 1 []) 15 < 0 then (av0, 42) else (⟨lb, ⟨o, valI (r.getD 0 []) 15, if want o = 2 then valI (r.getD 1 []) 15 else 0, 0⟩, []⟩, 0)) := by show _ = _; rw [HID.out, if_neg (fun h => h.elim (fun h => by omega) (fun h => h (by rw [hw]; exact hl))), if_neg (by omega)]
          have gl : (((r.length + 1 : Nat) : Int) != ((1 : Int) + 1)) = false := by simp; omega
          have gl2 : (((r.length + 1 : Nat) : Int) != (2 : Int)) = false := by simp; omega
          have p23 : (o == 23) = false := beq_eq_false_iff_ne.2 (by omega)
          have p25 : (o == 25) = false := beq_eq_false_iff_ne.2 (by omega)
          have p27 : (o == 27) = false := beq_eq_false_iff_ne.2 (by omega)
          have p0 : (o == 0) = false := beq_eq_false_iff_ne.2 (by omega)
          have p1 : (o == 1) = false := beq_eq_false_iff_ne.2 (by omega)
          have p2 : decide ((2 : Int) ≤ o) = true := decide_eq_true (by omega)
          have p16 : decide (o ≤ 16) = false := decide_eq_false (by omega)
          have p17 : decide ((17 : Int) ≤ o) = true := decide_eq_true (by omega)
          have p20 : decide (o ≤ 20) = true := decide_eq_true (by omega)
          obtain ⟨s, rfl⟩ := len1 hl
          rw [show ([s].getD 0 []) = s from rfl] at HE0
          have hs : s.length ≤ 1000000000 := hlen s (by simp)
          have HJm := Lib.hid (fun W (hb : Below w.heap.size w W) => rjumps_any o W)
          have HLb := Lib.hid (fun W (hb : Below w.heap.size w W) => label_any s (by omega) W)
          have HV1 := Lib.hid (fun W (hb : Below w.heap.size w W) => value_any s (by omega) 4294967295 (by decide) (by decide) W)
          have HV2 := Lib.hid (fun W (hb : Below w.heap.size w W) => value_any s (by omega) 15 (by decide) (by decide) W)
          have hj : jumpsI o = false := by unfold jumpsI; simp; omega
          rw [hj] at HJm HE0
          obtain ⟨_, hro⟩ := HRw.out _ HB104.out
          obtain ⟨bq, oq, eq, hce⟩ := hro.resolve_left (by simp)
          injection eq with eq
          injection eq with eq1 eq2
          subst eq1 eq2
          have hc1 := hce 1 (by simp)
          simp only [List.getD_cons_succ, List.getD_cons_zero] at hc1
          clear hro hce
          clear HID HV hl 
          rw [if_neg (by rintro ⟨h, _⟩; cases h)] at HE0
          go_wp2_with fail
          refine (HJm.out _ HB104.out).mono ?_
          rintro e W153 ⟨rfl, hbel⟩
          have HB153 := Lib.hid (HB104.out.trans (hbel.mono HB104.out.size))
          have hb153 := (hbel.block _ (lt_of_block hb104)).trans hb104
          have hr153 := (hbel.block _ (lt_of_block hr104)).trans hr104
          clear hbel
          obtain ⟨_, hro⟩ := HRw.out _ HB153.out
          obtain ⟨bq, oq, eq, hce⟩ := hro.resolve_left (by simp)
          injection eq with eq
          injection eq with eq1 eq2
          subst eq1 eq2
          have hc1 := hce 1 (by simp)
          simp only [List.getD_cons_succ, List.getD_cons_zero] at hc1
          clear hro hce
          have hcm : isC o = true ∨ isM o = true := (.inr (by unfold isM; simp; omega))
          rw [if_pos hcm] at HE0
          have hvi := val_inv (s := s) (m := 4294967295)
          generalize valI s 4294967295 = v at *
          by_cases hv : v < 0
          · rw [if_pos hv] at HE0
            have HE : Hid ((one l).2 = 42) := by show _ = _; rw [HI.out, HE0.out]
            have gv : decide (v < 0) = true := decide_eq_true hv
            clear hvi
            go_wp2_with fail
            refine (HV1.out _ HB153.out).mono ?_
            rintro e W154 ⟨rfl, hbel⟩
            have HB154 := Lib.hid (HB153.out.trans (hbel.mono HB153.out.size))
            have hb154 := (hbel.block _ (lt_of_block hb153)).trans hb153
            have hr154 := (hbel.block _ (lt_of_block hr153)).trans hr153
            clear hbel
            obtain ⟨y0, y1, y2, y3, y4, y5⟩ := cells6 hb154
            obtain ⟨z0, z1, z2, z3, z4, z5⟩ := cells6 hr154
            have hf : ∀ j, W154.frozen? ⟨V0, j, none⟩ = false := fun j => by simp [World.frozen?, hr154]
            go_wp2_with (simp only [hf])
            have hq : ((((((W154.setCell ⟨V0, 0, none⟩ (.string (sB lb))).setCell ⟨V0, 1, none⟩ (.int .u8 o)).setCell ⟨V0, 2, none⟩ (.int .u8 z)).setCell ⟨V0, 3, none⟩ (.int .u16 0)).setCell ⟨V0, 4, none⟩ (.int .u32 0)).setCell ⟨V0, 5, none⟩ (.string ⟨#[]⟩)).heap[V0]? = some (.cells #[.string (sB lb), .int .u8 o, .int .u8 z, .int .u16 0, .int .u32 0, .string ⟨#[]⟩] 34) := by
              have := (row_set (j := 5) (u := .string ⟨#[]⟩) (row_set (j := 4) (u := .int .u32 0) (row_set (j := 3) (u := .int .u16 0) (row_set (j := 2) (u := .int .u8 z) (row_set (j := 1) (u := .int .u8 o) (row_set (j := 0) (u := .string (sB lb)) hr154))))))
              simpa using this
            have HQ := Lib.hid ((((((HB154.out.setCell (p := ⟨V0, 0, none⟩) hV0 (.string (sB lb))).setCell (p := ⟨V0, 1, none⟩) hV0 (.int .u8 o)).setCell (p := ⟨V0, 2, none⟩) hV0 (.int .u8 z)).setCell (p := ⟨V0, 3, none⟩) hV0 (.int .u16 0)).setCell (p := ⟨V0, 4, none⟩) hV0 (.int .u32 0)).setCell (p := ⟨V0, 5, none⟩) hV0 (.string ⟨#[]⟩))
            obtain ⟨d0, d1, d2, d3, d4, d5⟩ := cells6 hq
            refine bodyPost_ret (v := .tuple #[.agg #[.string (sB lb), .int .u8 o, .int .u8 z, .int .u16 0, .int .u32 0, .string ⟨#[]⟩], .int .i64 42]) (by simp [results, Tryz.f53, go_sem, d0, d1, d2, d3, d4, d5]) rfl ?_
            exact ⟨⟨lb, ⟨o, z, 0, 0⟩, []⟩, (by rw [HE.out]; rfl), (fun h => by rw [HE.out] at h; cases h), HQ.out⟩
          · rw [if_neg hv] at HE0
            have HE : Hid (one l = (⟨lb, ⟨o, z, 0, v⟩, []⟩, 0)) := by show _ = _; rw [HI.out, HE0.out]
            have gv : decide (v < 0) = false := decide_eq_false hv
            have hvm := (hvi (by omega)).2.1
            have hcv : IntKind.u32.wrap v = v := by simp [IntKind.wrap, IntKind.bits, IntKind.signed]; omega
            clear hvi
            go_wp2_with fail
            refine (HV1.out _ HB153.out).mono ?_
            rintro e W155 ⟨rfl, hbel⟩
            have HB155 := Lib.hid (HB153.out.trans (hbel.mono HB153.out.size))
            have hb155 := (hbel.block _ (lt_of_block hb153)).trans hb153
            have hr155 := (hbel.block _ (lt_of_block hr153)).trans hr153
            clear hbel
            obtain ⟨y0, y1, y2, y3, y4, y5⟩ := cells6 hb155
            have hf : ∀ j, W155.frozen? ⟨V1, j, none⟩ = false := fun j => by simp [World.frozen?, hb155]
            have hb156 : (W155.setCell ⟨V1, 4, none⟩ (.int .u32 v)).heap[V1]? = some (.cells #[.string (sB lb), .int .u8 o, .int .u8 z, .int .u16 0, .int .u32 v, .string ⟨#[]⟩] 34) := by
              have := (row_set (j := 4) (u := .int .u32 v) hb155)
              simpa using this
            have hr156 : (W155.setCell ⟨V1, 4, none⟩ (.int .u32 v)).heap[V0]? = some (.cells #[.string ⟨#[]⟩, .int .u8 0, .int .u8 0, .int .u16 0, .int .u32 0, .string ⟨#[]⟩] 34) := ((setCell_other _ ⟨V1, 4, none⟩ (.int .u32 v) hV01).trans hr155)
            have HB156 := Lib.hid (HB155.out.setCell (p := ⟨V1, 4, none⟩) hV1 (.int .u32 v))
            go_upto_region 30 with (first | simp only [hf])
            generalize (W155.setCell ⟨V1, 4, none⟩ (.int .u32 v)) = W156 at *
            clear y0 y1 y2 y3 y4 y5 hf
            clear hcv
            obtain ⟨y0, y1, y2, y3, y4, y5⟩ := cells6 hb156
            obtain ⟨z0, z1, z2, z3, z4, z5⟩ := cells6 hr156
            have hf : ∀ j, W156.frozen? ⟨V0, j, none⟩ = false := fun j => by simp [World.frozen?, hr156]
            go_wp2_with (simp only [hf])
            have hq : ((((((W156.setCell ⟨V0, 0, none⟩ (.string (sB lb))).setCell ⟨V0, 1, none⟩ (.int .u8 o)).setCell ⟨V0, 2, none⟩ (.int .u8 z)).setCell ⟨V0, 3, none⟩ (.int .u16 0)).setCell ⟨V0, 4, none⟩ (.int .u32 v)).setCell ⟨V0, 5, none⟩ (.string ⟨#[]⟩)).heap[V0]? = some (.cells #[.string (sB lb), .int .u8 o, .int .u8 z, .int .u16 0, .int .u32 v, .string ⟨#[]⟩] 34) := by
              have := (row_set (j := 5) (u := .string ⟨#[]⟩) (row_set (j := 4) (u := .int .u32 v) (row_set (j := 3) (u := .int .u16 0) (row_set (j := 2) (u := .int .u8 z) (row_set (j := 1) (u := .int .u8 o) (row_set (j := 0) (u := .string (sB lb)) hr156))))))
              simpa using this
            have HQ := Lib.hid ((((((HB156.out.setCell (p := ⟨V0, 0, none⟩) hV0 (.string (sB lb))).setCell (p := ⟨V0, 1, none⟩) hV0 (.int .u8 o)).setCell (p := ⟨V0, 2, none⟩) hV0 (.int .u8 z)).setCell (p := ⟨V0, 3, none⟩) hV0 (.int .u16 0)).setCell (p := ⟨V0, 4, none⟩) hV0 (.int .u32 v)).setCell (p := ⟨V0, 5, none⟩) hV0 (.string ⟨#[]⟩))
            obtain ⟨d0, d1, d2, d3, d4, d5⟩ := cells6 hq
            refine bodyPost_ret (v := .tuple #[.agg #[.string (sB lb), .int .u8 o, .int .u8 z, .int .u16 0, .int .u32 v, .string ⟨#[]⟩], .int .i64 0]) (by simp [results, Tryz.f53, go_sem, d0, d1, d2, d3, d4, d5]) rfl ?_
            exact ⟨⟨lb, ⟨o, z, 0, v⟩, []⟩, (by rw [HE.out]; rfl), (fun _ => by rw [HE.out]), HQ.out⟩
        · have HE : Hid ((one l).2 = 100) := by show _ = _; rw [HI.out, HID.out, if_pos (.inr (by rw [hw]; exact hl))]
          have gl : (((r.length + 1 : Nat) : Int) != ((1 : Int) + 1)) = true := by simp; omega
          have gl2 : (((r.length + 1 : Nat) : Int) != (2 : Int)) = true := by simp; omega
          have p23 : (o == 23) = false := beq_eq_false_iff_ne.2 (by omega)
          have p25 : (o == 25) = false := beq_eq_false_iff_ne.2 (by omega)
          have p27 : (o == 27) = false := beq_eq_false_iff_ne.2 (by omega)
          have p0 : (o == 0) = false := beq_eq_false_iff_ne.2 (by omega)
          have p1 : (o == 1) = false := beq_eq_false_iff_ne.2 (by omega)
          have p2 : decide ((2 : Int) ≤ o) = true := decide_eq_true (by omega)
          have p16 : decide (o ≤ 16) = false := decide_eq_false (by omega)
          have p17 : decide ((17 : Int) ≤ o) = true := decide_eq_true (by omega)
          have p20 : decide (o ≤ 20) = true := decide_eq_true (by omega)
          clear HI HID HV hw hl 
          obtain ⟨y0, y1, y2, y3, y4, y5⟩ := cells6 hb104
          obtain ⟨z0, z1, z2, z3, z4, z5⟩ := cells6 hr104
          have hf : ∀ j, W104.frozen? ⟨V0, j, none⟩ = false := fun j => by simp [World.frozen?, hr104]
          go_wp2_with (simp only [hf])
          have hq : ((((((W104.setCell ⟨V0, 0, none⟩ (.string (sB lb))).setCell ⟨V0, 1, none⟩ (.int .u8 o)).setCell ⟨V0, 2, none⟩ (.int .u8 z)).setCell ⟨V0, 3, none⟩ (.int .u16 0)).setCell ⟨V0, 4, none⟩ (.int .u32 0)).setCell ⟨V0, 5, none⟩ (.string ⟨#[]⟩)).heap[V0]? = some (.cells #[.string (sB lb), .int .u8 o, .int .u8 z, .int .u16 0, .int .u32 0, .string ⟨#[]⟩] 34) := by
            have := (row_set (j := 5) (u := .string ⟨#[]⟩) (row_set (j := 4) (u := .int .u32 0) (row_set (j := 3) (u := .int .u16 0) (row_set (j := 2) (u := .int .u8 z) (row_set (j := 1) (u := .int .u8 o) (row_set (j := 0) (u := .string (sB lb)) hr104))))))
            simpa using this
          have HQ := Lib.hid ((((((HB104.out.setCell (p := ⟨V0, 0, none⟩) hV0 (.string (sB lb))).setCell (p := ⟨V0, 1, none⟩) hV0 (.int .u8 o)).setCell (p := ⟨V0, 2, none⟩) hV0 (.int .u8 z)).setCell (p := ⟨V0, 3, none⟩) hV0 (.int .u16 0)).setCell (p := ⟨V0, 4, none⟩) hV0 (.int .u32 0)).setCell (p := ⟨V0, 5, none⟩) hV0 (.string ⟨#[]⟩))
          obtain ⟨d0, d1, d2, d3, d4, d5⟩ := cells6 hq
          refine bodyPost_ret (v := .tuple #[.agg #[.string (sB lb), .int .u8 o, .int .u8 z, .int .u16 0, .int .u32 0, .string ⟨#[]⟩], .int .i64 100]) (by simp [results, Tryz.f53, go_sem, d0, d1, d2, d3, d4, d5]) rfl ?_
          exact ⟨⟨lb, ⟨o, z, 0, 0⟩, []⟩, (by rw [HE.out]; rfl), (fun h => by rw [HE.out] at h; cases h), HQ.out⟩
      by_cases qA : o = 21 ∨ o = 22 ∨ o = 24 ∨ o = 26
      · have hw : want o = 1 := want_A (by unfold isA; simp; omega)
        by_cases hl : r.length = 1
        · have HE0 : Hid (oneI lb w0 r = if jumpsI o = true ∧ isLbl (r.getD 0 []) = true then (⟨lb, ⟨o, z, 0, 0⟩, r.getD 0 []⟩, 0) else if isC o = true ∨ isM o = true then if valI (r.getD 0 []) 4294967295 < 0 then (av0, 42) else (⟨lb, ⟨o, z, 0, valI (r.getD 0 []) 4294967295⟩, []⟩, 0) else if valI (r.getD 0 []) 15 < 0 ∨ want o = 2 ∧ valI (r.getD 1 []) 15 < 0 then (av0, 42) else (⟨lb, ⟨o, valI (r.getD 0 []) 15, if want o = 2 then valI (r.getD 1 []) 15 else 0, 0⟩, []⟩, 0)) := by show _ = _; rw [HID.out, if_neg (fun h => h.elim (fun h => by omega) (fun h => h (by rw [hw]; exact hl))), if_neg (by omega)]
          have gl : (((r.length + 1 : Nat) : Int) != ((1 : Int) + 1)) = false := by simp; omega
          have gl2 : (((r.length + 1 : Nat) : Int) != (2 : Int)) = false := by simp; omega
          have p23 : (o == 23) = false := beq_eq_false_iff_ne.2 (by omega)
          have p25 : (o == 25) = false := beq_eq_false_iff_ne.2 (by omega)
          have p27 : (o == 27) = false := beq_eq_false_iff_ne.2 (by omega)
          have p0 : (o == 0) = false := beq_eq_false_iff_ne.2 (by omega)
          have p1 : (o == 1) = false := beq_eq_false_iff_ne.2 (by omega)
          have p2 : decide ((2 : Int) ≤ o) = true := decide_eq_true (by omega)
          have p16 : decide (o ≤ 16) = false := decide_eq_false (by omega)
          have p17 : decide ((17 : Int) ≤ o) = true := decide_eq_true (by omega)
          have p20 : decide (o ≤ 20) = false := decide_eq_false (by omega)
          obtain ⟨s, rfl⟩ := len1 hl
          rw [show ([s].getD 0 []) = s from rfl] at HE0
          have hs : s.length ≤ 1000000000 := hlen s (by simp)
          have HJm := Lib.hid (fun W (hb : Below w.heap.size w W) => rjumps_any o W)
          have HLb := Lib.hid (fun W (hb : Below w.heap.size w W) => label_any s (by omega) W)
          have HV1 := Lib.hid (fun W (hb : Below w.heap.size w W) => value_any s (by omega) 4294967295 (by decide) (by decide) W)
          have HV2 := Lib.hid (fun W (hb : Below w.heap.size w W) => value_any s (by omega) 15 (by decide) (by decide) W)
          have hj : jumpsI o = false := by unfold jumpsI; simp; omega
          rw [hj] at HJm HE0
          obtain ⟨_, hro⟩ := HRw.out _ HB104.out
          obtain ⟨bq, oq, eq, hce⟩ := hro.resolve_left (by simp)
          injection eq with eq
          injection eq with eq1 eq2
          subst eq1 eq2
          have hc1 := hce 1 (by simp)
          simp only [List.getD_cons_succ, List.getD_cons_zero] at hc1
          clear hro hce
          clear HID HV hl 
          rw [if_neg (by rintro ⟨h, _⟩; cases h)] at HE0
          go_wp2_with fail
          refine (HJm.out _ HB104.out).mono ?_
          rintro e W157 ⟨rfl, hbel⟩
          have HB157 := Lib.hid (HB104.out.trans (hbel.mono HB104.out.size))
          have hb157 := (hbel.block _ (lt_of_block hb104)).trans hb104
          have hr157 := (hbel.block _ (lt_of_block hr104)).trans hr104
          clear hbel
          obtain ⟨_, hro⟩ := HRw.out _ HB157.out
          obtain ⟨bq, oq, eq, hce⟩ := hro.resolve_left (by simp)
          injection eq with eq
          injection eq with eq1 eq2
          subst eq1 eq2
          have hc1 := hce 1 (by simp)
          simp only [List.getD_cons_succ, List.getD_cons_zero] at hc1
          clear hro hce
          have hcm : ¬ (isC o = true ∨ isM o = true) := by unfold isC isM; simp; omega
          rw [if_neg hcm] at HE0
          have hvi := val_inv (s := s) (m := 15)
          generalize valI s 15 = v at *
          rw [hw, if_neg (show ¬ (1 = 2) by decide)] at HE0
          by_cases hv : v < 0
          · have HE : Hid ((one l).2 = 42) := by show _ = _; rw [HI.out, HE0.out, if_pos (.inl hv)]
            have gv : decide (v < 0) = true := decide_eq_true hv
            clear hvi
            go_wp2_with fail
            refine (HV2.out _ HB157.out).mono ?_
            rintro e W158 ⟨rfl, hbel⟩
            have HB158 := Lib.hid (HB157.out.trans (hbel.mono HB157.out.size))
            have hb158 := (hbel.block _ (lt_of_block hb157)).trans hb157
            have hr158 := (hbel.block _ (lt_of_block hr157)).trans hr157
            clear hbel
            obtain ⟨y0, y1, y2, y3, y4, y5⟩ := cells6 hb158
            obtain ⟨z0, z1, z2, z3, z4, z5⟩ := cells6 hr158
            have hf : ∀ j, W158.frozen? ⟨V0, j, none⟩ = false := fun j => by simp [World.frozen?, hr158]
            go_wp2_with (simp only [hf])
            have hq : ((((((W158.setCell ⟨V0, 0, none⟩ (.string (sB lb))).setCell ⟨V0, 1, none⟩ (.int .u8 o)).setCell ⟨V0, 2, none⟩ (.int .u8 z)).setCell ⟨V0, 3, none⟩ (.int .u16 0)).setCell ⟨V0, 4, none⟩ (.int .u32 0)).setCell ⟨V0, 5, none⟩ (.string ⟨#[]⟩)).heap[V0]? = some (.cells #[.string (sB lb), .int .u8 o, .int .u8 z, .int .u16 0, .int .u32 0, .string ⟨#[]⟩] 34) := by
              have := (row_set (j := 5) (u := .string ⟨#[]⟩) (row_set (j := 4) (u := .int .u32 0) (row_set (j := 3) (u := .int .u16 0) (row_set (j := 2) (u := .int .u8 z) (row_set (j := 1) (u := .int .u8 o) (row_set (j := 0) (u := .string (sB lb)) hr158))))))
              simpa using this
            have HQ := Lib.hid ((((((HB158.out.setCell (p := ⟨V0, 0, none⟩) hV0 (.string (sB lb))).setCell (p := ⟨V0, 1, none⟩) hV0 (.int .u8 o)).setCell (p := ⟨V0, 2, none⟩) hV0 (.int .u8 z)).setCell (p := ⟨V0, 3, none⟩) hV0 (.int .u16 0)).setCell (p := ⟨V0, 4, none⟩) hV0 (.int .u32 0)).setCell (p := ⟨V0, 5, none⟩) hV0 (.string ⟨#[]⟩))
            obtain ⟨d0, d1, d2, d3, d4, d5⟩ := cells6 hq
            refine bodyPost_ret (v := .tuple #[.agg #[.string (sB lb), .int .u8 o, .int .u8 z, .int .u16 0, .int .u32 0, .string ⟨#[]⟩], .int .i64 42]) (by simp [results, Tryz.f53, go_sem, d0, d1, d2, d3, d4, d5]) rfl ?_
            exact ⟨⟨lb, ⟨o, z, 0, 0⟩, []⟩, (by rw [HE.out]; rfl), (fun h => by rw [HE.out] at h; cases h), HQ.out⟩
          · have HE : Hid (one l = (⟨lb, ⟨o, v, 0, 0⟩, []⟩, 0)) := by show _ = _; rw [HI.out, HE0.out, if_neg (by rintro (h | ⟨h, _⟩); exact hv h; cases h)]
            have gv : decide (v < 0) = false := decide_eq_false hv
            have hvm := (hvi (by omega)).2.1
            have hcv : IntKind.u8.wrap v = v := by simp [IntKind.wrap, IntKind.bits, IntKind.signed]; omega
            clear hvi
            go_wp2_with fail
            refine (HV2.out _ HB157.out).mono ?_
            rintro e W159 ⟨rfl, hbel⟩
            have HB159 := Lib.hid (HB157.out.trans (hbel.mono HB157.out.size))
            have hb159 := (hbel.block _ (lt_of_block hb157)).trans hb157
            have hr159 := (hbel.block _ (lt_of_block hr157)).trans hr157
            clear hbel
            obtain ⟨y0, y1, y2, y3, y4, y5⟩ := cells6 hb159
            have hf : ∀ j, W159.frozen? ⟨V1, j, none⟩ = false := fun j => by simp [World.frozen?, hb159]
            have hb160 : ((W159.setCell ⟨V1, 2, none⟩ (.int .u8 v)).setCell ⟨V1, 3, none⟩ (.int .u16 0)).heap[V1]? = some (.cells #[.string (sB lb), .int .u8 o, .int .u8 v, .int .u16 0, .int .u32 0, .string ⟨#[]⟩] 34) := by
              have := (row_set (j := 3) (u := .int .u16 0) (row_set (j := 2) (u := .int .u8 v) hb159))
              simpa using this
            have hr160 : ((W159.setCell ⟨V1, 2, none⟩ (.int .u8 v)).setCell ⟨V1, 3, none⟩ (.int .u16 0)).heap[V0]? = some (.cells #[.string ⟨#[]⟩, .int .u8 0, .int .u8 0, .int .u16 0, .int .u32 0, .string ⟨#[]⟩] 34) := ((setCell_other _ ⟨V1, 3, none⟩ (.int .u16 0) hV01).trans ((setCell_other _ ⟨V1, 2, none⟩ (.int .u8 v) hV01).trans hr159))
            have HB160 := Lib.hid ((HB159.out.setCell (p := ⟨V1, 2, none⟩) hV1 (.int .u8 v)).setCell (p := ⟨V1, 3, none⟩) hV1 (.int .u16 0))
            go_upto_region 39 with (first | simp only [hf])
            generalize ((W159.setCell ⟨V1, 2, none⟩ (.int .u8 v)).setCell ⟨V1, 3, none⟩ (.int .u16 0)) = W160 at *
            clear y0 y1 y2 y3 y4 y5 hf
            clear hcv
            obtain ⟨y0, y1, y2, y3, y4, y5⟩ := cells6 hb160
            obtain ⟨z0, z1, z2, z3, z4, z5⟩ := cells6 hr160
            have hf : ∀ j, W160.frozen? ⟨V0, j, none⟩ = false := fun j => by simp [World.frozen?, hr160]
            go_wp2_with (simp only [hf])
            have hq : ((((((W160.setCell ⟨V0, 0, none⟩ (.string (sB lb))).setCell ⟨V0, 1, none⟩ (.int .u8 o)).setCell ⟨V0, 2, none⟩ (.int .u8 v)).setCell ⟨V0, 3, none⟩ (.int .u16 0)).setCell ⟨V0, 4, none⟩ (.int .u32 0)).setCell ⟨V0, 5, none⟩ (.string ⟨#[]⟩)).heap[V0]? = some (.cells #[.string (sB lb), .int .u8 o, .int .u8 v, .int .u16 0, .int .u32 0, .string ⟨#[]⟩] 34) := by
              have := (row_set (j := 5) (u := .string ⟨#[]⟩) (row_set (j := 4) (u := .int .u32 0) (row_set (j := 3) (u := .int .u16 0) (row_set (j := 2) (u := .int .u8 v) (row_set (j := 1) (u := .int .u8 o) (row_set (j := 0) (u := .string (sB lb)) hr160))))))
              simpa using this
            have HQ := Lib.hid ((((((HB160.out.setCell (p := ⟨V0, 0, none⟩) hV0 (.string (sB lb))).setCell (p := ⟨V0, 1, none⟩) hV0 (.int .u8 o)).setCell (p := ⟨V0, 2, none⟩) hV0 (.int .u8 v)).setCell (p := ⟨V0, 3, none⟩) hV0 (.int .u16 0)).setCell (p := ⟨V0, 4, none⟩) hV0 (.int .u32 0)).setCell (p := ⟨V0, 5, none⟩) hV0 (.string ⟨#[]⟩))
            obtain ⟨d0, d1, d2, d3, d4, d5⟩ := cells6 hq
            refine bodyPost_ret (v := .tuple #[.agg #[.string (sB lb), .int .u8 o, .int .u8 v, .int .u16 0, .int .u32 0, .string ⟨#[]⟩], .int .i64 0]) (by simp [results, Tryz.f53, go_sem, d0, d1, d2, d3, d4, d5]) rfl ?_
            exact ⟨⟨lb, ⟨o, v, 0, 0⟩, []⟩, (by rw [HE.out]; rfl), (fun _ => by rw [HE.out]), HQ.out⟩
        · have HE : Hid ((one l).2 = 100) := by show _ = _; rw [HI.out, HID.out, if_pos (.inr (by rw [hw]; exact hl))]
          have gl : (((r.length + 1 : Nat) : Int) != ((1 : Int) + 1)) = true := by simp; omega
          have gl2 : (((r.length + 1 : Nat) : Int) != (2 : Int)) = true := by simp; omega
          have p23 : (o == 23) = false := beq_eq_false_iff_ne.2 (by omega)
          have p25 : (o == 25) = false := beq_eq_false_iff_ne.2 (by omega)
          have p27 : (o == 27) = false := beq_eq_false_iff_ne.2 (by omega)
          have p0 : (o == 0) = false := beq_eq_false_iff_ne.2 (by omega)
          have p1 : (o == 1) = false := beq_eq_false_iff_ne.2 (by omega)
          have p2 : decide ((2 : Int) ≤ o) = true := decide_eq_true (by omega)
          have p16 : decide (o ≤ 16) = false := decide_eq_false (by omega)
          have p17 : decide ((17 : Int) ≤ o) = true := decide_eq_true (by omega)
          have p20 : decide (o ≤ 20) = false := decide_eq_false (by omega)
          clear HI HID HV hw hl 
          obtain ⟨y0, y1, y2, y3, y4, y5⟩ := cells6 hb104
          obtain ⟨z0, z1, z2, z3, z4, z5⟩ := cells6 hr104
          have hf : ∀ j, W104.frozen? ⟨V0, j, none⟩ = false := fun j => by simp [World.frozen?, hr104]
          go_wp2_with (simp only [hf])
          have hq : ((((((W104.setCell ⟨V0, 0, none⟩ (.string (sB lb))).setCell ⟨V0, 1, none⟩ (.int .u8 o)).setCell ⟨V0, 2, none⟩ (.int .u8 z)).setCell ⟨V0, 3, none⟩ (.int .u16 0)).setCell ⟨V0, 4, none⟩ (.int .u32 0)).setCell ⟨V0, 5, none⟩ (.string ⟨#[]⟩)).heap[V0]? = some (.cells #[.string (sB lb), .int .u8 o, .int .u8 z, .int .u16 0, .int .u32 0, .string ⟨#[]⟩] 34) := by
            have := (row_set (j := 5) (u := .string ⟨#[]⟩) (row_set (j := 4) (u := .int .u32 0) (row_set (j := 3) (u := .int .u16 0) (row_set (j := 2) (u := .int .u8 z) (row_set (j := 1) (u := .int .u8 o) (row_set (j := 0) (u := .string (sB lb)) hr104))))))
            simpa using this
          have HQ := Lib.hid ((((((HB104.out.setCell (p := ⟨V0, 0, none⟩) hV0 (.string (sB lb))).setCell (p := ⟨V0, 1, none⟩) hV0 (.int .u8 o)).setCell (p := ⟨V0, 2, none⟩) hV0 (.int .u8 z)).setCell (p := ⟨V0, 3, none⟩) hV0 (.int .u16 0)).setCell (p := ⟨V0, 4, none⟩) hV0 (.int .u32 0)).setCell (p := ⟨V0, 5, none⟩) hV0 (.string ⟨#[]⟩))
          obtain ⟨d0, d1, d2, d3, d4, d5⟩ := cells6 hq
          refine bodyPost_ret (v := .tuple #[.agg #[.string (sB lb), .int .u8 o, .int .u8 z, .int .u16 0, .int .u32 0, .string ⟨#[]⟩], .int .i64 100]) (by simp [results, Tryz.f53, go_sem, d0, d1, d2, d3, d4, d5]) rfl ?_
          exact ⟨⟨lb, ⟨o, z, 0, 0⟩, []⟩, (by rw [HE.out]; rfl), (fun h => by rw [HE.out] at h; cases h), HQ.out⟩
      exfalso
      omega
end Asm
end Go.Proofs.YtgiocecpkhmhhaaGreatDoor
