/- The document's own answers: what is read from bytes. (Made by tools/gen_isar4.py.) -/
import Derived.Test.YtgiocecpkhmhhaaGreatDoorIsaR2
import Derived.Test.YtgiocecpkhmhhaaGreatDoorRightsTmps
namespace Go.Proofs.YtgiocecpkhmhhaaGreatDoor
open Go.ChangeShapes Go.WideShapes Go.ChangeAt Go.RowKit
namespace Isa
set_option linter.unusedVariables false
set_option linter.unusedSimpArgs false
/-- a pointer to a new instruction of zeros -/
def newZ (B : Nat) : Value → World → Prop := fun v X => ∃ V, v = .pointer (some ⟨V, 0, none⟩) ∧ B ≤ V ∧ X.heap[V]? = some (.cells #[.int .u8 0, .int .u8 0, .int .u16 0, .int .u32 0] 32 (0, 0))
theorem newZ_stable (B : Nat) : Posts.Stable Posts.Ext (newZ B) := by
  rintro v X Y ⟨V, hv, hB, hz⟩ hE
  exact ⟨V, hv, hB, (hE.blk V (lt_of_block hz)).trans hz⟩
theorem row_setCell {w : World} {b j : Nat} {cs : Array Value} {t : TypeId} {fr : Nat × Nat} {u : Value} (h : w.heap[b]? = some (.cells cs t fr)) :
    (w.setCell ⟨b, j, none⟩ u).heap[b]? = some (.cells (cs.setIfInBounds j u) t fr) := by
  have hlt := lt_of_block h
  have h' : w.heap[b] = .cells cs t fr := by simpa [Array.getElem?_eq_getElem hlt] using h
  show (w.heap.modify b _)[b]? = _
  rw [Array.getElem?_eq_getElem (by simpa using hlt), Array.getElem_modify_self, h']
  rfl
set_option maxHeartbeats 1600000 in
theorem rread_any (l : List Int) (a : Option Addr) (n c : Nat) (hc : n ≤ c) (hc2 : c ≤ 9223372036854775807) (w : World) (h : Row w a n l) :
    Calls Tryz.prog 45 #[.slice a n c] w fun e w' => e = .returned (.tuple #[iv (rdI l), .int .i64 (rdE l)]) ∧ Below w.heap.size w w' := by
  obtain ⟨hl, hb, hr⟩ := h
  subst hl
  by_cases h8 : l.length < 8
  · have hE : rdE l = 40 := by unfold rdE; rw [if_pos h8]
    have hI : rdI l = ⟨0, 0, 0, 0⟩ := by unfold rdI; rw [hE]; rfl
    rw [hE, hI]
    have hd : decide ((l.length : Int) < 8) = true := decide_eq_true (by omega)
    clear hE hI hr hb
    generalize l.length = n at *
    unfold iv
    go_enter Tryz.func45, Tryz.ntmps45
    go_wp2_with fail
    refine bodyPost_ret (v := .tuple #[.agg #[.int .u8 0, .int .u8 0, .int .u16 0, .int .u32 0], .int .i64 40]) (by simp [results, Tryz.f45, go_sem]) rfl ⟨rfl, ?_⟩
    go_grown
  · obtain ⟨p, off, rfl, hcell⟩ := hr.resolve_left (by omega)
    have hd : decide ((l.length : Int) < 8) = false := decide_eq_false (by omega)
    have hM := Lib.hid (fun W => rmay_any (readI l) (readI_wf hb) W)
    have hE : Hid (rdE l = if mayI (readI l) then 0 else 90) := by show _ = _; unfold rdE; rw [if_neg h8]
    have hI : Hid (rdI l = if mayI (readI l) then readI l else ⟨0, 0, 0, 0⟩) := by show _ = _; unfold rdI; rw [hE.out]; cases mayI (readI l) <;> simp
    rw [readI_at] at hM hI hE
    have hp := World.block_lt_of_cell? _ _ (hcell 0 (by omega))
    simp only at hp
    have c0 := hcell 0 (by omega)
    have w0 := at8 hb 0
    have c1 := hcell 1 (by omega)
    have w1 := at8 hb 1
    have c2 := hcell 2 (by omega)
    have w2 := at8 hb 2
    have c3 := hcell 3 (by omega)
    have w3 := at8 hb 3
    have c4 := hcell 4 (by omega)
    have w4 := at8 hb 4
    have c5 := hcell 5 (by omega)
    have w5 := at8 hb 5
    have c6 := hcell 6 (by omega)
    have w6 := at8 hb 6
    have c7 := hcell 7 (by omega)
    have w7 := at8 hb 7
    simp only [Nat.add_zero] at c0
    have h8' : 8 ≤ l.length := by omega
    clear hr hcell h8 hb
    generalize rdE l = E at *
    generalize rdI l = I at *
    generalize l.getD 0 0 = y0 at *
    generalize l.getD 1 0 = y1 at *
    generalize l.getD 2 0 = y2 at *
    generalize l.getD 3 0 = y3 at *
    generalize l.getD 4 0 = y4 at *
    generalize l.getD 5 0 = y5 at *
    generalize l.getD 6 0 = y6 at *
    generalize l.getD 7 0 = y7 at *
    generalize l.length = n at *
    have hn0 : (0 : Int) < n := by omega
    have hnz : n ≠ 0 := by omega
    have hn1 : (1 : Int) < n := by omega
    have hn2 : (2 : Int) < n := by omega
    have hn3 : (3 : Int) < n := by omega
    have hn4 : (4 : Int) < n := by omega
    have hn5 : (5 : Int) < n := by omega
    have hn6 : (6 : Int) < n := by omega
    have hn7 : (7 : Int) < n := by omega
    have u1 : IntKind.u16.wrap y2 = y2 := by simp [IntKind.wrap, IntKind.bits, IntKind.signed]; omega
    have u2 : IntKind.u16.wrap y3 = y3 := by simp [IntKind.wrap, IntKind.bits, IntKind.signed]; omega
    have u3 : IntKind.u16.wrap (256 * y3) = 256 * y3 := by simp [IntKind.wrap, IntKind.bits, IntKind.signed]; omega
    have u4 : IntKind.u16.wrap (y2 + 256 * y3) = y2 + 256 * y3 := by simp [IntKind.wrap, IntKind.bits, IntKind.signed]; omega
    have v1 : IntKind.u32.wrap y4 = y4 := by simp [IntKind.wrap, IntKind.bits, IntKind.signed]; omega
    have v2 : IntKind.u32.wrap y5 = y5 := by simp [IntKind.wrap, IntKind.bits, IntKind.signed]; omega
    have v3 : IntKind.u32.wrap y6 = y6 := by simp [IntKind.wrap, IntKind.bits, IntKind.signed]; omega
    have v4 : IntKind.u32.wrap y7 = y7 := by simp [IntKind.wrap, IntKind.bits, IntKind.signed]; omega
    have v5 : IntKind.u32.wrap (256 * y5) = 256 * y5 := by simp [IntKind.wrap, IntKind.bits, IntKind.signed]; omega
    have v6 : IntKind.u32.wrap (y4 + 256 * y5) = y4 + 256 * y5 := by simp [IntKind.wrap, IntKind.bits, IntKind.signed]; omega
    have v7 : IntKind.u32.wrap (65536 * y6) = 65536 * y6 := by simp [IntKind.wrap, IntKind.bits, IntKind.signed]; omega
    have v8 : IntKind.u32.wrap (y4 + 256 * y5 + 65536 * y6) = y4 + 256 * y5 + 65536 * y6 := by simp [IntKind.wrap, IntKind.bits, IntKind.signed]; omega
    have v9 : IntKind.u32.wrap (16777216 * y7) = 16777216 * y7 := by simp [IntKind.wrap, IntKind.bits, IntKind.signed]; omega
    have v10 : IntKind.u32.wrap (y4 + 256 * y5 + 65536 * y6 + 16777216 * y7) = y4 + 256 * y5 + 65536 * y6 + 16777216 * y7 := by simp [IntKind.wrap, IntKind.bits, IntKind.signed]; omega
    unfold readI at hM hE hI
    simp only [List.getD_cons_zero, List.getD_cons_succ] at hM hE hI
    unfold iv at hM
    simp only at hM
    have hE' := Posts.ext_rel
    go_enter Tryz.func45, Tryz.ntmps45
    go_wp2_with fail
    have HB0 : Hid (Below w.heap.size w (w.alloc (.cells #[.int .u8 0, .int .u8 0, .int .u16 0, .int .u32 0] 32))) := by show Below _ _ _; go_grown
    have HV0 : Hid ((w.alloc (.cells #[.int .u8 0, .int .u8 0, .int .u16 0, .int .u32 0] 32)).heap[w.heap.size]? = some (.cells #[.int .u8 0, .int .u8 0, .int .u16 0, .int .u32 0] 32)) := alloc_new _ _
    have d0 := (((Below.refl w.heap.size w).alloc (Nat.le_refl _) (.cells #[.int .u8 0, .int .u8 0, .int .u16 0, .int .u32 0] 32)).cell (p := ⟨p, off, none⟩) hp).trans c0
    have d1 := (((Below.refl w.heap.size w).alloc (Nat.le_refl _) (.cells #[.int .u8 0, .int .u8 0, .int .u16 0, .int .u32 0] 32)).cell (p := ⟨p, off + 1, none⟩) hp).trans c1
    have d2 := (((Below.refl w.heap.size w).alloc (Nat.le_refl _) (.cells #[.int .u8 0, .int .u8 0, .int .u16 0, .int .u32 0] 32)).cell (p := ⟨p, off + 2, none⟩) hp).trans c2
    have d3 := (((Below.refl w.heap.size w).alloc (Nat.le_refl _) (.cells #[.int .u8 0, .int .u8 0, .int .u16 0, .int .u32 0] 32)).cell (p := ⟨p, off + 3, none⟩) hp).trans c3
    have d4 := (((Below.refl w.heap.size w).alloc (Nat.le_refl _) (.cells #[.int .u8 0, .int .u8 0, .int .u16 0, .int .u32 0] 32)).cell (p := ⟨p, off + 4, none⟩) hp).trans c4
    have d5 := (((Below.refl w.heap.size w).alloc (Nat.le_refl _) (.cells #[.int .u8 0, .int .u8 0, .int .u16 0, .int .u32 0] 32)).cell (p := ⟨p, off + 5, none⟩) hp).trans c5
    have d6 := (((Below.refl w.heap.size w).alloc (Nat.le_refl _) (.cells #[.int .u8 0, .int .u8 0, .int .u16 0, .int .u32 0] 32)).cell (p := ⟨p, off + 6, none⟩) hp).trans c6
    have d7 := (((Below.refl w.heap.size w).alloc (Nat.le_refl _) (.cells #[.int .u8 0, .int .u8 0, .int .u16 0, .int .u32 0] 32)).cell (p := ⟨p, off + 7, none⟩) hp).trans c7
    clear c0 c1 c2 c3 c4 c5 c6 c7
    have hp0 : p < (w.alloc (.cells #[.int .u8 0, .int .u8 0, .int .u16 0, .int .u32 0] 32)).heap.size := by simp; omega
    generalize w.alloc (.cells #[.int .u8 0, .int .u8 0, .int .u16 0, .int .u32 0] 32) = W0 at *
    have hst := newZ_stable W0.heap.size
    have hE2 := hE
    clear hE
    have hE := hE'
    refine (wpIn_wide (n := 0)).1 (Posts.wpIn_region_tail hE 8 1 (Posts.At [Posts.is (.slice (some ⟨p, off, none⟩) n c), Posts.is (.pointer (some ⟨p, off, none⟩)), Posts.is (.int .u8 y0), Posts.is (.slice (some ⟨p, off, none⟩) n c), Posts.is (.pointer (some ⟨p, off + 1, none⟩)), Posts.is (.int .u8 y1), Posts.is (.agg #[.int .u8 y0, .int .u8 y1, .int .u16 0, .int .u32 0]), newZ W0.heap.size]) (fun _ _ => True) (by kernel_rfl) (by decide) (by kernel_rfl) (by kernel_rfl) (by kernel_rfl)
      (Posts.stable_at _ (by repeat' (first | exact trivial | (refine And.intro ?_ ?_) | exact Posts.is_stable _ | exact Posts.on_stable _ _ | assumption))) trivial ?_ ?_)
    · refine ⟨?_, ?_, ?_, ?_, ?_, ?_, ?_, ?_, trivial⟩
      · intro a X hX hS hD hJ hU
        have x0 := (hX.cell (p := ⟨p, off, none⟩) hp0).trans d0
        have x1 := (hX.cell (p := ⟨p, off + 1, none⟩) hp0).trans d1
        have d0 := Posts.slot (show a.eval (.tmp 0) = .slice (some ⟨p, off, none⟩) n c from hS.other 0 rfl)
        exact Posts.op_value (fun _ => trivial) rfl rfl (by intro c h; cases h) rfl (by rw [hS.size]; simp) (v := .slice (some ⟨p, off, none⟩) n c) (by simp [execOp, d0,  go_sem, x0, x1, hn0, hn1, hnz]) rfl (hE.refl _) trivial
      · intro a X hX hS hD hJ hU
        have x0 := (hX.cell (p := ⟨p, off, none⟩) hp0).trans d0
        have x1 := (hX.cell (p := ⟨p, off + 1, none⟩) hp0).trans d1
        have d9 := Posts.slot (show a.eval (.tmp 9) = .slice (some ⟨p, off, none⟩) n c from hD.1)
        exact Posts.op_value (fun _ => trivial) rfl rfl (by intro c h; cases h) rfl (by rw [hS.size]; simp) (v := .pointer (some ⟨p, off, none⟩)) (by simp [execOp, d9,  go_sem, x0, x1, hn0, hn1, hnz]) rfl (hE.refl _) trivial
      · intro a X hX hS hD hJ hU
        have x0 := (hX.cell (p := ⟨p, off, none⟩) hp0).trans d0
        have x1 := (hX.cell (p := ⟨p, off + 1, none⟩) hp0).trans d1
        have d10 := Posts.slot (show a.eval (.tmp 10) = .pointer (some ⟨p, off, none⟩) from hD.1)
        exact Posts.op_value (fun _ => trivial) rfl rfl (by intro c h; cases h) rfl (by rw [hS.size]; simp) (v := .int .u8 y0) (by simp [execOp, d10,  go_sem, x0, x1, hn0, hn1, hnz]) rfl (hE.refl _) trivial
      · intro a X hX hS hD hJ hU
        have x0 := (hX.cell (p := ⟨p, off, none⟩) hp0).trans d0
        have x1 := (hX.cell (p := ⟨p, off + 1, none⟩) hp0).trans d1
        have d0 := Posts.slot (show a.eval (.tmp 0) = .slice (some ⟨p, off, none⟩) n c from hS.other 0 rfl)
        exact Posts.op_value (fun _ => trivial) rfl rfl (by intro c h; cases h) rfl (by rw [hS.size]; simp) (v := .slice (some ⟨p, off, none⟩) n c) (by simp [execOp, d0,  go_sem, x0, x1, hn0, hn1, hnz]) rfl (hE.refl _) trivial
      · intro a X hX hS hD hJ hU
        have x0 := (hX.cell (p := ⟨p, off, none⟩) hp0).trans d0
        have x1 := (hX.cell (p := ⟨p, off + 1, none⟩) hp0).trans d1
        have d12 := Posts.slot (show a.eval (.tmp 12) = .slice (some ⟨p, off, none⟩) n c from hD.1)
        exact Posts.op_value (fun _ => trivial) rfl rfl (by intro c h; cases h) rfl (by rw [hS.size]; simp) (v := .pointer (some ⟨p, off + 1, none⟩)) (by simp [execOp, d12,  go_sem, x0, x1, hn0, hn1, hnz]) rfl (hE.refl _) trivial
      · intro a X hX hS hD hJ hU
        have x0 := (hX.cell (p := ⟨p, off, none⟩) hp0).trans d0
        have x1 := (hX.cell (p := ⟨p, off + 1, none⟩) hp0).trans d1
        have d13 := Posts.slot (show a.eval (.tmp 13) = .pointer (some ⟨p, off + 1, none⟩) from hD.1)
        exact Posts.op_value (fun _ => trivial) rfl rfl (by intro c h; cases h) rfl (by rw [hS.size]; simp) (v := .int .u8 y1) (by simp [execOp, d13,  go_sem, x0, x1, hn0, hn1, hnz]) rfl (hE.refl _) trivial
      · intro a X hX hS hD hJ hU
        have x0 := (hX.cell (p := ⟨p, off, none⟩) hp0).trans d0
        have x1 := (hX.cell (p := ⟨p, off + 1, none⟩) hp0).trans d1
        have d11 := Posts.slot (show a.eval (.tmp 11) = .int .u8 y0 from hD.1)
        have d14 := Posts.slot (show a.eval (.tmp 14) = .int .u8 y1 from hD.2.1)
        exact Posts.op_value (fun _ => trivial) rfl rfl (by intro c h; cases h) rfl (by rw [hS.size]; simp) (v := .agg #[.int .u8 y0, .int .u8 y1, .int .u16 0, .int .u32 0]) (by simp [execOp, d11, d14,  go_sem, x0, x1, hn0, hn1, hnz]) rfl (hE.refl _) trivial
      · intro a X hX hS hD hJ hU
        have x0 := (hX.cell (p := ⟨p, off, none⟩) hp0).trans d0
        have x1 := (hX.cell (p := ⟨p, off + 1, none⟩) hp0).trans d1
        exact Posts.op_value (fun _ => trivial) rfl rfl (by intro c h; cases h) rfl (by rw [hS.size]; simp) (v := .pointer (some ⟨X.heap.size, 0, none⟩)) (Y := X.alloc (.cells #[.int .u8 0, .int .u8 0, .int .u16 0, .int .u32 0] 32)) (by simp [execOp, go_sem]) ⟨X.heap.size, rfl, hX.size, alloc_new _ _⟩ ((Below.refl _ _).alloc (Nat.le_refl _) _) trivial
    · intro a0 Y hY hS hJt hL
      have p9 := Posts.slot (show a0.eval (.tmp 9) = .slice (some ⟨p, off, none⟩) n c from hL.1)
      have p10 := Posts.slot (show a0.eval (.tmp 10) = .pointer (some ⟨p, off, none⟩) from hL.2.1)
      have p11 := Posts.slot (show a0.eval (.tmp 11) = .int .u8 y0 from hL.2.2.1)
      have p12 := Posts.slot (show a0.eval (.tmp 12) = .slice (some ⟨p, off, none⟩) n c from hL.2.2.2.1)
      have p13 := Posts.slot (show a0.eval (.tmp 13) = .pointer (some ⟨p, off + 1, none⟩) from hL.2.2.2.2.1)
      have p14 := Posts.slot (show a0.eval (.tmp 14) = .int .u8 y1 from hL.2.2.2.2.2.1)
      have p15 := Posts.slot (show a0.eval (.tmp 15) = .agg #[.int .u8 y0, .int .u8 y1, .int .u16 0, .int .u32 0] from hL.2.2.2.2.2.2.1)
      obtain ⟨V2, e4, hV2, hz⟩ : newZ W0.heap.size (a0.eval (.tmp 4)) Y := hL.2.2.2.2.2.2.2.1
      have p4 := Posts.slot e4
      clear e4
      obtain ⟨z0, z1, z2, z3⟩ := cells4 hz
      have zf : ∀ j, Y.frozen? ⟨V2, j, none⟩ = false := fun j => by simp [World.frozen?, hz]
      have hfr := hS.frame [9, 10, 11, 12, 13, 14, 15, 4] (fun t ht => by simp [Posts.isDst] at ht; first | (rcases ht with h | h | h | h | h | h | h | h <;> subst h <;> simp) | (subst ht; simp))
      simp only [List.foldl_cons, List.foldl_nil] at hfr
      have hdf := hS.defers
      simp only [Array.getD_eq_getD_getElem?] at hfr
      clear hL hS
      generalize a0.tmps[9]?.getD undef = v9 at *
      generalize a0.tmps[10]?.getD undef = v10 at *
      generalize a0.tmps[11]?.getD undef = v11 at *
      generalize a0.tmps[12]?.getD undef = v12 at *
      generalize a0.tmps[13]?.getD undef = v13 at *
      generalize a0.tmps[14]?.getD undef = v14 at *
      generalize a0.tmps[15]?.getD undef = v15 at *
      generalize a0.tmps[4]?.getD undef = v4 at *
      obtain rfl := p9
      obtain rfl := p10
      obtain rfl := p11
      obtain rfl := p12
      obtain rfl := p13
      obtain rfl := p14
      obtain rfl := p15
      obtain rfl := p4
      obtain ⟨tm, df⟩ := a0
      simp only [List.setIfInBounds_toArray, List.set_cons_succ, List.set_cons_zero] at hfr hdf
      subst hfr
      subst hdf
      refine Posts.tail_op 8 (by kernel_rfl) (Posts.op_done (fun _ => trivial) rfl rfl (by intro c h; cases h) (Y := (((Y.setCell ⟨V2, 0, none⟩ (.int .u8 y0)).setCell ⟨V2, 1, none⟩ (.int .u8 y1)).setCell ⟨V2, 2, none⟩ (.int .u16 0)).setCell ⟨V2, 3, none⟩ (.int .u32 0)) (by simp [execOp, Act.eval, z0, z1, z2, z3, zf, go_sem]) ?_)
      refine ⟨by kernel_rfl, ?_⟩
      simp only [Exit.inBlock, Exit.then]
      rename_i hK
      refine hK _ _ ?_
      simp only [Act.put]
      have hq : ((((Y.setCell ⟨V2, 0, none⟩ (.int .u8 y0)).setCell ⟨V2, 1, none⟩ (.int .u8 y1)).setCell ⟨V2, 2, none⟩ (.int .u16 0)).setCell ⟨V2, 3, none⟩ (.int .u32 0)).heap[V2]? = some (.cells #[.int .u8 y0, .int .u8 y1, .int .u16 0, .int .u32 0] 32) := by
        have := row_setCell (j := 3) (u := .int .u32 0) (row_setCell (j := 2) (u := .int .u16 0) (row_setCell (j := 1) (u := .int .u8 y1) (row_setCell (j := 0) (u := .int .u8 y0) hz)))
        simpa using this
      have hB1 : Below W0.heap.size W0 ((((Y.setCell ⟨V2, 0, none⟩ (.int .u8 y0)).setCell ⟨V2, 1, none⟩ (.int .u8 y1)).setCell ⟨V2, 2, none⟩ (.int .u16 0)).setCell ⟨V2, 3, none⟩ (.int .u32 0)) := (((Below.setCell hY (p := ⟨V2, 0, none⟩) hV2 _).setCell (p := ⟨V2, 1, none⟩) hV2 _).setCell (p := ⟨V2, 2, none⟩) hV2 _).setCell (p := ⟨V2, 3, none⟩) hV2 _
      clear z0 z1 z2 z3 zf hz
      generalize (((Y.setCell ⟨V2, 0, none⟩ (.int .u8 y0)).setCell ⟨V2, 1, none⟩ (.int .u8 y1)).setCell ⟨V2, 2, none⟩ (.int .u16 0)).setCell ⟨V2, 3, none⟩ (.int .u32 0) = W1 at *
      clear hY
      have e0 := (hB1.cell (p := ⟨p, off, none⟩) hp0).trans d0
      have e1 := (hB1.cell (p := ⟨p, off + 1, none⟩) hp0).trans d1
      have e2 := (hB1.cell (p := ⟨p, off + 2, none⟩) hp0).trans d2
      have e3 := (hB1.cell (p := ⟨p, off + 3, none⟩) hp0).trans d3
      have e4 := (hB1.cell (p := ⟨p, off + 4, none⟩) hp0).trans d4
      have e5 := (hB1.cell (p := ⟨p, off + 5, none⟩) hp0).trans d5
      have e6 := (hB1.cell (p := ⟨p, off + 6, none⟩) hp0).trans d6
      have e7 := (hB1.cell (p := ⟨p, off + 7, none⟩) hp0).trans d7
      go_wp2_with fail
      refine (wpIn_wide (n := 0)).1 (Posts.wpIn_region_tail hE 11 1 (Posts.At [Posts.is (.slice (some ⟨p, off, none⟩) n c), Posts.is (.pointer (some ⟨p, off + 2, none⟩)), Posts.is (.int .u8 y2), Posts.is (.int .u16 y2), Posts.is (.slice (some ⟨p, off, none⟩) n c), Posts.is (.pointer (some ⟨p, off + 3, none⟩)), Posts.is (.int .u8 y3), Posts.is (.int .u16 y3), Posts.is (.int .u16 (256 * y3)), Posts.is (.int .u16 (y2 + 256 * y3)), Posts.is (.pointer (some ⟨V2, 2, none⟩))]) (fun _ _ => True) (by kernel_rfl) (by decide) (by kernel_rfl) (by kernel_rfl) (by kernel_rfl)
        (Posts.stable_at _ (by repeat' (first | exact trivial | (refine And.intro ?_ ?_) | exact Posts.is_stable _ | exact Posts.on_stable _ _ | assumption))) trivial ?_ ?_)
      · refine ⟨?_, ?_, ?_, ?_, ?_, ?_, ?_, ?_, ?_, ?_, ?_, trivial⟩
        · intro a X hX hS hD hJ hU
          have x2 := (hX.cell (p := ⟨p, off + 2, none⟩) (Nat.lt_of_lt_of_le hp0 hB1.size)).trans e2
          have x3 := (hX.cell (p := ⟨p, off + 3, none⟩) (Nat.lt_of_lt_of_le hp0 hB1.size)).trans e3
          have d0 := Posts.slot (show a.eval (.tmp 0) = .slice (some ⟨p, off, none⟩) n c from hS.other 0 rfl)
          exact Posts.op_value (fun _ => trivial) rfl rfl (by intro c h; cases h) rfl (by rw [hS.size]; simp) (v := .slice (some ⟨p, off, none⟩) n c) (by simp [execOp, d0,  go_sem, x2, x3, hn2, hn3, hnz, u1, u2, u3, u4]) rfl (hE.refl _) trivial
        · intro a X hX hS hD hJ hU
          have x2 := (hX.cell (p := ⟨p, off + 2, none⟩) (Nat.lt_of_lt_of_le hp0 hB1.size)).trans e2
          have x3 := (hX.cell (p := ⟨p, off + 3, none⟩) (Nat.lt_of_lt_of_le hp0 hB1.size)).trans e3
          have d16 := Posts.slot (show a.eval (.tmp 16) = .slice (some ⟨p, off, none⟩) n c from hD.1)
          exact Posts.op_value (fun _ => trivial) rfl rfl (by intro c h; cases h) rfl (by rw [hS.size]; simp) (v := .pointer (some ⟨p, off + 2, none⟩)) (by simp [execOp, d16,  go_sem, x2, x3, hn2, hn3, hnz, u1, u2, u3, u4]) rfl (hE.refl _) trivial
        · intro a X hX hS hD hJ hU
          have x2 := (hX.cell (p := ⟨p, off + 2, none⟩) (Nat.lt_of_lt_of_le hp0 hB1.size)).trans e2
          have x3 := (hX.cell (p := ⟨p, off + 3, none⟩) (Nat.lt_of_lt_of_le hp0 hB1.size)).trans e3
          have d17 := Posts.slot (show a.eval (.tmp 17) = .pointer (some ⟨p, off + 2, none⟩) from hD.1)
          exact Posts.op_value (fun _ => trivial) rfl rfl (by intro c h; cases h) rfl (by rw [hS.size]; simp) (v := .int .u8 y2) (by simp [execOp, d17,  go_sem, x2, x3, hn2, hn3, hnz, u1, u2, u3, u4]) rfl (hE.refl _) trivial
        · intro a X hX hS hD hJ hU
          have x2 := (hX.cell (p := ⟨p, off + 2, none⟩) (Nat.lt_of_lt_of_le hp0 hB1.size)).trans e2
          have x3 := (hX.cell (p := ⟨p, off + 3, none⟩) (Nat.lt_of_lt_of_le hp0 hB1.size)).trans e3
          have d18 := Posts.slot (show a.eval (.tmp 18) = .int .u8 y2 from hD.1)
          exact Posts.op_value (fun _ => trivial) rfl rfl (by intro c h; cases h) rfl (by rw [hS.size]; simp) (v := .int .u16 y2) (by simp [execOp, d18,  go_sem, x2, x3, hn2, hn3, hnz, u1, u2, u3, u4]) rfl (hE.refl _) trivial
        · intro a X hX hS hD hJ hU
          have x2 := (hX.cell (p := ⟨p, off + 2, none⟩) (Nat.lt_of_lt_of_le hp0 hB1.size)).trans e2
          have x3 := (hX.cell (p := ⟨p, off + 3, none⟩) (Nat.lt_of_lt_of_le hp0 hB1.size)).trans e3
          have d0 := Posts.slot (show a.eval (.tmp 0) = .slice (some ⟨p, off, none⟩) n c from hS.other 0 rfl)
          exact Posts.op_value (fun _ => trivial) rfl rfl (by intro c h; cases h) rfl (by rw [hS.size]; simp) (v := .slice (some ⟨p, off, none⟩) n c) (by simp [execOp, d0,  go_sem, x2, x3, hn2, hn3, hnz, u1, u2, u3, u4]) rfl (hE.refl _) trivial
        · intro a X hX hS hD hJ hU
          have x2 := (hX.cell (p := ⟨p, off + 2, none⟩) (Nat.lt_of_lt_of_le hp0 hB1.size)).trans e2
          have x3 := (hX.cell (p := ⟨p, off + 3, none⟩) (Nat.lt_of_lt_of_le hp0 hB1.size)).trans e3
          have d20 := Posts.slot (show a.eval (.tmp 20) = .slice (some ⟨p, off, none⟩) n c from hD.1)
          exact Posts.op_value (fun _ => trivial) rfl rfl (by intro c h; cases h) rfl (by rw [hS.size]; simp) (v := .pointer (some ⟨p, off + 3, none⟩)) (by simp [execOp, d20,  go_sem, x2, x3, hn2, hn3, hnz, u1, u2, u3, u4]) rfl (hE.refl _) trivial
        · intro a X hX hS hD hJ hU
          have x2 := (hX.cell (p := ⟨p, off + 2, none⟩) (Nat.lt_of_lt_of_le hp0 hB1.size)).trans e2
          have x3 := (hX.cell (p := ⟨p, off + 3, none⟩) (Nat.lt_of_lt_of_le hp0 hB1.size)).trans e3
          have d21 := Posts.slot (show a.eval (.tmp 21) = .pointer (some ⟨p, off + 3, none⟩) from hD.1)
          exact Posts.op_value (fun _ => trivial) rfl rfl (by intro c h; cases h) rfl (by rw [hS.size]; simp) (v := .int .u8 y3) (by simp [execOp, d21,  go_sem, x2, x3, hn2, hn3, hnz, u1, u2, u3, u4]) rfl (hE.refl _) trivial
        · intro a X hX hS hD hJ hU
          have x2 := (hX.cell (p := ⟨p, off + 2, none⟩) (Nat.lt_of_lt_of_le hp0 hB1.size)).trans e2
          have x3 := (hX.cell (p := ⟨p, off + 3, none⟩) (Nat.lt_of_lt_of_le hp0 hB1.size)).trans e3
          have d22 := Posts.slot (show a.eval (.tmp 22) = .int .u8 y3 from hD.1)
          exact Posts.op_value (fun _ => trivial) rfl rfl (by intro c h; cases h) rfl (by rw [hS.size]; simp) (v := .int .u16 y3) (by simp [execOp, d22,  go_sem, x2, x3, hn2, hn3, hnz, u1, u2, u3, u4]) rfl (hE.refl _) trivial
        · intro a X hX hS hD hJ hU
          have x2 := (hX.cell (p := ⟨p, off + 2, none⟩) (Nat.lt_of_lt_of_le hp0 hB1.size)).trans e2
          have x3 := (hX.cell (p := ⟨p, off + 3, none⟩) (Nat.lt_of_lt_of_le hp0 hB1.size)).trans e3
          have d23 := Posts.slot (show a.eval (.tmp 23) = .int .u16 y3 from hD.1)
          exact Posts.op_value (fun _ => trivial) rfl rfl (by intro c h; cases h) rfl (by rw [hS.size]; simp) (v := .int .u16 (256 * y3)) (by simp [execOp, d23,  go_sem, x2, x3, hn2, hn3, hnz, u1, u2, u3, u4]) rfl (hE.refl _) trivial
        · intro a X hX hS hD hJ hU
          have x2 := (hX.cell (p := ⟨p, off + 2, none⟩) (Nat.lt_of_lt_of_le hp0 hB1.size)).trans e2
          have x3 := (hX.cell (p := ⟨p, off + 3, none⟩) (Nat.lt_of_lt_of_le hp0 hB1.size)).trans e3
          have d19 := Posts.slot (show a.eval (.tmp 19) = .int .u16 y2 from hD.1)
          have d24 := Posts.slot (show a.eval (.tmp 24) = .int .u16 (256 * y3) from hD.2.1)
          exact Posts.op_value (fun _ => trivial) rfl rfl (by intro c h; cases h) rfl (by rw [hS.size]; simp) (v := .int .u16 (y2 + 256 * y3)) (by simp [execOp, d19, d24,  go_sem, x2, x3, hn2, hn3, hnz, u1, u2, u3, u4]) rfl (hE.refl _) trivial
        · intro a X hX hS hD hJ hU
          have x2 := (hX.cell (p := ⟨p, off + 2, none⟩) (Nat.lt_of_lt_of_le hp0 hB1.size)).trans e2
          have x3 := (hX.cell (p := ⟨p, off + 3, none⟩) (Nat.lt_of_lt_of_le hp0 hB1.size)).trans e3
          have d4 := Posts.slot (show a.eval (.tmp 4) = .pointer (some ⟨V2, 0, none⟩) from hS.other 4 rfl)
          exact Posts.op_value (fun _ => trivial) rfl rfl (by intro c h; cases h) rfl (by rw [hS.size]; simp) (v := .pointer (some ⟨V2, 2, none⟩)) (by simp [execOp, d4,  go_sem, x2, x3, hn2, hn3, hnz, u1, u2, u3, u4]) rfl (hE.refl _) trivial
      · intro a0 Y hY hS hJt hL
        have p16 := Posts.slot (show a0.eval (.tmp 16) = .slice (some ⟨p, off, none⟩) n c from hL.1)
        have p17 := Posts.slot (show a0.eval (.tmp 17) = .pointer (some ⟨p, off + 2, none⟩) from hL.2.1)
        have p18 := Posts.slot (show a0.eval (.tmp 18) = .int .u8 y2 from hL.2.2.1)
        have p19 := Posts.slot (show a0.eval (.tmp 19) = .int .u16 y2 from hL.2.2.2.1)
        have p20 := Posts.slot (show a0.eval (.tmp 20) = .slice (some ⟨p, off, none⟩) n c from hL.2.2.2.2.1)
        have p21 := Posts.slot (show a0.eval (.tmp 21) = .pointer (some ⟨p, off + 3, none⟩) from hL.2.2.2.2.2.1)
        have p22 := Posts.slot (show a0.eval (.tmp 22) = .int .u8 y3 from hL.2.2.2.2.2.2.1)
        have p23 := Posts.slot (show a0.eval (.tmp 23) = .int .u16 y3 from hL.2.2.2.2.2.2.2.1)
        have p24 := Posts.slot (show a0.eval (.tmp 24) = .int .u16 (256 * y3) from hL.2.2.2.2.2.2.2.2.1)
        have p25 := Posts.slot (show a0.eval (.tmp 25) = .int .u16 (y2 + 256 * y3) from hL.2.2.2.2.2.2.2.2.2.1)
        have p26 := Posts.slot (show a0.eval (.tmp 26) = .pointer (some ⟨V2, 2, none⟩) from hL.2.2.2.2.2.2.2.2.2.2.1)
        have hfr := hS.frame [16, 17, 18, 19, 20, 21, 22, 23, 24, 25, 26] (fun t ht => by simp [Posts.isDst] at ht; first | (rcases ht with h | h | h | h | h | h | h | h | h | h | h <;> subst h <;> simp) | (subst ht; simp))
        simp only [List.foldl_cons, List.foldl_nil] at hfr
        have hdf := hS.defers
        simp only [Array.getD_eq_getD_getElem?] at hfr
        clear hL hS
        generalize a0.tmps[16]?.getD undef = v16 at *
        generalize a0.tmps[17]?.getD undef = v17 at *
        generalize a0.tmps[18]?.getD undef = v18 at *
        generalize a0.tmps[19]?.getD undef = v19 at *
        generalize a0.tmps[20]?.getD undef = v20 at *
        generalize a0.tmps[21]?.getD undef = v21 at *
        generalize a0.tmps[22]?.getD undef = v22 at *
        generalize a0.tmps[23]?.getD undef = v23 at *
        generalize a0.tmps[24]?.getD undef = v24 at *
        generalize a0.tmps[25]?.getD undef = v25 at *
        generalize a0.tmps[26]?.getD undef = v26 at *
        obtain rfl := p16
        obtain rfl := p17
        obtain rfl := p18
        obtain rfl := p19
        obtain rfl := p20
        obtain rfl := p21
        obtain rfl := p22
        obtain rfl := p23
        obtain rfl := p24
        obtain rfl := p25
        obtain rfl := p26
        obtain ⟨tm, df⟩ := a0
        simp only [List.setIfInBounds_toArray, List.set_cons_succ, List.set_cons_zero] at hfr hdf
        subst hfr
        subst hdf
        have hz : Y.heap[V2]? = _ := (hY.block _ (lt_of_block hq)).trans hq
        obtain ⟨z0, z1, z2, z3⟩ := cells4 hz
        have zf : ∀ j, Y.frozen? ⟨V2, j, none⟩ = false := fun j => by simp [World.frozen?, hz]
        refine Posts.tail_op 11 (by kernel_rfl) (Posts.op_done (fun _ => trivial) rfl rfl (by intro c h; cases h) (Y := Y.setCell ⟨V2, 2, none⟩ (.int .u16 (y2 + 256 * y3))) (by simp [execOp, Act.eval, z0, z1, z2, z3, zf, go_sem]) ?_)
        refine ⟨by kernel_rfl, ?_⟩
        simp only [Exit.inBlock, Exit.then]
        rename_i hK q1 q2
        refine hK _ _ ?_
        simp only [Act.put]
        have hq2 : (Y.setCell ⟨V2, 2, none⟩ (.int .u16 (y2 + 256 * y3))).heap[V2]? = some (.cells #[.int .u8 y0, .int .u8 y1, .int .u16 (y2 + 256 * y3), .int .u32 0] 32) := by
          have := row_setCell (j := 2) (u := .int .u16 (y2 + 256 * y3)) hz
          simpa using this
        have hB2 : Below W0.heap.size W0 (Y.setCell ⟨V2, 2, none⟩ (.int .u16 (y2 + 256 * y3))) := (hB1.trans (hY.mono hB1.size)).setCell (p := ⟨V2, 2, none⟩) hV2 _
        clear z0 z1 z2 z3 zf hz hq hB1
        generalize Y.setCell ⟨V2, 2, none⟩ (.int .u16 (y2 + 256 * y3)) = W2 at *
        clear hY
        have f4 := (hB2.cell (p := ⟨p, off + 4, none⟩) hp0).trans d4
        have f5 := (hB2.cell (p := ⟨p, off + 5, none⟩) hp0).trans d5
        have f6 := (hB2.cell (p := ⟨p, off + 6, none⟩) hp0).trans d6
        have f7 := (hB2.cell (p := ⟨p, off + 7, none⟩) hp0).trans d7
        clear e0 e1 e2 e3 e4 e5 e6 e7 d0 d1 d2 d3 d4 d5 d6 d7
        go_wp2_with fail
        refine (wpIn_wide (n := 0)).1 (Posts.wpIn_region_tail hE 23 1 (Posts.At [Posts.is (.slice (some ⟨p, off, none⟩) n c), Posts.is (.pointer (some ⟨p, off + 4, none⟩)), Posts.is (.int .u8 y4), Posts.is (.int .u32 y4), Posts.is (.slice (some ⟨p, off, none⟩) n c), Posts.is (.pointer (some ⟨p, off + 5, none⟩)), Posts.is (.int .u8 y5), Posts.is (.int .u32 y5), Posts.is (.int .u32 (256 * y5)), Posts.is (.int .u32 (y4 + 256 * y5)), Posts.is (.slice (some ⟨p, off, none⟩) n c), Posts.is (.pointer (some ⟨p, off + 6, none⟩)), Posts.is (.int .u8 y6), Posts.is (.int .u32 y6), Posts.is (.int .u32 (65536 * y6)), Posts.is (.int .u32 (y4 + 256 * y5 + 65536 * y6)), Posts.is (.slice (some ⟨p, off, none⟩) n c), Posts.is (.pointer (some ⟨p, off + 7, none⟩)), Posts.is (.int .u8 y7), Posts.is (.int .u32 y7), Posts.is (.int .u32 (16777216 * y7)), Posts.is (.int .u32 (y4 + 256 * y5 + 65536 * y6 + 16777216 * y7)), Posts.is (.pointer (some ⟨V2, 3, none⟩))]) (fun _ _ => True) (by kernel_rfl) (by decide) (by kernel_rfl) (by kernel_rfl) (by kernel_rfl)
          (Posts.stable_at _ (by repeat' (first | exact trivial | (refine And.intro ?_ ?_) | exact Posts.is_stable _ | exact Posts.on_stable _ _ | assumption))) trivial ?_ ?_)
        · refine ⟨?_, ?_, ?_, ?_, ?_, ?_, ?_, ?_, ?_, ?_, ?_, ?_, ?_, ?_, ?_, ?_, ?_, ?_, ?_, ?_, ?_, ?_, ?_, trivial⟩
          · intro a X hX hS hD hJ hU
            have x4 := (hX.cell (p := ⟨p, off + 4, none⟩) (Nat.lt_of_lt_of_le hp0 hB2.size)).trans f4
            have x5 := (hX.cell (p := ⟨p, off + 5, none⟩) (Nat.lt_of_lt_of_le hp0 hB2.size)).trans f5
            have x6 := (hX.cell (p := ⟨p, off + 6, none⟩) (Nat.lt_of_lt_of_le hp0 hB2.size)).trans f6
            have x7 := (hX.cell (p := ⟨p, off + 7, none⟩) (Nat.lt_of_lt_of_le hp0 hB2.size)).trans f7
            have d0 := Posts.slot (show a.eval (.tmp 0) = .slice (some ⟨p, off, none⟩) n c from hS.other 0 rfl)
            exact Posts.op_value (fun _ => trivial) rfl rfl (by intro c h; cases h) rfl (by rw [hS.size]; simp) (v := .slice (some ⟨p, off, none⟩) n c) (by simp [execOp, d0,  go_sem, x4, x5, x6, x7, hn4, hn5, hn6, hn7, hnz, v1, v2, v3, v4, v5, v6, v7, v8, v9, v10]) rfl (hE.refl _) trivial
          · intro a X hX hS hD hJ hU
            have x4 := (hX.cell (p := ⟨p, off + 4, none⟩) (Nat.lt_of_lt_of_le hp0 hB2.size)).trans f4
            have x5 := (hX.cell (p := ⟨p, off + 5, none⟩) (Nat.lt_of_lt_of_le hp0 hB2.size)).trans f5
            have x6 := (hX.cell (p := ⟨p, off + 6, none⟩) (Nat.lt_of_lt_of_le hp0 hB2.size)).trans f6
            have x7 := (hX.cell (p := ⟨p, off + 7, none⟩) (Nat.lt_of_lt_of_le hp0 hB2.size)).trans f7
            have d27 := Posts.slot (show a.eval (.tmp 27) = .slice (some ⟨p, off, none⟩) n c from hD.1)
            exact Posts.op_value (fun _ => trivial) rfl rfl (by intro c h; cases h) rfl (by rw [hS.size]; simp) (v := .pointer (some ⟨p, off + 4, none⟩)) (by simp [execOp, d27,  go_sem, x4, x5, x6, x7, hn4, hn5, hn6, hn7, hnz, v1, v2, v3, v4, v5, v6, v7, v8, v9, v10]) rfl (hE.refl _) trivial
          · intro a X hX hS hD hJ hU
            have x4 := (hX.cell (p := ⟨p, off + 4, none⟩) (Nat.lt_of_lt_of_le hp0 hB2.size)).trans f4
            have x5 := (hX.cell (p := ⟨p, off + 5, none⟩) (Nat.lt_of_lt_of_le hp0 hB2.size)).trans f5
            have x6 := (hX.cell (p := ⟨p, off + 6, none⟩) (Nat.lt_of_lt_of_le hp0 hB2.size)).trans f6
            have x7 := (hX.cell (p := ⟨p, off + 7, none⟩) (Nat.lt_of_lt_of_le hp0 hB2.size)).trans f7
            have d28 := Posts.slot (show a.eval (.tmp 28) = .pointer (some ⟨p, off + 4, none⟩) from hD.1)
            exact Posts.op_value (fun _ => trivial) rfl rfl (by intro c h; cases h) rfl (by rw [hS.size]; simp) (v := .int .u8 y4) (by simp [execOp, d28,  go_sem, x4, x5, x6, x7, hn4, hn5, hn6, hn7, hnz, v1, v2, v3, v4, v5, v6, v7, v8, v9, v10]) rfl (hE.refl _) trivial
          · intro a X hX hS hD hJ hU
            have x4 := (hX.cell (p := ⟨p, off + 4, none⟩) (Nat.lt_of_lt_of_le hp0 hB2.size)).trans f4
            have x5 := (hX.cell (p := ⟨p, off + 5, none⟩) (Nat.lt_of_lt_of_le hp0 hB2.size)).trans f5
            have x6 := (hX.cell (p := ⟨p, off + 6, none⟩) (Nat.lt_of_lt_of_le hp0 hB2.size)).trans f6
            have x7 := (hX.cell (p := ⟨p, off + 7, none⟩) (Nat.lt_of_lt_of_le hp0 hB2.size)).trans f7
            have d29 := Posts.slot (show a.eval (.tmp 29) = .int .u8 y4 from hD.1)
            exact Posts.op_value (fun _ => trivial) rfl rfl (by intro c h; cases h) rfl (by rw [hS.size]; simp) (v := .int .u32 y4) (by simp [execOp, d29,  go_sem, x4, x5, x6, x7, hn4, hn5, hn6, hn7, hnz, v1, v2, v3, v4, v5, v6, v7, v8, v9, v10]) rfl (hE.refl _) trivial
          · intro a X hX hS hD hJ hU
            have x4 := (hX.cell (p := ⟨p, off + 4, none⟩) (Nat.lt_of_lt_of_le hp0 hB2.size)).trans f4
            have x5 := (hX.cell (p := ⟨p, off + 5, none⟩) (Nat.lt_of_lt_of_le hp0 hB2.size)).trans f5
            have x6 := (hX.cell (p := ⟨p, off + 6, none⟩) (Nat.lt_of_lt_of_le hp0 hB2.size)).trans f6
            have x7 := (hX.cell (p := ⟨p, off + 7, none⟩) (Nat.lt_of_lt_of_le hp0 hB2.size)).trans f7
            have d0 := Posts.slot (show a.eval (.tmp 0) = .slice (some ⟨p, off, none⟩) n c from hS.other 0 rfl)
            exact Posts.op_value (fun _ => trivial) rfl rfl (by intro c h; cases h) rfl (by rw [hS.size]; simp) (v := .slice (some ⟨p, off, none⟩) n c) (by simp [execOp, d0,  go_sem, x4, x5, x6, x7, hn4, hn5, hn6, hn7, hnz, v1, v2, v3, v4, v5, v6, v7, v8, v9, v10]) rfl (hE.refl _) trivial
          · intro a X hX hS hD hJ hU
            have x4 := (hX.cell (p := ⟨p, off + 4, none⟩) (Nat.lt_of_lt_of_le hp0 hB2.size)).trans f4
            have x5 := (hX.cell (p := ⟨p, off + 5, none⟩) (Nat.lt_of_lt_of_le hp0 hB2.size)).trans f5
            have x6 := (hX.cell (p := ⟨p, off + 6, none⟩) (Nat.lt_of_lt_of_le hp0 hB2.size)).trans f6
            have x7 := (hX.cell (p := ⟨p, off + 7, none⟩) (Nat.lt_of_lt_of_le hp0 hB2.size)).trans f7
            have d31 := Posts.slot (show a.eval (.tmp 31) = .slice (some ⟨p, off, none⟩) n c from hD.1)
            exact Posts.op_value (fun _ => trivial) rfl rfl (by intro c h; cases h) rfl (by rw [hS.size]; simp) (v := .pointer (some ⟨p, off + 5, none⟩)) (by simp [execOp, d31,  go_sem, x4, x5, x6, x7, hn4, hn5, hn6, hn7, hnz, v1, v2, v3, v4, v5, v6, v7, v8, v9, v10]) rfl (hE.refl _) trivial
          · intro a X hX hS hD hJ hU
            have x4 := (hX.cell (p := ⟨p, off + 4, none⟩) (Nat.lt_of_lt_of_le hp0 hB2.size)).trans f4
            have x5 := (hX.cell (p := ⟨p, off + 5, none⟩) (Nat.lt_of_lt_of_le hp0 hB2.size)).trans f5
            have x6 := (hX.cell (p := ⟨p, off + 6, none⟩) (Nat.lt_of_lt_of_le hp0 hB2.size)).trans f6
            have x7 := (hX.cell (p := ⟨p, off + 7, none⟩) (Nat.lt_of_lt_of_le hp0 hB2.size)).trans f7
            have d32 := Posts.slot (show a.eval (.tmp 32) = .pointer (some ⟨p, off + 5, none⟩) from hD.1)
            exact Posts.op_value (fun _ => trivial) rfl rfl (by intro c h; cases h) rfl (by rw [hS.size]; simp) (v := .int .u8 y5) (by simp [execOp, d32,  go_sem, x4, x5, x6, x7, hn4, hn5, hn6, hn7, hnz, v1, v2, v3, v4, v5, v6, v7, v8, v9, v10]) rfl (hE.refl _) trivial
          · intro a X hX hS hD hJ hU
            have x4 := (hX.cell (p := ⟨p, off + 4, none⟩) (Nat.lt_of_lt_of_le hp0 hB2.size)).trans f4
            have x5 := (hX.cell (p := ⟨p, off + 5, none⟩) (Nat.lt_of_lt_of_le hp0 hB2.size)).trans f5
            have x6 := (hX.cell (p := ⟨p, off + 6, none⟩) (Nat.lt_of_lt_of_le hp0 hB2.size)).trans f6
            have x7 := (hX.cell (p := ⟨p, off + 7, none⟩) (Nat.lt_of_lt_of_le hp0 hB2.size)).trans f7
            have d33 := Posts.slot (show a.eval (.tmp 33) = .int .u8 y5 from hD.1)
            exact Posts.op_value (fun _ => trivial) rfl rfl (by intro c h; cases h) rfl (by rw [hS.size]; simp) (v := .int .u32 y5) (by simp [execOp, d33,  go_sem, x4, x5, x6, x7, hn4, hn5, hn6, hn7, hnz, v1, v2, v3, v4, v5, v6, v7, v8, v9, v10]) rfl (hE.refl _) trivial
          · intro a X hX hS hD hJ hU
            have x4 := (hX.cell (p := ⟨p, off + 4, none⟩) (Nat.lt_of_lt_of_le hp0 hB2.size)).trans f4
            have x5 := (hX.cell (p := ⟨p, off + 5, none⟩) (Nat.lt_of_lt_of_le hp0 hB2.size)).trans f5
            have x6 := (hX.cell (p := ⟨p, off + 6, none⟩) (Nat.lt_of_lt_of_le hp0 hB2.size)).trans f6
            have x7 := (hX.cell (p := ⟨p, off + 7, none⟩) (Nat.lt_of_lt_of_le hp0 hB2.size)).trans f7
            have d34 := Posts.slot (show a.eval (.tmp 34) = .int .u32 y5 from hD.1)
            exact Posts.op_value (fun _ => trivial) rfl rfl (by intro c h; cases h) rfl (by rw [hS.size]; simp) (v := .int .u32 (256 * y5)) (by simp [execOp, d34,  go_sem, x4, x5, x6, x7, hn4, hn5, hn6, hn7, hnz, v1, v2, v3, v4, v5, v6, v7, v8, v9, v10]) rfl (hE.refl _) trivial
          · intro a X hX hS hD hJ hU
            have x4 := (hX.cell (p := ⟨p, off + 4, none⟩) (Nat.lt_of_lt_of_le hp0 hB2.size)).trans f4
            have x5 := (hX.cell (p := ⟨p, off + 5, none⟩) (Nat.lt_of_lt_of_le hp0 hB2.size)).trans f5
            have x6 := (hX.cell (p := ⟨p, off + 6, none⟩) (Nat.lt_of_lt_of_le hp0 hB2.size)).trans f6
            have x7 := (hX.cell (p := ⟨p, off + 7, none⟩) (Nat.lt_of_lt_of_le hp0 hB2.size)).trans f7
            have d30 := Posts.slot (show a.eval (.tmp 30) = .int .u32 y4 from hD.1)
            have d35 := Posts.slot (show a.eval (.tmp 35) = .int .u32 (256 * y5) from hD.2.1)
            exact Posts.op_value (fun _ => trivial) rfl rfl (by intro c h; cases h) rfl (by rw [hS.size]; simp) (v := .int .u32 (y4 + 256 * y5)) (by simp [execOp, d30, d35,  go_sem, x4, x5, x6, x7, hn4, hn5, hn6, hn7, hnz, v1, v2, v3, v4, v5, v6, v7, v8, v9, v10]) rfl (hE.refl _) trivial
          · intro a X hX hS hD hJ hU
            have x4 := (hX.cell (p := ⟨p, off + 4, none⟩) (Nat.lt_of_lt_of_le hp0 hB2.size)).trans f4
            have x5 := (hX.cell (p := ⟨p, off + 5, none⟩) (Nat.lt_of_lt_of_le hp0 hB2.size)).trans f5
            have x6 := (hX.cell (p := ⟨p, off + 6, none⟩) (Nat.lt_of_lt_of_le hp0 hB2.size)).trans f6
            have x7 := (hX.cell (p := ⟨p, off + 7, none⟩) (Nat.lt_of_lt_of_le hp0 hB2.size)).trans f7
            have d0 := Posts.slot (show a.eval (.tmp 0) = .slice (some ⟨p, off, none⟩) n c from hS.other 0 rfl)
            exact Posts.op_value (fun _ => trivial) rfl rfl (by intro c h; cases h) rfl (by rw [hS.size]; simp) (v := .slice (some ⟨p, off, none⟩) n c) (by simp [execOp, d0,  go_sem, x4, x5, x6, x7, hn4, hn5, hn6, hn7, hnz, v1, v2, v3, v4, v5, v6, v7, v8, v9, v10]) rfl (hE.refl _) trivial
          · intro a X hX hS hD hJ hU
            have x4 := (hX.cell (p := ⟨p, off + 4, none⟩) (Nat.lt_of_lt_of_le hp0 hB2.size)).trans f4
            have x5 := (hX.cell (p := ⟨p, off + 5, none⟩) (Nat.lt_of_lt_of_le hp0 hB2.size)).trans f5
            have x6 := (hX.cell (p := ⟨p, off + 6, none⟩) (Nat.lt_of_lt_of_le hp0 hB2.size)).trans f6
            have x7 := (hX.cell (p := ⟨p, off + 7, none⟩) (Nat.lt_of_lt_of_le hp0 hB2.size)).trans f7
            have d37 := Posts.slot (show a.eval (.tmp 37) = .slice (some ⟨p, off, none⟩) n c from hD.1)
            exact Posts.op_value (fun _ => trivial) rfl rfl (by intro c h; cases h) rfl (by rw [hS.size]; simp) (v := .pointer (some ⟨p, off + 6, none⟩)) (by simp [execOp, d37,  go_sem, x4, x5, x6, x7, hn4, hn5, hn6, hn7, hnz, v1, v2, v3, v4, v5, v6, v7, v8, v9, v10]) rfl (hE.refl _) trivial
          · intro a X hX hS hD hJ hU
            have x4 := (hX.cell (p := ⟨p, off + 4, none⟩) (Nat.lt_of_lt_of_le hp0 hB2.size)).trans f4
            have x5 := (hX.cell (p := ⟨p, off + 5, none⟩) (Nat.lt_of_lt_of_le hp0 hB2.size)).trans f5
            have x6 := (hX.cell (p := ⟨p, off + 6, none⟩) (Nat.lt_of_lt_of_le hp0 hB2.size)).trans f6
            have x7 := (hX.cell (p := ⟨p, off + 7, none⟩) (Nat.lt_of_lt_of_le hp0 hB2.size)).trans f7
            have d38 := Posts.slot (show a.eval (.tmp 38) = .pointer (some ⟨p, off + 6, none⟩) from hD.1)
            exact Posts.op_value (fun _ => trivial) rfl rfl (by intro c h; cases h) rfl (by rw [hS.size]; simp) (v := .int .u8 y6) (by simp [execOp, d38,  go_sem, x4, x5, x6, x7, hn4, hn5, hn6, hn7, hnz, v1, v2, v3, v4, v5, v6, v7, v8, v9, v10]) rfl (hE.refl _) trivial
          · intro a X hX hS hD hJ hU
            have x4 := (hX.cell (p := ⟨p, off + 4, none⟩) (Nat.lt_of_lt_of_le hp0 hB2.size)).trans f4
            have x5 := (hX.cell (p := ⟨p, off + 5, none⟩) (Nat.lt_of_lt_of_le hp0 hB2.size)).trans f5
            have x6 := (hX.cell (p := ⟨p, off + 6, none⟩) (Nat.lt_of_lt_of_le hp0 hB2.size)).trans f6
            have x7 := (hX.cell (p := ⟨p, off + 7, none⟩) (Nat.lt_of_lt_of_le hp0 hB2.size)).trans f7
            have d39 := Posts.slot (show a.eval (.tmp 39) = .int .u8 y6 from hD.1)
            exact Posts.op_value (fun _ => trivial) rfl rfl (by intro c h; cases h) rfl (by rw [hS.size]; simp) (v := .int .u32 y6) (by simp [execOp, d39,  go_sem, x4, x5, x6, x7, hn4, hn5, hn6, hn7, hnz, v1, v2, v3, v4, v5, v6, v7, v8, v9, v10]) rfl (hE.refl _) trivial
          · intro a X hX hS hD hJ hU
            have x4 := (hX.cell (p := ⟨p, off + 4, none⟩) (Nat.lt_of_lt_of_le hp0 hB2.size)).trans f4
            have x5 := (hX.cell (p := ⟨p, off + 5, none⟩) (Nat.lt_of_lt_of_le hp0 hB2.size)).trans f5
            have x6 := (hX.cell (p := ⟨p, off + 6, none⟩) (Nat.lt_of_lt_of_le hp0 hB2.size)).trans f6
            have x7 := (hX.cell (p := ⟨p, off + 7, none⟩) (Nat.lt_of_lt_of_le hp0 hB2.size)).trans f7
            have d40 := Posts.slot (show a.eval (.tmp 40) = .int .u32 y6 from hD.1)
            exact Posts.op_value (fun _ => trivial) rfl rfl (by intro c h; cases h) rfl (by rw [hS.size]; simp) (v := .int .u32 (65536 * y6)) (by simp [execOp, d40,  go_sem, x4, x5, x6, x7, hn4, hn5, hn6, hn7, hnz, v1, v2, v3, v4, v5, v6, v7, v8, v9, v10]) rfl (hE.refl _) trivial
          · intro a X hX hS hD hJ hU
            have x4 := (hX.cell (p := ⟨p, off + 4, none⟩) (Nat.lt_of_lt_of_le hp0 hB2.size)).trans f4
            have x5 := (hX.cell (p := ⟨p, off + 5, none⟩) (Nat.lt_of_lt_of_le hp0 hB2.size)).trans f5
            have x6 := (hX.cell (p := ⟨p, off + 6, none⟩) (Nat.lt_of_lt_of_le hp0 hB2.size)).trans f6
            have x7 := (hX.cell (p := ⟨p, off + 7, none⟩) (Nat.lt_of_lt_of_le hp0 hB2.size)).trans f7
            have d36 := Posts.slot (show a.eval (.tmp 36) = .int .u32 (y4 + 256 * y5) from hD.1)
            have d41 := Posts.slot (show a.eval (.tmp 41) = .int .u32 (65536 * y6) from hD.2.1)
            exact Posts.op_value (fun _ => trivial) rfl rfl (by intro c h; cases h) rfl (by rw [hS.size]; simp) (v := .int .u32 (y4 + 256 * y5 + 65536 * y6)) (by simp [execOp, d36, d41,  go_sem, x4, x5, x6, x7, hn4, hn5, hn6, hn7, hnz, v1, v2, v3, v4, v5, v6, v7, v8, v9, v10]) rfl (hE.refl _) trivial
          · intro a X hX hS hD hJ hU
            have x4 := (hX.cell (p := ⟨p, off + 4, none⟩) (Nat.lt_of_lt_of_le hp0 hB2.size)).trans f4
            have x5 := (hX.cell (p := ⟨p, off + 5, none⟩) (Nat.lt_of_lt_of_le hp0 hB2.size)).trans f5
            have x6 := (hX.cell (p := ⟨p, off + 6, none⟩) (Nat.lt_of_lt_of_le hp0 hB2.size)).trans f6
            have x7 := (hX.cell (p := ⟨p, off + 7, none⟩) (Nat.lt_of_lt_of_le hp0 hB2.size)).trans f7
            have d0 := Posts.slot (show a.eval (.tmp 0) = .slice (some ⟨p, off, none⟩) n c from hS.other 0 rfl)
            exact Posts.op_value (fun _ => trivial) rfl rfl (by intro c h; cases h) rfl (by rw [hS.size]; simp) (v := .slice (some ⟨p, off, none⟩) n c) (by simp [execOp, d0,  go_sem, x4, x5, x6, x7, hn4, hn5, hn6, hn7, hnz, v1, v2, v3, v4, v5, v6, v7, v8, v9, v10]) rfl (hE.refl _) trivial
          · intro a X hX hS hD hJ hU
            have x4 := (hX.cell (p := ⟨p, off + 4, none⟩) (Nat.lt_of_lt_of_le hp0 hB2.size)).trans f4
            have x5 := (hX.cell (p := ⟨p, off + 5, none⟩) (Nat.lt_of_lt_of_le hp0 hB2.size)).trans f5
            have x6 := (hX.cell (p := ⟨p, off + 6, none⟩) (Nat.lt_of_lt_of_le hp0 hB2.size)).trans f6
            have x7 := (hX.cell (p := ⟨p, off + 7, none⟩) (Nat.lt_of_lt_of_le hp0 hB2.size)).trans f7
            have d43 := Posts.slot (show a.eval (.tmp 43) = .slice (some ⟨p, off, none⟩) n c from hD.1)
            exact Posts.op_value (fun _ => trivial) rfl rfl (by intro c h; cases h) rfl (by rw [hS.size]; simp) (v := .pointer (some ⟨p, off + 7, none⟩)) (by simp [execOp, d43,  go_sem, x4, x5, x6, x7, hn4, hn5, hn6, hn7, hnz, v1, v2, v3, v4, v5, v6, v7, v8, v9, v10]) rfl (hE.refl _) trivial
          · intro a X hX hS hD hJ hU
            have x4 := (hX.cell (p := ⟨p, off + 4, none⟩) (Nat.lt_of_lt_of_le hp0 hB2.size)).trans f4
            have x5 := (hX.cell (p := ⟨p, off + 5, none⟩) (Nat.lt_of_lt_of_le hp0 hB2.size)).trans f5
            have x6 := (hX.cell (p := ⟨p, off + 6, none⟩) (Nat.lt_of_lt_of_le hp0 hB2.size)).trans f6
            have x7 := (hX.cell (p := ⟨p, off + 7, none⟩) (Nat.lt_of_lt_of_le hp0 hB2.size)).trans f7
            have d44 := Posts.slot (show a.eval (.tmp 44) = .pointer (some ⟨p, off + 7, none⟩) from hD.1)
            exact Posts.op_value (fun _ => trivial) rfl rfl (by intro c h; cases h) rfl (by rw [hS.size]; simp) (v := .int .u8 y7) (by simp [execOp, d44,  go_sem, x4, x5, x6, x7, hn4, hn5, hn6, hn7, hnz, v1, v2, v3, v4, v5, v6, v7, v8, v9, v10]) rfl (hE.refl _) trivial
          · intro a X hX hS hD hJ hU
            have x4 := (hX.cell (p := ⟨p, off + 4, none⟩) (Nat.lt_of_lt_of_le hp0 hB2.size)).trans f4
            have x5 := (hX.cell (p := ⟨p, off + 5, none⟩) (Nat.lt_of_lt_of_le hp0 hB2.size)).trans f5
            have x6 := (hX.cell (p := ⟨p, off + 6, none⟩) (Nat.lt_of_lt_of_le hp0 hB2.size)).trans f6
            have x7 := (hX.cell (p := ⟨p, off + 7, none⟩) (Nat.lt_of_lt_of_le hp0 hB2.size)).trans f7
            have d45 := Posts.slot (show a.eval (.tmp 45) = .int .u8 y7 from hD.1)
            exact Posts.op_value (fun _ => trivial) rfl rfl (by intro c h; cases h) rfl (by rw [hS.size]; simp) (v := .int .u32 y7) (by simp [execOp, d45,  go_sem, x4, x5, x6, x7, hn4, hn5, hn6, hn7, hnz, v1, v2, v3, v4, v5, v6, v7, v8, v9, v10]) rfl (hE.refl _) trivial
          · intro a X hX hS hD hJ hU
            have x4 := (hX.cell (p := ⟨p, off + 4, none⟩) (Nat.lt_of_lt_of_le hp0 hB2.size)).trans f4
            have x5 := (hX.cell (p := ⟨p, off + 5, none⟩) (Nat.lt_of_lt_of_le hp0 hB2.size)).trans f5
            have x6 := (hX.cell (p := ⟨p, off + 6, none⟩) (Nat.lt_of_lt_of_le hp0 hB2.size)).trans f6
            have x7 := (hX.cell (p := ⟨p, off + 7, none⟩) (Nat.lt_of_lt_of_le hp0 hB2.size)).trans f7
            have d46 := Posts.slot (show a.eval (.tmp 46) = .int .u32 y7 from hD.1)
            exact Posts.op_value (fun _ => trivial) rfl rfl (by intro c h; cases h) rfl (by rw [hS.size]; simp) (v := .int .u32 (16777216 * y7)) (by simp [execOp, d46,  go_sem, x4, x5, x6, x7, hn4, hn5, hn6, hn7, hnz, v1, v2, v3, v4, v5, v6, v7, v8, v9, v10]) rfl (hE.refl _) trivial
          · intro a X hX hS hD hJ hU
            have x4 := (hX.cell (p := ⟨p, off + 4, none⟩) (Nat.lt_of_lt_of_le hp0 hB2.size)).trans f4
            have x5 := (hX.cell (p := ⟨p, off + 5, none⟩) (Nat.lt_of_lt_of_le hp0 hB2.size)).trans f5
            have x6 := (hX.cell (p := ⟨p, off + 6, none⟩) (Nat.lt_of_lt_of_le hp0 hB2.size)).trans f6
            have x7 := (hX.cell (p := ⟨p, off + 7, none⟩) (Nat.lt_of_lt_of_le hp0 hB2.size)).trans f7
            have d42 := Posts.slot (show a.eval (.tmp 42) = .int .u32 (y4 + 256 * y5 + 65536 * y6) from hD.1)
            have d47 := Posts.slot (show a.eval (.tmp 47) = .int .u32 (16777216 * y7) from hD.2.1)
            exact Posts.op_value (fun _ => trivial) rfl rfl (by intro c h; cases h) rfl (by rw [hS.size]; simp) (v := .int .u32 (y4 + 256 * y5 + 65536 * y6 + 16777216 * y7)) (by simp [execOp, d42, d47,  go_sem, x4, x5, x6, x7, hn4, hn5, hn6, hn7, hnz, v1, v2, v3, v4, v5, v6, v7, v8, v9, v10]) rfl (hE.refl _) trivial
          · intro a X hX hS hD hJ hU
            have x4 := (hX.cell (p := ⟨p, off + 4, none⟩) (Nat.lt_of_lt_of_le hp0 hB2.size)).trans f4
            have x5 := (hX.cell (p := ⟨p, off + 5, none⟩) (Nat.lt_of_lt_of_le hp0 hB2.size)).trans f5
            have x6 := (hX.cell (p := ⟨p, off + 6, none⟩) (Nat.lt_of_lt_of_le hp0 hB2.size)).trans f6
            have x7 := (hX.cell (p := ⟨p, off + 7, none⟩) (Nat.lt_of_lt_of_le hp0 hB2.size)).trans f7
            have d4 := Posts.slot (show a.eval (.tmp 4) = .pointer (some ⟨V2, 0, none⟩) from hS.other 4 rfl)
            exact Posts.op_value (fun _ => trivial) rfl rfl (by intro c h; cases h) rfl (by rw [hS.size]; simp) (v := .pointer (some ⟨V2, 3, none⟩)) (by simp [execOp, d4,  go_sem, x4, x5, x6, x7, hn4, hn5, hn6, hn7, hnz, v1, v2, v3, v4, v5, v6, v7, v8, v9, v10]) rfl (hE.refl _) trivial
        · intro a0 Y hY hS hJt hL
          have p27 := Posts.slot (show a0.eval (.tmp 27) = .slice (some ⟨p, off, none⟩) n c from hL.1)
          have p28 := Posts.slot (show a0.eval (.tmp 28) = .pointer (some ⟨p, off + 4, none⟩) from hL.2.1)
          have p29 := Posts.slot (show a0.eval (.tmp 29) = .int .u8 y4 from hL.2.2.1)
          have p30 := Posts.slot (show a0.eval (.tmp 30) = .int .u32 y4 from hL.2.2.2.1)
          have p31 := Posts.slot (show a0.eval (.tmp 31) = .slice (some ⟨p, off, none⟩) n c from hL.2.2.2.2.1)
          have p32 := Posts.slot (show a0.eval (.tmp 32) = .pointer (some ⟨p, off + 5, none⟩) from hL.2.2.2.2.2.1)
          have p33 := Posts.slot (show a0.eval (.tmp 33) = .int .u8 y5 from hL.2.2.2.2.2.2.1)
          have p34 := Posts.slot (show a0.eval (.tmp 34) = .int .u32 y5 from hL.2.2.2.2.2.2.2.1)
          have p35 := Posts.slot (show a0.eval (.tmp 35) = .int .u32 (256 * y5) from hL.2.2.2.2.2.2.2.2.1)
          have p36 := Posts.slot (show a0.eval (.tmp 36) = .int .u32 (y4 + 256 * y5) from hL.2.2.2.2.2.2.2.2.2.1)
          have p37 := Posts.slot (show a0.eval (.tmp 37) = .slice (some ⟨p, off, none⟩) n c from hL.2.2.2.2.2.2.2.2.2.2.1)
          have p38 := Posts.slot (show a0.eval (.tmp 38) = .pointer (some ⟨p, off + 6, none⟩) from hL.2.2.2.2.2.2.2.2.2.2.2.1)
          have p39 := Posts.slot (show a0.eval (.tmp 39) = .int .u8 y6 from hL.2.2.2.2.2.2.2.2.2.2.2.2.1)
          have p40 := Posts.slot (show a0.eval (.tmp 40) = .int .u32 y6 from hL.2.2.2.2.2.2.2.2.2.2.2.2.2.1)
          have p41 := Posts.slot (show a0.eval (.tmp 41) = .int .u32 (65536 * y6) from hL.2.2.2.2.2.2.2.2.2.2.2.2.2.2.1)
          have p42 := Posts.slot (show a0.eval (.tmp 42) = .int .u32 (y4 + 256 * y5 + 65536 * y6) from hL.2.2.2.2.2.2.2.2.2.2.2.2.2.2.2.1)
          have p43 := Posts.slot (show a0.eval (.tmp 43) = .slice (some ⟨p, off, none⟩) n c from hL.2.2.2.2.2.2.2.2.2.2.2.2.2.2.2.2.1)
          have p44 := Posts.slot (show a0.eval (.tmp 44) = .pointer (some ⟨p, off + 7, none⟩) from hL.2.2.2.2.2.2.2.2.2.2.2.2.2.2.2.2.2.1)
          have p45 := Posts.slot (show a0.eval (.tmp 45) = .int .u8 y7 from hL.2.2.2.2.2.2.2.2.2.2.2.2.2.2.2.2.2.2.1)
          have p46 := Posts.slot (show a0.eval (.tmp 46) = .int .u32 y7 from hL.2.2.2.2.2.2.2.2.2.2.2.2.2.2.2.2.2.2.2.1)
          have p47 := Posts.slot (show a0.eval (.tmp 47) = .int .u32 (16777216 * y7) from hL.2.2.2.2.2.2.2.2.2.2.2.2.2.2.2.2.2.2.2.2.1)
          have p48 := Posts.slot (show a0.eval (.tmp 48) = .int .u32 (y4 + 256 * y5 + 65536 * y6 + 16777216 * y7) from hL.2.2.2.2.2.2.2.2.2.2.2.2.2.2.2.2.2.2.2.2.2.1)
          have p49 := Posts.slot (show a0.eval (.tmp 49) = .pointer (some ⟨V2, 3, none⟩) from hL.2.2.2.2.2.2.2.2.2.2.2.2.2.2.2.2.2.2.2.2.2.2.1)
          have hfr := hS.frame [27, 28, 29, 30, 31, 32, 33, 34, 35, 36, 37, 38, 39, 40, 41, 42, 43, 44, 45, 46, 47, 48, 49] (fun t ht => by simp [Posts.isDst] at ht; first | (rcases ht with h | h | h | h | h | h | h | h | h | h | h | h | h | h | h | h | h | h | h | h | h | h | h <;> subst h <;> simp) | (subst ht; simp))
          simp only [List.foldl_cons, List.foldl_nil] at hfr
          have hdf := hS.defers
          simp only [Array.getD_eq_getD_getElem?] at hfr
          clear hL hS
          generalize a0.tmps[27]?.getD undef = v27 at *
          generalize a0.tmps[28]?.getD undef = v28 at *
          generalize a0.tmps[29]?.getD undef = v29 at *
          generalize a0.tmps[30]?.getD undef = v30 at *
          generalize a0.tmps[31]?.getD undef = v31 at *
          generalize a0.tmps[32]?.getD undef = v32 at *
          generalize a0.tmps[33]?.getD undef = v33 at *
          generalize a0.tmps[34]?.getD undef = v34 at *
          generalize a0.tmps[35]?.getD undef = v35 at *
          generalize a0.tmps[36]?.getD undef = v36 at *
          generalize a0.tmps[37]?.getD undef = v37 at *
          generalize a0.tmps[38]?.getD undef = v38 at *
          generalize a0.tmps[39]?.getD undef = v39 at *
          generalize a0.tmps[40]?.getD undef = v40 at *
          generalize a0.tmps[41]?.getD undef = v41 at *
          generalize a0.tmps[42]?.getD undef = v42 at *
          generalize a0.tmps[43]?.getD undef = v43 at *
          generalize a0.tmps[44]?.getD undef = v44 at *
          generalize a0.tmps[45]?.getD undef = v45 at *
          generalize a0.tmps[46]?.getD undef = v46 at *
          generalize a0.tmps[47]?.getD undef = v47 at *
          generalize a0.tmps[48]?.getD undef = v48 at *
          generalize a0.tmps[49]?.getD undef = v49 at *
          obtain rfl := p27
          obtain rfl := p28
          obtain rfl := p29
          obtain rfl := p30
          obtain rfl := p31
          obtain rfl := p32
          obtain rfl := p33
          obtain rfl := p34
          obtain rfl := p35
          obtain rfl := p36
          obtain rfl := p37
          obtain rfl := p38
          obtain rfl := p39
          obtain rfl := p40
          obtain rfl := p41
          obtain rfl := p42
          obtain rfl := p43
          obtain rfl := p44
          obtain rfl := p45
          obtain rfl := p46
          obtain rfl := p47
          obtain rfl := p48
          obtain rfl := p49
          obtain ⟨tm, df⟩ := a0
          simp only [List.setIfInBounds_toArray, List.set_cons_succ, List.set_cons_zero] at hfr hdf
          subst hfr
          subst hdf
          have hz : Y.heap[V2]? = _ := (hY.block _ (lt_of_block hq2)).trans hq2
          obtain ⟨z0, z1, z2, z3⟩ := cells4 hz
          have zf : ∀ j, Y.frozen? ⟨V2, j, none⟩ = false := fun j => by simp [World.frozen?, hz]
          refine Posts.tail_op 23 (by kernel_rfl) (Posts.op_done (fun _ => trivial) rfl rfl (by intro c h; cases h) (Y := Y.setCell ⟨V2, 3, none⟩ (.int .u32 (y4 + 256 * y5 + 65536 * y6 + 16777216 * y7))) (by simp [execOp, Act.eval, z0, z1, z2, z3, zf, go_sem]) ?_)
          refine ⟨by kernel_rfl, ?_⟩
          simp only [Exit.inBlock, Exit.then]
          (first | (rename_i hK q3 q4; refine hK _ _ ?_) | (rename_i hK q3 q4 q5 q6; refine hK _ _ ?_) | (rename_i hK; refine hK _ _ ?_))
          have hq3 : (Y.setCell ⟨V2, 3, none⟩ (.int .u32 (y4 + 256 * y5 + 65536 * y6 + 16777216 * y7))).heap[V2]? = some (.cells #[.int .u8 y0, .int .u8 y1, .int .u16 (y2 + 256 * y3), .int .u32 (y4 + 256 * y5 + 65536 * y6 + 16777216 * y7)] 32) := by
            have := row_setCell (j := 3) (u := .int .u32 (y4 + 256 * y5 + 65536 * y6 + 16777216 * y7)) hz
            simpa using this
          have hB3 : Below W0.heap.size W0 (Y.setCell ⟨V2, 3, none⟩ (.int .u32 (y4 + 256 * y5 + 65536 * y6 + 16777216 * y7))) := (hB2.trans (hY.mono hB2.size)).setCell (p := ⟨V2, 3, none⟩) hV2 _
          clear z0 z1 z2 z3 zf hz hq2 hB2
          generalize Y.setCell ⟨V2, 3, none⟩ (.int .u32 (y4 + 256 * y5 + 65536 * y6 + 16777216 * y7)) = W3 at *
          clear hY
          obtain ⟨g0, g1, g2, g3⟩ := cells4 hq3
          have HB3 := HB0.out.trans (hB3.mono HB0.out.size)
          generalize hm : mayI ⟨y0, y1, y2 + 256 * y3, y4 + 256 * y5 + 65536 * y6 + 16777216 * y7⟩ = m at *
          clear hm
          go_wp2_with fail
          refine (hM.out _).mono ?_
          rintro e w4 ⟨rfl, hb4⟩
          have HB4 : Below w.heap.size w w4 := HB3.trans (hb4.mono HB3.size)
          have hx := (hb4.block _ (Nat.lt_of_lt_of_le (lt_of_block HV0.out) hB3.size)).trans ((hB3.block _ (lt_of_block HV0.out)).trans HV0.out)
          have hf : ∀ j, w4.frozen? ⟨w.heap.size, j, none⟩ = false := fun j => by simp [World.frozen?, hx]
          obtain ⟨r0, r1, r2, r3⟩ := cells4 hx
          have hz4 := (hb4.block _ (lt_of_block hq3)).trans hq3
          obtain ⟨s0, s1, s2, s3⟩ := cells4 hz4
          have hne : w.heap.size ≠ V2 := by have := lt_of_block HV0.out; omega
          clear hx hz4 hb4 hB3 HB3 hq3 HB0 HV0 g0 g1 g2 g3 f4 f5 f6 f7
          generalize y2 + 256 * y3 = b at *
          generalize y4 + 256 * y5 + 65536 * y6 + 16777216 * y7 = cc at *
          cases m
          · go_wp2_with (simp only [hf])
            refine bodyPost_ret (v := .tuple #[.agg #[.int .u8 0, .int .u8 0, .int .u16 0, .int .u32 0], .int .i64 90]) (by simp [results, Tryz.f45, go_sem, r0, r1, r2, r3]) rfl ⟨by rw [show E = 90 from hE2.out, show I = ⟨0, 0, 0, 0⟩ from hI.out]; rfl, ?_⟩
            go_grown
          · go_wp2_with (simp only [hf])
            refine bodyPost_ret (v := .tuple #[.agg #[.int .u8 y0, .int .u8 y1, .int .u16 b, .int .u32 cc], .int .i64 0]) (by simp [results, Tryz.f45, go_sem, r0, r1, r2, r3]) rfl ⟨by rw [show E = 0 from hE2.out, show I = ⟨y0, y1, b, cc⟩ from hI.out]; rfl, ?_⟩
            go_grown
end Isa
end Go.Proofs.YtgiocecpkhmhhaaGreatDoor
