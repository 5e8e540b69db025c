/- The statement RightsPairs holds: whatever two regions and whatever memory are handed in, the call answers true, and what was handed in reads as it did. No condition. -/
import Derived.Test.YtekicfaakjbmhaaRightsKnown
import Derived.Test.YtekicfaakjbmhaaRightsOpen
namespace Go.Proofs.Ytekicfaakjbmhaa.rightsPairs
open Go.ChangeShapes Go.WideShapes Go.ChangeAt Go.RowKit Rights
set_option linter.unusedVariables false
set_option linter.unusedSimpArgs false
set_option maxHeartbeats 4000000 in
set_option maxRecDepth 100000 in
theorem walk (x y : Rg) (m : Int) (hm : 0 ≤ m ∧ m ≤ 4294967295) (w : World) : Calls Try.prog 3 #[.agg #[.int .u32 x.b, .int .u32 x.s, .int .u8 x.r], .agg #[.int .u32 y.b, .int .u32 y.s, .int .u8 y.r], .int .u32 m] w fun e w' => e = .returned (.bool true) ∧ Below w.heap.size w w' := by
  have hE := Posts.ext_rel
  have H2' := heap_alloc2_old w (.cells #[.int .u32 x.b, .int .u32 x.s, .int .u8 x.r] 24) (.cells #[.int .u32 y.b, .int .u32 y.s, .int .u8 y.r] 24)
  have H3' := heap_alloc2_new w (.cells #[.int .u32 x.b, .int .u32 x.s, .int .u8 x.r] 24) (.cells #[.int .u32 y.b, .int .u32 y.s, .int .u8 y.r] 24)
  have HB' : Below w.heap.size w ((w.alloc (.cells #[.int .u32 x.b, .int .u32 x.s, .int .u8 x.r] 24)).alloc (.cells #[.int .u32 y.b, .int .u32 y.s, .int .u8 y.r] 24)) := by go_grown
  go_enter Try.func3, Try.ntmps3
  go_wp2_with fail
  refine (known_any _).mono ?_
  rintro e W0 ⟨rfl, hb⟩
  have H2 := Lib.hid ((hb.block _ (lt_of_block H2')).trans H2')
  have H3 := Lib.hid ((hb.block _ (lt_of_block H3')).trans H3')
  have HB := Lib.hid (HB'.trans (hb.mono HB'.size))
  clear H2' H3' HB' hb
  obtain ⟨V, hV⟩ : ∃ V, w.heap.size = V := ⟨_, rfl⟩
  rw [hV] at H2 H3 HB ⊢
  go_wp2_with fail
  refine (wpIn_wide (n := 0)).1 (Posts.wpIn_region_tail hE 26 1 (Posts.At [Posts.is (.agg #[.int .u32 x.b, .int .u32 x.s, .int .u8 x.r]), Posts.is (.int .u32 m), Posts.is (.bool (fits x m)), Posts.is (.agg #[.int .u32 x.b, .int .u32 x.s, .int .u8 x.r]), Posts.is (.int .u32 m), Posts.is (.bool (fits x m)), Posts.is (.bool (true)), Posts.is (.bool (true)), Posts.on (true) (.agg #[.int .u32 x.b, .int .u32 x.s, .int .u8 x.r]), Posts.on (true) (.agg #[.int .u32 y.b, .int .u32 y.s, .int .u8 y.r]), Posts.on (true) (.bool (overlap x y)), Posts.on (true) (.agg #[.int .u32 x.b, .int .u32 x.s, .int .u8 x.r]), Posts.on (true) (.agg #[.int .u32 y.b, .int .u32 y.s, .int .u8 y.r]), Posts.on (true) (.bool (overlap x y)), Posts.on (true) (.bool (true)), Posts.is (.bool (true)), Posts.is (.bool (true)), Posts.on (true) (.agg #[.int .u32 y.b, .int .u32 y.s, .int .u8 y.r]), Posts.on (true) (.agg #[.int .u32 x.b, .int .u32 x.s, .int .u8 x.r]), Posts.on (true) (.bool (overlap x y)), Posts.on (true) (.agg #[.int .u32 x.b, .int .u32 x.s, .int .u8 x.r]), Posts.on (true) (.agg #[.int .u32 y.b, .int .u32 y.s, .int .u8 y.r]), Posts.on (true) (.bool (overlap x y)), Posts.on (true) (.bool (true)), Posts.is (.bool (true)), Posts.is (.bool (true))]) (fun _ _ => True) (by kernel_rfl) (by decide) (by kernel_rfl) (by kernel_rfl) (by kernel_rfl)
    (Posts.stable_at _ (by repeat' (first | exact trivial | (refine And.intro ?_ ?_) | exact Posts.is_stable _ | exact Posts.on_stable _ _))) trivial ?_ ?_)
  refine ⟨?_, ?_, ?_, ?_, ?_, ?_, ?_, ?_, ?_, ?_, ?_, ?_, ?_, ?_, ?_, ?_, ?_, ?_, ?_, ?_, ?_, ?_, ?_, ?_, ?_, ?_, trivial⟩
  · intro a X hX hS hD hJ hU
    obtain ⟨x0, x1, x2⟩ := cells3 ((Posts.Ext.blk hX _ (lt_of_block H2.out)).trans H2.out)
    obtain ⟨y0, y1, y2⟩ := cells3 ((Posts.Ext.blk hX _ (lt_of_block H3.out)).trans H3.out)
    have d3 := Posts.slot (show a.eval (.tmp 3) = .pointer (some ⟨V, 0, none⟩) from hS.other 3 rfl)
    exact Posts.op_value (fun _ => trivial) rfl rfl (by intro c h; cases h) rfl (by rw [hS.size]; simp) (v := .agg #[.int .u32 x.b, .int .u32 x.s, .int .u8 x.r]) (by simp [execOp, d3,  go_sem, x0, x1, x2, y0, y1, y2]) rfl (hE.refl _) trivial
  · intro a X hX hS hD hJ hU
    obtain ⟨x0, x1, x2⟩ := cells3 ((Posts.Ext.blk hX _ (lt_of_block H2.out)).trans H2.out)
    obtain ⟨y0, y1, y2⟩ := cells3 ((Posts.Ext.blk hX _ (lt_of_block H3.out)).trans H3.out)
    have d2 := Posts.slot (show a.eval (.tmp 2) = .int .u32 m from hS.other 2 rfl)
    exact Posts.op_value (fun _ => trivial) rfl rfl (by intro c h; cases h) rfl (by rw [hS.size]; simp) (v := .int .u32 m) (by simp [execOp, d2,  go_sem, x0, x1, x2, y0, y1, y2]) rfl (hE.refl _) trivial
  · intro a X hX hS hD hJ hU
    obtain ⟨x0, x1, x2⟩ := cells3 ((Posts.Ext.blk hX _ (lt_of_block H2.out)).trans H2.out)
    obtain ⟨y0, y1, y2⟩ := cells3 ((Posts.Ext.blk hX _ (lt_of_block H3.out)).trans H3.out)
    have d9 := Posts.slot (show a.eval (.tmp 9) = .agg #[.int .u32 x.b, .int .u32 x.s, .int .u8 x.r] from hD.1)
    have d10 := Posts.slot (show a.eval (.tmp 10) = .int .u32 m from hD.2.1)
    refine Posts.op_call (fun _ => trivial) rfl rfl rfl (by intro c h; cases h) rfl (by rw [hS.size]; simp) 9 #[.agg #[.int .u32 x.b, .int .u32 x.s, .int .u8 x.r], .int .u32 m] (by simp [d9, d10, go_sem]) ?_
    refine callsIn_wide.2 ((fits_any x m hm X).mono ?_)
    rintro e Y ⟨rfl, hXY⟩
    exact ⟨_, rfl, rfl, hXY, trivial⟩
  · intro a X hX hS hD hJ hU
    obtain ⟨x0, x1, x2⟩ := cells3 ((Posts.Ext.blk hX _ (lt_of_block H2.out)).trans H2.out)
    obtain ⟨y0, y1, y2⟩ := cells3 ((Posts.Ext.blk hX _ (lt_of_block H3.out)).trans H3.out)
    have d3 := Posts.slot (show a.eval (.tmp 3) = .pointer (some ⟨V, 0, none⟩) from hS.other 3 rfl)
    exact Posts.op_value (fun _ => trivial) rfl rfl (by intro c h; cases h) rfl (by rw [hS.size]; simp) (v := .agg #[.int .u32 x.b, .int .u32 x.s, .int .u8 x.r]) (by simp [execOp, d3,  go_sem, x0, x1, x2, y0, y1, y2]) rfl (hE.refl _) trivial
  · intro a X hX hS hD hJ hU
    obtain ⟨x0, x1, x2⟩ := cells3 ((Posts.Ext.blk hX _ (lt_of_block H2.out)).trans H2.out)
    obtain ⟨y0, y1, y2⟩ := cells3 ((Posts.Ext.blk hX _ (lt_of_block H3.out)).trans H3.out)
    have d2 := Posts.slot (show a.eval (.tmp 2) = .int .u32 m from hS.other 2 rfl)
    exact Posts.op_value (fun _ => trivial) rfl rfl (by intro c h; cases h) rfl (by rw [hS.size]; simp) (v := .int .u32 m) (by simp [execOp, d2,  go_sem, x0, x1, x2, y0, y1, y2]) rfl (hE.refl _) trivial
  · intro a X hX hS hD hJ hU
    obtain ⟨x0, x1, x2⟩ := cells3 ((Posts.Ext.blk hX _ (lt_of_block H2.out)).trans H2.out)
    obtain ⟨y0, y1, y2⟩ := cells3 ((Posts.Ext.blk hX _ (lt_of_block H3.out)).trans H3.out)
    have d12 := Posts.slot (show a.eval (.tmp 12) = .agg #[.int .u32 x.b, .int .u32 x.s, .int .u8 x.r] from hD.1)
    have d13 := Posts.slot (show a.eval (.tmp 13) = .int .u32 m from hD.2.1)
    refine Posts.op_call (fun _ => trivial) rfl rfl rfl (by intro c h; cases h) rfl (by rw [hS.size]; simp) 10 #[.agg #[.int .u32 x.b, .int .u32 x.s, .int .u8 x.r], .int .u32 m] (by simp [d12, d13, go_sem]) ?_
    refine callsIn_wide.2 ((rfits_any x m hm X).mono ?_)
    rintro e Y ⟨rfl, hXY⟩
    exact ⟨_, rfl, rfl, hXY, trivial⟩
  · intro a X hX hS hD hJ hU
    obtain ⟨x0, x1, x2⟩ := cells3 ((Posts.Ext.blk hX _ (lt_of_block H2.out)).trans H2.out)
    obtain ⟨y0, y1, y2⟩ := cells3 ((Posts.Ext.blk hX _ (lt_of_block H3.out)).trans H3.out)
    have d11 := Posts.slot (show a.eval (.tmp 11) = .bool (fits x m) from hD.1)
    have d14 := Posts.slot (show a.eval (.tmp 14) = .bool (fits x m) from hD.2.1)
    exact Posts.op_value (fun _ => trivial) rfl rfl (by intro c h; cases h) rfl (by rw [hS.size]; simp) (v := .bool (true)) (by simp [execOp, d11, d14,  go_sem, x0, x1, x2, y0, y1, y2]) rfl (hE.refl _) trivial
  · intro a X hX hS hD hJ hU
    obtain ⟨x0, x1, x2⟩ := cells3 ((Posts.Ext.blk hX _ (lt_of_block H2.out)).trans H2.out)
    obtain ⟨y0, y1, y2⟩ := cells3 ((Posts.Ext.blk hX _ (lt_of_block H3.out)).trans H3.out)
    have d15 := Posts.slot (show a.eval (.tmp 15) = .bool (true) from hD.1)
    exact Posts.op_value (fun _ => trivial) rfl rfl (by intro c h; cases h) rfl (by rw [hS.size]; simp) (v := .bool (true)) (by simp [execOp, d15,  go_sem, x0, x1, x2, y0, y1, y2]) rfl (hE.refl _) trivial
  · intro a X hX hS hD hJ hU
    obtain ⟨x0, x1, x2⟩ := cells3 ((Posts.Ext.blk hX _ (lt_of_block H2.out)).trans H2.out)
    obtain ⟨y0, y1, y2⟩ := cells3 ((Posts.Ext.blk hX _ (lt_of_block H3.out)).trans H3.out)
    have dg := Posts.slot (show a.eval (.tmp 16) = .bool (true) from hD.1)
    by_cases hg : (true) = true
    · have d3 := Posts.slot (show a.eval (.tmp 3) = .pointer (some ⟨V, 0, none⟩) from hS.other 3 rfl)
      exact Posts.op_value (fun _ => trivial) rfl (Posts.wanted_yes rfl rfl rfl (by simpa [hg] using dg)) (by intro c h; cases h) rfl (by rw [hS.size]; simp) (v := .agg #[.int .u32 x.b, .int .u32 x.s, .int .u8 x.r]) (by simp [execOp, d3, hg,  go_sem, x0, x1, x2, y0, y1, y2]) (fun _ => rfl) (hE.refl _) trivial
    · exact Posts.op_skip hE (fun _ => trivial) rfl (Posts.wanted_no rfl rfl rfl (by simpa [hg] using dg)) rfl (by rw [hS.size]; simp) (fun h => absurd h hg) trivial
  · intro a X hX hS hD hJ hU
    obtain ⟨x0, x1, x2⟩ := cells3 ((Posts.Ext.blk hX _ (lt_of_block H2.out)).trans H2.out)
    obtain ⟨y0, y1, y2⟩ := cells3 ((Posts.Ext.blk hX _ (lt_of_block H3.out)).trans H3.out)
    have dg := Posts.slot (show a.eval (.tmp 16) = .bool (true) from hD.1)
    by_cases hg : (true) = true
    · have d4 := Posts.slot (show a.eval (.tmp 4) = .pointer (some ⟨V + 1, 0, none⟩) from hS.other 4 rfl)
      exact Posts.op_value (fun _ => trivial) rfl (Posts.wanted_yes rfl rfl rfl (by simpa [hg] using dg)) (by intro c h; cases h) rfl (by rw [hS.size]; simp) (v := .agg #[.int .u32 y.b, .int .u32 y.s, .int .u8 y.r]) (by simp [execOp, d4, hg,  go_sem, x0, x1, x2, y0, y1, y2]) (fun _ => rfl) (hE.refl _) trivial
    · exact Posts.op_skip hE (fun _ => trivial) rfl (Posts.wanted_no rfl rfl rfl (by simpa [hg] using dg)) rfl (by rw [hS.size]; simp) (fun h => absurd h hg) trivial
  · intro a X hX hS hD hJ hU
    obtain ⟨x0, x1, x2⟩ := cells3 ((Posts.Ext.blk hX _ (lt_of_block H2.out)).trans H2.out)
    obtain ⟨y0, y1, y2⟩ := cells3 ((Posts.Ext.blk hX _ (lt_of_block H3.out)).trans H3.out)
    have dg := Posts.slot (show a.eval (.tmp 16) = .bool (true) from hD.2.2.1)
    by_cases hg : (true) = true
    · have d17 := Posts.slot (show a.eval (.tmp 17) = .agg #[.int .u32 x.b, .int .u32 x.s, .int .u8 x.r] from (hD.1 hg))
      have d18 := Posts.slot (show a.eval (.tmp 18) = .agg #[.int .u32 y.b, .int .u32 y.s, .int .u8 y.r] from (hD.2.1 hg))
      refine Posts.op_call (fun _ => trivial) rfl rfl (Posts.wanted_yes rfl rfl rfl (by simpa [hg] using dg)) (by intro c h; cases h) rfl (by rw [hS.size]; simp) 11 #[.agg #[.int .u32 x.b, .int .u32 x.s, .int .u8 x.r], .agg #[.int .u32 y.b, .int .u32 y.s, .int .u8 y.r]] (by simp [d17, d18, go_sem]) ?_
      refine callsIn_wide.2 ((overlap_any x y X).mono ?_)
      rintro e Y ⟨rfl, hXY⟩
      exact ⟨_, rfl, (fun _ => rfl), hXY, trivial⟩
    · exact Posts.op_skip hE (fun _ => trivial) rfl (Posts.wanted_no rfl rfl rfl (by simpa [hg] using dg)) rfl (by rw [hS.size]; simp) (fun h => absurd h hg) trivial
  · intro a X hX hS hD hJ hU
    obtain ⟨x0, x1, x2⟩ := cells3 ((Posts.Ext.blk hX _ (lt_of_block H2.out)).trans H2.out)
    obtain ⟨y0, y1, y2⟩ := cells3 ((Posts.Ext.blk hX _ (lt_of_block H3.out)).trans H3.out)
    have dg := Posts.slot (show a.eval (.tmp 16) = .bool (true) from hD.1)
    by_cases hg : (true) = true
    · have d3 := Posts.slot (show a.eval (.tmp 3) = .pointer (some ⟨V, 0, none⟩) from hS.other 3 rfl)
      exact Posts.op_value (fun _ => trivial) rfl (Posts.wanted_yes rfl rfl rfl (by simpa [hg] using dg)) (by intro c h; cases h) rfl (by rw [hS.size]; simp) (v := .agg #[.int .u32 x.b, .int .u32 x.s, .int .u8 x.r]) (by simp [execOp, d3, hg,  go_sem, x0, x1, x2, y0, y1, y2]) (fun _ => rfl) (hE.refl _) trivial
    · exact Posts.op_skip hE (fun _ => trivial) rfl (Posts.wanted_no rfl rfl rfl (by simpa [hg] using dg)) rfl (by rw [hS.size]; simp) (fun h => absurd h hg) trivial
  · intro a X hX hS hD hJ hU
    obtain ⟨x0, x1, x2⟩ := cells3 ((Posts.Ext.blk hX _ (lt_of_block H2.out)).trans H2.out)
    obtain ⟨y0, y1, y2⟩ := cells3 ((Posts.Ext.blk hX _ (lt_of_block H3.out)).trans H3.out)
    have dg := Posts.slot (show a.eval (.tmp 16) = .bool (true) from hD.1)
    by_cases hg : (true) = true
    · have d4 := Posts.slot (show a.eval (.tmp 4) = .pointer (some ⟨V + 1, 0, none⟩) from hS.other 4 rfl)
      exact Posts.op_value (fun _ => trivial) rfl (Posts.wanted_yes rfl rfl rfl (by simpa [hg] using dg)) (by intro c h; cases h) rfl (by rw [hS.size]; simp) (v := .agg #[.int .u32 y.b, .int .u32 y.s, .int .u8 y.r]) (by simp [execOp, d4, hg,  go_sem, x0, x1, x2, y0, y1, y2]) (fun _ => rfl) (hE.refl _) trivial
    · exact Posts.op_skip hE (fun _ => trivial) rfl (Posts.wanted_no rfl rfl rfl (by simpa [hg] using dg)) rfl (by rw [hS.size]; simp) (fun h => absurd h hg) trivial
  · intro a X hX hS hD hJ hU
    obtain ⟨x0, x1, x2⟩ := cells3 ((Posts.Ext.blk hX _ (lt_of_block H2.out)).trans H2.out)
    obtain ⟨y0, y1, y2⟩ := cells3 ((Posts.Ext.blk hX _ (lt_of_block H3.out)).trans H3.out)
    have dg := Posts.slot (show a.eval (.tmp 16) = .bool (true) from hD.2.2.2.1)
    by_cases hg : (true) = true
    · have d20 := Posts.slot (show a.eval (.tmp 20) = .agg #[.int .u32 x.b, .int .u32 x.s, .int .u8 x.r] from (hD.1 hg))
      have d21 := Posts.slot (show a.eval (.tmp 21) = .agg #[.int .u32 y.b, .int .u32 y.s, .int .u8 y.r] from (hD.2.1 hg))
      refine Posts.op_call (fun _ => trivial) rfl rfl (Posts.wanted_yes rfl rfl rfl (by simpa [hg] using dg)) (by intro c h; cases h) rfl (by rw [hS.size]; simp) 12 #[.agg #[.int .u32 x.b, .int .u32 x.s, .int .u8 x.r], .agg #[.int .u32 y.b, .int .u32 y.s, .int .u8 y.r]] (by simp [d20, d21, go_sem]) ?_
      refine callsIn_wide.2 ((roverlap_any x y X).mono ?_)
      rintro e Y ⟨rfl, hXY⟩
      exact ⟨_, rfl, (fun _ => rfl), hXY, trivial⟩
    · exact Posts.op_skip hE (fun _ => trivial) rfl (Posts.wanted_no rfl rfl rfl (by simpa [hg] using dg)) rfl (by rw [hS.size]; simp) (fun h => absurd h hg) trivial
  · intro a X hX hS hD hJ hU
    obtain ⟨x0, x1, x2⟩ := cells3 ((Posts.Ext.blk hX _ (lt_of_block H2.out)).trans H2.out)
    obtain ⟨y0, y1, y2⟩ := cells3 ((Posts.Ext.blk hX _ (lt_of_block H3.out)).trans H3.out)
    have dg := Posts.slot (show a.eval (.tmp 16) = .bool (true) from hD.2.2.1)
    by_cases hg : (true) = true
    · have d19 := Posts.slot (show a.eval (.tmp 19) = .bool (overlap x y) from (hD.1 hg))
      have d22 := Posts.slot (show a.eval (.tmp 22) = .bool (overlap x y) from (hD.2.1 hg))
      exact Posts.op_value (fun _ => trivial) rfl (Posts.wanted_yes rfl rfl rfl (by simpa [hg] using dg)) (by intro c h; cases h) rfl (by rw [hS.size]; simp) (v := .bool (true)) (by simp [execOp, d19, d22, hg,  go_sem, x0, x1, x2, y0, y1, y2]) (fun _ => rfl) (hE.refl _) trivial
    · exact Posts.op_skip hE (fun _ => trivial) rfl (Posts.wanted_no rfl rfl rfl (by simpa [hg] using dg)) rfl (by rw [hS.size]; simp) (fun h => absurd h hg) trivial
  · intro a X hX hS hD hJ hU
    obtain ⟨x0, x1, x2⟩ := cells3 ((Posts.Ext.blk hX _ (lt_of_block H2.out)).trans H2.out)
    obtain ⟨y0, y1, y2⟩ := cells3 ((Posts.Ext.blk hX _ (lt_of_block H3.out)).trans H3.out)
    have dc := Posts.slot (show a.eval (.tmp 16) = .bool (true) from hD.1)
    rcases Bool.eq_false_or_eq_true (true) with hg | hg
    · have dx := Posts.slot (show a.eval (.tmp 23) = .bool (true) from (hD.2.1 hg))
      exact Posts.op_value (fun _ => trivial) rfl rfl (by intro c h; cases h) rfl (by rw [hS.size]; simp) (v := .bool (true)) (by simp [execOp, dc, hg, dx,  go_sem, x0, x1, x2, y0, y1, y2]) rfl (hE.refl _) trivial
    · cases hg
  · intro a X hX hS hD hJ hU
    obtain ⟨x0, x1, x2⟩ := cells3 ((Posts.Ext.blk hX _ (lt_of_block H2.out)).trans H2.out)
    obtain ⟨y0, y1, y2⟩ := cells3 ((Posts.Ext.blk hX _ (lt_of_block H3.out)).trans H3.out)
    have d24 := Posts.slot (show a.eval (.tmp 24) = .bool (true) from hD.1)
    exact Posts.op_value (fun _ => trivial) rfl rfl (by intro c h; cases h) rfl (by rw [hS.size]; simp) (v := .bool (true)) (by simp [execOp, d24,  go_sem, x0, x1, x2, y0, y1, y2]) rfl (hE.refl _) trivial
  · intro a X hX hS hD hJ hU
    obtain ⟨x0, x1, x2⟩ := cells3 ((Posts.Ext.blk hX _ (lt_of_block H2.out)).trans H2.out)
    obtain ⟨y0, y1, y2⟩ := cells3 ((Posts.Ext.blk hX _ (lt_of_block H3.out)).trans H3.out)
    have dg := Posts.slot (show a.eval (.tmp 25) = .bool (true) from hD.1)
    by_cases hg : (true) = true
    · have d4 := Posts.slot (show a.eval (.tmp 4) = .pointer (some ⟨V + 1, 0, none⟩) from hS.other 4 rfl)
      exact Posts.op_value (fun _ => trivial) rfl (Posts.wanted_yes rfl rfl rfl (by simpa [hg] using dg)) (by intro c h; cases h) rfl (by rw [hS.size]; simp) (v := .agg #[.int .u32 y.b, .int .u32 y.s, .int .u8 y.r]) (by simp [execOp, d4, hg,  go_sem, x0, x1, x2, y0, y1, y2]) (fun _ => rfl) (hE.refl _) trivial
    · exact Posts.op_skip hE (fun _ => trivial) rfl (Posts.wanted_no rfl rfl rfl (by simpa [hg] using dg)) rfl (by rw [hS.size]; simp) (fun h => absurd h hg) trivial
  · intro a X hX hS hD hJ hU
    obtain ⟨x0, x1, x2⟩ := cells3 ((Posts.Ext.blk hX _ (lt_of_block H2.out)).trans H2.out)
    obtain ⟨y0, y1, y2⟩ := cells3 ((Posts.Ext.blk hX _ (lt_of_block H3.out)).trans H3.out)
    have dg := Posts.slot (show a.eval (.tmp 25) = .bool (true) from hD.1)
    by_cases hg : (true) = true
    · have d3 := Posts.slot (show a.eval (.tmp 3) = .pointer (some ⟨V, 0, none⟩) from hS.other 3 rfl)
      exact Posts.op_value (fun _ => trivial) rfl (Posts.wanted_yes rfl rfl rfl (by simpa [hg] using dg)) (by intro c h; cases h) rfl (by rw [hS.size]; simp) (v := .agg #[.int .u32 x.b, .int .u32 x.s, .int .u8 x.r]) (by simp [execOp, d3, hg,  go_sem, x0, x1, x2, y0, y1, y2]) (fun _ => rfl) (hE.refl _) trivial
    · exact Posts.op_skip hE (fun _ => trivial) rfl (Posts.wanted_no rfl rfl rfl (by simpa [hg] using dg)) rfl (by rw [hS.size]; simp) (fun h => absurd h hg) trivial
  · intro a X hX hS hD hJ hU
    obtain ⟨x0, x1, x2⟩ := cells3 ((Posts.Ext.blk hX _ (lt_of_block H2.out)).trans H2.out)
    obtain ⟨y0, y1, y2⟩ := cells3 ((Posts.Ext.blk hX _ (lt_of_block H3.out)).trans H3.out)
    have dg := Posts.slot (show a.eval (.tmp 25) = .bool (true) from hD.2.2.1)
    by_cases hg : (true) = true
    · have d26 := Posts.slot (show a.eval (.tmp 26) = .agg #[.int .u32 y.b, .int .u32 y.s, .int .u8 y.r] from (hD.1 hg))
      have d27 := Posts.slot (show a.eval (.tmp 27) = .agg #[.int .u32 x.b, .int .u32 x.s, .int .u8 x.r] from (hD.2.1 hg))
      refine Posts.op_call (fun _ => trivial) rfl rfl (Posts.wanted_yes rfl rfl rfl (by simpa [hg] using dg)) (by intro c h; cases h) rfl (by rw [hS.size]; simp) 11 #[.agg #[.int .u32 y.b, .int .u32 y.s, .int .u8 y.r], .agg #[.int .u32 x.b, .int .u32 x.s, .int .u8 x.r]] (by simp [d26, d27, go_sem]) ?_
      refine callsIn_wide.2 ((overlap_any y x X).mono ?_)
      rintro e Y ⟨rfl, hXY⟩
      exact ⟨_, rfl, (fun _ => by rw [overlap_comm]), hXY, trivial⟩
    · exact Posts.op_skip hE (fun _ => trivial) rfl (Posts.wanted_no rfl rfl rfl (by simpa [hg] using dg)) rfl (by rw [hS.size]; simp) (fun h => absurd h hg) trivial
  · intro a X hX hS hD hJ hU
    obtain ⟨x0, x1, x2⟩ := cells3 ((Posts.Ext.blk hX _ (lt_of_block H2.out)).trans H2.out)
    obtain ⟨y0, y1, y2⟩ := cells3 ((Posts.Ext.blk hX _ (lt_of_block H3.out)).trans H3.out)
    have dg := Posts.slot (show a.eval (.tmp 25) = .bool (true) from hD.1)
    by_cases hg : (true) = true
    · have d3 := Posts.slot (show a.eval (.tmp 3) = .pointer (some ⟨V, 0, none⟩) from hS.other 3 rfl)
      exact Posts.op_value (fun _ => trivial) rfl (Posts.wanted_yes rfl rfl rfl (by simpa [hg] using dg)) (by intro c h; cases h) rfl (by rw [hS.size]; simp) (v := .agg #[.int .u32 x.b, .int .u32 x.s, .int .u8 x.r]) (by simp [execOp, d3, hg,  go_sem, x0, x1, x2, y0, y1, y2]) (fun _ => rfl) (hE.refl _) trivial
    · exact Posts.op_skip hE (fun _ => trivial) rfl (Posts.wanted_no rfl rfl rfl (by simpa [hg] using dg)) rfl (by rw [hS.size]; simp) (fun h => absurd h hg) trivial
  · intro a X hX hS hD hJ hU
    obtain ⟨x0, x1, x2⟩ := cells3 ((Posts.Ext.blk hX _ (lt_of_block H2.out)).trans H2.out)
    obtain ⟨y0, y1, y2⟩ := cells3 ((Posts.Ext.blk hX _ (lt_of_block H3.out)).trans H3.out)
    have dg := Posts.slot (show a.eval (.tmp 25) = .bool (true) from hD.1)
    by_cases hg : (true) = true
    · have d4 := Posts.slot (show a.eval (.tmp 4) = .pointer (some ⟨V + 1, 0, none⟩) from hS.other 4 rfl)
      exact Posts.op_value (fun _ => trivial) rfl (Posts.wanted_yes rfl rfl rfl (by simpa [hg] using dg)) (by intro c h; cases h) rfl (by rw [hS.size]; simp) (v := .agg #[.int .u32 y.b, .int .u32 y.s, .int .u8 y.r]) (by simp [execOp, d4, hg,  go_sem, x0, x1, x2, y0, y1, y2]) (fun _ => rfl) (hE.refl _) trivial
    · exact Posts.op_skip hE (fun _ => trivial) rfl (Posts.wanted_no rfl rfl rfl (by simpa [hg] using dg)) rfl (by rw [hS.size]; simp) (fun h => absurd h hg) trivial
  · intro a X hX hS hD hJ hU
    obtain ⟨x0, x1, x2⟩ := cells3 ((Posts.Ext.blk hX _ (lt_of_block H2.out)).trans H2.out)
    obtain ⟨y0, y1, y2⟩ := cells3 ((Posts.Ext.blk hX _ (lt_of_block H3.out)).trans H3.out)
    have dg := Posts.slot (show a.eval (.tmp 25) = .bool (true) from hD.2.2.2.1)
    by_cases hg : (true) = true
    · have d29 := Posts.slot (show a.eval (.tmp 29) = .agg #[.int .u32 x.b, .int .u32 x.s, .int .u8 x.r] from (hD.1 hg))
      have d30 := Posts.slot (show a.eval (.tmp 30) = .agg #[.int .u32 y.b, .int .u32 y.s, .int .u8 y.r] from (hD.2.1 hg))
      refine Posts.op_call (fun _ => trivial) rfl rfl (Posts.wanted_yes rfl rfl rfl (by simpa [hg] using dg)) (by intro c h; cases h) rfl (by rw [hS.size]; simp) 11 #[.agg #[.int .u32 x.b, .int .u32 x.s, .int .u8 x.r], .agg #[.int .u32 y.b, .int .u32 y.s, .int .u8 y.r]] (by simp [d29, d30, go_sem]) ?_
      refine callsIn_wide.2 ((overlap_any x y X).mono ?_)
      rintro e Y ⟨rfl, hXY⟩
      exact ⟨_, rfl, (fun _ => rfl), hXY, trivial⟩
    · exact Posts.op_skip hE (fun _ => trivial) rfl (Posts.wanted_no rfl rfl rfl (by simpa [hg] using dg)) rfl (by rw [hS.size]; simp) (fun h => absurd h hg) trivial
  · intro a X hX hS hD hJ hU
    obtain ⟨x0, x1, x2⟩ := cells3 ((Posts.Ext.blk hX _ (lt_of_block H2.out)).trans H2.out)
    obtain ⟨y0, y1, y2⟩ := cells3 ((Posts.Ext.blk hX _ (lt_of_block H3.out)).trans H3.out)
    have dg := Posts.slot (show a.eval (.tmp 25) = .bool (true) from hD.2.2.1)
    by_cases hg : (true) = true
    · have d28 := Posts.slot (show a.eval (.tmp 28) = .bool (overlap x y) from (hD.1 hg))
      have d31 := Posts.slot (show a.eval (.tmp 31) = .bool (overlap x y) from (hD.2.1 hg))
      exact Posts.op_value (fun _ => trivial) rfl (Posts.wanted_yes rfl rfl rfl (by simpa [hg] using dg)) (by intro c h; cases h) rfl (by rw [hS.size]; simp) (v := .bool (true)) (by simp [execOp, d28, d31, hg,  go_sem, x0, x1, x2, y0, y1, y2]) (fun _ => rfl) (hE.refl _) trivial
    · exact Posts.op_skip hE (fun _ => trivial) rfl (Posts.wanted_no rfl rfl rfl (by simpa [hg] using dg)) rfl (by rw [hS.size]; simp) (fun h => absurd h hg) trivial
  · intro a X hX hS hD hJ hU
    obtain ⟨x0, x1, x2⟩ := cells3 ((Posts.Ext.blk hX _ (lt_of_block H2.out)).trans H2.out)
    obtain ⟨y0, y1, y2⟩ := cells3 ((Posts.Ext.blk hX _ (lt_of_block H3.out)).trans H3.out)
    have dc := Posts.slot (show a.eval (.tmp 25) = .bool (true) from hD.1)
    rcases Bool.eq_false_or_eq_true (true) with hg | hg
    · have dx := Posts.slot (show a.eval (.tmp 32) = .bool (true) from (hD.2.1 hg))
      exact Posts.op_value (fun _ => trivial) rfl rfl (by intro c h; cases h) rfl (by rw [hS.size]; simp) (v := .bool (true)) (by simp [execOp, dc, hg, dx,  go_sem, x0, x1, x2, y0, y1, y2]) rfl (hE.refl _) trivial
    · cases hg
  · intro a X hX hS hD hJ hU
    obtain ⟨x0, x1, x2⟩ := cells3 ((Posts.Ext.blk hX _ (lt_of_block H2.out)).trans H2.out)
    obtain ⟨y0, y1, y2⟩ := cells3 ((Posts.Ext.blk hX _ (lt_of_block H3.out)).trans H3.out)
    have d33 := Posts.slot (show a.eval (.tmp 33) = .bool (true) from hD.1)
    exact Posts.op_value (fun _ => trivial) rfl rfl (by intro c h; cases h) rfl (by rw [hS.size]; simp) (v := .bool (true)) (by simp [execOp, d33,  go_sem, x0, x1, x2, y0, y1, y2]) rfl (hE.refl _) trivial
  · intro a Y hY hS hJ hL
    refine ⟨by kernel_rfl, ?_⟩
    have hres : a.tmps.getD 6 undef = .bool (true) := hL.2.2.2.2.2.2.2.2.2.2.2.2.2.2.2.2.2.2.2.2.2.2.2.2.2.1
    rename_i hK
    refine hK _ _ ?_
    go_wp2_with fail
    exact bodyPost_ret (v := .bool true) (by have h := results_tmp (fn := Try.f3) (t := 6) rfl a.tmps Try.prog Y; rw [hres] at h; exact h) hS.defers ⟨rfl, HB.out.trans (Below.mono hY (by rw [← hV]; exact HB.out.size))⟩
/-- what the walk gives, for every argument -/
theorem lifted (os : Os) (started : os.Started) (H : Type) (enc : TypeId × Value → H) :
    ReturnsInHanded {} Try.checked os 3 .any (Rows.rightsPairsSpec.pre6 enc Try.prog Try.f3 Rows.rightsPairsRow.domain false) (Rows.rightsPairsSpec.post enc Try.prog Try.f3 false true false false) := by
  refine returnsInHanded_of_change (C := Try.checked) own started (by kernel_rfl) Try.func3
    (ChangeSpec.witness6 (enc := enc) (C := Try.checked) false ⟨#[], #[.agg #[.int .u32 0, .int .u32 0, .int .u8 0], .agg #[.int .u32 0, .int .u32 0, .int .u8 0], .int .u32 0], []⟩ 8 (by kernel_rfl) (by kernel_rfl) (by kernel_rfl) (by kernel_rfl)) ?_
  intro W base args ds gs before hval0 hW hcnd _
  have hval : ∀ (j : Nat) t v, Try.f3.params[j]? = some t → args[j]? = some v → Value.okWide Try.prog W .any base t v := hval0
  have hW' := hW
  obtain ⟨p, q, hA0, hV, rfl, hfz, hnd⟩ := hW
  have hA : DataW.TrodAll enc Try.prog W 0 (fun _ => true) true Try.f3.params.toList args.toList ds p := hA0
  rw [Try.params3] at hA hval
  obtain ⟨v0, vs0, d0, ds0, p0, q0, hargs, rfl, rfl, h0, r0⟩ := trodAll_cons hA
  obtain ⟨v1, vs1, d1, ds1, p1, q1, rfl, rfl, rfl, h1, r1⟩ := trodAll_cons r0
  obtain ⟨v2, vs2, d2, ds2, p2, q2, rfl, rfl, rfl, h2, r2⟩ := trodAll_cons r1
  obtain ⟨rfl, rfl, rfl⟩ := trodAll_nil r2
  obtain rfl : args = #[v0, v1, v2] := by cases args; simp_all
  obtain ⟨rfl, rfl⟩ := trodVars_none hV
  have k0 := h0
  have lt0 : ∀ x ∈ p0, x.block < W.heap.size := by obtain ⟨m, hm⟩ := k0; exact DataW.trod_lt m _ _ _ hm
  obtain ⟨c0, rfl, _⟩ := okWide_struct Try.underlying24 (hval 0 24 v0 rfl rfl)
  obtain ⟨z0, rfl⟩ : ∃ r : Rg, c0 = #[.int .u32 r.b, .int .u32 r.s, .int .u8 r.r] := by
    obtain ⟨fuel, hf⟩ := h0
    obtain ⟨r, hr⟩ := open_region hf
    simp [Value.cells] at hr
    exact ⟨r, by cases c0; simp_all⟩
  have k1 := h1
  have lt1 : ∀ x ∈ p1, x.block < W.heap.size := by obtain ⟨m, hm⟩ := k1; exact DataW.trod_lt m _ _ _ hm
  obtain ⟨c1, rfl, _⟩ := okWide_struct Try.underlying24 (hval 1 24 v1 rfl rfl)
  obtain ⟨z1, rfl⟩ : ∃ r : Rg, c1 = #[.int .u32 r.b, .int .u32 r.s, .int .u8 r.r] := by
    obtain ⟨fuel, hf⟩ := h1
    obtain ⟨r, hr⟩ := open_region hf
    simp [Value.cells] at hr
    exact ⟨r, by cases c1; simp_all⟩
  obtain ⟨z2, rfl, rfl, rfl, w2⟩ := open_int Try.underlying22 (hval 2 22 v2 rfl rfl) h2
  have b2 : 0 ≤ z2 ∧ z2 ≤ 4294967295 := by simp [Lit.wf, IntKind.min, IntKind.max, IntKind.signed, IntKind.bits] at w2; omega
  clear hA0 hval0
  refine (walk z0 z1 z2 b2 W).mono fun e W' ⟨he, bel⟩ => ?_
  subst he
  exact ⟨_, rfl, _, _, _, [], _, [], hW', trodAll_mk1 (shut_bool Try.underlying4 _), (trodAll_cons_mk (Below.trod laidOut (by kernel_rfl) (of_decide_eq_true (by kernel_rfl)) k0 bel lt0) (trodAll_cons_mk (Below.trod laidOut (by kernel_rfl) (of_decide_eq_true (by kernel_rfl)) k1 bel lt1) (trodAll_cons_mk (shut_int Try.underlying22 w2) trodAll_mk0))), rfl, bel.frame _, fun h => by cases h⟩

theorem proved : Rows.RightsPairsSaid :=
  OpenClaim.holds_of_wide 3 Try.f3 rfl rfl rfl rfl rfl rfl rfl ⟨rfl, rfl, rfl, rfl, rfl⟩ rfl rfl rfl rfl rfl (by kernel_rfl) Try.func3 (by kernel_rfl)
    (of_decide_eq_true (by kernel_rfl)) (by unfold Func.isWrapper; first | (rw [if_pos (by decide +kernel)]; kernel_rfl) | (rw [if_neg (by decide +kernel)]; exact ⟨rfl, rfl⟩))
    (fun os started H enc _ => lifted os started H enc)
#print axioms proved
end Go.Proofs.Ytekicfaakjbmhaa.rightsPairs
