/- Overlap: its operations come up in any order. -/
import Derived.Test.YtekicfaakjbmhaaRightsW1
import Derived.Test.YtekicfaakjbmhaaRightsPosts
namespace Go.Proofs.Ytekicfaakjbmhaa
open Go.ChangeShapes Go.WideShapes Go.ChangeAt Go.RowKit
namespace Rights
set_option linter.unusedVariables false
set_option linter.unusedSimpArgs false
theorem cells3 {X : World} {k : Nat} {u v t : Value} {ty : TypeId} (h : X.heap[k]? = some (.cells #[u, v, t] ty (0, 0))) : X.cell? ⟨k, 0, none⟩ = some u ∧ X.cell? ⟨k, 1, none⟩ = some v ∧ X.cell? ⟨k, 2, none⟩ = some t := by
  simp [World.cell?, h]
theorem lt_of_block {W : World} {k : Nat} {o : Obj} (h : W.heap[k]? = some o) : k < W.heap.size := (Array.getElem?_eq_some_iff.1 h).1
theorem heap_alloc2_old (w : World) (o o' : Obj) : ((w.alloc o).alloc o').heap[w.heap.size]? = some o := (Below.heap_alloc _ _ _ (by simp)).trans (World.alloc_heap_new w o)
theorem heap_alloc2_new (w : World) (o o' : Obj) : ((w.alloc o).alloc o').heap[w.heap.size + 1]? = some o' := by have := World.alloc_heap_new (w.alloc o) o'; rwa [World.size_alloc] at this
set_option maxHeartbeats 2000000 in
set_option maxRecDepth 100000 in
theorem overlap_any (x y : Rg) (w : World) : Calls Try.prog 11 #[.agg #[.int .u32 x.b, .int .u32 x.s, .int .u8 x.r], .agg #[.int .u32 y.b, .int .u32 y.s, .int .u8 y.r]] w fun e w' => e = .returned (.bool (overlap x y)) ∧ Below w.heap.size w w' := by
  obtain ⟨⟨h0, h1⟩, ⟨h2, h3⟩, ⟨h4, h5⟩⟩ := x.h
  obtain ⟨⟨g0, g1⟩, ⟨g2, g3⟩, ⟨g4, g5⟩⟩ := y.h
  have hx := fun w => end_any x w
  have hy := fun w => end_any y w
  unfold overlap Rg.e
  generalize x.b = b at *
  generalize x.s = s at *
  generalize x.r = r at *
  generalize y.b = b' at *
  generalize y.s = s' at *
  generalize y.r = r' at *
  have c1 : IntKind.u64.wrap b = b := by simp [IntKind.wrap, IntKind.bits, IntKind.signed]; omega
  have c2 : IntKind.u64.wrap b' = b' := by simp [IntKind.wrap, IntKind.bits, IntKind.signed]; omega
  have hE := Posts.ext_rel
  obtain ⟨E1, hE1⟩ : ∃ E, (s != 0) = E := ⟨_, rfl⟩
  obtain ⟨E2, hE2⟩ : ∃ E, (s' != 0) = E := ⟨_, rfl⟩
  obtain ⟨E3, hE3⟩ : ∃ E, decide (b < b' + s') = E := ⟨_, rfl⟩
  obtain ⟨E4, hE4⟩ : ∃ E, decide (b' < b + s) = E := ⟨_, rfl⟩
  have hfin : decide (s ≠ 0 ∧ s' ≠ 0 ∧ b < b' + s' ∧ b' < b + s) = (E1 && E2 && E3 && E4) := by
    subst hE1; subst hE2; subst hE3; subst hE4
    rw [Bool.eq_iff_iff]; simp [and_assoc]
  rw [hfin]
  clear hfin
  go_enter Try.func11, Try.ntmps11
  go_wp2_with fail
  have H2 := Lib.hid (heap_alloc2_old w (.cells #[.int .u32 b, .int .u32 s, .int .u8 r] 24) (.cells #[.int .u32 b', .int .u32 s', .int .u8 r'] 24))
  have H3 := Lib.hid (heap_alloc2_new w (.cells #[.int .u32 b, .int .u32 s, .int .u8 r] 24) (.cells #[.int .u32 b', .int .u32 s', .int .u8 r'] 24))
  have HB : Hid (Below w.heap.size w ((w.alloc (.cells #[.int .u32 b, .int .u32 s, .int .u8 r] 24)).alloc (.cells #[.int .u32 b', .int .u32 s', .int .u8 r'] 24))) := by show Below _ _ _; go_grown
  generalize (w.alloc (.cells #[.int .u32 b, .int .u32 s, .int .u8 r] 24)).alloc (.cells #[.int .u32 b', .int .u32 s', .int .u8 r'] 24) = W0 at *
  obtain ⟨V, hV⟩ : ∃ V, w.heap.size = V := ⟨_, rfl⟩
  rw [hV] at H2 H3 ⊢
  refine (wpIn_wide (n := 0)).1 (Posts.wpIn_region_tail hE 25 1 (Posts.At [Posts.is (.pointer (some ⟨V, 1, none⟩)), Posts.is (.int .u32 s), Posts.is (.bool (E1)), Posts.is (.bool (E1)), Posts.on (E1) (.pointer (some ⟨V + 1, 1, none⟩)), Posts.on (E1) (.int .u32 s'), Posts.on (E1) (.bool (E2)), Posts.is (.bool (E1 && E2)), Posts.is (.bool (E1 && E2)), Posts.on (E1 && E2) (.pointer (some ⟨V, 0, none⟩)), Posts.on (E1 && E2) (.int .u32 b), Posts.on (E1 && E2) (.int .u64 b), Posts.on (E1 && E2) (.agg #[.int .u32 b', .int .u32 s', .int .u8 r']), Posts.on (E1 && E2) (.int .u64 (b' + s')), Posts.on (E1 && E2) (.bool (E3)), Posts.is (.bool (E1 && E2 && E3)), Posts.is (.bool (E1 && E2 && E3)), Posts.on (E1 && E2 && E3) (.pointer (some ⟨V + 1, 0, none⟩)), Posts.on (E1 && E2 && E3) (.int .u32 b'), Posts.on (E1 && E2 && E3) (.int .u64 b'), Posts.on (E1 && E2 && E3) (.agg #[.int .u32 b, .int .u32 s, .int .u8 r]), Posts.on (E1 && E2 && E3) (.int .u64 (b + s)), Posts.on (E1 && E2 && E3) (.bool (E4)), Posts.is (.bool (E1 && E2 && E3 && E4)), Posts.is (.bool (E1 && E2 && E3 && E4))]) (fun _ _ => True) (by kernel_rfl) (by decide) (by kernel_rfl) (by kernel_rfl) (by kernel_rfl)
    (Posts.stable_at _ (by repeat' (first | exact trivial | (refine And.intro ?_ ?_) | exact Posts.is_stable _ | exact Posts.on_stable _ _))) trivial ?_ ?_)
  refine ⟨?_, ?_, ?_, ?_, ?_, ?_, ?_, ?_, ?_, ?_, ?_, ?_, ?_, ?_, ?_, ?_, ?_, ?_, ?_, ?_, ?_, ?_, ?_, ?_, ?_, trivial⟩
  · intro a X hX hS hD hJ hU
    obtain ⟨x0, x1, x2⟩ := cells3 ((Posts.Ext.blk hX _ (lt_of_block H2.out)).trans H2.out)
    obtain ⟨y0, y1, y2⟩ := cells3 ((Posts.Ext.blk hX _ (lt_of_block H3.out)).trans H3.out)
    have d2 := Posts.slot (show a.eval (.tmp 2) = .pointer (some ⟨V, 0, none⟩) from hS.other 2 rfl)
    exact Posts.op_value (fun _ => trivial) rfl rfl (by intro c h; cases h) rfl (by rw [hS.size]; simp) (v := .pointer (some ⟨V, 1, none⟩)) (by simp [execOp, d2,  go_sem, x0, x1, x2, y0, y1, y2, c1, c2, hE1, hE2, hE3, hE4]) rfl (hE.refl _) trivial
  · intro a X hX hS hD hJ hU
    obtain ⟨x0, x1, x2⟩ := cells3 ((Posts.Ext.blk hX _ (lt_of_block H2.out)).trans H2.out)
    obtain ⟨y0, y1, y2⟩ := cells3 ((Posts.Ext.blk hX _ (lt_of_block H3.out)).trans H3.out)
    have d5 := Posts.slot (show a.eval (.tmp 5) = .pointer (some ⟨V, 1, none⟩) from hD.1)
    exact Posts.op_value (fun _ => trivial) rfl rfl (by intro c h; cases h) rfl (by rw [hS.size]; simp) (v := .int .u32 s) (by simp [execOp, d5,  go_sem, x0, x1, x2, y0, y1, y2, c1, c2, hE1, hE2, hE3, hE4]) rfl (hE.refl _) trivial
  · intro a X hX hS hD hJ hU
    obtain ⟨x0, x1, x2⟩ := cells3 ((Posts.Ext.blk hX _ (lt_of_block H2.out)).trans H2.out)
    obtain ⟨y0, y1, y2⟩ := cells3 ((Posts.Ext.blk hX _ (lt_of_block H3.out)).trans H3.out)
    have d6 := Posts.slot (show a.eval (.tmp 6) = .int .u32 s from hD.1)
    exact Posts.op_value (fun _ => trivial) rfl rfl (by intro c h; cases h) rfl (by rw [hS.size]; simp) (v := .bool (E1)) (by simp [execOp, d6,  go_sem, x0, x1, x2, y0, y1, y2, c1, c2, hE1, hE2, hE3, hE4]) rfl (hE.refl _) trivial
  · intro a X hX hS hD hJ hU
    obtain ⟨x0, x1, x2⟩ := cells3 ((Posts.Ext.blk hX _ (lt_of_block H2.out)).trans H2.out)
    obtain ⟨y0, y1, y2⟩ := cells3 ((Posts.Ext.blk hX _ (lt_of_block H3.out)).trans H3.out)
    have d7 := Posts.slot (show a.eval (.tmp 7) = .bool (E1) from hD.1)
    exact Posts.op_value (fun _ => trivial) rfl rfl (by intro c h; cases h) rfl (by rw [hS.size]; simp) (v := .bool (E1)) (by simp [execOp, d7,  go_sem, x0, x1, x2, y0, y1, y2, c1, c2, hE1, hE2, hE3, hE4]) rfl (hE.refl _) trivial
  · intro a X hX hS hD hJ hU
    obtain ⟨x0, x1, x2⟩ := cells3 ((Posts.Ext.blk hX _ (lt_of_block H2.out)).trans H2.out)
    obtain ⟨y0, y1, y2⟩ := cells3 ((Posts.Ext.blk hX _ (lt_of_block H3.out)).trans H3.out)
    have dg := Posts.slot (show a.eval (.tmp 8) = .bool (E1) from hD.1)
    by_cases hg : (E1) = true
    · have d3 := Posts.slot (show a.eval (.tmp 3) = .pointer (some ⟨V + 1, 0, none⟩) from hS.other 3 rfl)
      exact Posts.op_value (fun _ => trivial) rfl (Posts.wanted_yes rfl rfl rfl (by simpa [hg] using dg)) (by intro c h; cases h) rfl (by rw [hS.size]; simp) (v := .pointer (some ⟨V + 1, 1, none⟩)) (by simp [execOp, d3, hg,  go_sem, x0, x1, x2, y0, y1, y2, c1, c2, hE1, hE2, hE3, hE4]) (fun _ => rfl) (hE.refl _) trivial
    · exact Posts.op_skip hE (fun _ => trivial) rfl (Posts.wanted_no rfl rfl rfl (by simpa [hg] using dg)) rfl (by rw [hS.size]; simp) (fun h => absurd h hg) trivial
  · intro a X hX hS hD hJ hU
    obtain ⟨x0, x1, x2⟩ := cells3 ((Posts.Ext.blk hX _ (lt_of_block H2.out)).trans H2.out)
    obtain ⟨y0, y1, y2⟩ := cells3 ((Posts.Ext.blk hX _ (lt_of_block H3.out)).trans H3.out)
    have dg := Posts.slot (show a.eval (.tmp 8) = .bool (E1) from hD.2.1)
    by_cases hg : (E1) = true
    · have d9 := Posts.slot (show a.eval (.tmp 9) = .pointer (some ⟨V + 1, 1, none⟩) from (hD.1 hg))
      exact Posts.op_value (fun _ => trivial) rfl (Posts.wanted_yes rfl rfl rfl (by simpa [hg] using dg)) (by intro c h; cases h) rfl (by rw [hS.size]; simp) (v := .int .u32 s') (by simp [execOp, d9, hg,  go_sem, x0, x1, x2, y0, y1, y2, c1, c2, hE1, hE2, hE3, hE4]) (fun _ => rfl) (hE.refl _) trivial
    · exact Posts.op_skip hE (fun _ => trivial) rfl (Posts.wanted_no rfl rfl rfl (by simpa [hg] using dg)) rfl (by rw [hS.size]; simp) (fun h => absurd h hg) trivial
  · intro a X hX hS hD hJ hU
    obtain ⟨x0, x1, x2⟩ := cells3 ((Posts.Ext.blk hX _ (lt_of_block H2.out)).trans H2.out)
    obtain ⟨y0, y1, y2⟩ := cells3 ((Posts.Ext.blk hX _ (lt_of_block H3.out)).trans H3.out)
    have dg := Posts.slot (show a.eval (.tmp 8) = .bool (E1) from hD.2.1)
    by_cases hg : (E1) = true
    · have d10 := Posts.slot (show a.eval (.tmp 10) = .int .u32 s' from (hD.1 hg))
      exact Posts.op_value (fun _ => trivial) rfl (Posts.wanted_yes rfl rfl rfl (by simpa [hg] using dg)) (by intro c h; cases h) rfl (by rw [hS.size]; simp) (v := .bool (E2)) (by simp [execOp, d10, hg,  go_sem, x0, x1, x2, y0, y1, y2, c1, c2, hE1, hE2, hE3, hE4]) (fun _ => rfl) (hE.refl _) trivial
    · exact Posts.op_skip hE (fun _ => trivial) rfl (Posts.wanted_no rfl rfl rfl (by simpa [hg] using dg)) rfl (by rw [hS.size]; simp) (fun h => absurd h hg) trivial
  · intro a X hX hS hD hJ hU
    obtain ⟨x0, x1, x2⟩ := cells3 ((Posts.Ext.blk hX _ (lt_of_block H2.out)).trans H2.out)
    obtain ⟨y0, y1, y2⟩ := cells3 ((Posts.Ext.blk hX _ (lt_of_block H3.out)).trans H3.out)
    have dc := Posts.slot (show a.eval (.tmp 8) = .bool (E1) from hD.1)
    rcases Bool.eq_false_or_eq_true (E1) with hg | hg
    · have dx := Posts.slot (show a.eval (.tmp 11) = .bool (E2) from (hD.2.1 hg))
      exact Posts.op_value (fun _ => trivial) rfl rfl (by intro c h; cases h) rfl (by rw [hS.size]; simp) (v := .bool (E1 && E2)) (by simp [execOp, dc, hg, dx,  go_sem, x0, x1, x2, y0, y1, y2, c1, c2, hE1, hE2, hE3, hE4]) rfl (hE.refl _) trivial
    · exact Posts.op_value (fun _ => trivial) rfl rfl (by intro c h; cases h) rfl (by rw [hS.size]; simp) (v := .bool (E1 && E2)) (by simp [execOp, dc, hg,  go_sem, x0, x1, x2, y0, y1, y2, c1, c2, hE1, hE2, hE3, hE4]) rfl (hE.refl _) trivial
  · intro a X hX hS hD hJ hU
    obtain ⟨x0, x1, x2⟩ := cells3 ((Posts.Ext.blk hX _ (lt_of_block H2.out)).trans H2.out)
    obtain ⟨y0, y1, y2⟩ := cells3 ((Posts.Ext.blk hX _ (lt_of_block H3.out)).trans H3.out)
    have d12 := Posts.slot (show a.eval (.tmp 12) = .bool (E1 && E2) from hD.1)
    exact Posts.op_value (fun _ => trivial) rfl rfl (by intro c h; cases h) rfl (by rw [hS.size]; simp) (v := .bool (E1 && E2)) (by simp [execOp, d12,  go_sem, x0, x1, x2, y0, y1, y2, c1, c2, hE1, hE2, hE3, hE4]) rfl (hE.refl _) trivial
  · intro a X hX hS hD hJ hU
    obtain ⟨x0, x1, x2⟩ := cells3 ((Posts.Ext.blk hX _ (lt_of_block H2.out)).trans H2.out)
    obtain ⟨y0, y1, y2⟩ := cells3 ((Posts.Ext.blk hX _ (lt_of_block H3.out)).trans H3.out)
    have dg := Posts.slot (show a.eval (.tmp 13) = .bool (E1 && E2) from hD.1)
    by_cases hg : (E1 && E2) = true
    · have d2 := Posts.slot (show a.eval (.tmp 2) = .pointer (some ⟨V, 0, none⟩) from hS.other 2 rfl)
      exact Posts.op_value (fun _ => trivial) rfl (Posts.wanted_yes rfl rfl rfl (by simpa [hg] using dg)) (by intro c h; cases h) rfl (by rw [hS.size]; simp) (v := .pointer (some ⟨V, 0, none⟩)) (by simp [execOp, d2, hg,  go_sem, x0, x1, x2, y0, y1, y2, c1, c2, hE1, hE2, hE3, hE4]) (fun _ => rfl) (hE.refl _) trivial
    · exact Posts.op_skip hE (fun _ => trivial) rfl (Posts.wanted_no rfl rfl rfl (by simpa [hg] using dg)) rfl (by rw [hS.size]; simp) (fun h => absurd h hg) trivial
  · intro a X hX hS hD hJ hU
    obtain ⟨x0, x1, x2⟩ := cells3 ((Posts.Ext.blk hX _ (lt_of_block H2.out)).trans H2.out)
    obtain ⟨y0, y1, y2⟩ := cells3 ((Posts.Ext.blk hX _ (lt_of_block H3.out)).trans H3.out)
    have dg := Posts.slot (show a.eval (.tmp 13) = .bool (E1 && E2) from hD.2.1)
    by_cases hg : (E1 && E2) = true
    · have d14 := Posts.slot (show a.eval (.tmp 14) = .pointer (some ⟨V, 0, none⟩) from (hD.1 hg))
      exact Posts.op_value (fun _ => trivial) rfl (Posts.wanted_yes rfl rfl rfl (by simpa [hg] using dg)) (by intro c h; cases h) rfl (by rw [hS.size]; simp) (v := .int .u32 b) (by simp [execOp, d14, hg,  go_sem, x0, x1, x2, y0, y1, y2, c1, c2, hE1, hE2, hE3, hE4]) (fun _ => rfl) (hE.refl _) trivial
    · exact Posts.op_skip hE (fun _ => trivial) rfl (Posts.wanted_no rfl rfl rfl (by simpa [hg] using dg)) rfl (by rw [hS.size]; simp) (fun h => absurd h hg) trivial
  · intro a X hX hS hD hJ hU
    obtain ⟨x0, x1, x2⟩ := cells3 ((Posts.Ext.blk hX _ (lt_of_block H2.out)).trans H2.out)
    obtain ⟨y0, y1, y2⟩ := cells3 ((Posts.Ext.blk hX _ (lt_of_block H3.out)).trans H3.out)
    have dg := Posts.slot (show a.eval (.tmp 13) = .bool (E1 && E2) from hD.2.1)
    by_cases hg : (E1 && E2) = true
    · have d15 := Posts.slot (show a.eval (.tmp 15) = .int .u32 b from (hD.1 hg))
      exact Posts.op_value (fun _ => trivial) rfl (Posts.wanted_yes rfl rfl rfl (by simpa [hg] using dg)) (by intro c h; cases h) rfl (by rw [hS.size]; simp) (v := .int .u64 b) (by simp [execOp, d15, hg,  go_sem, x0, x1, x2, y0, y1, y2, c1, c2, hE1, hE2, hE3, hE4]) (fun _ => rfl) (hE.refl _) trivial
    · exact Posts.op_skip hE (fun _ => trivial) rfl (Posts.wanted_no rfl rfl rfl (by simpa [hg] using dg)) rfl (by rw [hS.size]; simp) (fun h => absurd h hg) trivial
  · intro a X hX hS hD hJ hU
    obtain ⟨x0, x1, x2⟩ := cells3 ((Posts.Ext.blk hX _ (lt_of_block H2.out)).trans H2.out)
    obtain ⟨y0, y1, y2⟩ := cells3 ((Posts.Ext.blk hX _ (lt_of_block H3.out)).trans H3.out)
    have dg := Posts.slot (show a.eval (.tmp 13) = .bool (E1 && E2) from hD.1)
    by_cases hg : (E1 && E2) = true
    · have d3 := Posts.slot (show a.eval (.tmp 3) = .pointer (some ⟨V + 1, 0, none⟩) from hS.other 3 rfl)
      exact Posts.op_value (fun _ => trivial) rfl (Posts.wanted_yes rfl rfl rfl (by simpa [hg] using dg)) (by intro c h; cases h) rfl (by rw [hS.size]; simp) (v := .agg #[.int .u32 b', .int .u32 s', .int .u8 r']) (by simp [execOp, d3, hg,  go_sem, x0, x1, x2, y0, y1, y2, c1, c2, hE1, hE2, hE3, hE4]) (fun _ => rfl) (hE.refl _) trivial
    · exact Posts.op_skip hE (fun _ => trivial) rfl (Posts.wanted_no rfl rfl rfl (by simpa [hg] using dg)) rfl (by rw [hS.size]; simp) (fun h => absurd h hg) trivial
  · intro a X hX hS hD hJ hU
    obtain ⟨x0, x1, x2⟩ := cells3 ((Posts.Ext.blk hX _ (lt_of_block H2.out)).trans H2.out)
    obtain ⟨y0, y1, y2⟩ := cells3 ((Posts.Ext.blk hX _ (lt_of_block H3.out)).trans H3.out)
    have dg := Posts.slot (show a.eval (.tmp 13) = .bool (E1 && E2) from hD.2.1)
    by_cases hg : (E1 && E2) = true
    · have d17 := Posts.slot (show a.eval (.tmp 17) = .agg #[.int .u32 b', .int .u32 s', .int .u8 r'] from (hD.1 hg))
      refine Posts.op_call (fun _ => trivial) rfl rfl (Posts.wanted_yes rfl rfl rfl (by simpa [hg] using dg)) (by intro c h; cases h) rfl (by rw [hS.size]; simp) 21 #[.agg #[.int .u32 b', .int .u32 s', .int .u8 r']] (by simp [d17, go_sem]) ?_
      refine callsIn_wide.2 ((hy X).mono ?_)
      rintro e Y ⟨rfl, rfl⟩
      exact ⟨_, rfl, (fun _ => rfl), Below.alloc (Below.refl _ _) (Nat.le_refl _) _, trivial⟩
    · exact Posts.op_skip hE (fun _ => trivial) rfl (Posts.wanted_no rfl rfl rfl (by simpa [hg] using dg)) rfl (by rw [hS.size]; simp) (fun h => absurd h hg) trivial
  · intro a X hX hS hD hJ hU
    obtain ⟨x0, x1, x2⟩ := cells3 ((Posts.Ext.blk hX _ (lt_of_block H2.out)).trans H2.out)
    obtain ⟨y0, y1, y2⟩ := cells3 ((Posts.Ext.blk hX _ (lt_of_block H3.out)).trans H3.out)
    have dg := Posts.slot (show a.eval (.tmp 13) = .bool (E1 && E2) from hD.2.2.1)
    by_cases hg : (E1 && E2) = true
    · have d16 := Posts.slot (show a.eval (.tmp 16) = .int .u64 b from (hD.1 hg))
      have d18 := Posts.slot (show a.eval (.tmp 18) = .int .u64 (b' + s') from (hD.2.1 hg))
      exact Posts.op_value (fun _ => trivial) rfl (Posts.wanted_yes rfl rfl rfl (by simpa [hg] using dg)) (by intro c h; cases h) rfl (by rw [hS.size]; simp) (v := .bool (E3)) (by simp [execOp, d16, d18, hg,  go_sem, x0, x1, x2, y0, y1, y2, c1, c2, hE1, hE2, hE3, hE4]) (fun _ => rfl) (hE.refl _) trivial
    · exact Posts.op_skip hE (fun _ => trivial) rfl (Posts.wanted_no rfl rfl rfl (by simpa [hg] using dg)) rfl (by rw [hS.size]; simp) (fun h => absurd h hg) trivial
  · intro a X hX hS hD hJ hU
    obtain ⟨x0, x1, x2⟩ := cells3 ((Posts.Ext.blk hX _ (lt_of_block H2.out)).trans H2.out)
    obtain ⟨y0, y1, y2⟩ := cells3 ((Posts.Ext.blk hX _ (lt_of_block H3.out)).trans H3.out)
    have dc := Posts.slot (show a.eval (.tmp 13) = .bool (E1 && E2) from hD.1)
    rcases Bool.eq_false_or_eq_true (E1 && E2) with hg | hg
    · have dx := Posts.slot (show a.eval (.tmp 19) = .bool (E3) from (hD.2.1 hg))
      exact Posts.op_value (fun _ => trivial) rfl rfl (by intro c h; cases h) rfl (by rw [hS.size]; simp) (v := .bool (E1 && E2 && E3)) (by simp [execOp, dc, hg, dx,  go_sem, x0, x1, x2, y0, y1, y2, c1, c2, hE1, hE2, hE3, hE4]) rfl (hE.refl _) trivial
    · exact Posts.op_value (fun _ => trivial) rfl rfl (by intro c h; cases h) rfl (by rw [hS.size]; simp) (v := .bool (E1 && E2 && E3)) (by simp [execOp, dc, hg,  go_sem, x0, x1, x2, y0, y1, y2, c1, c2, hE1, hE2, hE3, hE4]) rfl (hE.refl _) trivial
  · intro a X hX hS hD hJ hU
    obtain ⟨x0, x1, x2⟩ := cells3 ((Posts.Ext.blk hX _ (lt_of_block H2.out)).trans H2.out)
    obtain ⟨y0, y1, y2⟩ := cells3 ((Posts.Ext.blk hX _ (lt_of_block H3.out)).trans H3.out)
    have d20 := Posts.slot (show a.eval (.tmp 20) = .bool (E1 && E2 && E3) from hD.1)
    exact Posts.op_value (fun _ => trivial) rfl rfl (by intro c h; cases h) rfl (by rw [hS.size]; simp) (v := .bool (E1 && E2 && E3)) (by simp [execOp, d20,  go_sem, x0, x1, x2, y0, y1, y2, c1, c2, hE1, hE2, hE3, hE4]) rfl (hE.refl _) trivial
  · intro a X hX hS hD hJ hU
    obtain ⟨x0, x1, x2⟩ := cells3 ((Posts.Ext.blk hX _ (lt_of_block H2.out)).trans H2.out)
    obtain ⟨y0, y1, y2⟩ := cells3 ((Posts.Ext.blk hX _ (lt_of_block H3.out)).trans H3.out)
    have dg := Posts.slot (show a.eval (.tmp 21) = .bool (E1 && E2 && E3) from hD.1)
    by_cases hg : (E1 && E2 && E3) = true
    · have d3 := Posts.slot (show a.eval (.tmp 3) = .pointer (some ⟨V + 1, 0, none⟩) from hS.other 3 rfl)
      exact Posts.op_value (fun _ => trivial) rfl (Posts.wanted_yes rfl rfl rfl (by simpa [hg] using dg)) (by intro c h; cases h) rfl (by rw [hS.size]; simp) (v := .pointer (some ⟨V + 1, 0, none⟩)) (by simp [execOp, d3, hg,  go_sem, x0, x1, x2, y0, y1, y2, c1, c2, hE1, hE2, hE3, hE4]) (fun _ => rfl) (hE.refl _) trivial
    · exact Posts.op_skip hE (fun _ => trivial) rfl (Posts.wanted_no rfl rfl rfl (by simpa [hg] using dg)) rfl (by rw [hS.size]; simp) (fun h => absurd h hg) trivial
  · intro a X hX hS hD hJ hU
    obtain ⟨x0, x1, x2⟩ := cells3 ((Posts.Ext.blk hX _ (lt_of_block H2.out)).trans H2.out)
    obtain ⟨y0, y1, y2⟩ := cells3 ((Posts.Ext.blk hX _ (lt_of_block H3.out)).trans H3.out)
    have dg := Posts.slot (show a.eval (.tmp 21) = .bool (E1 && E2 && E3) from hD.2.1)
    by_cases hg : (E1 && E2 && E3) = true
    · have d22 := Posts.slot (show a.eval (.tmp 22) = .pointer (some ⟨V + 1, 0, none⟩) from (hD.1 hg))
      exact Posts.op_value (fun _ => trivial) rfl (Posts.wanted_yes rfl rfl rfl (by simpa [hg] using dg)) (by intro c h; cases h) rfl (by rw [hS.size]; simp) (v := .int .u32 b') (by simp [execOp, d22, hg,  go_sem, x0, x1, x2, y0, y1, y2, c1, c2, hE1, hE2, hE3, hE4]) (fun _ => rfl) (hE.refl _) trivial
    · exact Posts.op_skip hE (fun _ => trivial) rfl (Posts.wanted_no rfl rfl rfl (by simpa [hg] using dg)) rfl (by rw [hS.size]; simp) (fun h => absurd h hg) trivial
  · intro a X hX hS hD hJ hU
    obtain ⟨x0, x1, x2⟩ := cells3 ((Posts.Ext.blk hX _ (lt_of_block H2.out)).trans H2.out)
    obtain ⟨y0, y1, y2⟩ := cells3 ((Posts.Ext.blk hX _ (lt_of_block H3.out)).trans H3.out)
    have dg := Posts.slot (show a.eval (.tmp 21) = .bool (E1 && E2 && E3) from hD.2.1)
    by_cases hg : (E1 && E2 && E3) = true
    · have d23 := Posts.slot (show a.eval (.tmp 23) = .int .u32 b' from (hD.1 hg))
      exact Posts.op_value (fun _ => trivial) rfl (Posts.wanted_yes rfl rfl rfl (by simpa [hg] using dg)) (by intro c h; cases h) rfl (by rw [hS.size]; simp) (v := .int .u64 b') (by simp [execOp, d23, hg,  go_sem, x0, x1, x2, y0, y1, y2, c1, c2, hE1, hE2, hE3, hE4]) (fun _ => rfl) (hE.refl _) trivial
    · exact Posts.op_skip hE (fun _ => trivial) rfl (Posts.wanted_no rfl rfl rfl (by simpa [hg] using dg)) rfl (by rw [hS.size]; simp) (fun h => absurd h hg) trivial
  · intro a X hX hS hD hJ hU
    obtain ⟨x0, x1, x2⟩ := cells3 ((Posts.Ext.blk hX _ (lt_of_block H2.out)).trans H2.out)
    obtain ⟨y0, y1, y2⟩ := cells3 ((Posts.Ext.blk hX _ (lt_of_block H3.out)).trans H3.out)
    have dg := Posts.slot (show a.eval (.tmp 21) = .bool (E1 && E2 && E3) from hD.1)
    by_cases hg : (E1 && E2 && E3) = true
    · have d2 := Posts.slot (show a.eval (.tmp 2) = .pointer (some ⟨V, 0, none⟩) from hS.other 2 rfl)
      exact Posts.op_value (fun _ => trivial) rfl (Posts.wanted_yes rfl rfl rfl (by simpa [hg] using dg)) (by intro c h; cases h) rfl (by rw [hS.size]; simp) (v := .agg #[.int .u32 b, .int .u32 s, .int .u8 r]) (by simp [execOp, d2, hg,  go_sem, x0, x1, x2, y0, y1, y2, c1, c2, hE1, hE2, hE3, hE4]) (fun _ => rfl) (hE.refl _) trivial
    · exact Posts.op_skip hE (fun _ => trivial) rfl (Posts.wanted_no rfl rfl rfl (by simpa [hg] using dg)) rfl (by rw [hS.size]; simp) (fun h => absurd h hg) trivial
  · intro a X hX hS hD hJ hU
    obtain ⟨x0, x1, x2⟩ := cells3 ((Posts.Ext.blk hX _ (lt_of_block H2.out)).trans H2.out)
    obtain ⟨y0, y1, y2⟩ := cells3 ((Posts.Ext.blk hX _ (lt_of_block H3.out)).trans H3.out)
    have dg := Posts.slot (show a.eval (.tmp 21) = .bool (E1 && E2 && E3) from hD.2.1)
    by_cases hg : (E1 && E2 && E3) = true
    · have d25 := Posts.slot (show a.eval (.tmp 25) = .agg #[.int .u32 b, .int .u32 s, .int .u8 r] from (hD.1 hg))
      refine Posts.op_call (fun _ => trivial) rfl rfl (Posts.wanted_yes rfl rfl rfl (by simpa [hg] using dg)) (by intro c h; cases h) rfl (by rw [hS.size]; simp) 21 #[.agg #[.int .u32 b, .int .u32 s, .int .u8 r]] (by simp [d25, go_sem]) ?_
      refine callsIn_wide.2 ((hx X).mono ?_)
      rintro e Y ⟨rfl, rfl⟩
      exact ⟨_, rfl, (fun _ => rfl), Below.alloc (Below.refl _ _) (Nat.le_refl _) _, trivial⟩
    · exact Posts.op_skip hE (fun _ => trivial) rfl (Posts.wanted_no rfl rfl rfl (by simpa [hg] using dg)) rfl (by rw [hS.size]; simp) (fun h => absurd h hg) trivial
  · intro a X hX hS hD hJ hU
    obtain ⟨x0, x1, x2⟩ := cells3 ((Posts.Ext.blk hX _ (lt_of_block H2.out)).trans H2.out)
    obtain ⟨y0, y1, y2⟩ := cells3 ((Posts.Ext.blk hX _ (lt_of_block H3.out)).trans H3.out)
    have dg := Posts.slot (show a.eval (.tmp 21) = .bool (E1 && E2 && E3) from hD.2.2.1)
    by_cases hg : (E1 && E2 && E3) = true
    · have d24 := Posts.slot (show a.eval (.tmp 24) = .int .u64 b' from (hD.1 hg))
      have d26 := Posts.slot (show a.eval (.tmp 26) = .int .u64 (b + s) from (hD.2.1 hg))
      exact Posts.op_value (fun _ => trivial) rfl (Posts.wanted_yes rfl rfl rfl (by simpa [hg] using dg)) (by intro c h; cases h) rfl (by rw [hS.size]; simp) (v := .bool (E4)) (by simp [execOp, d24, d26, hg,  go_sem, x0, x1, x2, y0, y1, y2, c1, c2, hE1, hE2, hE3, hE4]) (fun _ => rfl) (hE.refl _) trivial
    · exact Posts.op_skip hE (fun _ => trivial) rfl (Posts.wanted_no rfl rfl rfl (by simpa [hg] using dg)) rfl (by rw [hS.size]; simp) (fun h => absurd h hg) trivial
  · intro a X hX hS hD hJ hU
    obtain ⟨x0, x1, x2⟩ := cells3 ((Posts.Ext.blk hX _ (lt_of_block H2.out)).trans H2.out)
    obtain ⟨y0, y1, y2⟩ := cells3 ((Posts.Ext.blk hX _ (lt_of_block H3.out)).trans H3.out)
    have dc := Posts.slot (show a.eval (.tmp 21) = .bool (E1 && E2 && E3) from hD.1)
    rcases Bool.eq_false_or_eq_true (E1 && E2 && E3) with hg | hg
    · have dx := Posts.slot (show a.eval (.tmp 27) = .bool (E4) from (hD.2.1 hg))
      exact Posts.op_value (fun _ => trivial) rfl rfl (by intro c h; cases h) rfl (by rw [hS.size]; simp) (v := .bool (E1 && E2 && E3 && E4)) (by simp [execOp, dc, hg, dx,  go_sem, x0, x1, x2, y0, y1, y2, c1, c2, hE1, hE2, hE3, hE4]) rfl (hE.refl _) trivial
    · exact Posts.op_value (fun _ => trivial) rfl rfl (by intro c h; cases h) rfl (by rw [hS.size]; simp) (v := .bool (E1 && E2 && E3 && E4)) (by simp [execOp, dc, hg,  go_sem, x0, x1, x2, y0, y1, y2, c1, c2, hE1, hE2, hE3, hE4]) rfl (hE.refl _) trivial
  · intro a X hX hS hD hJ hU
    obtain ⟨x0, x1, x2⟩ := cells3 ((Posts.Ext.blk hX _ (lt_of_block H2.out)).trans H2.out)
    obtain ⟨y0, y1, y2⟩ := cells3 ((Posts.Ext.blk hX _ (lt_of_block H3.out)).trans H3.out)
    have d28 := Posts.slot (show a.eval (.tmp 28) = .bool (E1 && E2 && E3 && E4) from hD.1)
    exact Posts.op_value (fun _ => trivial) rfl rfl (by intro c h; cases h) rfl (by rw [hS.size]; simp) (v := .bool (E1 && E2 && E3 && E4)) (by simp [execOp, d28,  go_sem, x0, x1, x2, y0, y1, y2, c1, c2, hE1, hE2, hE3, hE4]) rfl (hE.refl _) trivial
  · intro a Y hY hS hJ hL
    refine ⟨by kernel_rfl, ?_⟩
    have hres : a.tmps.getD 4 undef = .bool (E1 && E2 && E3 && E4) := hL.2.2.2.2.2.2.2.2.2.2.2.2.2.2.2.2.2.2.2.2.2.2.2.2.1
    rename_i hK
    refine hK _ _ ?_
    go_wp2_with fail
    exact bodyPost_ret (v := .bool (E1 && E2 && E3 && E4)) (by have h := results_tmp (fn := Try.f11) (t := 4) rfl a.tmps Try.prog Y; rw [hres] at h; exact h) hS.defers ⟨rfl, by rw [← hV]; exact HB.out.trans (Below.mono hY HB.out.size)⟩
end Rights
end Go.Proofs.Ytekicfaakjbmhaa
