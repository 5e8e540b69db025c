/- Copy. -/
import Derived.Test.YtoighaicdakbkaaFieldW4
namespace Go.Proofs.Ytoighaicdakbkaa
open Go.ChangeShapes Go.WideShapes Go.ChangeAt Go.RowKit
namespace Fld
set_option linter.unusedVariables false
set_option linter.unusedSimpArgs false
theorem copy_nil (w : World) : Calls Try.prog 19 #[.pointer none] w fun e w' => e = .returned (.pointer none) ∧ w' = w := by
  go_enter Try.func19, Try.ntmps19
  go_wp2_with fail
  go_ret
  exact ⟨rfl, rfl⟩
theorem alloc_facts {W w' : World} {o : Obj} (h : w' = W.alloc o) : Below W.heap.size W w' ∧ w'.heap[W.heap.size]? = some o := by subst h; exact ⟨below_alloc _ _, heap_alloc_new _ _⟩
/-- another field that stands so -/
def CopyP (a : Fa) (s : Fv) (w : World) (e : Ending) (w' : World) : Prop :=
  ∃ a', e = .returned (.pointer (some ⟨a'.g, 0, none⟩)) ∧ Fd w' a' s ∧ a'.bs = a.bs ∧ w.heap.size ≤ a'.g ∧ (∀ k, a'.wr k → w.heap.size ≤ k) ∧ Below w.heap.size w w'
section
variable {w : World} {a : Fa} {s : Fv}
set_option maxHeartbeats 4000000 in
theorem copy_any (h : Fd w a s) : Calls Try.prog 19 #[.pointer (some ⟨a.g, 0, none⟩)] w (CopyP a s w) := by
  have c0 := h.c0
  have c1 := h.c1
  have c2 := h.c2
  have c3 := h.c3
  have c4 := h.c4
  have c5 := h.c5
  have HOk := Lib.hid h.ok
  have HRs := Lib.hid h.rs
  have HCells := Lib.hid (fun (W : World) (hb : Below w.heap.size w W) => And.intro (h.below hb).c3 (And.intro (h.below hb).c4 (h.below hb).c5))
  have HI := Lib.hid (fun (W : World) (hb : Below w.heap.size w W) => copied_any (c := s.ins.length) (num_row (p := fun _ => False) (h.below hb).ri id) (by have := h.ok.si; omega))
  have HO := Lib.hid (fun (W : World) (hb : Below w.heap.size w W) => copied_any (c := s.outs.length) (num_row (p := fun _ => False) (h.below hb).ro id) (by have := h.ok.so; have := h.ok.ss; omega))
  rw [h.ok.so] at HO
  have HP := Lib.hid (fun (W : World) (hb : Below w.heap.size w W) => copiedP_any (c := s.safe.length) (h.below hb).rp h.ok.sp (by have := h.ok.ss; omega))
  have HL := Lib.hid (lt_of_block h.obj)
  have HF : Hid (∀ W b1 b2 b3, W.heap[w.heap.size]? = some (.cells #[.int .u32 s.rd, .int .i64 s.wr, .slice (some ⟨a.bs, 0, none⟩) s.safe.length s.safe.length, .slice (some ⟨b1, 0, none⟩) s.ins.length s.ins.length, .slice (some ⟨b2, 0, none⟩) s.safe.length s.safe.length, .slice (some ⟨b3, 0, none⟩) s.safe.length s.safe.length] 56 (0, 0)) →
      W.heap[b1]? = some (.cells (nums s.ins).toArray 23 (0, 0)) → W.heap[b2]? = some (.cells (nums s.outs).toArray 23 (0, 0)) → W.heap[b3]? = some (.cells (putC s.puts).toArray 61 (0, 0)) →
      Below w.heap.size w W → w.heap.size ≤ b1 → w.heap.size ≤ b2 → w.heap.size ≤ b3 → b1 ≠ b2 → CopyP a s w (.returned (.pointer (some ⟨w.heap.size, 0, none⟩))) W) := fun W b1 b2 b3 q1 q2 q3 q4 hb l1 l2 l3 hn => by
    have hlt := lt_of_block h.rs
    refine ⟨⟨w.heap.size, a.bs, b1, b2, b3⟩, rfl, ⟨h.ok, q1, (hb.block _ hlt).trans h.rs, q2, q3, q4, by simp only; omega, by simp only; omega, hn⟩, rfl, Nat.le_refl _, ?_, hb⟩
    rintro k (rfl | rfl | rfl) <;> assumption
  clear h
  generalize (nums s.ins).toArray = Z1 at *
  generalize (nums s.outs).toArray = Z2 at *
  generalize (putC s.puts).toArray = Z3 at *
  generalize s.ins.length = M at *
  generalize s.safe.length = N at *
  generalize s.rd = rd at *
  generalize s.wr = wv at *
  obtain ⟨g, hg⟩ : ∃ g, a.g = g := ⟨_, rfl⟩
  obtain ⟨bs, hbs⟩ : ∃ g, a.bs = g := ⟨_, rfl⟩
  obtain ⟨bi, hbi⟩ : ∃ g, a.bi = g := ⟨_, rfl⟩
  obtain ⟨bo, hbo⟩ : ∃ g, a.bo = g := ⟨_, rfl⟩
  obtain ⟨bp, hbp⟩ : ∃ g, a.bp = g := ⟨_, rfl⟩
  rw [hg] at c0 c1 c2 c3 c4 c5 HL ⊢
  simp only [hg, hbi, hbo, hbp] at HCells HI HO HP
  rw [hbs] at c2 HF
  rw [hbi] at c3
  rw [hbo] at c4
  rw [hbp] at c5
  clear hg hbs hbi hbo hbp HRs HOk
  have HB0 := Lib.hid (below_alloc w (.cells #[.int .u32 rd, .int .i64 wv, .slice (some ⟨bs, 0, none⟩) N N, .slice (some ⟨bi, 0, none⟩) M M, .slice (some ⟨bo, 0, none⟩) N N, .slice (some ⟨bp, 0, none⟩) N N] 56))
  have HX0 := Lib.hid (heap_alloc_new w (.cells #[.int .u32 rd, .int .i64 wv, .slice (some ⟨bs, 0, none⟩) N N, .slice (some ⟨bi, 0, none⟩) M M, .slice (some ⟨bo, 0, none⟩) N N, .slice (some ⟨bp, 0, none⟩) N N] 56))
  go_enter Try.func19, Try.ntmps19
  go_upto_region 4 with fail
  generalize w.alloc (.cells #[.int .u32 rd, .int .i64 wv, .slice (some ⟨bs, 0, none⟩) N N, .slice (some ⟨bi, 0, none⟩) M M, .slice (some ⟨bo, 0, none⟩) N N, .slice (some ⟨bp, 0, none⟩) N N] 56) = W0 at *
  have HY := Lib.hid (fun W (hbW : Below W0.heap.size W0 W) => HCells.out W (HB0.out.trans (hbW.mono HB0.out.size)))
  have HI1 := Lib.hid (fun W (hbW : Below W0.heap.size W0 W) => HI.out W (HB0.out.trans (hbW.mono HB0.out.size)))
  have HO1 := Lib.hid (fun W (hbW : Below W0.heap.size W0 W) => HO.out W (HB0.out.trans (hbW.mono HB0.out.size)))
  have HP1 := Lib.hid (fun W (hbW : Below W0.heap.size W0 W) => HP.out W (HB0.out.trans (hbW.mono HB0.out.size)))
  obtain ⟨S, hS⟩ : ∃ S, w.heap.size = S := ⟨_, rfl⟩
  rw [hS] at HB0 HX0 HF HL ⊢
  have HS := Lib.hid hS
  have HXS := Lib.hid (fun W (hbW : Below W0.heap.size W0 W) => (hbW.block S (lt_of_block HX0.out)).trans HX0.out)
  have HK : Hid (∀ (W : World) (j : Nat) (u : Value), (W.cell? ⟨g, 3, none⟩ = some (.slice (some ⟨bi, 0, none⟩) M M) ∧ W.cell? ⟨g, 4, none⟩ = some (.slice (some ⟨bo, 0, none⟩) N N) ∧ W.cell? ⟨g, 5, none⟩ = some (.slice (some ⟨bp, 0, none⟩) N N)) → ((W.setCell ⟨S, j, none⟩ u).cell? ⟨g, 3, none⟩ = some (.slice (some ⟨bi, 0, none⟩) M M) ∧ (W.setCell ⟨S, j, none⟩ u).cell? ⟨g, 4, none⟩ = some (.slice (some ⟨bo, 0, none⟩) N N) ∧ (W.setCell ⟨S, j, none⟩ u).cell? ⟨g, 5, none⟩ = some (.slice (some ⟨bp, 0, none⟩) N N))) := fun W j u h => by
    have hb : (W.setCell ⟨S, j, none⟩ u).heap[g]? = W.heap[g]? := Below.heap_setCell _ _ _ _ (fun (e : g = S) => by have := HL.out; omega)
    exact ⟨(World.cell?_of_block hb).trans h.1, (World.cell?_of_block hb).trans h.2.1, (World.cell?_of_block hb).trans h.2.2⟩
  clear hS HI HO HP HCells c0 c1 c2 c3 c4 c5
  go_region_held3 (fun w' => w'.cell? ⟨g, 3, none⟩ = some (.slice (some ⟨bi, 0, none⟩) M M) ∧ w'.cell? ⟨g, 4, none⟩ = some (.slice (some ⟨bo, 0, none⟩) N N) ∧ w'.cell? ⟨g, 5, none⟩ = some (.slice (some ⟨bp, 0, none⟩) N N)) (first | exact HK.out _ _ _ (by assumption) | exact HY.out _ (by first | assumption | exact (Below.refl _ _).drew | exact Below.refl _ _) | go_keep) (first
    | (go_at_call_of 24 bi; refine (HI1.out _ (by first | assumption | exact (Below.refl _ _).drew | exact Below.refl _ _)).mono ?_; rintro e w1 ⟨rfl, hw1⟩; obtain ⟨hb1, hr1⟩ := alloc_facts hw1; clear hw1; replace hb1 : Below W0.heap.size W0 w1 := (Below.refl _ _).drew.trans hb1)
    | (go_at_call_of 24 bo; refine (HO1.out _ (by assumption)).mono ?_; rintro e w2 ⟨rfl, hw2⟩; obtain ⟨hb2, hr2⟩ := alloc_facts hw2; clear hw2; have ht2 := hb2; replace hb2 : Below W0.heap.size W0 w2 := hb1.trans (hb2.mono hb1.size))
    | (go_at_call 30; refine (HP1.out _ (by assumption)).mono ?_; rintro e w3 ⟨rfl, hw3⟩; obtain ⟨hb3, hr3⟩ := alloc_facts hw3; clear hw3; have ht3 := hb3; replace hb3 : Below W0.heap.size W0 w3 := hb2.trans (hb3.mono hb2.size); have hx3 := HXS.out w3 hb3; have d3 : w3.cell? ⟨S, 3, none⟩ = some (.slice (some ⟨bi, 0, none⟩) M M) := (by rw [cell_of_row _ _ _ _ _ _ hx3]; rfl); have d4 : w3.cell? ⟨S, 4, none⟩ = some (.slice (some ⟨bo, 0, none⟩) N N) := (by rw [cell_of_row _ _ _ _ _ _ hx3]; rfl); have d5 : w3.cell? ⟨S, 5, none⟩ = some (.slice (some ⟨bp, 0, none⟩) N N) := (by rw [cell_of_row _ _ _ _ _ _ hx3]; rfl); have f3 := row_free hx3 3; have f4 := row_free hx3 4; have f5 := row_free hx3 5))
  all_goals
    rename_i hK _
    refine hK _ _ ?_
    go_wp2_with fail
    go_ret
    have l0 : W0.heap.size < w1.heap.size := lt_of_block hr1
    have l1 : w1.heap.size < w2.heap.size := lt_of_block hr2
    have l2 : w2.heap.size < w3.heap.size := lt_of_block hr3
    have hSl : S < W0.heap.size := lt_of_block HX0.out
    have hkf : Kept (fun k => k = S) w3 (((w3.setCell ⟨S, 3, none⟩ (.slice (some ⟨W0.heap.size, 0, none⟩) M M)).setCell ⟨S, 4, none⟩ (.slice (some ⟨w1.heap.size, 0, none⟩) N N)).setCell ⟨S, 5, none⟩ (.slice (some ⟨w2.heap.size, 0, none⟩) N N)) := (((Kept.refl (fun k => k = S) w3).setCell (.inl rfl) _).setCell (.inl rfl) _).setCell (.inl rfl) _
    have r1 : w3.heap[W0.heap.size]? = some (.cells Z1 23 (0, 0)) := (ht3.block _ (by omega)).trans ((ht2.block _ l0).trans hr1)
    have r2 : w3.heap[w1.heap.size]? = some (.cells Z2 23 (0, 0)) := (ht3.block _ l1).trans hr2
    have hsz := HB0.out.size
    have hs := HS.out
    refine HF.out _ W0.heap.size w1.heap.size w2.heap.size ((row_setCell (row_setCell (row_setCell hx3))).trans (by simp)) (hkf.same r1 (by omega)) (hkf.same r2 (by omega)) (hkf.same hr3 (by omega)) ?_ (by omega) (by omega) (by omega) (by omega)
    exact (HB0.out.trans (hb3.mono (by omega))).trans (hkf.toBelow (by omega) (fun k hk e => by omega))
end
end Fld
end Go.Proofs.Ytoighaicdakbkaa
