/- Free: a sorted copy of the list, and the closure over it. -/
import Derived.Test.YtekicfaakjbmhaaRightsFreeIt
namespace Go.Proofs.Ytekicfaakjbmhaa
open Go.ChangeShapes Go.WideShapes Go.ChangeAt Go.RowKit
namespace Rights
set_option linter.unusedVariables false
set_option linter.unusedSimpArgs false
/-- the memory that is gone over -/
def memOf (m : Int) : Int := if 262144 < m then 0 else m
theorem memOf_bd {m : Int} (h : 0 ≤ m ∧ m ≤ 4294967295) : 0 ≤ memOf m ∧ memOf m ≤ 4294967295 := by unfold memOf; split <;> omega
def FreeP (w : World) (n : Nat) (l : List Rg) (m : Int) (e : Ending) (w' : World) : Prop :=
  ∃ lb mb g cp l', e = .returned (.func (.func 27) #[] #[.pointer (some ⟨lb, 0, none⟩), .pointer (some ⟨mb, 0, none⟩)]) ∧ Below w.heap.size w w' ∧ l'.Perm l ∧ l'.Pairwise (fun x y => x.b ≤ y.b) ∧
    FreeAt (fun k => w.heap.size ≤ k ∧ k < w'.heap.size) w' lb mb g n cp l' (memOf m)
set_option maxHeartbeats 4000000 in
set_option maxRecDepth 100000 in
theorem free_any {a : Option Addr} {n c : Nat} {l : List Rg} {w : World} (h : RRow w a n l) (hn : n ≤ 1000000) (m : Int) (hm : 0 ≤ m ∧ m ≤ 4294967295) :
    Calls Try.prog 16 #[.slice a n c, .int .u32 m] w (FreeP w n l m) := by
  obtain ⟨S, hS⟩ : ∃ S, w.heap.size = S := ⟨_, rfl⟩
  have key : ∀ (V : World), Below S w V → V.heap.size = S + 2 → V.heap[S]? = some (.cells #[.slice a n c] 29 (0, 0)) → V.heap[S + 1]? = some (.cells #[.int .u32 (memOf m)] 22 (0, 0)) →
      Calls Try.prog 23 #[.slice a n c] V fun e W => ∃ g cp blk, e = .returned (.slice g n cp) ∧ Below (S + 2) V W ∧ S + 2 ≤ blk ∧ (n = 0 ∨ (g = some ⟨blk, 0, none⟩ ∧ blk < W.heap.size ∧ Own W blk cp l)) := fun V hb hs _ _ => by
    refine (clone_any (h.below (by rw [hS]; exact hb)) hn).mono ?_
    rintro e W ⟨g, cp, rfl, hb2, hr⟩
    rw [hs] at hb2
    rcases hr with hr | ⟨blk, h1, h2, h3, h4⟩
    · exact ⟨g, cp, S + 2, rfl, hb2, Nat.le_refl _, .inl hr⟩
    · exact ⟨g, cp, blk, rfl, hb2, by omega, .inr ⟨h1, h3, h4⟩⟩
  have HH := Lib.hid h
  clear h
  have tail : ∀ (W : World) (g : Option Addr) (cp blk : Nat), Below S w W → S + 2 ≤ W.heap.size → W.heap[S]? = some (.cells #[.slice g n cp] 29 (0, 0)) → W.heap[S + 1]? = some (.cells #[.int .u32 (memOf m)] 22 (0, 0)) → S + 2 ≤ blk → (n = 0 ∨ (g = some ⟨blk, 0, none⟩ ∧ blk < W.heap.size ∧ Own W blk cp l)) →
      Calls Try.prog 24 #[.slice g n cp, .func (.func 25) #[] #[]] W fun e W' => e = .returned (.tuple #[]) ∧ FreeP w n l m (.returned (.func (.func 27) #[] #[.pointer (some ⟨S, 0, none⟩), .pointer (some ⟨S + 1, 0, none⟩)])) W' := fun W g cp blk hb hs hl hm' hblk hg => by
    refine (sort_any HH.out.1 hg hn).mono ?_
    rintro e W' ⟨rfl, hk, l', hp, hs', hin⟩
    have cell1 : ∀ {V : World} {k : Nat} {v : Value} {t : TypeId}, V.heap[k]? = some (.cells #[v] t (0, 0)) → V.cell? ⟨k, 0, none⟩ = some v := fun h => by simp [World.cell?, h]
    have hl' := hk.same hl (by omega)
    have hm2 := hk.same hm' (by omega)
    have hsz := hk.size
    refine ⟨rfl, S, S + 1, g, cp, l', rfl, ?_, hp, hs', ⟨cell1 hl', cell1 hm2, ?_, ?_, ?_, ?_, fun k hk => hk.2⟩⟩
    · rw [hS]; exact hb.trans (hk.toBelow (by omega) (fun k hk' => by omega))
    · refine ⟨by rw [hp.length_eq]; exact HH.out.1, ?_⟩
      rcases hg with hg | ⟨hg, hlt, _⟩
      · exact .inl hg
      · by_cases h0 : n = 0
        · exact .inl h0
        · exact .inr ⟨blk, 0, hg, by omega, hin (by omega)⟩
    · rw [hS]; omega
    · rw [hS]; omega
    · intro b off h0 e
      rcases hg with hg | ⟨hg, hlt, _⟩
      · omega
      · rw [hg] at e; cases e; rw [hS]; omega
  have cell1 : ∀ {V : World} {k : Nat} {v : Value} {t : TypeId}, V.heap[k]? = some (.cells #[v] t (0, 0)) → V.cell? ⟨k, 0, none⟩ = some v ∧ V.frozen? ⟨k, 0, none⟩ = false := fun h => by simp [World.cell?, World.frozen?, h]
  have HKey := Lib.hid key
  have HTail := Lib.hid tail
  clear key tail
  by_cases hbig : 262144 < m
  · have hmo : memOf m = 0 := by unfold memOf; rw [if_pos hbig]
    have hd : decide (262144 < m) = true := by simpa using hbig
    have k1 := HKey.out ((w.alloc (.cells #[.slice a n c] 29)).alloc (.cells #[.int .u32 0] 22)) (by rw [← hS]; go_grown) (by simp [hS]) (by rw [← hS]; exact heap_alloc2_old _ _ _) (by rw [hmo, ← hS]; exact heap_alloc2_new _ _ _)
    have hv0 : ((w.alloc (.cells #[.slice a n c] 29)).alloc (.cells #[.int .u32 0] 22)).heap[S]? = some (.cells #[.slice a n c] 29 (0, 0)) := by rw [← hS]; exact heap_alloc2_old _ _ _
    have hv1 : ((w.alloc (.cells #[.slice a n c] 29)).alloc (.cells #[.int .u32 0] 22)).heap[S + 1]? = some (.cells #[.int .u32 0] 22 (0, 0)) := by rw [← hS]; exact heap_alloc2_new _ _ _
    have hvb : Below S w ((w.alloc (.cells #[.slice a n c] 29)).alloc (.cells #[.int .u32 0] 22)) := by rw [← hS]; go_grown
    have hvs : ((w.alloc (.cells #[.slice a n c] 29)).alloc (.cells #[.int .u32 0] 22)).heap.size = S + 2 := by simp [hS]
    have HV := Lib.hid (And.intro hv0 (And.intro hv1 (And.intro hvb hvs)))
    clear hv0 hv1 hvb hvs
    go_enter Try.func16, Try.ntmps16
    go_wp2_with fail
    refine k1.mono ?_
    clear k1
    rintro e W ⟨g, cp, blk, rfl, hb2, hblk, hg⟩
    obtain ⟨hv0, hv1, hvb, hvs⟩ := HV.out
    have hw0 := (hb2.block S (by omega)).trans hv0
    have hw1 := (hb2.block (S + 1) (by omega)).trans hv1
    have HB := Lib.hid (hvb.trans (hb2.mono (by omega)))
    have hsz := hb2.size
    rw [hvs] at hsz
    obtain ⟨cW, fW⟩ := cell1 hw0
    have HW0 := Lib.hid hw0
    have HW1 := Lib.hid hw1
    have HG := Lib.hid hg
    have HSz := Lib.hid hsz
    clear hw0 hw1 hv0 hv1 hvb hvs hb2 hg hsz HV
    go_wp2_with fail
    refine (HTail.out (W.setCell ⟨S, 0, none⟩ (.slice g n cp)) g cp blk ?_ ?_ ?_ ?_ hblk ?_).mono ?_
    · exact HB.out.setCell (p := ⟨S, 0, none⟩) (Nat.le_refl _) _
    · have := HSz.out; simpa [World.setCell] using this
    · exact heap_set1 HW0.out
    · rw [hmo]; exact (((Kept.refl (fun k => k = S) W).setCell (.inl rfl) _).same HW1.out (by omega))
    · rcases HG.out with h0 | ⟨h1, h2, h3⟩
      · exact .inl h0
      · exact .inr ⟨h1, by simpa [World.setCell] using h2, h3.block (((Kept.refl (fun k => k = S) W).setCell (.inl rfl) _).block blk h2 (by omega))⟩
    · rintro e W2 ⟨rfl, hf⟩
      go_wp2_with fail
      go_ret
      exact hf
  · have hmo : memOf m = m := by unfold memOf; rw [if_neg hbig]
    have hd : decide (262144 < m) = false := by simpa using hbig
    have k1 := HKey.out ((w.alloc (.cells #[.slice a n c] 29)).alloc (.cells #[.int .u32 m] 22)) (by rw [← hS]; go_grown) (by simp [hS]) (by rw [← hS]; exact heap_alloc2_old _ _ _) (by rw [hmo, ← hS]; exact heap_alloc2_new _ _ _)
    have hv0 : ((w.alloc (.cells #[.slice a n c] 29)).alloc (.cells #[.int .u32 m] 22)).heap[S]? = some (.cells #[.slice a n c] 29 (0, 0)) := by rw [← hS]; exact heap_alloc2_old _ _ _
    have hv1 : ((w.alloc (.cells #[.slice a n c] 29)).alloc (.cells #[.int .u32 m] 22)).heap[S + 1]? = some (.cells #[.int .u32 m] 22 (0, 0)) := by rw [← hS]; exact heap_alloc2_new _ _ _
    have hvb : Below S w ((w.alloc (.cells #[.slice a n c] 29)).alloc (.cells #[.int .u32 m] 22)) := by rw [← hS]; go_grown
    have hvs : ((w.alloc (.cells #[.slice a n c] 29)).alloc (.cells #[.int .u32 m] 22)).heap.size = S + 2 := by simp [hS]
    have HV := Lib.hid (And.intro hv0 (And.intro hv1 (And.intro hvb hvs)))
    clear hv0 hv1 hvb hvs
    go_enter Try.func16, Try.ntmps16
    go_wp2_with fail
    refine k1.mono ?_
    clear k1
    rintro e W ⟨g, cp, blk, rfl, hb2, hblk, hg⟩
    obtain ⟨hv0, hv1, hvb, hvs⟩ := HV.out
    have hw0 := (hb2.block S (by omega)).trans hv0
    have hw1 := (hb2.block (S + 1) (by omega)).trans hv1
    have HB := Lib.hid (hvb.trans (hb2.mono (by omega)))
    have hsz := hb2.size
    rw [hvs] at hsz
    obtain ⟨cW, fW⟩ := cell1 hw0
    have HW0 := Lib.hid hw0
    have HW1 := Lib.hid hw1
    have HG := Lib.hid hg
    have HSz := Lib.hid hsz
    clear hw0 hw1 hv0 hv1 hvb hvs hb2 hg hsz HV
    go_wp2_with fail
    refine (HTail.out (W.setCell ⟨S, 0, none⟩ (.slice g n cp)) g cp blk ?_ ?_ ?_ ?_ hblk ?_).mono ?_
    · exact HB.out.setCell (p := ⟨S, 0, none⟩) (Nat.le_refl _) _
    · have := HSz.out; simpa [World.setCell] using this
    · exact heap_set1 HW0.out
    · rw [hmo]; exact (((Kept.refl (fun k => k = S) W).setCell (.inl rfl) _).same HW1.out (by omega))
    · rcases HG.out with h0 | ⟨h1, h2, h3⟩
      · exact .inl h0
      · exact .inr ⟨h1, by simpa [World.setCell] using h2, h3.block (((Kept.refl (fun k => k = S) W).setCell (.inl rfl) _).block blk h2 (by omega))⟩
    · rintro e W2 ⟨rfl, hf⟩
      go_wp2_with fail
      go_ret
      exact hf
end Rights
end Go.Proofs.Ytekicfaakjbmhaa
