/- Commit, walked. -/
import Derived.Test.YtcapiaempfjmeaaPortW6
namespace Go.Proofs.Ytcapiaempfjmeaa
open Go.ChangeShapes Go.WideShapes Go.ChangeAt Go.RowKit
namespace Prt
set_option linter.unusedVariables false
set_option linter.unusedSimpArgs false
attribute [local go_sem] Oper.semAt_some
/-- the ports of these numbers, one behind the other -/
def foldK (f : Bx → Bx) (ks : List Nat) (l : List Bx) : List Bx := ks.foldl (fun l k => l.set k (f l[k]!)) l
theorem foldK_len (f : Bx → Bx) (ks : List Nat) (l : List Bx) : (foldK f ks l).length = l.length := by
  unfold foldK
  induction ks generalizing l with
  | nil => rfl
  | cons k ks ih => rw [List.foldl_cons, ih, List.length_set]
theorem foldK_next (f : Bx → Bx) (ks : List Nat) (k : Nat) (l : List Bx) : foldK f (ks ++ [k]) l = (foldK f ks l).set k (f (foldK f ks l)[k]!) := by simp [foldK, List.foldl_append]
theorem foldK_at (f : Bx → Bx) (ks : List Nat) (hn : ks.Nodup) (l : List Bx) (k : Nat) (hk : k < l.length) : (foldK f ks l)[k]! = if k ∈ ks then f l[k]! else l[k]! := by
  induction ks generalizing l with
  | nil => simp [foldK]
  | cons j ks ih =>
    rw [List.nodup_cons] at hn
    show (foldK f ks (l.set j (f l[j]!)))[k]! = _
    rw [ih hn.2 _ (by simpa using hk)]
    by_cases e : j = k
    · subst e
      rw [set_at _ _ _ hk, if_neg hn.1, if_pos (by simp)]
    · rw [set_other _ _ _ _ hk e]
      by_cases hm : k ∈ ks
      · rw [if_pos hm, if_pos (by simp [hm])]
      · rw [if_neg hm, if_neg (by simp [hm]; omega)]
theorem foldK_all (f : Bx → Bx) (l : List Bx) : foldK f (List.range l.length) l = l.map f := by
  apply List.ext_getElem
  · rw [foldK_len, List.length_map]
  · intro i h1 h2
    rw [foldK_len] at h1
    have := foldK_at f (List.range l.length) List.nodup_range l i h1
    rw [getElem!_pos _ i (by rw [foldK_len]; exact h1), if_pos (by simpa using h1), getElem!_pos l i h1] at this
    rw [this, List.getElem_map]
/-- the ports that a partition writes -/
def mine (part : Int) (l : List Bx) : List Nat := (List.range l.length).filter fun k => wrt (l[k]!).d part
theorem foldK_by (f : Bx → Bx) (part : Int) (l : List Bx) : foldK f (mine part l) l = byL f part l := by
  apply List.ext_getElem
  · rw [foldK_len, byL_len]
  · intro i h1 h2
    rw [foldK_len] at h1
    have := foldK_at f (mine part l) (List.nodup_range.filter _) l i h1
    rw [getElem!_pos _ i (by rw [foldK_len]; exact h1), getElem!_pos l i h1] at this
    have hb : (byL f part l)[i] = if wrt l[i].d part = true then f l[i] else l[i] := by simp [byL]
    rw [this, hb]
    unfold mine
    simp only [List.mem_filter, List.mem_range]
    rw [getElem!_pos l i h1]
    by_cases hw : wrt l[i].d part = true
    · rw [if_pos ⟨h1, hw⟩, if_pos hw]
    · rw [if_neg (fun h => hw h.2), if_neg hw]
/-- the ports stand so, all else as it was; the iterator's own blocks are younger -/
structure AtS (g : Nat) (w0 : World) (l : List Bx) (q : Nat → Prop) (V : World) : Prop where
  pt : Pt V g l
  kept : Kept (fun k => k = g) w0 V
  q : ∀ k, q k → w0.heap.size ≤ k
theorem AtS.stable {g B : Nat} {w0 : World} (F : List Nat → List Bx) (hg : g < w0.heap.size) (hB : w0.heap.size ≤ B) : Stable (fun k => k = B ∨ k = B + 1) (fun pre q V => AtS g w0 (F pre) q V) := by
  intro s q q' A C h hk hq
  refine ⟨h.pt.kept hk ?_, h.kept.trans' hk ?_, fun k hk' => ?_⟩
  · rintro (h1 | h1 | h1)
    · have := h.q _ h1; omega
    · omega
    · omega
  · rintro i hi (h1 | h1 | h1)
    · have := h.q _ h1; omega
    · omega
    · omega
  · rcases (hq k hk').1 with h1 | h1
    · exact h.q _ h1
    · exact Nat.le_trans h.kept.size h1
section
variable {w : World} {g : Nat} {l : List Bx}
set_option maxHeartbeats 2000000 in
theorem Commit_any (h : Pt w g l) : Calls Try.prog 19 #[.pointer (some ⟨g, 0, none⟩)] w (VoidP g (comL l) w) := by
  have HH := Lib.hid h
  have HL : Hid (g < w.heap.size) := h.lt
  have HA : Hid ((w.alloc (.cells #[.pointer (some ⟨g, 0, none⟩)] 25)).cell? ⟨w.heap.size, 0, none⟩ = some (.pointer (some ⟨g, 0, none⟩))) := by
    show _ = _
    rw [cell_of_row _ _ _ _ _ _ (heap_alloc_new _ _)]; rfl
  have HP : Hid (Pt (w.alloc (.cells #[.pointer (some ⟨g, 0, none⟩)] 25)) g l) := h.below (below_alloc _ _) (Nat.le_refl _)
  have HK : Hid (Kept (fun k => k = g) w (w.alloc (.cells #[.pointer (some ⟨g, 0, none⟩)] 25))) := (Kept.refl _ _).alloc _
  have HSz : Hid ((w.alloc (.cells #[.pointer (some ⟨g, 0, none⟩)] 25)).heap.size = w.heap.size + 1) := by show _ = _; simp
  clear h
  refine (callsIn_wide (n := 0)).1 ?_
  refine callsIn_of_wp_marks Try.func19 rfl trivial ?_ rfl
  simp only [Try.ntmps19, List.size_toArray, List.length_cons, List.length_nil, Nat.reduceAdd, Nat.reduceSub, Array.replicate_succ, Array.replicate_zero, List.push_toArray, List.append_toArray, List.nil_append, List.cons_append]
  gi_wp2_with (refine ⟨trivial, rfl, ?_⟩; refine CallsIn.mono (callsIn_wide.2 (all_make _ _)) ?_; rintro e w1 ⟨rfl, rfl⟩)
  generalize w.alloc (.cells #[.pointer (some ⟨g, 0, none⟩)] 25) = W1 at *
  obtain ⟨S, hS⟩ : ∃ S, w.heap.size = S := ⟨_, rfl⟩
  have HS := Lib.hid hS
  rw [hS] at HA HSz ⊢
  clear hS
  refine wpIn_rangeFunc_q (gf := 46) (lb := #[.pointer (some ⟨S, 0, none⟩)]) rfl (enters_of Try.func46 (by kernel_rfl) rfl)
    (seq_all (fun k => k = S) S g l.length HH.out.len W1 HA.out rfl) (Kept.refl _ _) (fun k hk => by rw [HSz.out]; omega) (fun _ => rfl)
    (fun pre q V => AtS g w (foldK comB pre l) q V) (fun _ _ _ _ => False) (fun pre q V hV => by have := hV.pt.count; rwa [foldK_len] at this) (AtS.stable _ HL.out (by have := HS.out; have := HSz.out; omega)) (fun _ _ _ _ _ _ h _ _ => h.elim) ?h0
    (fun x => { tmps := #[.pointer (some ⟨g, 0, none⟩), undef, .pointer (some ⟨g, x * 37, none⟩), .pointer (some ⟨g, 0, none⟩), .func (.func 46) #[] #[.pointer (some ⟨S, 0, none⟩)], .pointer (some ⟨g, x * 37, none⟩), undef, undef], defers := [] }) ?assign ?body ?done ?stop
  case h0 => exact ⟨HP.out, HK.out, fun k h => h.elim⟩
  case assign =>
    intro yl x W K hK
    unfold encK
    gi_wp2_with fail
    exact hK
  case body =>
    rintro yl pre x q V hpx hq2 hszV hV
    have hx : x < (foldK comB pre l).length := by
      have := hpx.subset (show x ∈ pre ++ [x] by simp)
      rw [foldK_len]; simpa using this
    have HC := Lib.hid (commit_any hV.pt hx)
    have HV := Lib.hid hV
    have HQ := Lib.hid hq2
    rw [← foldK_next] at HC
    clear hV hq2 hszV hpx
    gi_wp2_with (refine ⟨trivial, rfl, ?_⟩; refine CallsIn.mono (CallsIn.inRound yl (callsIn_wide.2 HC.out)) ?_; rintro e w2 ⟨rfl, hp, hk⟩)
    simp only [Exit.inBlock, postQ]
    have hgW := HL.out
    have hsz := HSz.out
    have hs := HS.out
    refine ⟨hk.mono fun k _ e => ?_, hp, HV.out.kept.trans hk, HV.out.q⟩
    subst e
    exact ⟨fun h => by have := HV.out.q _ h; omega, by omega, by omega, by omega⟩
  case done =>
    intro q V hV hsz hq hD
    have HD := Lib.hid hD
    have HV := Lib.hid hV
    clear hV hD hq hsz
    gi_wp2_with fail
    refine ⟨by simp, .inl ⟨_, _, rfl, run_takeDeferred HD.out, ?_⟩⟩
    have hkp : Kept (fun k => k = W1.heap.size) V (V.putObj W1.heap.size (.deferred none)) := Kept.put (Kept.refl (fun k => k = W1.heap.size) V) (.inl rfl) _
    have hgW := HL.out
    have hsz := HSz.out
    have hs := HS.out
    refine ⟨.tuple #[], results_none rfl _ _ _, rfl, ?_, HV.out.kept.trans' hkp (fun i hi e => by omega)⟩
    have := HV.out.pt.kept hkp (by omega)
    rwa [foldK_all] at this
  case stop =>
    rintro cd pre q V hpre h
    exact h.elim
end
end Prt
end Go.Proofs.Ytcapiaempfjmeaa
