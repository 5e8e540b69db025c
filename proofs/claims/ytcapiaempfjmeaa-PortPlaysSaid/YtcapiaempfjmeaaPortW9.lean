/- Unsend, Drop; Commit, Unsend, Drop of nil. (Made by tools/gen_portw9.py.) -/
import Derived.Test.YtcapiaempfjmeaaPortW8
namespace Go.Proofs.Ytcapiaempfjmeaa
open Go.ChangeShapes Go.WideShapes Go.ChangeAt Go.RowKit
namespace Prt
set_option linter.unusedVariables false
set_option linter.unusedSimpArgs false
attribute [local go_sem] Oper.semAt_some
theorem foldK_d (f : Bx → Bx) (hf : ∀ b, (f b).d = b.d) (ks : List Nat) (l : List Bx) : SameD l (foldK f ks l) := by
  unfold foldK
  induction ks generalizing l with
  | nil => exact ⟨rfl, fun _ _ => rfl⟩
  | cons k ks ih =>
    rw [List.foldl_cons]
    obtain ⟨h1, h2⟩ := ih (l.set k (f l[k]!))
    refine ⟨h1.trans (by simp), fun i hi => ?_⟩
    rw [h2 i (by simpa using hi)]
    by_cases e : k = i
    · subst e; rw [set_at _ _ _ hi, hf]
    · rw [set_other _ _ _ _ hi e]
theorem zeros16 : nums (List.replicate 16 0) = List.replicate 16 (Value.int .u32 0) := by rw [nums, List.map_replicate]
theorem uU : Try.prog.underlying 49 = some (.slice 33) := Try.underlying49
theorem run_clear16 (w : World) (g o : Nat) (ty : TypeId) (ht : w.there g o 16) :
    (Builtin.clear_ #[49] ty #[.slice (some ⟨g, o, none⟩) 16 16]).run Try.prog w = .ok (.tuple #[]) (w.setCells g o (nums (List.replicate 16 0))) := by
  have hv : ∀ w, (zeroValue 33).run Try.prog w = .ok (.int .u32 0) w := fun w => by kernel_rfl
  have hzc : (Builtin.zeroCells (Value.int .u32 0).cells 16).toList = nums (List.replicate 16 0) := by rw [zeros16]; kernel_rfl
  have hst := store_mid w g o (nums (List.replicate 16 0)) (by simpa [nums] using ht) (nums_one _)
  generalize nums (List.replicate 16 0) = Z at *
  simp [Builtin.clear_, run_underlying uU, hv, hzc, hst]
section
variable {w : World} {g : Nat} {l : List Bx}
set_option maxHeartbeats 2000000 in
theorem Unsend_any (h : Pt w g l) (part : Int) : Calls Try.prog 21 #[.pointer (some ⟨g, 0, none⟩), .int .i64 part] w (VoidP g (byL unsB part l) w) := by
  have HH := Lib.hid h
  have HL : Hid (g < w.heap.size) := h.lt
  have HA : Hid (((w.alloc (.cells #[.pointer (some ⟨g, 0, none⟩)] 25)).alloc (.cells #[.int .i64 part] 3)).cell? ⟨w.heap.size, 0, none⟩ = some (.pointer (some ⟨g, 0, none⟩))) := by
    show _ = _
    rw [cell_of_row _ _ _ _ _ _ (heap_alloc2_old _ _ _)]; rfl
  have HA2 : Hid (((w.alloc (.cells #[.pointer (some ⟨g, 0, none⟩)] 25)).alloc (.cells #[.int .i64 part] 3)).cell? ⟨w.heap.size + 1, 0, none⟩ = some (.int .i64 part)) := by
    show _ = _
    rw [cell_of_row _ _ _ _ _ _ (heap_alloc2_new _ _ _)]; rfl
  have HK : Hid (Kept (fun k => k = g) w ((w.alloc (.cells #[.pointer (some ⟨g, 0, none⟩)] 25)).alloc (.cells #[.int .i64 part] 3))) := ((Kept.refl _ _).alloc _).alloc _
  have HP : Hid (Pt ((w.alloc (.cells #[.pointer (some ⟨g, 0, none⟩)] 25)).alloc (.cells #[.int .i64 part] 3)) g l) := h.kept (p := fun _ => False) (((Kept.refl _ _).alloc _).alloc _) id
  have HSz : Hid (((w.alloc (.cells #[.pointer (some ⟨g, 0, none⟩)] 25)).alloc (.cells #[.int .i64 part] 3)).heap.size = w.heap.size + 2) := by show _ = _; simp
  clear h
  refine (callsIn_wide (n := 0)).1 ?_
  refine callsIn_of_wp_marks Try.func21 rfl trivial ?_ rfl
  simp only [Try.ntmps21, List.size_toArray, List.length_cons, List.length_nil, Nat.reduceAdd, Nat.reduceSub, Array.replicate_succ, Array.replicate_zero, List.push_toArray, List.append_toArray, List.nil_append, List.cons_append]
  gi_wp2_with (refine ⟨trivial, rfl, ?_⟩; refine CallsIn.mono (callsIn_wide.2 (written_make _ _ _)) ?_; rintro e w1 ⟨rfl, rfl⟩)
  generalize (w.alloc (.cells #[.pointer (some ⟨g, 0, none⟩)] 25)).alloc (.cells #[.int .i64 part] 3) = W1 at *
  obtain ⟨S, hS⟩ : ∃ S, w.heap.size = S := ⟨_, rfl⟩
  have HS := Lib.hid hS
  rw [hS] at HA HA2 HSz ⊢
  clear hS
  refine wpIn_rangeFunc_q (gf := 47) (lb := #[.pointer (some ⟨S, 0, none⟩), .pointer (some ⟨S + 1, 0, none⟩)]) rfl (enters_of Try.func47 (by kernel_rfl) rfl)
    (seq_written (fun k => k = S ∨ k = S + 1) S (S + 1) g part l HH.out.len W1 HA.out HA2.out (.inl rfl) (.inr rfl) (fun k hk => by rw [HSz.out]; omega)) (Kept.refl _ _) (fun k hk => by rw [HSz.out]; omega) (fun _ => rfl)
    (fun pre q V => AtS g w (foldK unsB pre l) q V) (fun _ _ _ _ => False) (fun pre q V hV => ⟨_, hV.pt, foldK_d unsB (fun _ => rfl) pre l⟩) (AtS.stable _ HL.out (by have := HS.out; have := HSz.out; omega)) (fun _ _ _ _ _ _ h _ _ => h.elim) ?h0
    (fun x => { tmps := #[.pointer (some ⟨g, 0, none⟩), .int .i64 part, undef, undef, .pointer (some ⟨g, x * 37, none⟩), .pointer (some ⟨g, 0, none⟩), .int .i64 part, .func (.func 47) #[] #[.pointer (some ⟨S, 0, none⟩), .pointer (some ⟨S + 1, 0, none⟩)], .pointer (some ⟨g, x * 37, none⟩), undef, undef, undef], defers := [] }) ?assign ?body ?done ?stop
  case h0 => exact ⟨HP.out, HK.out, fun k h => h.elim⟩
  case assign =>
    intro yl x W K hK
    unfold encK
    gi_wp2_with fail
    exact hK
  case body =>
    rintro yl pre x q V hpx hq2 hszV hV
    have hx : x < (foldK unsB pre l).length := by
      have := hpx.subset (show x ∈ pre ++ [x] by simp)
      unfold mine at this
      rw [foldK_len]
      exact List.mem_range.1 (List.mem_filter.1 this).1
    have c36 := hV.pt.cs hx
    have f36 := hV.pt.frozen (x * 37 + 36)
    have HN := Lib.hid (foldK_next unsB pre x l)
    have HV := Lib.hid hV
    have HQ := Lib.hid hq2
    have HW : Hid (Pt (V.setCell ⟨g, x * 37 + 36, none⟩ (.bool false)) g ((foldK unsB pre l).set x (unsB (foldK unsB pre l)[x]!)) ∧ Kept (fun k => k = g) V (V.setCell ⟨g, x * 37 + 36, none⟩ (.bool false))) := ⟨hV.pt.wS hx false, (Kept.refl (fun k => k = g) V).setCell (.inl rfl) _⟩
    clear hV hq2 hszV hpx hx
    gi_wp2_with fail
    simp only [Exit.inBlock, postQ]
    have hgW := HL.out
    have hsz := HSz.out
    have hs := HS.out
    refine ⟨HW.out.2.mono fun k _ e => ?_, ?_, HV.out.kept.trans HW.out.2, HV.out.q⟩
    · subst e
      exact ⟨fun h => by have := HV.out.q _ h; omega, by omega, by omega, by omega⟩
    · rw [HN.out]; exact HW.out.1
  case done =>
    intro q V hV hsz hq hD
    have HD := Lib.hid hD
    have HV := Lib.hid hV
    clear hV hD hq hsz
    gi_wp2_with fail
    refine ⟨by simp, .inl ⟨_, _, rfl, run_takeDeferred HD.out, ?_⟩⟩
    have hkp : Kept (fun k => k = W1.heap.size) V (V.putObj W1.heap.size (.deferred none)) := Kept.put (Kept.refl (fun k => k = W1.heap.size) V) (.inl rfl) _
    have hgW := HL.out
    have hsz := HSz.out
    have hs := HS.out
    refine ⟨.tuple #[], results_none rfl _ _ _, rfl, ?_, HV.out.kept.trans' hkp (fun i hi e => by omega)⟩
    have := HV.out.pt.kept hkp (by omega)
    rwa [foldK_by] at this
  case stop =>
    rintro cd pre q V hpre h
    exact h.elim
set_option maxHeartbeats 2000000 in
theorem Drop_any (h : Pt w g l) (part : Int) : Calls Try.prog 23 #[.pointer (some ⟨g, 0, none⟩), .int .i64 part] w (VoidP g (byL dropB part l) w) := by
  have HH := Lib.hid h
  have HL : Hid (g < w.heap.size) := h.lt
  have HA : Hid (((w.alloc (.cells #[.pointer (some ⟨g, 0, none⟩)] 25)).alloc (.cells #[.int .i64 part] 3)).cell? ⟨w.heap.size, 0, none⟩ = some (.pointer (some ⟨g, 0, none⟩))) := by
    show _ = _
    rw [cell_of_row _ _ _ _ _ _ (heap_alloc2_old _ _ _)]; rfl
  have HA2 : Hid (((w.alloc (.cells #[.pointer (some ⟨g, 0, none⟩)] 25)).alloc (.cells #[.int .i64 part] 3)).cell? ⟨w.heap.size + 1, 0, none⟩ = some (.int .i64 part)) := by
    show _ = _
    rw [cell_of_row _ _ _ _ _ _ (heap_alloc2_new _ _ _)]; rfl
  have HK : Hid (Kept (fun k => k = g) w ((w.alloc (.cells #[.pointer (some ⟨g, 0, none⟩)] 25)).alloc (.cells #[.int .i64 part] 3))) := ((Kept.refl _ _).alloc _).alloc _
  have HP : Hid (Pt ((w.alloc (.cells #[.pointer (some ⟨g, 0, none⟩)] 25)).alloc (.cells #[.int .i64 part] 3)) g l) := h.kept (p := fun _ => False) (((Kept.refl _ _).alloc _).alloc _) id
  have HSz : Hid (((w.alloc (.cells #[.pointer (some ⟨g, 0, none⟩)] 25)).alloc (.cells #[.int .i64 part] 3)).heap.size = w.heap.size + 2) := by show _ = _; simp
  clear h
  refine (callsIn_wide (n := 0)).1 ?_
  refine callsIn_of_wp_marks Try.func23 rfl trivial ?_ rfl
  simp only [Try.ntmps23, List.size_toArray, List.length_cons, List.length_nil, Nat.reduceAdd, Nat.reduceSub, Array.replicate_succ, Array.replicate_zero, List.push_toArray, List.append_toArray, List.nil_append, List.cons_append]
  gi_wp2_with (refine ⟨trivial, rfl, ?_⟩; refine CallsIn.mono (callsIn_wide.2 (written_make _ _ _)) ?_; rintro e w1 ⟨rfl, rfl⟩)
  generalize (w.alloc (.cells #[.pointer (some ⟨g, 0, none⟩)] 25)).alloc (.cells #[.int .i64 part] 3) = W1 at *
  obtain ⟨S, hS⟩ : ∃ S, w.heap.size = S := ⟨_, rfl⟩
  have HS := Lib.hid hS
  rw [hS] at HA HA2 HSz ⊢
  clear hS
  refine wpIn_rangeFunc_q (gf := 47) (lb := #[.pointer (some ⟨S, 0, none⟩), .pointer (some ⟨S + 1, 0, none⟩)]) rfl (enters_of Try.func47 (by kernel_rfl) rfl)
    (seq_written (fun k => k = S ∨ k = S + 1) S (S + 1) g part l HH.out.len W1 HA.out HA2.out (.inl rfl) (.inr rfl) (fun k hk => by rw [HSz.out]; omega)) (Kept.refl _ _) (fun k hk => by rw [HSz.out]; omega) (fun _ => rfl)
    (fun pre q V => AtS g w (foldK dropB pre l) q V) (fun _ _ _ _ => False) (fun pre q V hV => ⟨_, hV.pt, foldK_d dropB (fun _ => rfl) pre l⟩) (AtS.stable _ HL.out (by have := HS.out; have := HSz.out; omega)) (fun _ _ _ _ _ _ h _ _ => h.elim) ?h0
    (fun x => { tmps := #[.pointer (some ⟨g, 0, none⟩), .int .i64 part, undef, undef, .pointer (some ⟨g, x * 37, none⟩), .pointer (some ⟨g, 0, none⟩), .int .i64 part, .func (.func 47) #[] #[.pointer (some ⟨S, 0, none⟩), .pointer (some ⟨S + 1, 0, none⟩)], .pointer (some ⟨g, x * 37, none⟩), undef, undef, undef, undef, undef, undef, undef], defers := [] }) ?assign ?body ?done ?stop
  case h0 => exact ⟨HP.out, HK.out, fun k h => h.elim⟩
  case assign =>
    intro yl x W K hK
    unfold encK
    gi_wp2_with fail
    exact hK
  case body =>
    rintro yl pre x q V hpx hq2 hszV hV
    have hx : x < (foldK dropB pre l).length := by
      have := hpx.subset (show x ∈ pre ++ [x] by simp)
      unfold mine at this
      rw [foldK_len]
      exact List.mem_range.1 (List.mem_filter.1 this).1
    have c36 := hV.pt.cs hx
    have f36 := hV.pt.frozen (x * 37 + 36)
    have HN := Lib.hid (foldK_next dropB pre x l)
    have HV := Lib.hid hV
    have HQ := Lib.hid hq2
    have p1 := hV.pt.wS hx false
    have k1 : Kept (fun k => k = g) V (V.setCell ⟨g, x * 37 + 36, none⟩ (.bool false)) := (Kept.refl (fun k => k = g) V).setCell (.inl rfl) _
    have hx1 : x < ((foldK dropB pre l).set x { (foldK dropB pre l)[x]! with s := false }).length := by simpa using hx
    have hcl := fun ty => run_clear16 (V.setCell ⟨g, x * 37 + 36, none⟩ (.bool false)) g (x * 37 + 20) ty (p1.there _ _ (by have := p1.len; omega))
    have p2 := p1.wD hx1 (List.replicate 16 0) (by simp) (fun z hz => by rw [List.eq_of_mem_replicate hz]; omega)
    have k2 := Kept.setCells (p := fun k => k = g) (g := g) (.inl rfl) (nums (List.replicate 16 0)) (x * 37 + 20) _ k1
    rw [set_at _ _ _ hx, List.set_set] at p2
    have HW : Hid (Pt ((V.setCell ⟨g, x * 37 + 36, none⟩ (.bool false)).setCells g (x * 37 + 20) (nums (List.replicate 16 0))) g ((foldK dropB pre l).set x (dropB (foldK dropB pre l)[x]!)) ∧ Kept (fun k => k = g) V ((V.setCell ⟨g, x * 37 + 36, none⟩ (.bool false)).setCells g (x * 37 + 20) (nums (List.replicate 16 0)))) := ⟨p2, k2⟩
    clear hV hq2 hszV hpx hx p1 k1 p2 k2 hx1
    generalize nums (List.replicate 16 0) = Z at *
    gi_wp2_with (simp only [hcl])
    simp only [Exit.inBlock, postQ]
    have hgW := HL.out
    have hsz := HSz.out
    have hs := HS.out
    refine ⟨HW.out.2.mono fun k _ e => ?_, ?_, HV.out.kept.trans HW.out.2, HV.out.q⟩
    · subst e
      exact ⟨fun h => by have := HV.out.q _ h; omega, by omega, by omega, by omega⟩
    · rw [HN.out]; exact HW.out.1
  case done =>
    intro q V hV hsz hq hD
    have HD := Lib.hid hD
    have HV := Lib.hid hV
    clear hV hD hq hsz
    gi_wp2_with fail
    refine ⟨by simp, .inl ⟨_, _, rfl, run_takeDeferred HD.out, ?_⟩⟩
    have hkp : Kept (fun k => k = W1.heap.size) V (V.putObj W1.heap.size (.deferred none)) := Kept.put (Kept.refl (fun k => k = W1.heap.size) V) (.inl rfl) _
    have hgW := HL.out
    have hsz := HSz.out
    have hs := HS.out
    refine ⟨.tuple #[], results_none rfl _ _ _, rfl, ?_, HV.out.kept.trans' hkp (fun i hi e => by omega)⟩
    have := HV.out.pt.kept hkp (by omega)
    rwa [foldK_by] at this
  case stop =>
    rintro cd pre q V hpre h
    exact h.elim
end
set_option maxHeartbeats 4000000 in
set_option maxRecDepth 100000 in
theorem seq_written_nil (c : Nat → Prop) (pb tb : Nat) (part : Int) (w : World) (hb : w.cell? ⟨pb, 0, none⟩ = some (.pointer none)) (ht : w.cell? ⟨tb, 0, none⟩ = some (.int .i64 part)) (hc : c pb) (hc2 : c tb) (hold : ∀ k, c k → k < w.heap.size) :
    SeqQ Try.prog 47 #[.pointer (some ⟨pb, 0, none⟩), .pointer (some ⟨tb, 0, none⟩)] (encK 0) c (fun _ _ => True) [] w := by
  intro yl J Jx W hW hJ hJx hG hY h0
  have HY := Lib.hid hY
  have HJ := Lib.hid hJ
  have HJx := Lib.hid hJx
  have H0 := Lib.hid h0
  have cb := hW.cell hb (fun x => x hc)
  have ct := hW.cell ht (fun x => x hc2)
  have HO : Hid (∀ k, c k → k < W.heap.size) := fun k h => Nat.lt_of_lt_of_le (hold k h) hW.size
  have cbA : (W.alloc (.cells #[.func (.yield yl) #[] #[]] 81)).cell? ⟨pb, 0, none⟩ = some (.pointer none) := ((Kept.refl none' W).alloc _).cell cb (fun h => h)
  have HCt := Lib.hid ct
  clear hW hY hJ hJx h0 hG hb ht hold cb ct
  refine callsIn_of_wp_marks Try.func47 rfl trivial ?_ rfl
  simp only [Try.ntmps47, List.size_toArray, List.length_cons, List.length_nil, Nat.reduceAdd, Nat.reduceSub, Array.replicate_succ, Array.replicate_zero, List.push_toArray, List.append_toArray, List.nil_append, List.cons_append]
  gi_wp2_with (refine ⟨trivial, rfl, ?_⟩; refine CallsIn.mono (callsIn_wide.2 (all_make _ _)) ?_; rintro e w' ⟨rfl, rfl⟩)
  clear cbA
  have hs2 : ((W.alloc (.cells #[.func (.yield yl) #[] #[]] 81)).alloc (.cells #[.pointer none] 25)).heap.size = W.heap.size + 2 := by simp
  have hK2 : Kept none' W ((W.alloc (.cells #[.func (.yield yl) #[] #[]] 81)).alloc (.cells #[.pointer none] 25)) := ((Kept.refl _ W).alloc _).alloc _
  have b0 : ((W.alloc (.cells #[.func (.yield yl) #[] #[]] 81)).alloc (.cells #[.pointer none] 25)).heap[W.heap.size]? = some (.cells #[.func (.yield yl) #[] #[]] 81 (0, 0)) := heap_alloc2_old _ _ _
  have b1 : ((W.alloc (.cells #[.func (.yield yl) #[] #[]] 81)).alloc (.cells #[.pointer none] 25)).heap[W.heap.size + 1]? = some (.cells #[.pointer none] 25 (0, 0)) := heap_alloc2_new _ _ _
  generalize (W.alloc (.cells #[.func (.yield yl) #[] #[]] 81)).alloc (.cells #[.pointer none] 25) = W2 at *
  obtain ⟨S, hS⟩ : ∃ S, W.heap.size = S := ⟨_, rfl⟩
  have HJ2 : Hid (J [] (fun k => S ≤ k ∧ k < W2.heap.size) W2) := HJ.out _ _ _ W W2 H0.out (hK2.mono (fun _ _ h => h.elim)) (fun k h => ⟨.inr (by rw [hS]; exact h.1), h.2⟩)
  have HCt2 : Hid (W2.cell? ⟨tb, 0, none⟩ = some (.int .i64 part)) := hK2.cell HCt.out (fun h => h)
  rw [hS] at hs2 b0 b1 HO ⊢
  have cell1 : ∀ {V : World} {k : Nat} {v : Value} {t : TypeId}, V.heap[k]? = some (.cells #[v] t (0, 0)) → V.cell? ⟨k, 0, none⟩ = some v := fun h => by simp [World.cell?, h]
  refine wpIn_rangeFunc_q (gf := 46) (lb := #[.pointer (some ⟨S + 1, 0, none⟩)]) rfl (enters_of Try.func46 (by kernel_rfl) rfl)
    (seq_none (fun k => c k ∨ k = S + 1) (S + 1) 0 W2 (cell1 b1) (.inr rfl)) (Kept.refl _ _) ?hcw (fun _ => rfl)
    (fun pre q2 V => ∃ q, FI J c S yl tb part [] q2 q V) (fun cd _ q2 V => cd = .ret ∧ ∃ q, FX Jx S [] q2 q V) (fun _ _ _ _ => trivial) ?hI ?hIx ?h0
    (fun x => { tmps := #[.func (.yield yl) #[] #[], .pointer (some ⟨pb, 0, none⟩), .pointer (some ⟨tb, 0, none⟩), .pointer (some ⟨S, 0, none⟩), .pointer (some ⟨0, x * 37, none⟩), .pointer none, .func (.func 46) #[] #[.pointer (some ⟨S + 1, 0, none⟩)], .pointer (some ⟨0, x * 37, none⟩), undef, undef, undef, undef, undef, undef, undef, undef, undef, undef, undef, undef], defers := [] }) ?assign ?body ?done ?stop
  case hcw =>
    rintro k (h | h)
    · have := HO.out k h; omega
    · omega
  case hI => rw [hs2]; exact fi_stable HJ.out HO.out (fun _ => [])
  case hIx =>
    intro cd
    rw [hs2]
    rintro s q q' A B ⟨h1, h2⟩ hk hq
    exact ⟨h1, fx_stable HJx.out s q q' A B h2 hk hq⟩
  case h0 => exact ⟨_, HJ2.out, fun k h => h.2, fun k h => h.elim, fun k h1 h2 h3 => ⟨h1, h3⟩, by omega, cell1 b0, HCt2.out, hc2⟩
  case assign =>
    intro yl2 x W K hK
    unfold encK
    gi_wp2_with fail
    exact hK
  case body =>
    rintro l2 pre x q2 V hpx
    simp at hpx
  case done =>
    rintro q2 V ⟨q, h⟩ hszV hq2 hD
    rw [hs2] at hD ⊢
    gi_wp2_with fail
    refine ⟨by simp, .inl ⟨_, _, rfl, run_takeDeferred hD, ?_⟩⟩
    have qD : q (S + 2) := h.own (S + 2) (by omega) (by omega) (by omega)
    refine ⟨_, results_none rfl _ _ _, ⟨_, rfl⟩, .inl ⟨q, ?_⟩⟩
    exact HJ.out _ q q V _ h.j ((Kept.refl _ _).put (.inl (.inl qD)) _) (fun k hk => ⟨.inl hk, by simpa using h.lt k hk⟩)
  case stop =>
    rintro cd pre q2 V hpre ⟨rfl, q, h⟩ hszV hq2 hD
    rw [hs2] at hD ⊢
    gi_wp2_with fail
    refine ⟨by simp, .inl ⟨_, _, rfl, run_takeDeferred hD, ?_⟩⟩
    have qD : q (S + 2) := h.own (S + 2) (by omega) (by omega) (by omega)
    obtain ⟨p, hp, hj⟩ := h.j
    refine ⟨_, results_none rfl _ _ _, ⟨_, rfl⟩, .inr ⟨p, q, hp, ?_⟩⟩
    exact HJx.out _ q q V _ hj ((Kept.refl _ _).put (.inl (.inl qD)) _) (fun k hk => ⟨.inl hk, by simpa using h.lt k hk⟩)
set_option maxHeartbeats 1000000 in
theorem Commit_nil (w : World) : Calls Try.prog 19 #[.pointer none] w fun e w' => e = .returned (.tuple #[]) ∧ Below w.heap.size w w' := by
  refine (callsIn_wide (n := 0)).1 ?_
  refine callsIn_of_wp_marks Try.func19 rfl trivial ?_ rfl
  simp only [Try.ntmps19, List.size_toArray, List.length_cons, List.length_nil, Nat.reduceAdd, Nat.reduceSub, Array.replicate_succ, Array.replicate_zero, List.push_toArray, List.append_toArray, List.nil_append, List.cons_append]
  gi_wp2_with (refine ⟨trivial, rfl, ?_⟩; refine CallsIn.mono (callsIn_wide.2 (all_make _ _)) ?_; rintro e w1 ⟨rfl, rfl⟩)
  have HK : Hid (Below w.heap.size w (w.alloc (.cells #[.pointer none] 25))) := by show Below _ _ _; go_grown
  have HA : Hid ((w.alloc (.cells #[.pointer none] 25)).cell? ⟨w.heap.size, 0, none⟩ = some (.pointer none)) := by
    show _ = _
    rw [cell_of_row _ _ _ _ _ _ (heap_alloc_new _ _)]; rfl
  have HSz : Hid (w.heap.size + 1 ≤ (w.alloc (.cells #[.pointer none] 25)).heap.size) := by show _ ≤ _; simp
  have HSz2 : Hid ((w.alloc (.cells #[.pointer none] 25)).heap.size ≤ w.heap.size + 2) := by show _ ≤ _; simp
  generalize (w.alloc (.cells #[.pointer none] 25)) = W1 at *
  refine wpIn_rangeFunc_q (gf := 46) (lb := #[.pointer (some ⟨w.heap.size, 0, none⟩)]) rfl (enters_of Try.func46 (by kernel_rfl) rfl)
    (seq_none (fun k => k = w.heap.size) w.heap.size 0 W1 HA.out rfl) (Kept.refl _ _) (fun k hk => by have := HSz.out; omega) (fun _ => rfl)
    (fun pre q V => Below w.heap.size w V ∧ ∀ k, q k → w.heap.size ≤ k) (fun _ _ _ _ => False) (fun pre q V hV => trivial) ?hI (fun _ _ _ _ _ _ h _ _ => h.elim) ?h0
    (fun x => { tmps := #[.pointer none, undef, .pointer (some ⟨0, x * 37, none⟩), .pointer none, .func (.func 46) #[] #[.pointer (some ⟨w.heap.size, 0, none⟩)], .pointer (some ⟨0, x * 37, none⟩), undef, undef], defers := [] }) ?assign ?body ?done ?stop
  case hI =>
    have := HSz.out
    rintro s q q' A B ⟨h1, h2⟩ hk hq
    refine ⟨h1.trans (hk.toBelow h1.size fun k hlt h => ?_), fun k h => ?_⟩
    · rcases h with h | h | h
      · have := h2 k h; omega
      · omega
      · omega
    · rcases (hq k h).1 with h3 | h3
      · exact h2 k h3
      · exact Nat.le_trans h1.size h3
  case h0 => exact ⟨HK.out, fun k h => h.elim⟩
  case assign =>
    intro yl x W K hK
    unfold encK
    gi_wp2_with fail
    exact hK
  case body =>
    rintro yl pre x q V hpx
    simp at hpx
  case done =>
    rintro q V ⟨hV, _⟩ hsz hq hD
    have HD := Lib.hid hD
    have HV := Lib.hid hV
    clear hV hD hq hsz
    gi_wp2_with fail
    refine ⟨by simp, .inl ⟨_, _, rfl, run_takeDeferred HD.out, ?_⟩⟩
    have hkp : Kept (fun k => k = W1.heap.size) V (V.putObj W1.heap.size (.deferred none)) := Kept.put (Kept.refl (fun k => k = W1.heap.size) V) (.inl rfl) _
    have hsz := HSz.out
    exact ⟨.tuple #[], results_none rfl _ _ _, rfl, HV.out.trans (hkp.toBelow HV.out.size (fun i hi e => by omega))⟩
  case stop =>
    rintro cd pre q V hpre h
    exact h.elim
set_option maxHeartbeats 1000000 in
theorem Unsend_nil (part : Int) (w : World) : Calls Try.prog 21 #[.pointer none, .int .i64 part] w fun e w' => e = .returned (.tuple #[]) ∧ Below w.heap.size w w' := by
  refine (callsIn_wide (n := 0)).1 ?_
  refine callsIn_of_wp_marks Try.func21 rfl trivial ?_ rfl
  simp only [Try.ntmps21, List.size_toArray, List.length_cons, List.length_nil, Nat.reduceAdd, Nat.reduceSub, Array.replicate_succ, Array.replicate_zero, List.push_toArray, List.append_toArray, List.nil_append, List.cons_append]
  gi_wp2_with (refine ⟨trivial, rfl, ?_⟩; refine CallsIn.mono (callsIn_wide.2 (written_make _ _ _)) ?_; rintro e w1 ⟨rfl, rfl⟩)
  have HK : Hid (Below w.heap.size w ((w.alloc (.cells #[.pointer none] 25)).alloc (.cells #[.int .i64 part] 3))) := by show Below _ _ _; go_grown
  have HA : Hid (((w.alloc (.cells #[.pointer none] 25)).alloc (.cells #[.int .i64 part] 3)).cell? ⟨w.heap.size, 0, none⟩ = some (.pointer none)) := by
    show _ = _
    rw [cell_of_row _ _ _ _ _ _ (heap_alloc2_old _ _ _)]; rfl
  have HSz : Hid (w.heap.size + 1 ≤ ((w.alloc (.cells #[.pointer none] 25)).alloc (.cells #[.int .i64 part] 3)).heap.size) := by show _ ≤ _; simp
  have HSz2 : Hid (((w.alloc (.cells #[.pointer none] 25)).alloc (.cells #[.int .i64 part] 3)).heap.size ≤ w.heap.size + 2) := by show _ ≤ _; simp
  have HA2 : Hid (((w.alloc (.cells #[.pointer none] 25)).alloc (.cells #[.int .i64 part] 3)).cell? ⟨w.heap.size + 1, 0, none⟩ = some (.int .i64 part)) := by
    show _ = _
    rw [cell_of_row _ _ _ _ _ _ (heap_alloc2_new _ _ _)]; rfl
  have HSz3 : Hid (w.heap.size + 2 ≤ ((w.alloc (.cells #[.pointer none] 25)).alloc (.cells #[.int .i64 part] 3)).heap.size) := by show _ ≤ _; simp
  generalize ((w.alloc (.cells #[.pointer none] 25)).alloc (.cells #[.int .i64 part] 3)) = W1 at *
  refine wpIn_rangeFunc_q (gf := 47) (lb := #[.pointer (some ⟨w.heap.size, 0, none⟩), .pointer (some ⟨w.heap.size + 1, 0, none⟩)]) rfl (enters_of Try.func47 (by kernel_rfl) rfl)
    (seq_written_nil (fun k => k = w.heap.size ∨ k = w.heap.size + 1) w.heap.size (w.heap.size + 1) part W1 HA.out HA2.out (.inl rfl) (.inr rfl) (fun k hk => by have := HSz3.out; omega)) (Kept.refl _ _) (fun k hk => by have := HSz.out; have := HSz3.out; omega) (fun _ => rfl)
    (fun pre q V => Below w.heap.size w V ∧ ∀ k, q k → w.heap.size ≤ k) (fun _ _ _ _ => False) (fun pre q V hV => trivial) ?hI (fun _ _ _ _ _ _ h _ _ => h.elim) ?h0
    (fun x => { tmps := #[.pointer none, .int .i64 part, undef, undef, .pointer (some ⟨0, x * 37, none⟩), .pointer none, .int .i64 part, .func (.func 47) #[] #[.pointer (some ⟨w.heap.size, 0, none⟩), .pointer (some ⟨w.heap.size + 1, 0, none⟩)], .pointer (some ⟨0, x * 37, none⟩), undef, undef, undef], defers := [] }) ?assign ?body ?done ?stop
  case hI =>
    have := HSz.out
    rintro s q q' A B ⟨h1, h2⟩ hk hq
    refine ⟨h1.trans (hk.toBelow h1.size fun k hlt h => ?_), fun k h => ?_⟩
    · rcases h with h | h | h
      · have := h2 k h; omega
      · omega
      · omega
    · rcases (hq k h).1 with h3 | h3
      · exact h2 k h3
      · exact Nat.le_trans h1.size h3
  case h0 => exact ⟨HK.out, fun k h => h.elim⟩
  case assign =>
    intro yl x W K hK
    unfold encK
    gi_wp2_with fail
    exact hK
  case body =>
    rintro yl pre x q V hpx
    simp at hpx
  case done =>
    rintro q V ⟨hV, _⟩ hsz hq hD
    have HD := Lib.hid hD
    have HV := Lib.hid hV
    clear hV hD hq hsz
    gi_wp2_with fail
    refine ⟨by simp, .inl ⟨_, _, rfl, run_takeDeferred HD.out, ?_⟩⟩
    have hkp : Kept (fun k => k = W1.heap.size) V (V.putObj W1.heap.size (.deferred none)) := Kept.put (Kept.refl (fun k => k = W1.heap.size) V) (.inl rfl) _
    have hsz := HSz.out
    exact ⟨.tuple #[], results_none rfl _ _ _, rfl, HV.out.trans (hkp.toBelow HV.out.size (fun i hi e => by omega))⟩
  case stop =>
    rintro cd pre q V hpre h
    exact h.elim
set_option maxHeartbeats 1000000 in
theorem Drop_nil (part : Int) (w : World) : Calls Try.prog 23 #[.pointer none, .int .i64 part] w fun e w' => e = .returned (.tuple #[]) ∧ Below w.heap.size w w' := by
  refine (callsIn_wide (n := 0)).1 ?_
  refine callsIn_of_wp_marks Try.func23 rfl trivial ?_ rfl
  simp only [Try.ntmps23, List.size_toArray, List.length_cons, List.length_nil, Nat.reduceAdd, Nat.reduceSub, Array.replicate_succ, Array.replicate_zero, List.push_toArray, List.append_toArray, List.nil_append, List.cons_append]
  gi_wp2_with (refine ⟨trivial, rfl, ?_⟩; refine CallsIn.mono (callsIn_wide.2 (written_make _ _ _)) ?_; rintro e w1 ⟨rfl, rfl⟩)
  have HK : Hid (Below w.heap.size w ((w.alloc (.cells #[.pointer none] 25)).alloc (.cells #[.int .i64 part] 3))) := by show Below _ _ _; go_grown
  have HA : Hid (((w.alloc (.cells #[.pointer none] 25)).alloc (.cells #[.int .i64 part] 3)).cell? ⟨w.heap.size, 0, none⟩ = some (.pointer none)) := by
    show _ = _
    rw [cell_of_row _ _ _ _ _ _ (heap_alloc2_old _ _ _)]; rfl
  have HSz : Hid (w.heap.size + 1 ≤ ((w.alloc (.cells #[.pointer none] 25)).alloc (.cells #[.int .i64 part] 3)).heap.size) := by show _ ≤ _; simp
  have HSz2 : Hid (((w.alloc (.cells #[.pointer none] 25)).alloc (.cells #[.int .i64 part] 3)).heap.size ≤ w.heap.size + 2) := by show _ ≤ _; simp
  have HA2 : Hid (((w.alloc (.cells #[.pointer none] 25)).alloc (.cells #[.int .i64 part] 3)).cell? ⟨w.heap.size + 1, 0, none⟩ = some (.int .i64 part)) := by
    show _ = _
    rw [cell_of_row _ _ _ _ _ _ (heap_alloc2_new _ _ _)]; rfl
  have HSz3 : Hid (w.heap.size + 2 ≤ ((w.alloc (.cells #[.pointer none] 25)).alloc (.cells #[.int .i64 part] 3)).heap.size) := by show _ ≤ _; simp
  generalize ((w.alloc (.cells #[.pointer none] 25)).alloc (.cells #[.int .i64 part] 3)) = W1 at *
  refine wpIn_rangeFunc_q (gf := 47) (lb := #[.pointer (some ⟨w.heap.size, 0, none⟩), .pointer (some ⟨w.heap.size + 1, 0, none⟩)]) rfl (enters_of Try.func47 (by kernel_rfl) rfl)
    (seq_written_nil (fun k => k = w.heap.size ∨ k = w.heap.size + 1) w.heap.size (w.heap.size + 1) part W1 HA.out HA2.out (.inl rfl) (.inr rfl) (fun k hk => by have := HSz3.out; omega)) (Kept.refl _ _) (fun k hk => by have := HSz.out; have := HSz3.out; omega) (fun _ => rfl)
    (fun pre q V => Below w.heap.size w V ∧ ∀ k, q k → w.heap.size ≤ k) (fun _ _ _ _ => False) (fun pre q V hV => trivial) ?hI (fun _ _ _ _ _ _ h _ _ => h.elim) ?h0
    (fun x => { tmps := #[.pointer none, .int .i64 part, undef, undef, .pointer (some ⟨0, x * 37, none⟩), .pointer none, .int .i64 part, .func (.func 47) #[] #[.pointer (some ⟨w.heap.size, 0, none⟩), .pointer (some ⟨w.heap.size + 1, 0, none⟩)], .pointer (some ⟨0, x * 37, none⟩), undef, undef, undef, undef, undef, undef, undef], defers := [] }) ?assign ?body ?done ?stop
  case hI =>
    have := HSz.out
    rintro s q q' A B ⟨h1, h2⟩ hk hq
    refine ⟨h1.trans (hk.toBelow h1.size fun k hlt h => ?_), fun k h => ?_⟩
    · rcases h with h | h | h
      · have := h2 k h; omega
      · omega
      · omega
    · rcases (hq k h).1 with h3 | h3
      · exact h2 k h3
      · exact Nat.le_trans h1.size h3
  case h0 => exact ⟨HK.out, fun k h => h.elim⟩
  case assign =>
    intro yl x W K hK
    unfold encK
    gi_wp2_with fail
    exact hK
  case body =>
    rintro yl pre x q V hpx
    simp at hpx
  case done =>
    rintro q V ⟨hV, _⟩ hsz hq hD
    have HD := Lib.hid hD
    have HV := Lib.hid hV
    clear hV hD hq hsz
    gi_wp2_with fail
    refine ⟨by simp, .inl ⟨_, _, rfl, run_takeDeferred HD.out, ?_⟩⟩
    have hkp : Kept (fun k => k = W1.heap.size) V (V.putObj W1.heap.size (.deferred none)) := Kept.put (Kept.refl (fun k => k = W1.heap.size) V) (.inl rfl) _
    have hsz := HSz.out
    exact ⟨.tuple #[], results_none rfl _ _ _, rfl, HV.out.trans (hkp.toBelow HV.out.size (fun i hi e => by omega))⟩
  case stop =>
    rintro cd pre q V hpre h
    exact h.elim
end Prt
end Go.Proofs.Ytcapiaempfjmeaa
