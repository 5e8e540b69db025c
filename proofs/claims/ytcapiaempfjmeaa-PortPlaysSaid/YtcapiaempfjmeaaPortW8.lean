/- writtenBy: the ports that a partition writes, gone over. (Made by tools/gen_portw8.py.) -/
import Derived.Test.YtcapiaempfjmeaaPortW7
namespace Go.Proofs.Ytcapiaempfjmeaa
open Go.ChangeShapes Go.WideShapes Go.ChangeAt Go.RowKit
namespace Prt
set_option linter.unusedVariables false
set_option linter.unusedSimpArgs false
attribute [local go_sem] Oper.semAt_some
theorem written_make (p : Option Addr) (part : Int) (w : World) : Calls Try.prog 41 #[.pointer p, .int .i64 part] w fun e w' => e = .returned (.func (.func 47) #[] #[.pointer (some ⟨w.heap.size, 0, none⟩), .pointer (some ⟨w.heap.size + 1, 0, none⟩)]) ∧ w' = (w.alloc (.cells #[.pointer p] 25)).alloc (.cells #[.int .i64 part] 3) := by
  go_enter Try.func41, Try.ntmps41
  go_wp2_with fail
  go_ret
  exact ⟨rfl, rfl⟩
theorem filter_no (p : Nat → Bool) (x : Nat) (h : p x = false) : [x].filter p = [] := by rw [List.filter_cons, if_neg (by rw [h]; simp)]; rfl
theorem filter_yes (p : Nat → Bool) (x : Nat) (h : p x = true) : [x].filter p = [x] := by rw [List.filter_cons, if_pos h]; rfl
/-- the same definitions -/
def SameD (l l' : List Bx) : Prop := l'.length = l.length ∧ ∀ k, k < l.length → (l'[k]!).d = (l[k]!).d
/-- the ports have these definitions -/
def Defs (g : Nat) (l : List Bx) (V : World) : Prop := ∃ l', Pt V g l' ∧ SameD l l'
/-- the iterator, between two ports -/
structure FI (J : List Nat → (Nat → Prop) → World → Prop) (c : Nat → Prop) (S yl tb : Nat) (part : Int) (pre : List Nat) (q2 q : Nat → Prop) (V : World) : Prop where
  j : J pre q V
  lt : ∀ k, q k → k < V.heap.size
  sub : ∀ k, q2 k → q k ∧ S + 2 ≤ k
  own : ∀ k, S ≤ k → k < S + 4 → k < V.heap.size → q k
  sz : S + 2 ≤ V.heap.size
  cy : V.cell? ⟨S, 0, none⟩ = some (.func (.yield yl) #[] #[])
  cp : V.cell? ⟨tb, 0, none⟩ = some (.int .i64 part)
  tc : c tb
structure FX (Jx : List Nat → (Nat → Prop) → World → Prop) (S : Nat) (L : List Nat) (q2 q : Nat → Prop) (V : World) : Prop where
  j : ∃ p, p <+: L ∧ Jx p q V
  lt : ∀ k, q k → k < V.heap.size
  sub : ∀ k, q2 k → q k ∧ S + 2 ≤ k
  own : ∀ k, S ≤ k → k < S + 4 → k < V.heap.size → q k
  sz : S + 2 ≤ V.heap.size
theorem step_q {S : Nat} {q2 q q' : Nat → Prop} {A B : World} (lt : ∀ k, q k → k < A.heap.size) (sub : ∀ k, q2 k → q k ∧ S + 2 ≤ k) (own : ∀ k, S ≤ k → k < S + 4 → k < A.heap.size → q k) (sz : S + 2 ≤ A.heap.size)
    (hk : Kept (fun k => q2 k ∨ (k = S + 2 ∨ k = S + 2 + 1)) A B) (hq : ∀ k, q' k → (q2 k ∨ A.heap.size ≤ k) ∧ k < B.heap.size) :
    ∃ q3 : Nat → Prop, Kept (fun k => q k ∨ none' k) A B ∧ (∀ k, q3 k → (q k ∨ A.heap.size ≤ k) ∧ k < B.heap.size) ∧ (∀ k, q' k → q3 k ∧ S + 2 ≤ k) ∧ (∀ k, S ≤ k → k < S + 4 → k < B.heap.size → q3 k) := by
  refine ⟨fun k => (q k ∨ A.heap.size ≤ k) ∧ k < B.heap.size, ?_, fun k h => h, ?_, ?_⟩
  · refine hk.mono fun k hlt h => ?_
    rcases h with h | h | h
    · exact .inl (sub k h).1
    · exact .inl (own k (by omega) (by omega) hlt)
    · exact .inl (own k (by omega) (by omega) hlt)
  · intro k h
    obtain ⟨h1, h2⟩ := hq k h
    rcases h1 with h1 | h1
    · exact ⟨⟨.inl (sub k h1).1, h2⟩, (sub k h1).2⟩
    · exact ⟨⟨.inr h1, h2⟩, by omega⟩
  · intro k h1 h2 h3
    by_cases h4 : k < A.heap.size
    · exact ⟨.inl (own k h1 h2 h4), h3⟩
    · exact ⟨.inr (by omega), h3⟩
section
variable {J Jx : List Nat → (Nat → Prop) → World → Prop} {c : Nat → Prop} {S yl tb : Nat} {part : Int}
theorem fi_stable (hJ : Stable none' J) (ho : ∀ k, c k → k < S) (F : List Nat → List Nat) : Stable (fun k => k = S + 2 ∨ k = S + 2 + 1) (fun pre q2 V => ∃ q, FI J c S yl tb part (F pre) q2 q V) := by
  rintro pre q2 q' A B ⟨q, h⟩ hk hq
  obtain ⟨q3, h1, h2, h3, h4⟩ := step_q h.lt h.sub h.own h.sz hk hq
  have hno : ∀ k, k < S + 2 → ¬ (q2 k ∨ (k = S + 2 ∨ k = S + 2 + 1)) := by
    rintro k hlt (x | x | x)
    · have := (h.sub k x).2; omega
    · omega
    · omega
  exact ⟨q3, hJ _ q q3 A B h.j h1 h2, fun k hk' => (h2 k hk').2, h3, h4, Nat.le_trans h.sz hk.size, hk.cell h.cy (hno _ (by simp)), hk.cell h.cp (hno _ (by have := ho _ h.tc; simp; omega)), h.tc⟩
theorem fx_stable {L : List Nat} (hJ : Stable none' Jx) : Stable (fun k => k = S + 2 ∨ k = S + 2 + 1) (fun (_ : List Nat) q2 V => ∃ q, FX Jx S L q2 q V) := by
  rintro pre q2 q' A B ⟨q, h⟩ hk hq
  obtain ⟨q3, h1, h2, h3, h4⟩ := step_q h.lt h.sub h.own h.sz hk hq
  obtain ⟨p, hp, hj⟩ := h.j
  exact ⟨q3, ⟨p, hp, hJ _ q q3 A B hj h1 h2⟩, fun k hk' => (h2 k hk').2, h3, h4, Nat.le_trans h.sz hk.size⟩
theorem fi_grow {pre : List Nat} {q2 q : Nat → Prop} {V Y : World} (hJ : Stable none' J) (h : FI J c S yl tb part pre q2 q V) (hb : Below V.heap.size V Y) : ∃ q', FI J c S yl tb part pre q2 q' Y ∧ ∀ k, q k → q' k := by
  have hs := hb.size
  have hk : Kept (fun _ => False) V Y := Kept.of_below hb
  refine ⟨fun k => q k ∨ (V.heap.size ≤ k ∧ k < Y.heap.size), ⟨hJ _ q _ V Y h.j (Kept.of_below hb) (fun k hk => ?_), fun k hk => ?_, fun k hk => ⟨.inl (h.sub k hk).1, (h.sub k hk).2⟩, fun k h1 h2 h3 => ?_, by have := h.sz; omega, hk.cell h.cy id, hk.cell h.cp id, h.tc⟩, fun k h => .inl h⟩
  · rcases hk with hk | hk
    · exact ⟨.inl hk, Nat.lt_of_lt_of_le (h.lt k hk) hs⟩
    · exact ⟨.inr hk.1, hk.2⟩
  · rcases hk with hk | hk
    · exact Nat.lt_of_lt_of_le (h.lt k hk) hs
    · exact hk.2
  · by_cases h4 : k < V.heap.size
    · exact .inl (h.own k h1 h2 h4)
    · exact .inr ⟨by omega, h3⟩
theorem fi_kept {pre : List Nat} {q2 q : Nat → Prop} {V W3 : World} (h : FI J c S yl tb part pre q2 q V) (hk : Kept (fun k => ¬ q k ∧ ¬ c k) V W3) :
    Kept (fun k => ¬ q2 k ∧ ¬ (c k ∨ k = S + 1) ∧ k ≠ S + 2 ∧ k ≠ S + 2 + 1) V W3 := by
  refine hk.mono fun k hlt hn => ⟨fun x => hn.1 (h.sub k x).1, ?_, ?_, ?_⟩
  · rintro (x | x)
    · exact hn.2 x
    · exact hn.1 (h.own k (by omega) (by omega) hlt)
  · intro e; exact hn.1 (h.own k (by omega) (by omega) hlt)
  · intro e; exact hn.1 (h.own k (by omega) (by omega) hlt)
theorem fi_next {pre pre' : List Nat} {q2 q : Nat → Prop} {V W3 : World} (h : FI J c S yl tb part pre q2 q V) (ho : S + 4 ≤ V.heap.size) (hk : Kept (fun k => ¬ q k ∧ ¬ c k) V W3) (hj : J pre' q W3) : FI J c S yl tb part pre' q2 q W3 := by
  have h3 := hk.size
  have hz := h.sz
  exact ⟨hj, fun k hk' => Nat.lt_of_lt_of_le (h.lt k hk') h3, h.sub, fun k h1 h2 _ => h.own k h1 h2 (by omega), by omega, hk.cell h.cy (fun x => x.1 (h.own S (by omega) (by omega) (by omega))), hk.cell h.cp (fun x => x.2 h.tc), h.tc⟩
end
set_option maxHeartbeats 4000000 in
set_option maxRecDepth 100000 in
theorem seq_written (c : Nat → Prop) (pb tb g : Nat) (part : Int) (l : List Bx) (hl : l.length ≤ 16) (w : World) (hb : w.cell? ⟨pb, 0, none⟩ = some (.pointer (some ⟨g, 0, none⟩))) (ht : w.cell? ⟨tb, 0, none⟩ = some (.int .i64 part)) (hc : c pb) (hc2 : c tb) (hold : ∀ k, c k → k < w.heap.size) :
    SeqQ Try.prog 47 #[.pointer (some ⟨pb, 0, none⟩), .pointer (some ⟨tb, 0, none⟩)] (encK g) c (fun _ W => Defs g l W) (mine part l) w := by
  intro yl J Jx W hW hJ hJx hG hY h0
  have HY := Lib.hid hY
  have HJ := Lib.hid hJ
  have HJx := Lib.hid hJx
  have H0 := Lib.hid h0
  have HG := Lib.hid hG
  have cb := hW.cell hb (fun x => x hc)
  have ct := hW.cell ht (fun x => x hc2)
  have HO : Hid (∀ k, c k → k < W.heap.size) := fun k h => Nat.lt_of_lt_of_le (hold k h) hW.size
  have cbA : (W.alloc (.cells #[.func (.yield yl) #[] #[]] 81)).cell? ⟨pb, 0, none⟩ = some (.pointer (some ⟨g, 0, none⟩)) := ((Kept.refl none' W).alloc _).cell cb (fun h => h)
  have HCt := Lib.hid ct
  clear hW hY hJ hJx h0 hG hb ht hold cb ct
  refine callsIn_of_wp_marks Try.func47 rfl trivial ?_ rfl
  simp only [Try.ntmps47, List.size_toArray, List.length_cons, List.length_nil, Nat.reduceAdd, Nat.reduceSub, Array.replicate_succ, Array.replicate_zero, List.push_toArray, List.append_toArray, List.nil_append, List.cons_append]
  gi_wp2_with (refine ⟨trivial, rfl, ?_⟩; refine CallsIn.mono (callsIn_wide.2 (all_make _ _)) ?_; rintro e w' ⟨rfl, rfl⟩)
  clear cbA
  have hs2 : ((W.alloc (.cells #[.func (.yield yl) #[] #[]] 81)).alloc (.cells #[.pointer (some ⟨g, 0, none⟩)] 25)).heap.size = W.heap.size + 2 := by simp
  have hK2 : Kept none' W ((W.alloc (.cells #[.func (.yield yl) #[] #[]] 81)).alloc (.cells #[.pointer (some ⟨g, 0, none⟩)] 25)) := ((Kept.refl _ W).alloc _).alloc _
  have b0 : ((W.alloc (.cells #[.func (.yield yl) #[] #[]] 81)).alloc (.cells #[.pointer (some ⟨g, 0, none⟩)] 25)).heap[W.heap.size]? = some (.cells #[.func (.yield yl) #[] #[]] 81 (0, 0)) := heap_alloc2_old _ _ _
  have b1 : ((W.alloc (.cells #[.func (.yield yl) #[] #[]] 81)).alloc (.cells #[.pointer (some ⟨g, 0, none⟩)] 25)).heap[W.heap.size + 1]? = some (.cells #[.pointer (some ⟨g, 0, none⟩)] 25 (0, 0)) := heap_alloc2_new _ _ _
  generalize (W.alloc (.cells #[.func (.yield yl) #[] #[]] 81)).alloc (.cells #[.pointer (some ⟨g, 0, none⟩)] 25) = W2 at *
  obtain ⟨S, hS⟩ : ∃ S, W.heap.size = S := ⟨_, rfl⟩
  have HJ2 : Hid (J [] (fun k => S ≤ k ∧ k < W2.heap.size) W2) := HJ.out _ _ _ W W2 H0.out (hK2.mono (fun _ _ h => h.elim)) (fun k h => ⟨.inr (by rw [hS]; exact h.1), h.2⟩)
  have HCt2 : Hid (W2.cell? ⟨tb, 0, none⟩ = some (.int .i64 part)) := hK2.cell HCt.out (fun h => h)
  rw [hS] at hs2 b0 b1 HO ⊢
  have cell1 : ∀ {V : World} {k : Nat} {v : Value} {t : TypeId}, V.heap[k]? = some (.cells #[v] t (0, 0)) → V.cell? ⟨k, 0, none⟩ = some v := fun h => by simp [World.cell?, h]
  refine wpIn_rangeFunc_q (gf := 46) (lb := #[.pointer (some ⟨S + 1, 0, none⟩)]) rfl (enters_of Try.func46 (by kernel_rfl) rfl)
    (seq_all (fun k => c k ∨ k = S + 1) (S + 1) g l.length hl W2 (cell1 b1) (.inr rfl)) (Kept.refl _ _) ?hcw (fun _ => rfl)
    (fun pre q2 V => ∃ q, FI J c S yl tb part (pre.filter fun k => wrt (l[k]!).d part) q2 q V) (fun cd _ q2 V => cd = .ret ∧ ∃ q, FX Jx S (mine part l) q2 q V) ?hG ?hI ?hIx ?h0
    (fun x => { tmps := #[.func (.yield yl) #[] #[], .pointer (some ⟨pb, 0, none⟩), .pointer (some ⟨tb, 0, none⟩), .pointer (some ⟨S, 0, none⟩), .pointer (some ⟨g, x * 37, none⟩), .pointer (some ⟨g, 0, none⟩), .func (.func 46) #[] #[.pointer (some ⟨S + 1, 0, none⟩)], .pointer (some ⟨g, x * 37, none⟩), undef, undef, undef, undef, undef, undef, undef, undef, undef, undef, undef, undef], defers := [] }) ?assign ?body ?done ?stop
  case hcw =>
    rintro k (h | h)
    · have := HO.out k h; omega
    · omega
  case hG =>
    rintro pre q2 V ⟨q, h⟩
    obtain ⟨l', hp, hlen, _⟩ := HG.out _ _ _ h.j
    have := hp.count
    rwa [hlen] at this
  case hI => rw [hs2]; exact fi_stable HJ.out HO.out _
  case hIx =>
    intro cd
    rw [hs2]
    rintro s q q' A B ⟨h1, h2⟩ hk hq
    exact ⟨h1, fx_stable HJx.out s q q' A B h2 hk hq⟩
  case h0 => exact ⟨_, HJ2.out, fun k h => h.2, fun k h => h.elim, fun k h1 h2 h3 => ⟨h1, h3⟩, by omega, cell1 b0, HCt2.out, hc2⟩
  case assign =>
    intro yl2 x W K hK
    unfold encK
    gi_wp2_with fail
    exact hK
  case body =>
    rintro l2 pre x q2 V hpx hq2 hszV ⟨q, h⟩
    have hx : x < l.length := by
      have := hpx.subset (show x ∈ pre ++ [x] by simp)
      simpa using this
    obtain ⟨l', hp, hlen, hsame⟩ := HG.out _ _ _ h.j
    have hx' : x < l'.length := by omega
    have HC : Hid (V.cell? ⟨g, x * 37, none⟩ = some (.int .i64 (l[x]!).d.w) ∧ V.cell? ⟨g, x * 37 + 1, none⟩ = some (.int .i64 (l[x]!).d.wr) ∧ V.cell? ⟨g, x * 37 + 2, none⟩ = some (.int .u32 (l[x]!).d.rd)) := by
      rw [← hsame x hx]
      exact ⟨hp.cw hx', hp.cwr hx', hp.crd hx'⟩
    have HW := Lib.hid (fun W => writes_any (l[x]!).d part W)
    have HH := Lib.hid h
    have HPx := Lib.hid hpx
    rw [hs2] at hszV ⊢
    have HSz := Lib.hid hszV
    obtain ⟨E1, hE1⟩ : ∃ E, wrt (l[x]!).d part = E := ⟨_, rfl⟩
    have HE := Lib.hid hE1
    rw [hE1] at HW
    clear h hpx hq2 hszV hp hlen hsame hx' hE1
    generalize (l[x]!).d.w = z0 at *
    generalize (l[x]!).d.wr = z1 at *
    generalize (l[x]!).d.rd = z2 at *
    have hE := Posts.ext_rel
    gi_wp2_with fail
    refine (Posts.wpIn_region_tail hE 9 8 (Posts.At [Posts.is (.pointer (some ⟨g, x * 37, none⟩)), Posts.is (.pointer (some ⟨g, x * 37, none⟩)), Posts.is (.pointer (some ⟨g, x * 37, none⟩)), Posts.is (.agg #[.int .i64 z0, .int .i64 z1, .int .u32 z2]), Posts.is (.int .i64 part), Posts.is (.bool (E1)), Posts.is (.bool (E1)), Posts.on (E1) (.func (.yield yl) #[] #[]), Posts.on (E1) (.pointer (some ⟨g, x * 37, none⟩))]) (fun _ _ => True) (by kernel_rfl) (by decide) (by kernel_rfl) (by kernel_rfl) (by kernel_rfl)
      (Posts.stable_at _ (by repeat' (first | exact trivial | (refine And.intro ?_ ?_) | exact Posts.is_stable _ | exact Posts.on_stable _ _ | assumption))) trivial ?_ ?_)
    · refine ⟨?_, ?_, ?_, ?_, ?_, ?_, ?_, ?_, ?_, trivial⟩
      · intro a X hX hS hD hJ hU
        have hb := Kept.of_below (p := fun _ => False) hX
        have x0 := hb.cell HC.out.1 id
        have x1 := hb.cell HC.out.2.1 id
        have x2 := hb.cell HC.out.2.2 id
        have xp := hb.cell HH.out.cp id
        have xy := hb.cell HH.out.cy id
        have d4 := Posts.slot (show a.eval (.tmp 4) = .pointer (some ⟨g, x * 37, none⟩) from hS.other 4 rfl)
        exact Posts.op_value (fun _ => trivial) rfl rfl (by intro c h; cases h) rfl (by rw [hS.size]; simp) (v := .pointer (some ⟨g, x * 37, none⟩)) (by simp [execOp, d4,  go_sem, x0, x1, x2, xp, xy]) rfl (hE.refl _) trivial
      · intro a X hX hS hD hJ hU
        have hb := Kept.of_below (p := fun _ => False) hX
        have x0 := hb.cell HC.out.1 id
        have x1 := hb.cell HC.out.2.1 id
        have x2 := hb.cell HC.out.2.2 id
        have xp := hb.cell HH.out.cp id
        have xy := hb.cell HH.out.cy id
        have d8 := Posts.slot (show a.eval (.tmp 8) = .pointer (some ⟨g, x * 37, none⟩) from hD.1)
        exact Posts.op_value (fun _ => trivial) rfl rfl (by intro c h; cases h) rfl (by rw [hS.size]; simp) (v := .pointer (some ⟨g, x * 37, none⟩)) (by simp [execOp, d8,  go_sem, x0, x1, x2, xp, xy]) rfl (hE.refl _) trivial
      · intro a X hX hS hD hJ hU
        have hb := Kept.of_below (p := fun _ => False) hX
        have x0 := hb.cell HC.out.1 id
        have x1 := hb.cell HC.out.2.1 id
        have x2 := hb.cell HC.out.2.2 id
        have xp := hb.cell HH.out.cp id
        have xy := hb.cell HH.out.cy id
        have d9 := Posts.slot (show a.eval (.tmp 9) = .pointer (some ⟨g, x * 37, none⟩) from hD.1)
        exact Posts.op_value (fun _ => trivial) rfl rfl (by intro c h; cases h) rfl (by rw [hS.size]; simp) (v := .pointer (some ⟨g, x * 37, none⟩)) (by simp [execOp, d9,  go_sem, x0, x1, x2, xp, xy]) rfl (hE.refl _) trivial
      · intro a X hX hS hD hJ hU
        have hb := Kept.of_below (p := fun _ => False) hX
        have x0 := hb.cell HC.out.1 id
        have x1 := hb.cell HC.out.2.1 id
        have x2 := hb.cell HC.out.2.2 id
        have xp := hb.cell HH.out.cp id
        have xy := hb.cell HH.out.cy id
        have d10 := Posts.slot (show a.eval (.tmp 10) = .pointer (some ⟨g, x * 37, none⟩) from hD.1)
        exact Posts.op_value (fun _ => trivial) rfl rfl (by intro c h; cases h) rfl (by rw [hS.size]; simp) (v := .agg #[.int .i64 z0, .int .i64 z1, .int .u32 z2]) (by simp [execOp, d10,  go_sem, x0, x1, x2, xp, xy]) rfl (hE.refl _) trivial
      · intro a X hX hS hD hJ hU
        have hb := Kept.of_below (p := fun _ => False) hX
        have x0 := hb.cell HC.out.1 id
        have x1 := hb.cell HC.out.2.1 id
        have x2 := hb.cell HC.out.2.2 id
        have xp := hb.cell HH.out.cp id
        have xy := hb.cell HH.out.cy id
        have d2 := Posts.slot (show a.eval (.tmp 2) = .pointer (some ⟨tb, 0, none⟩) from hS.other 2 rfl)
        exact Posts.op_value (fun _ => trivial) rfl rfl (by intro c h; cases h) rfl (by rw [hS.size]; simp) (v := .int .i64 part) (by simp [execOp, d2,  go_sem, x0, x1, x2, xp, xy]) rfl (hE.refl _) trivial
      · intro a X hX hS hD hJ hU
        have hb := Kept.of_below (p := fun _ => False) hX
        have x0 := hb.cell HC.out.1 id
        have x1 := hb.cell HC.out.2.1 id
        have x2 := hb.cell HC.out.2.2 id
        have xp := hb.cell HH.out.cp id
        have xy := hb.cell HH.out.cy id
        have d11 := Posts.slot (show a.eval (.tmp 11) = .agg #[.int .i64 z0, .int .i64 z1, .int .u32 z2] from hD.1)
        have d12 := Posts.slot (show a.eval (.tmp 12) = .int .i64 part from hD.2.1)
        refine Posts.op_call (fun _ => trivial) rfl rfl rfl (by intro c h; cases h) rfl (by rw [hS.size]; simp) 38 #[.agg #[.int .i64 z0, .int .i64 z1, .int .u32 z2], .int .i64 part] (by simp [d11, d12, go_sem]) ?_
        refine CallsIn.inRound l2 (callsIn_wide.2 ((HW.out X).mono ?_))
        rintro e Y ⟨rfl, rfl⟩
        exact ⟨_, rfl, rfl, below_alloc _ _, trivial⟩
      · intro a X hX hS hD hJ hU
        have hb := Kept.of_below (p := fun _ => False) hX
        have x0 := hb.cell HC.out.1 id
        have x1 := hb.cell HC.out.2.1 id
        have x2 := hb.cell HC.out.2.2 id
        have xp := hb.cell HH.out.cp id
        have xy := hb.cell HH.out.cy id
        have d13 := Posts.slot (show a.eval (.tmp 13) = .bool (E1) from hD.1)
        exact Posts.op_value (fun _ => trivial) rfl rfl (by intro c h; cases h) rfl (by rw [hS.size]; simp) (v := .bool (E1)) (by simp [execOp, d13,  go_sem, x0, x1, x2, xp, xy]) rfl (hE.refl _) trivial
      · intro a X hX hS hD hJ hU
        have hb := Kept.of_below (p := fun _ => False) hX
        have x0 := hb.cell HC.out.1 id
        have x1 := hb.cell HC.out.2.1 id
        have x2 := hb.cell HC.out.2.2 id
        have xp := hb.cell HH.out.cp id
        have xy := hb.cell HH.out.cy id
        have dg := Posts.slot (show a.eval (.tmp 14) = .bool (E1) from hD.1)
        by_cases hg : (E1) = true
        · have d3 := Posts.slot (show a.eval (.tmp 3) = .pointer (some ⟨S, 0, none⟩) from hS.other 3 rfl)
          exact Posts.op_value (fun _ => trivial) rfl (Posts.wanted_yes rfl rfl rfl (by simpa [hg] using dg)) (by intro c h; cases h) rfl (by rw [hS.size]; simp) (v := .func (.yield yl) #[] #[]) (by simp [execOp, d3, hg,  go_sem, x0, x1, x2, xp, xy]) (fun _ => rfl) (hE.refl _) trivial
        · exact Posts.op_skip hE (fun _ => trivial) rfl (Posts.wanted_no rfl rfl rfl (by simpa [hg] using dg)) rfl (by rw [hS.size]; simp) (fun h => absurd h hg) trivial
      · intro a X hX hS hD hJ hU
        have hb := Kept.of_below (p := fun _ => False) hX
        have x0 := hb.cell HC.out.1 id
        have x1 := hb.cell HC.out.2.1 id
        have x2 := hb.cell HC.out.2.2 id
        have xp := hb.cell HH.out.cp id
        have xy := hb.cell HH.out.cy id
        have dg := Posts.slot (show a.eval (.tmp 14) = .bool (E1) from hD.1)
        by_cases hg : (E1) = true
        · have d4 := Posts.slot (show a.eval (.tmp 4) = .pointer (some ⟨g, x * 37, none⟩) from hS.other 4 rfl)
          exact Posts.op_value (fun _ => trivial) rfl (Posts.wanted_yes rfl rfl rfl (by simpa [hg] using dg)) (by intro c h; cases h) rfl (by rw [hS.size]; simp) (v := .pointer (some ⟨g, x * 37, none⟩)) (by simp [execOp, d4, hg,  go_sem, x0, x1, x2, xp, xy]) (fun _ => rfl) (hE.refl _) trivial
        · exact Posts.op_skip hE (fun _ => trivial) rfl (Posts.wanted_no rfl rfl rfl (by simpa [hg] using dg)) rfl (by rw [hS.size]; simp) (fun h => absurd h hg) trivial
    · intro a0 Y hY hS hJt hL
      have p8 := Posts.slot (show a0.eval (.tmp 8) = .pointer (some ⟨g, x * 37, none⟩) from hL.1)
      have p9 := Posts.slot (show a0.eval (.tmp 9) = .pointer (some ⟨g, x * 37, none⟩) from hL.2.1)
      have p10 := Posts.slot (show a0.eval (.tmp 10) = .pointer (some ⟨g, x * 37, none⟩) from hL.2.2.1)
      have p11 := Posts.slot (show a0.eval (.tmp 11) = .agg #[.int .i64 z0, .int .i64 z1, .int .u32 z2] from hL.2.2.2.1)
      have p12 := Posts.slot (show a0.eval (.tmp 12) = .int .i64 part from hL.2.2.2.2.1)
      have p13 := Posts.slot (show a0.eval (.tmp 13) = .bool (E1) from hL.2.2.2.2.2.1)
      have p14 := Posts.slot (show a0.eval (.tmp 14) = .bool (E1) from hL.2.2.2.2.2.2.1)
      have p15 : (E1) = true → a0.tmps[15]?.getD undef = .func (.yield yl) #[] #[] := fun h => Posts.slot (show a0.eval (.tmp 15) = _ from hL.2.2.2.2.2.2.2.1 h)
      have p16 : (E1) = true → a0.tmps[16]?.getD undef = .pointer (some ⟨g, x * 37, none⟩) := fun h => Posts.slot (show a0.eval (.tmp 16) = _ from hL.2.2.2.2.2.2.2.2.1 h)
      have hfr := hS.frame [8, 9, 10, 11, 12, 13, 14, 15, 16, 17, 18, 19] (fun t ht => by simp [Posts.isDst] at ht; first | (rcases ht with h | h | h | h | h | h | h | h | h | h | h | h <;> subst h <;> simp) | (subst ht; simp))
      simp only [List.foldl_cons, List.foldl_nil] at hfr
      have hdf := hS.defers
      simp only [Array.getD_eq_getD_getElem?] at hfr
      clear hL hS
      generalize a0.tmps[8]?.getD undef = v8 at *
      generalize a0.tmps[9]?.getD undef = v9 at *
      generalize a0.tmps[10]?.getD undef = v10 at *
      generalize a0.tmps[11]?.getD undef = v11 at *
      generalize a0.tmps[12]?.getD undef = v12 at *
      generalize a0.tmps[13]?.getD undef = v13 at *
      generalize a0.tmps[14]?.getD undef = v14 at *
      generalize a0.tmps[15]?.getD undef = v15 at *
      generalize a0.tmps[16]?.getD undef = v16 at *
      generalize a0.tmps[17]?.getD undef = v17 at *
      generalize a0.tmps[18]?.getD undef = v18 at *
      generalize a0.tmps[19]?.getD undef = v19 at *
      obtain rfl := p8
      obtain rfl := p9
      obtain rfl := p10
      obtain rfl := p11
      obtain rfl := p12
      obtain rfl := p13
      obtain rfl := p14
      obtain ⟨tm, df⟩ := a0
      simp only [List.setIfInBounds_toArray, List.set_cons_succ, List.set_cons_zero] at hfr hdf
      subst hfr
      subst hdf
      obtain ⟨q', h', hqq⟩ := fi_grow HJ.out HH.out hY
      have HH' := Lib.hid h'
      have HKY : Hid (Kept (fun k => ¬ q2 k ∧ ¬ (c k ∨ k = S + 1) ∧ k ≠ S + 2 ∧ k ≠ S + 2 + 1) V Y) := Kept.of_below hY
      clear hY h' hJt
      cases E1 with
      | false =>
        refine Posts.tail_op 9 (by kernel_rfl) (Posts.op_no (fun _ => trivial) rfl (Posts.wanted_no rfl rfl rfl rfl) ?_)
        refine Posts.tail_op 10 (by kernel_rfl) (Posts.op_no (fun _ => trivial) rfl (Posts.wanted_no rfl rfl rfl rfl) ?_)
        refine Posts.tail_op 11 (by kernel_rfl) (Posts.op_val (fun _ => trivial) rfl rfl (by intro c h; cases h) (v := .bool false) (Y := Y) (by simp [execOp, Act.put, go_sem]) ?_)
        refine ⟨by kernel_rfl, ?_⟩
        simp only [Exit.inBlock, Exit.then]
        rename_i hK
        refine hK _ _ ?_
        simp [Act.put]
        gi_wp2_with fail
        simp only [Exit.inBlock, postQ]
        refine ⟨HKY.out, q', ?_⟩
        rw [show ((pre ++ [x]).filter fun k => wrt (l[k]!).d part) = pre.filter fun k => wrt (l[k]!).d part from by rw [List.filter_append, filter_no _ _ HE.out, List.append_nil]]
        exact HH'.out
      | true =>
        obtain rfl := p15 rfl
        obtain rfl := p16 rfl
        have hpre : (pre.filter fun k => wrt (l[k]!).d part) ++ [x] <+: mine part l := by
          have := List.IsPrefix.filter (fun k => wrt (l[k]!).d part) HPx.out
          rw [List.filter_append, filter_yes (fun k => wrt (l[k]!).d part) _ HE.out] at this
          exact this
        obtain ⟨fn, tmps, assign, body, hy, hR⟩ := yield_any (HY.out _ x q' Y hpre HH'.out.j) l2 0
        have HPre := Lib.hid hpre
        dsimp only [encK] at hy
        refine Posts.tail_op 9 (by kernel_rfl) (Posts.op_round (fun _ => trivial) rfl rfl (Posts.wanted_yes rfl rfl rfl rfl) (by intro c h; cases h) (l := yl) (fn := fn) (tmps := tmps) (assign := assign) (body := body) (by simp [go_sem, hy]) ?_)
        refine RoundIn.mono hR ?_
        rintro e W3 ⟨hk3, h3⟩
        have HK3 := Lib.hid hk3
        clear hk3 hy hR hpre
        rcases h3 with ⟨rfl, hJ3⟩ | ⟨rfl, hJx3⟩
        · refine ⟨_, rfl, ?_⟩
          refine Posts.tail_op 10 (by kernel_rfl) (Posts.op_val (fun _ => trivial) rfl (Posts.wanted_yes rfl rfl rfl rfl) (by intro c h; cases h) (v := .bool false) (Y := W3) (by simp [execOp, Act.put, go_sem]) ?_)
          refine Posts.tail_op 11 (by kernel_rfl) (Posts.op_val (fun _ => trivial) rfl rfl (by intro c h; cases h) (v := .bool false) (Y := W3) (by simp [execOp, Act.put, go_sem]) ?_)
          refine ⟨by kernel_rfl, ?_⟩
          simp only [Exit.inBlock, Exit.then]
          rename_i hK
          refine hK _ _ ?_
          simp [Act.put]
          gi_wp2_with fail
          simp only [Exit.inBlock, postQ]
          refine ⟨HKY.out.trans (fi_kept HH'.out HK3.out), q', fi_next HH'.out (by have := HSz.out; have := HKY.out.size; omega) HK3.out ?_⟩
          simpa only [List.getElem!_eq_getElem?_getD] using (show J ((pre ++ [x]).filter fun k => wrt (l[k]!).d part) q' W3 from by
            rw [List.filter_append, filter_yes (fun k => wrt (l[k]!).d part) _ HE.out]
            exact hJ3)
        · refine ⟨_, rfl, ?_⟩
          refine Posts.tail_op 10 (by kernel_rfl) (Posts.op_val (fun _ => trivial) rfl (Posts.wanted_yes rfl rfl rfl rfl) (by intro c h; cases h) (v := .bool true) (Y := W3) (by simp [execOp, Act.put, go_sem]) ?_)
          refine Posts.tail_op 11 (by kernel_rfl) (Posts.op_val (fun _ => trivial) rfl rfl (by intro c h; cases h) (v := .bool true) (Y := W3) (by simp [execOp, Act.put, go_sem]) ?_)
          refine ⟨by kernel_rfl, ?_⟩
          simp only [Exit.inBlock, Exit.then]
          rename_i hK
          refine hK _ _ ?_
          simp [Act.put]
          gi_wp2_with fail
          simp only [Exit.inBlock, postQ]
          exact ⟨HKY.out.trans (fi_kept HH'.out HK3.out), by first | trivial | rfl, q', ⟨_, HPre.out, hJx3⟩, fun k h => Nat.lt_of_lt_of_le (HH'.out.lt k h) HK3.out.size, HH'.out.sub, fun k h1 h2 _ => HH'.out.own k h1 h2 (by have := HSz.out; have := HKY.out.size; omega), Nat.le_trans HH'.out.sz HK3.out.size⟩
  case done =>
    rintro q2 V ⟨q, h⟩ hszV hq2 hD
    rw [hs2] at hD ⊢
    gi_wp2_with fail
    refine ⟨by simp, .inl ⟨_, _, rfl, run_takeDeferred hD, ?_⟩⟩
    have qD : q (S + 2) := h.own (S + 2) (by omega) (by omega) (by omega)
    refine ⟨_, results_none rfl _ _ _, ⟨_, rfl⟩, .inl ⟨q, ?_⟩⟩
    exact HJ.out _ q q V _ h.j ((Kept.refl _ _).put (.inl (.inl qD)) _) (fun k hk => ⟨.inl hk, by simpa using h.lt k hk⟩)
  case stop =>
    rintro cd pre q2 V hpre ⟨rfl, q, h⟩ hszV hq2 hD
    rw [hs2] at hD ⊢
    gi_wp2_with fail
    refine ⟨by simp, .inl ⟨_, _, rfl, run_takeDeferred hD, ?_⟩⟩
    have qD : q (S + 2) := h.own (S + 2) (by omega) (by omega) (by omega)
    obtain ⟨p, hp, hj⟩ := h.j
    refine ⟨_, results_none rfl _ _ _, ⟨_, rfl⟩, .inr ⟨p, q, hp, ?_⟩⟩
    exact HJx.out _ q q V _ hj ((Kept.refl _ _).put (.inl (.inl qD)) _) (fun k hk => ⟨.inl hk, by simpa using h.lt k hk⟩)
end Prt
end Go.Proofs.Ytcapiaempfjmeaa
