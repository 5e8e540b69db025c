/- Free's iterator: the stretches, gone over. -/
import Derived.Test.YtekicfaakjbmhaaRightsTaken
import Derived.Laws.EntriesVeiled
namespace Go.Proofs.Ytekicfaakjbmhaa
open Go.ChangeShapes Go.WideShapes Go.ChangeAt Go.RowKit
namespace Rights
set_option linter.unusedVariables false
set_option linter.unusedSimpArgs false
attribute [local go_sem] Oper.semAt_some
theorem taken_make (a : Option Addr) (n cp : Nat) (m : Int) (w : World) : Calls Try.prog 28 #[.slice a n cp, .int .u32 m] w fun e w' =>
    e = .returned (.func (.func 36) #[] #[.pointer (some ⟨w.heap.size, 0, none⟩), .pointer (some ⟨w.heap.size + 1 + 1, 0, none⟩), .pointer (some ⟨w.heap.size + 1, 0, none⟩)]) ∧
    w' = ((w.alloc (.cells #[.slice a n cp] 29)).alloc (.cells #[.int .u32 m] 22)).alloc (.cells #[.func (.func 35) #[] #[.pointer (some ⟨w.heap.size + 1, 0, none⟩)]] 63) := by
  go_enter Try.func28, Try.ntmps28
  go_wp2_with fail
  go_ret
  exact ⟨rfl, rfl⟩
theorem pair_bd (m : Int) (hm : 0 ≤ m) (l : List Rg) (x : Int × Int) (h : x ∈ taken m l ++ [(m, m)]) : (0 ≤ x.1 ∧ x.1 ≤ m) ∧ (0 ≤ x.2 ∧ x.2 ≤ m) := by
  rw [List.mem_append] at h
  rcases h with h | h
  · unfold taken at h
    obtain ⟨y, _, rfl⟩ := List.mem_map.1 h
    have := y.h
    have := y.e_bd
    simp only
    omega
  · simp at h; subst h; simp; omega
theorem place_bd (m : Int) (hm : 0 ≤ m) : ∀ (ps : List (Int × Int)) (a : Int), 0 ≤ a → a ≤ m → (∀ x ∈ ps, (0 ≤ x.1 ∧ x.1 ≤ m) ∧ (0 ≤ x.2 ∧ x.2 ≤ m)) → 0 ≤ place a ps ∧ place a ps ≤ m
  | [], a, h0, h1, _ => ⟨h0, h1⟩
  | (b, e) :: ps, a, h0, h1, h => by
    have := h (b, e) (by simp)
    exact place_bd m hm ps (max a e) (by omega) (by omega) fun x hx => h x (by simp [hx])
/-- what Free's iterator reads -/
structure FreeAt (c : Nat → Prop) (w : World) (lb mb : Nat) (a : Option Addr) (n cp : Nat) (l : List Rg) (m : Int) : Prop where
  cl : w.cell? ⟨lb, 0, none⟩ = some (.slice a n cp)
  cm : w.cell? ⟨mb, 0, none⟩ = some (.int .u32 m)
  row : RRow w a n l
  kl : c lb
  km : c mb
  kr : ∀ b off, 0 < n → a = some ⟨b, off, none⟩ → c b
  old : ∀ k, c k → k < w.heap.size
theorem FreeAt.kept {c : Nat → Prop} {w w' : World} {lb mb : Nat} {a : Option Addr} {n cp : Nat} {l : List Rg} {m : Int} (h : FreeAt c w lb mb a n cp l m) (hk : Kept (fun k => ¬ c k) w w') : FreeAt c w' lb mb a n cp l m :=
  ⟨hk.cell h.cl (fun x => x h.kl), hk.cell h.cm (fun x => x h.km), h.row.kept hk (fun b off h0 e x => x (h.kr b off h0 e)), h.kl, h.km, h.kr, fun k hk' => Nat.lt_of_lt_of_le (h.old k hk') hk.size⟩
/-- how all stands between two rounds: S: the heap's size when the iterator began -/
structure FI (J : List (Int × Int) → (Nat → Prop) → World → Prop) (c : Nat → Prop) (S yl : Nat) (pre : List (Int × Int)) (q2 q : Nat → Prop) (V : World) : Prop where
  j : J (gaps 0 pre) q V
  lt : ∀ k, q k → k < V.heap.size
  sub : ∀ k, q2 k → q k ∧ S + 5 ≤ k
  own : ∀ k, S ≤ k → k < S + 7 → k < V.heap.size → q k
  sz : S + 5 ≤ V.heap.size
  cy : V.cell? ⟨S, 0, none⟩ = some (.func (.yield yl) #[] #[])
  ct : V.heap[S + 1]? = some (.cells #[.int .u32 (place 0 pre)] 22 (0, 0))
structure FX (Jx : List (Int × Int) → (Nat → Prop) → World → Prop) (S : Nat) (L : List (Int × Int)) (q2 q : Nat → Prop) (V : World) : Prop where
  j : ∃ p, p <+: L ∧ Jx p q V
  lt : ∀ k, q k → k < V.heap.size
  sub : ∀ k, q2 k → q k ∧ S + 5 ≤ k
  own : ∀ k, S ≤ k → k < S + 7 → k < V.heap.size → q k
  sz : S + 5 ≤ V.heap.size
theorem step_q {S : Nat} {q q2 q' : Nat → Prop} {A B : World} (lt : ∀ k, q k → k < A.heap.size) (sub : ∀ k, q2 k → q k ∧ S + 5 ≤ k) (own : ∀ k, S ≤ k → k < S + 7 → k < A.heap.size → q k) (sz : S + 5 ≤ A.heap.size)
    (hk : Kept (fun k => q2 k ∨ (k = S + 5 ∨ k = S + 5 + 1)) A B) (hq : ∀ k, q' k → (q2 k ∨ A.heap.size ≤ k) ∧ k < B.heap.size) :
    ∃ q3 : Nat → Prop, Kept (fun k => q k ∨ none' k) A B ∧ (∀ k, q3 k → (q k ∨ A.heap.size ≤ k) ∧ k < B.heap.size) ∧ (∀ k, q' k → q3 k ∧ S + 5 ≤ k) ∧ (∀ k, S ≤ k → k < S + 7 → k < B.heap.size → q3 k) := by
  refine ⟨fun k => (q k ∨ A.heap.size ≤ k) ∧ k < B.heap.size, ?_, fun k h => h, ?_, ?_⟩
  · refine hk.mono fun k hlt h => ?_
    rcases h with h | h | h
    · exact .inl (sub k h).1
    · exact .inl (own k (by omega) (by omega) hlt)
    · exact .inl (own k (by omega) (by omega) hlt)
  · intro k h
    obtain ⟨h1, h2⟩ := hq k h
    rcases h1 with h1 | h1
    · exact ⟨⟨.inl (sub k h1).1, h2⟩, (sub k h1).2⟩
    · exact ⟨⟨.inr h1, h2⟩, by omega⟩
  · intro k h1 h2 h3
    by_cases h4 : k < A.heap.size
    · exact ⟨.inl (own k h1 h2 h4), h3⟩
    · exact ⟨.inr (by omega), h3⟩
theorem fi_stable {J : List (Int × Int) → (Nat → Prop) → World → Prop} {c : Nat → Prop} {S yl : Nat} (hJ : Stable none' J) : Stable (fun k => k = S + 5 ∨ k = S + 5 + 1) (fun pre q2 V => ∃ q, FI J c S yl pre q2 q V) := by
  rintro pre q2 q' A B ⟨q, h⟩ hk hq
  obtain ⟨q3, h1, h2, h3, h4⟩ := step_q h.lt h.sub h.own h.sz hk hq
  have hno : ∀ k, k < S + 5 → ¬ (q2 k ∨ (k = S + 5 ∨ k = S + 5 + 1)) := by
    rintro k hlt (x | x | x)
    · have := (h.sub k x).2; omega
    · omega
    · omega
  exact ⟨q3, hJ _ q q3 A B h.j h1 h2, fun k hk' => (h2 k hk').2, h3, h4, Nat.le_trans h.sz hk.size, hk.cell h.cy (hno _ (by simp)), hk.same h.ct (hno _ (by omega))⟩
theorem fx_stable {Jx : List (Int × Int) → (Nat → Prop) → World → Prop} {S : Nat} {L : List (Int × Int)} (hJ : Stable none' Jx) : Stable (fun k => k = S + 5 ∨ k = S + 5 + 1) (fun (_ : List (Int × Int)) q2 V => ∃ q, FX Jx S L q2 q V) := by
  rintro pre q2 q' A B ⟨q, h⟩ hk hq
  obtain ⟨q3, h1, h2, h3, h4⟩ := step_q h.lt h.sub h.own h.sz hk hq
  obtain ⟨p, hp, hj⟩ := h.j
  exact ⟨q3, ⟨p, hp, hJ _ q q3 A B hj h1 h2⟩, fun k hk' => (h2 k hk').2, h3, h4, Nat.le_trans h.sz hk.size⟩
theorem heap_set1 {V : World} {k : Nat} {u v : Value} {t : TypeId} (h : V.heap[k]? = some (.cells #[u] t (0, 0))) : (V.setCell ⟨k, 0, none⟩ v).heap[k]? = some (.cells #[v] t (0, 0)) := by
  obtain ⟨hlt, he⟩ := Array.getElem?_eq_some_iff.1 h
  show (V.heap.modify k _)[k]? = _
  rw [Array.getElem?_eq_getElem (by rw [Array.size_modify]; exact hlt), Array.getElem_modify_self, he]
  rfl
theorem fi_next {J : List (Int × Int) → (Nat → Prop) → World → Prop} {c : Nat → Prop} {S yl : Nat} {pre : List (Int × Int)} {x : Int × Int} {q2 q : Nat → Prop} {V W3 : World} {z : Int} (hJ : Stable none' J) (h : FI J c S yl pre q2 q V) (hsz : S + 7 ≤ V.heap.size)
    (hk : Kept (fun k => ¬ q k ∧ ¬ c k) V W3) (hj : J (gaps 0 (pre ++ [x])) q W3) (hz : place 0 (pre ++ [x]) = z) : FI J c S yl (pre ++ [x]) q2 q (W3.setCell ⟨S + 1, 0, none⟩ (.int .u32 z)) := by
  have hs : (W3.setCell ⟨S + 1, 0, none⟩ (.int .u32 z)).heap.size = W3.heap.size := by simp [World.setCell]
  have h3 := hk.size
  have q0 : q S := h.own S (by omega) (by omega) (by omega)
  have q1 : q (S + 1) := h.own (S + 1) (by omega) (by omega) (by omega)
  have ct3 := hk.same h.ct (fun x => x.1 q1)
  refine ⟨?_, fun k hk' => by rw [hs]; exact Nat.lt_of_lt_of_le (h.lt k hk') h3, h.sub, fun k h1 h2 _ => h.own k h1 h2 (by omega), by rw [hs]; have := h.sz; omega, ?_, ?_⟩
  · exact hJ _ q q W3 _ hj ((Kept.refl _ _).setCell (.inl (.inl q1)) _) (fun k hk' => ⟨.inl hk', by rw [hs]; exact Nat.lt_of_lt_of_le (h.lt k hk') h3⟩)
  · have c3 := hk.cell h.cy (fun x => x.1 q0)
    exact ((Kept.refl (fun k => k = S + 1) W3).setCell (.inl rfl) _).cell c3 (by simp)
  · rw [hz]; exact heap_set1 ct3
theorem fi_kept {J : List (Int × Int) → (Nat → Prop) → World → Prop} {c : Nat → Prop} {S yl : Nat} {pre : List (Int × Int)} {q2 q : Nat → Prop} {V W3 : World} (h : FI J c S yl pre q2 q V) (hk : Kept (fun k => ¬ q k ∧ ¬ c k) V W3) :
    Kept (fun k => ¬ q2 k ∧ ¬ (c k ∨ (S + 2 ≤ k ∧ k < S + 5)) ∧ k ≠ S + 5 ∧ k ≠ S + 5 + 1) V W3 := by
  refine hk.mono fun k hlt hn => ⟨fun x => hn.1 (h.sub k x).1, ?_, ?_, ?_⟩
  · rintro (x | ⟨x, y⟩)
    · exact hn.2 x
    · exact hn.1 (h.own k (by omega) (by omega) hlt)
  · intro e; exact hn.1 (h.own k (by omega) (by omega) hlt)
  · intro e; exact hn.1 (h.own k (by omega) (by omega) hlt)
theorem fi_set {J : List (Int × Int) → (Nat → Prop) → World → Prop} {c : Nat → Prop} {S yl : Nat} {pre : List (Int × Int)} {q2 q : Nat → Prop} {V W3 : World} (h : FI J c S yl pre q2 q V) (ho : ∀ k, c k → k < S) (v : Value)
    (hk : Kept (fun k => ¬ q2 k ∧ ¬ (c k ∨ (S + 2 ≤ k ∧ k < S + 5)) ∧ k ≠ S + 5 ∧ k ≠ S + 5 + 1) V W3) : Kept (fun k => ¬ q2 k ∧ ¬ (c k ∨ (S + 2 ≤ k ∧ k < S + 5)) ∧ k ≠ S + 5 ∧ k ≠ S + 5 + 1) V (W3.setCell ⟨S + 1, 0, none⟩ v) := by
  refine hk.setCell (.inl ⟨fun x => ?_, ?_, by simp, by simp⟩) v
  · have := (h.sub _ x).2; simp at this
  · rintro (x | ⟨x, y⟩)
    · have := ho _ x; simp at this; omega
    · simp at x
theorem gaps_pre (ps qs : List (Int × Int)) (a : Int) (h : ps <+: qs) : gaps a ps <+: gaps a qs := by
  obtain ⟨t, rfl⟩ := h
  rw [gaps_append]
  exact List.prefix_append _ _
set_option maxHeartbeats 4000000 in
set_option maxRecDepth 100000 in
theorem seq_free (c : Nat → Prop) (lb mb : Nat) (a : Option Addr) (n cp : Nat) (l : List Rg) (m : Int) (hm : 0 ≤ m ∧ m ≤ 4294967295) (hn : n ≤ 1000000) (w : World) (hF : FreeAt c w lb mb a n cp l m) :
    SeqQ Try.prog 27 #[.pointer (some ⟨lb, 0, none⟩), .pointer (some ⟨mb, 0, none⟩)] encP c (free m l) w := by
  intro yl J Jx W hW hJ hJx hY h0
  have hFW := hF.kept hW
  have HF := Lib.hid hFW
  have HY := Lib.hid hY
  have HJ := Lib.hid hJ
  have HJx := Lib.hid hJx
  have H0 := Lib.hid h0
  have clW := hFW.cl
  have cmW := hFW.cm
  have HO : Hid (∀ k, c k → k < W.heap.size) := hFW.old
  have clA : ((W.alloc (.cells #[.func (.yield yl) #[] #[]] 55)).alloc (.cells #[.int .u32 0] 22)).cell? ⟨lb, 0, none⟩ = some (.slice a n cp) := (((Kept.refl none' W).alloc _).alloc _).cell clW (fun h => h)
  have cmA : ((W.alloc (.cells #[.func (.yield yl) #[] #[]] 55)).alloc (.cells #[.int .u32 0] 22)).cell? ⟨mb, 0, none⟩ = some (.int .u32 m) := (((Kept.refl none' W).alloc _).alloc _).cell cmW (fun h => h)
  clear hF hW hY hJ hJx h0 hFW
  refine callsIn_of_wp_marks Try.func27 rfl trivial ?_ rfl
  simp only [Try.ntmps27, List.size_toArray, List.length_cons, List.length_nil, Nat.reduceAdd, Nat.reduceSub, Array.replicate_succ, Array.replicate_zero, List.push_toArray, List.append_toArray, List.nil_append, List.cons_append]
  gi_wp2_with (refine ⟨trivial, rfl, ?_⟩; refine CallsIn.mono (callsIn_wide.2 (taken_make a n cp m _)) ?_; rintro e w' ⟨rfl, rfl⟩)
  have hs5 : (((((W.alloc (.cells #[.func (.yield yl) #[] #[]] 55)).alloc (.cells #[.int .u32 0] 22)).alloc (.cells #[.slice a n cp] 29)).alloc (.cells #[.int .u32 m] 22)).alloc (.cells #[.func (.func 35) #[] #[.pointer (some ⟨W.heap.size + 1 + 1 + 1, 0, none⟩)]] 63)).heap.size = W.heap.size + 5 := by simp
  have hK5 : Kept none' W (((((W.alloc (.cells #[.func (.yield yl) #[] #[]] 55)).alloc (.cells #[.int .u32 0] 22)).alloc (.cells #[.slice a n cp] 29)).alloc (.cells #[.int .u32 m] 22)).alloc (.cells #[.func (.func 35) #[] #[.pointer (some ⟨W.heap.size + 1 + 1 + 1, 0, none⟩)]] 63)) := (((((Kept.refl _ W).alloc _).alloc _).alloc _).alloc _).alloc _
  have b0 : (((((W.alloc (.cells #[.func (.yield yl) #[] #[]] 55)).alloc (.cells #[.int .u32 0] 22)).alloc (.cells #[.slice a n cp] 29)).alloc (.cells #[.int .u32 m] 22)).alloc (.cells #[.func (.func 35) #[] #[.pointer (some ⟨W.heap.size + 1 + 1 + 1, 0, none⟩)]] 63)).heap[W.heap.size]? = some (.cells #[.func (.yield yl) #[] #[]] 55 (0, 0)) := ((((Kept.refl none' _).alloc _).alloc _).alloc _).alloc _ |>.same (World.alloc_heap_new W _) (fun h => h)
  have b1 : (((((W.alloc (.cells #[.func (.yield yl) #[] #[]] 55)).alloc (.cells #[.int .u32 0] 22)).alloc (.cells #[.slice a n cp] 29)).alloc (.cells #[.int .u32 m] 22)).alloc (.cells #[.func (.func 35) #[] #[.pointer (some ⟨W.heap.size + 1 + 1 + 1, 0, none⟩)]] 63)).heap[W.heap.size + 1]? = some (.cells #[.int .u32 0] 22 (0, 0)) := by
    have h := World.alloc_heap_new (W.alloc (.cells #[.func (.yield yl) #[] #[]] 55)) (.cells #[.int .u32 0] 22)
    rw [World.size_alloc] at h
    exact (((Kept.refl none' _).alloc _).alloc _).alloc _ |>.same h (fun h => h)
  have b2 : (((((W.alloc (.cells #[.func (.yield yl) #[] #[]] 55)).alloc (.cells #[.int .u32 0] 22)).alloc (.cells #[.slice a n cp] 29)).alloc (.cells #[.int .u32 m] 22)).alloc (.cells #[.func (.func 35) #[] #[.pointer (some ⟨W.heap.size + 1 + 1 + 1, 0, none⟩)]] 63)).heap[W.heap.size + 1 + 1]? = some (.cells #[.slice a n cp] 29 (0, 0)) := by
    have h := World.alloc_heap_new ((W.alloc (.cells #[.func (.yield yl) #[] #[]] 55)).alloc (.cells #[.int .u32 0] 22)) (.cells #[.slice a n cp] 29)
    rw [World.size_alloc, World.size_alloc] at h
    exact ((Kept.refl none' _).alloc _).alloc _ |>.same h (fun h => h)
  have b3 : (((((W.alloc (.cells #[.func (.yield yl) #[] #[]] 55)).alloc (.cells #[.int .u32 0] 22)).alloc (.cells #[.slice a n cp] 29)).alloc (.cells #[.int .u32 m] 22)).alloc (.cells #[.func (.func 35) #[] #[.pointer (some ⟨W.heap.size + 1 + 1 + 1, 0, none⟩)]] 63)).heap[W.heap.size + 1 + 1 + 1]? = some (.cells #[.int .u32 m] 22 (0, 0)) := by
    have h := World.alloc_heap_new (((W.alloc (.cells #[.func (.yield yl) #[] #[]] 55)).alloc (.cells #[.int .u32 0] 22)).alloc (.cells #[.slice a n cp] 29)) (.cells #[.int .u32 m] 22)
    rw [World.size_alloc, World.size_alloc, World.size_alloc] at h
    exact (Kept.refl none' _).alloc _ |>.same h (fun h => h)
  have b4 : (((((W.alloc (.cells #[.func (.yield yl) #[] #[]] 55)).alloc (.cells #[.int .u32 0] 22)).alloc (.cells #[.slice a n cp] 29)).alloc (.cells #[.int .u32 m] 22)).alloc (.cells #[.func (.func 35) #[] #[.pointer (some ⟨W.heap.size + 1 + 1 + 1, 0, none⟩)]] 63)).heap[W.heap.size + 1 + 1 + 1 + 1]? = some (.cells #[.func (.func 35) #[] #[.pointer (some ⟨W.heap.size + 1 + 1 + 1, 0, none⟩)]] 63 (0, 0)) := by
    have h := World.alloc_heap_new ((((W.alloc (.cells #[.func (.yield yl) #[] #[]] 55)).alloc (.cells #[.int .u32 0] 22)).alloc (.cells #[.slice a n cp] 29)).alloc (.cells #[.int .u32 m] 22)) (.cells #[.func (.func 35) #[] #[.pointer (some ⟨W.heap.size + 1 + 1 + 1, 0, none⟩)]] 63)
    rw [World.size_alloc, World.size_alloc, World.size_alloc, World.size_alloc] at h
    exact h
  clear clA cmA clW cmW
  generalize (((((W.alloc (.cells #[.func (.yield yl) #[] #[]] 55)).alloc (.cells #[.int .u32 0] 22)).alloc (.cells #[.slice a n cp] 29)).alloc (.cells #[.int .u32 m] 22)).alloc (.cells #[.func (.func 35) #[] #[.pointer (some ⟨W.heap.size + 1 + 1 + 1, 0, none⟩)]] 63)) = W5 at *
  obtain ⟨S, hS⟩ : ∃ S, W.heap.size = S := ⟨_, rfl⟩
  have HF5 := Lib.hid (HF.out.kept (hK5.mono (fun _ _ h => h.elim)))
  have HJ5 : Hid (J [] (fun k => S ≤ k ∧ k < W5.heap.size) W5) := HJ.out _ _ _ W W5 H0.out (hK5.mono (fun _ _ h => h.elim)) (fun k h => ⟨.inr (by rw [hS]; exact h.1), h.2⟩)
  rw [hS] at hs5 b0 b1 b2 b3 b4 HO ⊢
  have cell1 : ∀ {V : World} {k : Nat} {v : Value} {t : TypeId}, V.heap[k]? = some (.cells #[v] t (0, 0)) → V.cell? ⟨k, 0, none⟩ = some v := fun h => by simp [World.cell?, h]
  have hT : TakenAt (fun k => c k ∨ (S + 2 ≤ k ∧ k < S + 5)) W5 (S + 1 + 1) (S + 1 + 1 + 1 + 1) (S + 1 + 1 + 1) a n cp l m :=
    ⟨cell1 b2, cell1 b4, cell1 b3, HF5.out.row, .inr (by omega), .inr (by omega), .inr (by omega), fun b off h0 e => .inl (HF5.out.kr b off h0 e)⟩
  have hpb := fun x hx => pair_bd m hm.1 l x hx
  refine wpIn_rangeFunc_q (gf := 36) (lb := #[.pointer (some ⟨S + 1 + 1, 0, none⟩), .pointer (some ⟨S + 1 + 1 + 1 + 1, 0, none⟩), .pointer (some ⟨S + 1 + 1 + 1, 0, none⟩)]) rfl (enters_of Try.func36 (by kernel_rfl) rfl)
    (seq_taken (fun k => c k ∨ (S + 2 ≤ k ∧ k < S + 5)) (S + 1 + 1) (S + 1 + 1 + 1 + 1) (S + 1 + 1 + 1) a n cp l m hm hn W5 hT) (Kept.refl _ _) ?hcw (fun _ => rfl)
    (fun pre q2 V => ∃ q, FI J c S yl pre q2 q V) (fun cd _ q2 V => cd = .ret ∧ ∃ q, FX Jx S (free m l) q2 q V) ?hI ?hIx ?h0
    (fun x => { tmps := #[.func (.yield yl) #[] #[], .pointer (some ⟨lb, 0, none⟩), .pointer (some ⟨mb, 0, none⟩), .pointer (some ⟨S, 0, none⟩), .pointer (some ⟨S + 1, 0, none⟩), .int .u32 x.1, .int .u32 x.2, .slice a n cp, .int .u32 m, .func (.func 36) #[] #[.pointer (some ⟨S + 1 + 1, 0, none⟩), .pointer (some ⟨S + 1 + 1 + 1 + 1, 0, none⟩), .pointer (some ⟨S + 1 + 1 + 1, 0, none⟩)], .int .u32 x.1, .int .u32 x.2, undef, undef, undef, undef, undef, undef, undef, undef, undef, undef, undef, undef, undef, undef, undef], defers := [] }) ?assign ?body ?done ?stop
  case hcw =>
    rintro k (h | h)
    · have := HO.out k h; omega
    · omega
  case hI => rw [hs5]; exact fi_stable HJ.out
  case hIx =>
    intro cd
    rw [hs5]
    rintro s q q' A B ⟨h1, h2⟩ hk hq
    exact ⟨h1, fx_stable HJx.out s q q' A B h2 hk hq⟩
  case h0 => exact ⟨_, HJ5.out, fun k h => h.2, fun k h => h.elim, fun k h1 h2 h3 => ⟨h1, h3⟩, by omega, cell1 b0, b1⟩
  case assign =>
    intro l x W K hK
    unfold encP
    gi_wp2_with fail
    exact hK
  case body =>
    rintro l2 pre x q2 V hpx hq2 hszV ⟨q, h⟩
    have hx := hpb x (hpx.subset (by simp))
    have hpl := place_bd m hm.1 pre 0 (Int.le_refl _) hm.1 (fun y hy => hpb y (hpx.subset (by simp [hy])))
    have HGap : Hid (gaps 0 (pre ++ [x]) = gaps 0 pre ++ (if place 0 pre < x.1 then [(place 0 pre, x.1 - place 0 pre)] else [])) := by
      show _ = _
      rw [gaps_append]; simp [gaps]
    have HPl : Hid (place 0 (pre ++ [x]) = max (place 0 pre) x.2) := by
      show _ = _
      rw [place_append]; rfl
    have HH := Lib.hid h
    have cy := h.cy
    have ct := h.ct
    have ct1 := cell1 ct
    have cf1 : V.frozen? ⟨S + 1, 0, none⟩ = false := by simp [World.frozen?, ct]
    have HPx := Lib.hid hpx
    have HQ2 := Lib.hid hq2
    clear h ct hpx hq2
    rw [hs5] at HQ2 hszV ⊢
    have HSz := Lib.hid hszV
    clear hszV
    generalize hp : place 0 pre = p at *
    obtain ⟨⟨x0, x1⟩, ⟨y0, y1⟩⟩ := hx
    obtain ⟨p0, p1⟩ := hpl
    by_cases hlt : p < x.1
    · have c1 : IntKind.u32.wrap (x.1 - p) = x.1 - p := by simp [IntKind.wrap, IntKind.bits, IntKind.signed]; omega
      have hpre : gaps 0 pre ++ [(p, x.1 - p)] <+: free m l := by
        have := gaps_pre _ _ 0 HPx.out
        rw [HGap.out, if_pos hlt] at this
        exact this
      obtain ⟨fn, tmps, assign, body, hy, hR⟩ := yield_any (HY.out (gaps 0 pre) (p, x.1 - p) q V hpre HH.out.j) l2 0
      have HPre := Lib.hid hpre
      clear hpre
      dsimp only [encP] at hy
      have hd : decide (p < x.1) = true := by simpa using hlt
      gi_wp2_with fail
      refine ⟨rfl, RoundIn.mono hR ?_⟩
      rintro e W3 ⟨hk3, h3⟩
      have q1 : q (S + 1) := HH.out.own (S + 1) (by omega) (by omega) (by have := HSz.out; omega)
      have hcell3 := hk3.cell ct1 (fun x => x.1 q1)
      have hblk3 := hk3.same (HH.out.ct) (fun x => x.1 q1)
      have hf3 : W3.frozen? ⟨S + 1, 0, none⟩ = false := by simp [World.frozen?, hblk3]
      have HK3 := Lib.hid hk3
      clear hk3 hy hR ct1 cf1 cy hblk3
      rcases h3 with ⟨rfl, hJ3⟩ | ⟨rfl, hJx3⟩
      · have HJ3 := Lib.hid hJ3
        clear hJ3
        gi_wp2_with fail
        all_goals
          refine ⟨fi_set HH.out HO.out _ (fi_kept HH.out HK3.out), q, fi_next HJ.out HH.out HSz.out HK3.out ?_ ?_⟩
          · rw [HGap.out, if_pos hlt]; exact HJ3.out
          · rw [HPl.out] <;> omega
      · have HJ3 := Lib.hid hJx3
        clear hJx3
        gi_wp2_with fail
        exact ⟨fi_kept HH.out HK3.out, rfl, q, ⟨_, HPre.out, HJ3.out⟩, fun k h => Nat.lt_of_lt_of_le (HH.out.lt k h) HK3.out.size, HH.out.sub, fun k h1 h2 _ => HH.out.own k h1 h2 (by have := HSz.out; omega), Nat.le_trans HH.out.sz HK3.out.size⟩
    · have hd : decide (p < x.1) = false := by simpa using hlt
      have HL : Hid (¬ p < x.1) := hlt
      gi_wp2_with fail
      refine ⟨fun _ _ => trivial, ?_⟩
      gi_wp2_with fail
      all_goals
        refine ⟨fi_set HH.out HO.out _ (fi_kept HH.out (Kept.refl _ _)), q, fi_next HJ.out HH.out HSz.out (Kept.refl _ _) ?_ ?_⟩
        · rw [HGap.out, if_neg (by have := HL.out; omega), List.append_nil]; exact HH.out.j
        · rw [HPl.out] <;> omega
  case done =>
    rintro q2 V ⟨q, h⟩ hszV hq2 hD
    rw [hs5] at hD ⊢
    gi_wp2_with fail
    refine ⟨by simp, .inl ⟨_, _, rfl, run_takeDeferred hD, ?_⟩⟩
    have qD : q (S + 5) := h.own (S + 5) (by omega) (by omega) (by omega)
    refine ⟨_, results_none rfl _ _ _, ⟨_, rfl⟩, .inl ⟨q, ?_⟩⟩
    exact HJ.out _ q q V _ h.j ((Kept.refl _ _).put (.inl (.inl qD)) _) (fun k hk => ⟨.inl hk, by simpa using h.lt k hk⟩)
  case stop =>
    rintro cd pre q2 V hpre ⟨rfl, q, h⟩ hszV hq2 hD
    rw [hs5] at hD ⊢
    gi_wp2_with fail
    refine ⟨by simp, .inl ⟨_, _, rfl, run_takeDeferred hD, ?_⟩⟩
    have qD : q (S + 5) := h.own (S + 5) (by omega) (by omega) (by omega)
    obtain ⟨p, hp, hj⟩ := h.j
    refine ⟨_, results_none rfl _ _ _, ⟨_, rfl⟩, .inr ⟨p, q, hp, ?_⟩⟩
    exact HJx.out _ q q V _ hj ((Kept.refl _ _).put (.inl (.inl qD)) _) (fun k hk => ⟨.inl hk, by simpa using h.lt k hk⟩)
end Rights
end Go.Proofs.Ytekicfaakjbmhaa
