/- The statement RightsWhole holds: whatever regions, whatever memory and whatever byte are handed in, the call answers true, and what was handed in reads as it did. No condition. -/
import Derived.Test.YtekicfaakjbmhaaRightsSame
import Derived.Test.YtekicfaakjbmhaaRightsKnown
import Derived.Test.YtekicfaakjbmhaaRightsOpen
import Derived.Test.YtekicfaakjbmhaaRightsTmps
namespace Go.Proofs.Ytekicfaakjbmhaa.rightsWhole
open Go.ChangeShapes Go.WideShapes Go.ChangeAt Go.RowKit Rights
set_option linter.unusedVariables false
set_option linter.unusedSimpArgs false
attribute [local go_sem] Oper.semAt_some
/-! ### In numbers -/
/-- where the last of these ends -/
def endOf : Int → List (Int × Int) → Int
  | lo, [] => lo
  | _, (a, n) :: l => endOf (a + n) l
theorem endOf_snoc : ∀ (l : List (Int × Int)) (lo : Int) (x : Int × Int), endOf lo (l ++ [x]) = x.1 + x.2
  | [], _, _ => rfl
  | (a, n) :: l, _, x => endOf_snoc l (a + n) x
/-- in how many of these the byte is -/
def cnt (t : Int) : List (Int × Int) → Int
  | [] => 0
  | (a, n) :: l => (if a ≤ t ∧ t < a + n then 1 else 0) + cnt t l
theorem cnt_snoc (t : Int) : ∀ (l : List (Int × Int)) (x : Int × Int), cnt t (l ++ [x]) = cnt t l + (if x.1 ≤ t ∧ t < x.1 + x.2 then 1 else 0)
  | [], x => by simp [cnt]
  | (a, n) :: l, x => by
    have := cnt_snoc t l x
    simp only [List.cons_append, cnt]
    omega
theorem cnt_bd (t : Int) : ∀ (l : List (Int × Int)), 0 ≤ cnt t l ∧ cnt t l ≤ l.length
  | [] => by simp [cnt]
  | (a, n) :: l => by
    have := cnt_bd t l
    simp only [cnt, List.length_cons]
    split <;> omega
theorem segs_step {f : Int → Prop} {hi : Int} : ∀ (pre : List (Int × Int)) (lo : Int) (x : Int × Int) (rest : List (Int × Int)), Segs f hi lo (pre ++ x :: rest) → 0 < x.2 ∧ x.1 + x.2 ≤ hi ∧ lo ≤ x.1 ∧ endOf lo pre ≤ x.1 ∧ (pre ≠ [] → endOf lo pre < x.1)
  | [], lo, (a, n), rest, h => by
    obtain ⟨h1, h2, h3, h4, h5, h6, h7⟩ := h
    exact ⟨h2, h3, h1, h1, fun h => absurd rfl h⟩
  | (b, k) :: pre, lo, x, rest, h => by
    obtain ⟨h1, h2, h3, h4, h5, h6, h7⟩ := h
    obtain ⟨g1, g2, g3, g4, g5⟩ := segs_step pre (b + k) x rest h7
    refine ⟨g1, g2, by omega, g4, fun _ => ?_⟩
    cases pre with
    | cons p pre => exact g5 (by simp)
    | nil =>
      obtain ⟨a, n⟩ := x
      obtain ⟨k1, k2, k3, k4, k5, k6, k7⟩ := h7
      simp only [endOf] at *
      by_cases e : b + k = a
      · exact absurd (k5 a (by omega) (by omega)) (by rw [← e]; exact h6 (by omega))
      · omega
theorem cnt_low {f : Int → Prop} {hi t : Int} : ∀ (l : List (Int × Int)) (lo : Int), t < lo → Segs f hi lo l → cnt t l = 0
  | [], _, _, _ => rfl
  | (a, n) :: l, lo, ht, h => by
    obtain ⟨h1, h2, h3, h4, h5, h6, h7⟩ := h
    have := cnt_low (hi := hi) (t := t) l (a + n) (by omega) h7
    simp only [cnt]
    rw [if_neg (by omega), this]; rfl
theorem cnt_is {f : Int → Prop} {hi t : Int} (hhi : t < hi) : ∀ (l : List (Int × Int)) (lo : Int), lo ≤ t → Segs f hi lo l → (f t → cnt t l = 1) ∧ (¬ f t → cnt t l = 0)
  | [], lo, ht, h => ⟨fun hf => absurd hf (h t ht hhi), fun _ => rfl⟩
  | (a, n) :: l, lo, ht, h => by
    obtain ⟨h1, h2, h3, h4, h5, h6, h7⟩ := h
    simp only [cnt]
    rcases Int.lt_or_le t a with h8 | h8
    · rw [if_neg (by omega), cnt_low l _ (by omega) h7]
      exact ⟨fun hf => absurd hf (h4 t ht h8), fun _ => rfl⟩
    · rcases Int.lt_or_le t (a + n) with h9 | h9
      · rw [if_pos ⟨h8, h9⟩, cnt_low l _ (by omega) h7]
        exact ⟨fun _ => rfl, fun hf => absurd (h5 t h8 h9) hf⟩
      · rw [if_neg (by omega)]
        have := cnt_is hhi l (a + n) h9 h7
        exact ⟨fun hf => by rw [this.1 hf]; rfl, fun hf => by rw [this.2 hf]; rfl⟩
theorem pick_one (c t : Int) (l : List Rg) (x : Rg) (h : (0 ≤ t ∧ t ≤ 4294967295) ∧ ((0 : Int) ≤ 1 ∧ (1 : Int) ≤ 4294967295) ∧ ((0 : Int) ≤ 1 ∧ (1 : Int) ≤ 255)) : overlap x ⟨t, 1, 1, h⟩ = hasB x t := by
  have hx := x.h
  unfold overlap hasB Rg.e
  exact decide_eq_decide.2 (by simp only; omega)
/-! ### The boxes -/
/-- the boxes S, S + 1 (handed in) and S + 2 (the answer), N and N + 1 (in how many, the last end); B: the heap's size when the loop began -/
structure CW (S N B : Nat) (w : World) (m t k la : Int) (q : Nat → Prop) (V : World) : Prop where
  hM : V.heap[S]? = some (.cells #[.int .u32 m] 22 (0, 0))
  hT : V.heap[S + 1]? = some (.cells #[.int .u32 t] 22 (0, 0))
  hR : V.heap[S + 2]? = some (.cells #[.bool false] 4 (0, 0))
  hN : V.heap[N]? = some (.cells #[.int .i64 k] 3 (0, 0))
  hP : V.heap[N + 1]? = some (.cells #[.int .u32 la] 22 (0, 0))
  sn : S + 2 < N
  nb : N + 1 < B
  bel : Below S w V
  qs : ∀ k, q k → N + 1 < k
theorem cw_stable {S N B : Nat} {w : World} {m t k la : Int} {q q' : Nat → Prop} {X Y : World} (h : CW S N B w m t k la q X) (hk : Kept (fun k => q k ∨ (k = B ∨ k = B + 1)) X Y) (hq : ∀ k, q' k → (q k ∨ X.heap.size ≤ k) ∧ k < Y.heap.size) : CW S N B w m t k la q' Y := by
  have hs := h.sn
  have hn := h.nb
  have hbase : ∀ k, k ≤ N + 1 → ¬ (q k ∨ (k = B ∨ k = B + 1)) := by
    rintro k hlt (x | x | x)
    · have := h.qs k x; omega
    · omega
    · omega
  refine ⟨hk.same h.hM (hbase _ (by omega)), hk.same h.hT (hbase _ (by omega)), hk.same h.hR (hbase _ (by omega)), hk.same h.hN (hbase _ (by omega)), hk.same h.hP (hbase _ (by omega)), hs, hn, h.bel.trans (hk.toBelow (by have := lt_of_block h.hN; omega) fun k hlt => hbase k (by omega)), fun k hk' => ?_⟩
  rcases (hq k hk').1 with x | x
  · exact h.qs k x
  · have := lt_of_block h.hP; omega
theorem CW.setP {S N B : Nat} {w : World} {m t k la : Int} {q : Nat → Prop} {V : World} (h : CW S N B w m t k la q V) (la' : Int) : CW S N B w m t k la' q (V.setCell ⟨N + 1, 0, none⟩ (.int .u32 la')) ∧ Kept (fun k => k = N ∨ k = N + 1) V (V.setCell ⟨N + 1, 0, none⟩ (.int .u32 la')) := by
  have hk : Kept (fun k => k = N + 1) V (V.setCell ⟨N + 1, 0, none⟩ (.int .u32 la')) := Kept.setCell (Kept.refl (fun k => k = N + 1) V) (.inl rfl) _
  have hs := h.sn
  exact ⟨⟨hk.same h.hM (by omega), hk.same h.hT (by omega), hk.same h.hR (by omega), hk.same h.hN (by omega), heap_set1 h.hP, hs, h.nb, h.bel.trans (hk.toBelow (by have := lt_of_block h.hN; omega) (fun k _ => by omega)), h.qs⟩, hk.mono fun k _ e => .inr e⟩
theorem CW.setN {S N B : Nat} {w : World} {m t k la : Int} {q : Nat → Prop} {V : World} (h : CW S N B w m t k la q V) (k' : Int) : CW S N B w m t k' la q (V.setCell ⟨N, 0, none⟩ (.int .i64 k')) ∧ Kept (fun k => k = N ∨ k = N + 1) V (V.setCell ⟨N, 0, none⟩ (.int .i64 k')) := by
  have hk : Kept (fun k => k = N) V (V.setCell ⟨N, 0, none⟩ (.int .i64 k')) := Kept.setCell (Kept.refl (fun k => k = N) V) (.inl rfl) _
  have hs := h.sn
  exact ⟨⟨hk.same h.hM (by omega), hk.same h.hT (by omega), hk.same h.hR (by omega), heap_set1 h.hN, hk.same h.hP (by omega), hs, h.nb, h.bel.trans (hk.toBelow (by have := lt_of_block h.hN; omega) (fun k _ => by omega)), h.qs⟩, hk.mono fun k _ e => .inl e⟩
theorem CW.reads {S N B : Nat} {w : World} {m t k la : Int} {q : Nat → Prop} {V : World} (h : CW S N B w m t k la q V) :
    V.cell? ⟨S, 0, none⟩ = some (.int .u32 m) ∧ V.cell? ⟨S + 1, 0, none⟩ = some (.int .u32 t) ∧ V.cell? ⟨N, 0, none⟩ = some (.int .i64 k) ∧ V.frozen? ⟨N, 0, none⟩ = false ∧ V.cell? ⟨N + 1, 0, none⟩ = some (.int .u32 la) ∧ V.frozen? ⟨N + 1, 0, none⟩ = false := by
  simp [World.cell?, World.frozen?, h.hM, h.hT, h.hN, h.hP]
set_option maxHeartbeats 8000000 in
set_option maxRecDepth 100000 in
theorem walk (w : World) (a : Option Addr) (n c : Nat) (l : List Rg) (h : RRow w a n l) (m : Int) (hm : 0 ≤ m ∧ m ≤ 4294967295) (t : Int) (ht : 0 ≤ t ∧ t ≤ 4294967295) :
    Calls Try.prog 7 #[.slice a n c, .int .u32 m, .int .u32 t] w fun e w' => e = .returned (.bool true) ∧ Below w.heap.size w w' := by
  have hE := Posts.ext_rel
  obtain ⟨S, hS⟩ : ∃ S, w.heap.size = S := ⟨_, rfl⟩
  have HRow := Lib.hid h
  have HBw : Hid (Below w.heap.size w (((w.alloc (.cells #[.int .u32 m] 22)).alloc (.cells #[.int .u32 t] 22)).alloc (.cells #[.bool false] 4))) := by show Below _ _ _; go_grown
  have HBt : Hid ((((w.alloc (.cells #[.int .u32 m] 22)).alloc (.cells #[.int .u32 t] 22)).alloc (.cells #[.bool false] 4)).heap[S]? = some (.cells #[.int .u32 m] 22 (0, 0)) ∧ (((w.alloc (.cells #[.int .u32 m] 22)).alloc (.cells #[.int .u32 t] 22)).alloc (.cells #[.bool false] 4)).heap[S + 1]? = some (.cells #[.int .u32 t] 22 (0, 0)) ∧ (((w.alloc (.cells #[.int .u32 m] 22)).alloc (.cells #[.int .u32 t] 22)).alloc (.cells #[.bool false] 4)).heap[S + 2]? = some (.cells #[.bool false] 4 (0, 0)) ∧ (((w.alloc (.cells #[.int .u32 m] 22)).alloc (.cells #[.int .u32 t] 22)).alloc (.cells #[.bool false] 4)).heap.size = S + 3) := by
    subst hS
    refine ⟨(Below.heap_alloc _ _ _ (by simp; omega)).trans (heap_alloc2_old _ _ _), (Below.heap_alloc _ _ _ (by simp)).trans (heap_alloc2_new _ _ _), ?_, by simp⟩
    have := World.alloc_heap_new ((w.alloc (.cells #[.int .u32 m] 22)).alloc (.cells #[.int .u32 t] 22)) (.cells #[.bool false] 4)
    rwa [World.size_alloc, World.size_alloc] at this
  clear h
  refine (callsIn_wide (n := 0)).1 ?_
  refine callsIn_of_wp_marks Try.func7 rfl trivial ?_ rfl
  simp only [Try.ntmps7, List.size_toArray, List.length_cons, List.length_nil, Nat.reduceAdd, Nat.reduceSub, Array.replicate_succ, Array.replicate_zero, List.push_toArray, List.append_toArray, List.nil_append, List.cons_append]
  refine (wpIn_wide (n := 0)).2 ?_
  go_wp2_with fail
  refine (known_any _).mono ?_
  rintro e W0 ⟨rfl, hb⟩
  obtain ⟨b0, b1, b2, b3⟩ := HBt.out
  rw [b3] at hb
  have H0 := Lib.hid ((hb.block _ (by omega)).trans b0)
  have H1 := Lib.hid ((hb.block _ (by omega)).trans b1)
  have H2 := Lib.hid ((hb.block _ (by omega)).trans b2)
  have c0 : W0.cell? ⟨S, 0, none⟩ = some (.int .u32 m) := by have := H0.out; simp [World.cell?, this]
  have c1 : W0.cell? ⟨S + 1, 0, none⟩ = some (.int .u32 t) := by have := H1.out; simp [World.cell?, this]
  have c2 : W0.cell? ⟨S + 1 + 1, 0, none⟩ = some (.bool false) ∧ W0.frozen? ⟨S + 1 + 1, 0, none⟩ = false := by have := H2.out; simp [World.cell?, World.frozen?, this]
  obtain ⟨c2, c3⟩ := c2
  have HB := Lib.hid (HBw.out.trans (hb.mono (by omega)))
  have hSz : S + 3 ≤ W0.heap.size := by have := hb.size; omega
  clear hb b0 b1 b2 b3 HBt HBw
  have HRow0 := Lib.hid (HRow.out.below HB.out)
  by_cases hbad : 20 < n ∨ 262144 < m ∨ m ≤ t
  · have hc : (decide ((20 : Int) < (n : Int)) = true) ∨ (decide ((20 : Int) < (n : Int)) = false ∧ decide (262144 < m) = true) ∨ (decide ((20 : Int) < (n : Int)) = false ∧ decide (262144 < m) = false ∧ decide (m ≤ t) = true) := by
      simp only [decide_eq_true_eq, decide_eq_false_iff_not]; omega
    have hset : (W0.setCell ⟨S + 1 + 1, 0, none⟩ (.bool true)).cell? ⟨S + 1 + 1, 0, none⟩ = some (.bool true) := by have := heap_set1 (v := .bool true) H2.out; simp [World.cell?, this]
    have hbel : Below S w (W0.setCell ⟨S + 1 + 1, 0, none⟩ (.bool true)) := by rw [← hS]; exact HB.out.setCell (by simp; omega) _
    have HSet := Lib.hid hset
    have HBel := Lib.hid hbel
    clear hset hbel
    rcases hc with hd1 | ⟨hd1, hd2⟩ | ⟨hd1, hd2, hd3⟩
    all_goals
      go_wp2_with fail
      have hset := HSet.out
      refine ⟨.bool true, by simp [results, Try.f7, go_sem, hset], rfl, by rw [hS]; exact HBel.out⟩
  have hd1 : decide ((20 : Int) < (n : Int)) = false := by simp; omega
  have hd2 : decide (262144 < m) = false := by simp; omega
  have hd3 : decide (m ≤ t) = false := by simp; omega
  have hn20 : n ≤ 20 := by omega
  have htm : t < m := by omega
  have hm2 : m ≤ 262144 := by omega
  have hmo : memOf m = m := by unfold memOf; rw [if_neg (by omega)]
  clear hbad
  have c4 : ((W0.alloc (.cells #[.int .i64 0] 3)).alloc (.cells #[.int .u32 0] 22)).cell? ⟨S, 0, none⟩ = some (.int .u32 m) := by
    rw [World.cell?_of_block (Below.heap_alloc _ _ _ (by simp; omega)), World.cell?_of_block (Below.heap_alloc _ _ _ (by show S < _; omega))]; exact c0
  go_wp2_with fail
  have hbA : Below W0.heap.size W0 ((W0.alloc (.cells #[.int .i64 0] 3)).alloc (.cells #[.int .u32 0] 22)) := by go_grown
  have a0 := heap_alloc2_old W0 (.cells #[.int .i64 0] 3) (.cells #[.int .u32 0] 22)
  have a1 := heap_alloc2_new W0 (.cells #[.int .i64 0] 3) (.cells #[.int .u32 0] 22)
  refine (free_any (HRow0.out.below hbA) (by omega) m hm).mono ?_
  rintro e W ⟨lb, mb, g, cp, l', rfl, hbel, hp, hs, hF⟩
  obtain ⟨L, hLf⟩ : ∃ L, free (memOf m) l' = L := ⟨_, rfl⟩
  have HSeg : Hid (Segs (Free l) m 0 L) := by show Segs _ _ _ _; rw [← hLf, hmo]; have := free_segs hp hs (memOf_bd hm).1; rwa [hmo] at this
  have hLl : L.length ≤ 1000 := by rw [← hLf]; have := free_len (memOf m) l'; rw [hp.length_eq] at this; have := HRow.out.1; omega
  obtain ⟨N, hN⟩ : ∃ N, W0.heap.size = N := ⟨_, rfl⟩
  obtain ⟨B, hB⟩ : ∃ B, W.heap.size = B := ⟨_, rfl⟩
  have hN0 : ((W0.alloc (.cells #[.int .i64 0] 3)).alloc (.cells #[.int .u32 0] 22)).heap.size = N + 2 := by simp [hN]
  rw [hN] at a0 a1 hbA hSz
  rw [hN0] at hbel
  rw [hN0, hB] at hF
  have hNB : N + 1 < B := by have := hbel.size; omega
  have hcw : CW S N B w m t 0 0 (fun _ => False) W := by
    refine ⟨?_, ?_, ?_, ?_, ?_, by omega, hNB, ?_, fun k h => h.elim⟩
    · exact (hbel.block _ (by omega)).trans ((hbA.block _ (by omega)).trans H0.out)
    · exact (hbel.block _ (by omega)).trans ((hbA.block _ (by omega)).trans H1.out)
    · exact (hbel.block _ (by omega)).trans ((hbA.block _ (by omega)).trans H2.out)
    · exact (hbel.block _ (by omega)).trans a0
    · exact (hbel.block _ (by omega)).trans a1
    · have := HB.out; rw [hS] at this; exact this.trans ((hbA.mono (by omega)).trans (hbel.mono (by omega)))
  have HSeq : Hid (SeqQ Try.prog 27 #[.pointer (some ⟨lb, 0, none⟩), .pointer (some ⟨mb, 0, none⟩)] encP (fun k => N + 2 ≤ k ∧ k < B) L W) := by
    show SeqQ _ _ _ _ _ _ _
    rw [← hLf]
    exact seq_free (fun k => N + 2 ≤ k ∧ k < B) lb mb g n cp l' (memOf m) (memOf_bd hm) (by omega) W hF
  have HCW := Lib.hid hcw
  rw [hN]
  clear hbA hbel hp hs hF hLf hN0 hcw HRow0 HB H0 H1 H2 c0 c1 c2 c3 c4 a0 a1 hN hmo
  go_wp2_with fail
  refine (wpIn_wide (n := 0)).1 ?_
  refine wpIn_rangeFunc_q (gf := 27) (lb := #[.pointer (some ⟨lb, 0, none⟩), .pointer (some ⟨mb, 0, none⟩)]) rfl (enters_of Try.func27 (by kernel_rfl) rfl)
    HSeq.out (Kept.refl _ _) (fun k hk => by rw [hB]; exact hk.2) (fun _ => rfl)
    (fun pre q V => CW S N B w m t (cnt t pre) (endOf 0 pre) q V) (fun _ _ _ _ => False) ?stab (fun _ _ _ _ _ _ h _ _ => h.elim) ?h0
    (fun x => { tmps := #[.slice a n c, .int .u32 m, .int .u32 t, undef, .pointer (some ⟨S, 0, none⟩), .pointer (some ⟨S + 1, 0, none⟩), .pointer (some ⟨S + 1 + 1, 0, none⟩), .pointer (some ⟨N, 0, none⟩), .pointer (some ⟨N + 1, 0, none⟩), .int .u32 x.1, .int .u32 x.2, undef, undef, undef, .bool true, .bool false, .slice a n c, .int .i64 n, .bool false, .bool false, .int .u32 m, .bool false, .bool false, .bool false, .int .u32 t, .int .u32 m, .bool false, .bool false, .slice a n c, .int .u32 m, .func (.func 27) #[] #[.pointer (some ⟨lb, 0, none⟩), .pointer (some ⟨mb, 0, none⟩)], .int .u32 x.1, .int .u32 x.2, undef, undef, undef, undef, undef, undef, undef, undef, undef, undef, undef, undef, undef, undef, undef, undef, undef, undef, undef, undef, undef, undef, undef, undef, undef, undef, undef, undef, undef, undef, undef, undef, undef, undef, undef, undef, undef, undef, undef, undef, undef, undef, undef, undef, undef, undef, undef, undef, undef, undef, undef, undef, undef, undef, undef, undef, undef, undef, undef, undef, undef, undef, undef], defers := [] }) ?assign ?body ?done ?stop
  case stab => rw [hB]; exact fun s q q' X Y h hk hq => cw_stable h hk hq
  case h0 => exact HCW.out
  case stop =>
    rintro cd pre q V hpre h
    exact h.elim
  case assign =>
    intro l x W K hK
    unfold encP
    gi_wp2_with fail
    exact hK
  case body =>
    rintro yl pre x q V hpx hq2 hszV h
    rw [hB] at hq2 hszV ⊢
    have hpl : pre.length ≤ 1000 := by have := hpx.length_le; simp at this; omega
    obtain ⟨rest, hrest⟩ := hpx
    have hst := HSeg.out
    rw [← hrest, List.append_assoc] at hst
    obtain ⟨s1, s2, s3, s4, s5⟩ := segs_step pre 0 x rest hst
    have s6 : 0 < endOf 0 pre → endOf 0 pre < x.1 := fun h0 => by
      by_cases e : pre = []
      · subst e; simp [endOf] at h0
      · exact s5 e
    have hkb := cnt_bd t pre
    have Ecnt : Hid (cnt t (pre ++ [x]) = cnt t pre + (if x.1 ≤ t ∧ t < x.1 + x.2 then 1 else 0)) := cnt_snoc t pre x
    have Eend : Hid (endOf 0 (pre ++ [x]) = x.1 + x.2) := endOf_snoc pre 0 x
    clear s5 hst hrest
    generalize endOf 0 pre = la at *
    generalize cnt t pre = k at *
    have HC := Lib.hid h
    obtain ⟨r0, r1, r2, r3, r4, r5⟩ := h.reads
    obtain ⟨t0, t1, t2, t3, t4, t5⟩ := (h.setP (x.1 + x.2)).1.reads
    have HQ := Lib.hid hq2
    have hcn := h.sn
    have hck := h.nb
    clear h hq2 hszV
    have w1 : IntKind.u32.wrap (x.1 + x.2) = x.1 + x.2 := by simp [IntKind.wrap, IntKind.bits, IntKind.signed]; omega
    have w2 : IntKind.i64.wrap (k + 1) = k + 1 := by simp [IntKind.wrap, IntKind.bits, IntKind.signed]; omega
    have f1 : (x.2 == 0) = false := by simp; omega
    have f2 : decide (m < x.1 + x.2) = false := by simp; omega
    have f3 : decide (x.1 < la) = false := by simp; omega
    have hkept : ∀ (X : World), Kept (fun k => k = N ∨ k = N + 1) V X → Kept (fun k => ¬ q k ∧ ¬ (N + 2 ≤ k ∧ k < B) ∧ k ≠ B ∧ k ≠ B + 1) V X := fun X hX => hX.mono fun j _ e => by
      rcases e with e | e
      · subst e; exact ⟨fun h => by have := HC.out.qs _ h; omega, fun h => by omega, by omega, by omega⟩
      · subst e; exact ⟨fun h => by have := HC.out.qs _ h; omega, fun h => by omega, by omega, by omega⟩
    have HKept := Lib.hid hkept
    clear hkept
    have hla : (decide (0 < la) = false) ∨ (decide (0 < la) = true ∧ (x.1 == la) = false) := by
      by_cases h0 : 0 < la
      · have := s6 h0; refine .inr ⟨by simpa using h0, by simp; omega⟩
      · exact .inl (by simpa using h0)
    have htt : (decide (x.1 ≤ t) = false) ∨ (decide (x.1 ≤ t) = true ∧ decide (t < x.1 + x.2) = false) ∨ (decide (x.1 ≤ t) = true ∧ decide (t < x.1 + x.2) = true) := by
      simp only [decide_eq_true_eq, decide_eq_false_iff_not]; omega
    rcases hla with f4 | ⟨f4, f5⟩
    all_goals
      rcases htt with f6 | ⟨f6, f7⟩ | ⟨f6, f7⟩
      · gi_wp2_with fail
        try simp only [Exit.inBlock, postQ]
        have hno : ¬ (x.1 ≤ t ∧ t < x.1 + x.2) := by simp only [decide_eq_true_eq, decide_eq_false_iff_not] at f6; omega
        have hP := HC.out.setP (x.1 + x.2)
        refine ⟨HKept.out _ hP.2, ?_⟩
        rw [Ecnt.out, Eend.out, if_neg hno, Int.add_zero]
        exact hP.1
      · gi_wp2_with fail
        try simp only [Exit.inBlock, postQ]
        have hno : ¬ (x.1 ≤ t ∧ t < x.1 + x.2) := by simp only [decide_eq_true_eq, decide_eq_false_iff_not] at f6 f7; omega
        have hP := HC.out.setP (x.1 + x.2)
        refine ⟨HKept.out _ hP.2, ?_⟩
        rw [Ecnt.out, Eend.out, if_neg hno, Int.add_zero]
        exact hP.1
      · gi_wp2_with fail
        try simp only [Exit.inBlock, postQ]
        have hyes : x.1 ≤ t ∧ t < x.1 + x.2 := by simp only [decide_eq_true_eq, decide_eq_false_iff_not] at f6 f7; omega
        have hP := HC.out.setP (x.1 + x.2)
        have hQ := hP.1.setN (k + 1)
        refine ⟨HKept.out _ (hP.2.trans hQ.2), ?_⟩
        rw [Ecnt.out, Eend.out, if_pos hyes]
        exact hQ.1
  case done =>
    rintro q V h hszV hq2 hD
    rw [hB] at hD hszV ⊢
    have HC := Lib.hid h
    have HD := Lib.hid hD
    have HCnt := Lib.hid (cnt_is (t := t) htm L 0 ht.1 HSeg.out)
    clear h hD hq2
    go_wp2_with fail
    have HLn : Hid (l.length = n) := HRow.out.1
    go_loopw [11, 71] (fun ow iv wr => ∃ j : Nat, j ≤ n ∧ iv = .int .i64 j ∧ ow = .bool (!frT l j t) ∧ Below V.heap.size V wr) (fun _ iv _ => n - (intOf iv).toNat)
    case atStart => exact ⟨0, by omega, rfl, rfl, Below.refl _ _⟩
    case round =>
      obtain ⟨j, hj, rfl, rfl, hbel⟩ := hrel
      have HBl := Lib.hid hbel
      have hc1 : wr.cell? ⟨S + 1, 0, none⟩ = some (.int .u32 t) := by
        have h1 := (hbel.block _ (lt_of_block HC.out.hT)).trans HC.out.hT
        simp [World.cell?, h1]
      by_cases hjn : j < n
      · have j0 : (0 : Int) ≤ j := by omega
        have j1 : (j : Int) < n := by omega
        have hdj : decide ((j : Int) < (n : Int)) = true := by simp; omega
        have HStep : Hid (frT l (j + 1) t = (frT l j t && !hasB l[j]! t)) := frT_succ l j t (by rw [HLn.out]; exact hjn)
        obtain ⟨hl, hrow⟩ := HRow.out.below (by rw [hS]; exact HC.out.bel.trans (hbel.mono (by have := lt_of_block HC.out.hM; omega)))
        obtain ⟨rb, off, rfl, hrl, hin⟩ := hrow.resolve_left (by omega)
        obtain ⟨g0, g1, g2⟩ := hin.at j (by omega)
        clear hl hrow hrl hin hbel
        generalize l[j]! = x at *
        go_wp2_with fail
        have hz := lt_of_block ((HBl.out.block _ (lt_of_block HC.out.hT)).trans HC.out.hT)
        have hc2 : (wr.alloc (.cells #[.int .u32 x.b, .int .u32 x.s, .int .u8 x.r] 24)).cell? ⟨S + 1, 0, none⟩ = some (.int .u32 t) := by rw [World.cell?_of_block (Below.heap_alloc _ _ _ hz)]; exact hc1
        have HV := Lib.hid (World.alloc_heap_new wr (.cells #[.int .u32 x.b, .int .u32 x.s, .int .u8 x.r] 24))
        have HB2 : Hid (Below V.heap.size V (wr.alloc (.cells #[.int .u32 x.b, .int .u32 x.s, .int .u8 x.r] 24))) := HBl.out.alloc HBl.out.size _
        have hz' : S + 1 < (wr.alloc (.cells #[.int .u32 x.b, .int .u32 x.s, .int .u8 x.r] 24)).heap.size := by simp; omega
        clear g0 g1 g2 hc1 hz
        obtain ⟨U, hU⟩ : ∃ U, wr.heap.size = U := ⟨_, rfl⟩
        rw [hU] at HV ⊢
        generalize wr.alloc (.cells #[.int .u32 x.b, .int .u32 x.s, .int .u8 x.r] 24) = W1 at *
        have hlt : U < W1.heap.size := lt_of_block HV.out
        obtain ⟨x0, x1, x2⟩ := cells3 HV.out
        have hz2 : S + 1 < W1.heap.size := hz'
        cases hf : frT l j t with
        | true =>
          rw [hf, Bool.true_and] at HStep
          clear hf
          refine (wpIn_wide (n := 0)).1 (Posts.wpIn_region_tail hE 7 2 (Posts.At [Posts.is (.bool (false)), Posts.is (.bool (false)), Posts.on (true) (.agg #[.int .u32 x.b, .int .u32 x.s, .int .u8 x.r]), Posts.on (true) (.int .u32 t), Posts.on (true) (.agg #[.int .u32 t, .int .u32 1, .int .u8 1]), Posts.on (true) (.bool (hasB x t)), Posts.is (.bool (hasB x t))]) (fun a _ => a.tmps.getD 11 undef = .bool false) (by kernel_rfl) (by decide) (by kernel_rfl) (by kernel_rfl) (by kernel_rfl)
            (Posts.stable_at _ (by repeat' (first | exact trivial | (refine And.intro ?_ ?_) | exact Posts.is_stable _ | exact Posts.on_stable _ _))) rfl ?_ ?_)
          refine ⟨?_, ?_, ?_, ?_, ?_, ?_, ?_, trivial⟩
          · intro a X hX hS hD hJ' hU
            have hJ : a.tmps.getD 11 undef = .bool false := hJ'
            obtain ⟨x0, x1, x2⟩ := cells3 ((Posts.Ext.blk hX _ (lt_of_block HV.out)).trans HV.out)
            have y1 : X.cell? ⟨S + 1, 0, none⟩ = some (.int .u32 t) := by rw [World.cell?_of_block (Posts.Ext.blk hX _ hz2)]; exact hc2
            obtain ⟨x0, x1, x2⟩ := cells3 ((Posts.Ext.blk hX _ (lt_of_block HV.out)).trans HV.out)
            have y1 : X.cell? ⟨S + 1, 0, none⟩ = some (.int .u32 t) := by rw [World.cell?_of_block (Posts.Ext.blk hX _ hz2)]; exact hc2
            have d11 := Posts.slot (show a.eval (.tmp 11) = .bool false from hJ)
            exact Posts.op_value (fun _ => trivial) rfl rfl (by intro c h; cases h) rfl (by rw [hS.size]; simp) (v := .bool false) (by simp [execOp, d11, go_sem]) rfl (hE.refl _) ((Posts.put_other _ _ _ _ (by decide)).trans hJ)
          · intro a X hX hS hD hJ' hU
            have hJ : a.tmps.getD 11 undef = .bool false := hJ'
            obtain ⟨x0, x1, x2⟩ := cells3 ((Posts.Ext.blk hX _ (lt_of_block HV.out)).trans HV.out)
            have y1 : X.cell? ⟨S + 1, 0, none⟩ = some (.int .u32 t) := by rw [World.cell?_of_block (Posts.Ext.blk hX _ hz2)]; exact hc2
            have d75 := Posts.slot (show a.eval (.tmp 75) = .bool (false) from hD.1)
            exact Posts.op_value (fun _ => trivial) rfl rfl (by intro c h; cases h) rfl (by rw [hS.size]; simp) (v := .bool (false)) (by simp [execOp, d75,  go_sem, x0, x1, x2, y1]) rfl (hE.refl _) ((Posts.put_other _ _ _ _ (by decide)).trans hJ)
          · intro a X hX hS hD hJ' hU
            have hJ : a.tmps.getD 11 undef = .bool false := hJ'
            obtain ⟨x0, x1, x2⟩ := cells3 ((Posts.Ext.blk hX _ (lt_of_block HV.out)).trans HV.out)
            have y1 : X.cell? ⟨S + 1, 0, none⟩ = some (.int .u32 t) := by rw [World.cell?_of_block (Posts.Ext.blk hX _ hz2)]; exact hc2
            have dg := Posts.slot (show a.eval (.tmp 76) = .bool (false) from hD.1)
            by_cases hg : (true) = true
            · have d13 := Posts.slot (show a.eval (.tmp 13) = .pointer (some ⟨U, 0, none⟩) from hS.other 13 rfl)
              exact Posts.op_value (fun _ => trivial) rfl (Posts.wanted_yes rfl rfl rfl (by simpa [hg] using dg)) (by intro c h; cases h) rfl (by rw [hS.size]; simp) (v := .agg #[.int .u32 x.b, .int .u32 x.s, .int .u8 x.r]) (by simp [execOp, d13, hg,  go_sem, x0, x1, x2, y1]) (fun _ => rfl) (hE.refl _) ((Posts.put_other _ _ _ _ (by decide)).trans hJ)
            · exact Posts.op_skip hE (fun _ => trivial) rfl (Posts.wanted_no rfl rfl rfl (by simpa [hg] using dg)) rfl (by rw [hS.size]; simp) (fun h => absurd h hg) ((Posts.put_other _ _ _ _ (by decide)).trans hJ)
          · intro a X hX hS hD hJ' hU
            have hJ : a.tmps.getD 11 undef = .bool false := hJ'
            obtain ⟨x0, x1, x2⟩ := cells3 ((Posts.Ext.blk hX _ (lt_of_block HV.out)).trans HV.out)
            have y1 : X.cell? ⟨S + 1, 0, none⟩ = some (.int .u32 t) := by rw [World.cell?_of_block (Posts.Ext.blk hX _ hz2)]; exact hc2
            have dg := Posts.slot (show a.eval (.tmp 76) = .bool (false) from hD.1)
            by_cases hg : (true) = true
            · have d5 := Posts.slot (show a.eval (.tmp 5) = .pointer (some ⟨S + 1, 0, none⟩) from hS.other 5 rfl)
              exact Posts.op_value (fun _ => trivial) rfl (Posts.wanted_yes rfl rfl rfl (by simpa [hg] using dg)) (by intro c h; cases h) rfl (by rw [hS.size]; simp) (v := .int .u32 t) (by simp [execOp, d5, hg,  go_sem, x0, x1, x2, y1]) (fun _ => rfl) (hE.refl _) ((Posts.put_other _ _ _ _ (by decide)).trans hJ)
            · exact Posts.op_skip hE (fun _ => trivial) rfl (Posts.wanted_no rfl rfl rfl (by simpa [hg] using dg)) rfl (by rw [hS.size]; simp) (fun h => absurd h hg) ((Posts.put_other _ _ _ _ (by decide)).trans hJ)
          · intro a X hX hS hD hJ' hU
            have hJ : a.tmps.getD 11 undef = .bool false := hJ'
            obtain ⟨x0, x1, x2⟩ := cells3 ((Posts.Ext.blk hX _ (lt_of_block HV.out)).trans HV.out)
            have y1 : X.cell? ⟨S + 1, 0, none⟩ = some (.int .u32 t) := by rw [World.cell?_of_block (Posts.Ext.blk hX _ hz2)]; exact hc2
            have dg := Posts.slot (show a.eval (.tmp 76) = .bool (false) from hD.2.1)
            by_cases hg : (true) = true
            · have d78 := Posts.slot (show a.eval (.tmp 78) = .int .u32 t from (hD.1 hg))
              refine Posts.op_call (fun _ => trivial) rfl rfl (Posts.wanted_yes rfl rfl rfl (by simpa [hg] using dg)) (by intro c h; cases h) rfl (by rw [hS.size]; simp) 20 #[.int .u32 t, .int .u32 1, .int .u8 1] (by simp [d78, go_sem]) ?_
              refine callsIn_wide.2 ((of_any t 1 1 X).mono ?_)
              rintro e Y ⟨rfl, hXY⟩
              exact ⟨_, rfl, (fun _ => rfl), hXY, ((Posts.put_other _ _ _ _ (by decide)).trans hJ)⟩
            · exact Posts.op_skip hE (fun _ => trivial) rfl (Posts.wanted_no rfl rfl rfl (by simpa [hg] using dg)) rfl (by rw [hS.size]; simp) (fun h => absurd h hg) ((Posts.put_other _ _ _ _ (by decide)).trans hJ)
          · intro a X hX hS hD hJ' hU
            have hJ : a.tmps.getD 11 undef = .bool false := hJ'
            obtain ⟨x0, x1, x2⟩ := cells3 ((Posts.Ext.blk hX _ (lt_of_block HV.out)).trans HV.out)
            have y1 : X.cell? ⟨S + 1, 0, none⟩ = some (.int .u32 t) := by rw [World.cell?_of_block (Posts.Ext.blk hX _ hz2)]; exact hc2
            have dg := Posts.slot (show a.eval (.tmp 76) = .bool (false) from hD.2.2.2.1)
            by_cases hg : (true) = true
            · have d77 := Posts.slot (show a.eval (.tmp 77) = .agg #[.int .u32 x.b, .int .u32 x.s, .int .u8 x.r] from (hD.1 hg))
              have d79 := Posts.slot (show a.eval (.tmp 79) = .agg #[.int .u32 t, .int .u32 1, .int .u8 1] from (hD.2.1 hg))
              refine Posts.op_call (fun _ => trivial) rfl rfl (Posts.wanted_yes rfl rfl rfl (by simpa [hg] using dg)) (by intro c h; cases h) rfl (by rw [hS.size]; simp) 11 #[.agg #[.int .u32 x.b, .int .u32 x.s, .int .u8 x.r], .agg #[.int .u32 t, .int .u32 1, .int .u8 1]] (by simp [d77, d79, go_sem]) ?_
              refine callsIn_wide.2 ((overlap_any x ⟨t, 1, 1, by omega⟩ X).mono ?_)
              rintro e Y ⟨rfl, hXY⟩
              exact ⟨_, rfl, (fun _ => by rw [pick_one 0 t [] x (by omega)]), hXY, ((Posts.put_other _ _ _ _ (by decide)).trans hJ)⟩
            · exact Posts.op_skip hE (fun _ => trivial) rfl (Posts.wanted_no rfl rfl rfl (by simpa [hg] using dg)) rfl (by rw [hS.size]; simp) (fun h => absurd h hg) ((Posts.put_other _ _ _ _ (by decide)).trans hJ)
          · intro a X hX hS hD hJ' hU
            have hJ : a.tmps.getD 11 undef = .bool false := hJ'
            obtain ⟨x0, x1, x2⟩ := cells3 ((Posts.Ext.blk hX _ (lt_of_block HV.out)).trans HV.out)
            have y1 : X.cell? ⟨S + 1, 0, none⟩ = some (.int .u32 t) := by rw [World.cell?_of_block (Posts.Ext.blk hX _ hz2)]; exact hc2
            have d76 := Posts.slot (show a.eval (.tmp 76) = .bool (false) from hD.1)
            have d80 := Posts.slot (show a.eval (.tmp 80) = .bool (hasB x t) from hD.2.1 rfl)
            exact Posts.op_value (fun _ => trivial) rfl rfl (by intro c h; cases h) rfl (by rw [hS.size]; simp) (v := .bool (hasB x t)) (by simp [execOp, d76, d80, go_sem]) rfl (hE.refl _) ((Posts.put_other _ _ _ _ (by decide)).trans hJ)
          · intro a0 Y hY hS hJ hL
            have p81 := Posts.slot (show a0.eval (.tmp 81) = .bool (hasB x t) from hL.2.2.2.2.2.2.1)
            refine Posts.tail_op 7 (by kernel_rfl) (Posts.op_val (fun _ => trivial) rfl rfl (by intro c h; cases h) (v := .bool (hasB x t)) (Y := Y) (by simp [execOp, p81, go_sem]) ?_)
            refine ⟨by kernel_rfl, ?_⟩
            have h96 := hS.frame [75, 76, 77, 78, 79, 80, 81, 11] (fun t ht => by simp [Posts.isDst] at ht; rcases ht with h | h | h | h | h | h | h | h <;> subst h <;> simp)
            simp only [List.foldl_cons, List.foldl_nil] at h96
            have hdf := hS.defers
            generalize a0.tmps.getD 75 undef = v75 at *
            generalize a0.tmps.getD 76 undef = v76 at *
            generalize a0.tmps.getD 77 undef = v77 at *
            generalize a0.tmps.getD 78 undef = v78 at *
            generalize a0.tmps.getD 79 undef = v79 at *
            generalize a0.tmps.getD 80 undef = v80 at *
            generalize a0.tmps.getD 81 undef = v81 at *
            generalize a0.tmps.getD 11 undef = v11 at *
            clear hL hS p81
            obtain ⟨tm, df⟩ := a0
            simp only at h96 hdf
            subst h96
            subst hdf
            simp only [Exit.inBlock, Exit.then]
            rename_i hK
            refine hK _ _ ?_
            go_wp2_with fail
            go_roundw
            case rel => exact ⟨j + 1, by omega, by go_num, by rw [HStep.out]; simp, HB2.out.trans (Below.mono hY HB2.out.size)⟩
            case measure => simp [intOf]; omega
        | false =>
          rw [hf, Bool.false_and] at HStep
          clear hf
          refine (wpIn_wide (n := 0)).1 (Posts.wpIn_region_tail hE 7 2 (Posts.At [Posts.is (.bool (true)), Posts.is (.bool (true)), Posts.on (false) (.agg #[.int .u32 x.b, .int .u32 x.s, .int .u8 x.r]), Posts.on (false) (.int .u32 t), Posts.on (false) (.agg #[.int .u32 t, .int .u32 1, .int .u8 1]), Posts.on (false) (.bool (hasB x t)), Posts.is (.bool (true))]) (fun a _ => a.tmps.getD 11 undef = .bool true) (by kernel_rfl) (by decide) (by kernel_rfl) (by kernel_rfl) (by kernel_rfl)
            (Posts.stable_at _ (by repeat' (first | exact trivial | (refine And.intro ?_ ?_) | exact Posts.is_stable _ | exact Posts.on_stable _ _))) rfl ?_ ?_)
          refine ⟨?_, ?_, ?_, ?_, ?_, ?_, ?_, trivial⟩
          · intro a X hX hS hD hJ' hU
            have hJ : a.tmps.getD 11 undef = .bool true := hJ'
            obtain ⟨x0, x1, x2⟩ := cells3 ((Posts.Ext.blk hX _ (lt_of_block HV.out)).trans HV.out)
            have y1 : X.cell? ⟨S + 1, 0, none⟩ = some (.int .u32 t) := by rw [World.cell?_of_block (Posts.Ext.blk hX _ hz2)]; exact hc2
            obtain ⟨x0, x1, x2⟩ := cells3 ((Posts.Ext.blk hX _ (lt_of_block HV.out)).trans HV.out)
            have y1 : X.cell? ⟨S + 1, 0, none⟩ = some (.int .u32 t) := by rw [World.cell?_of_block (Posts.Ext.blk hX _ hz2)]; exact hc2
            have d11 := Posts.slot (show a.eval (.tmp 11) = .bool true from hJ)
            exact Posts.op_value (fun _ => trivial) rfl rfl (by intro c h; cases h) rfl (by rw [hS.size]; simp) (v := .bool true) (by simp [execOp, d11, go_sem]) rfl (hE.refl _) ((Posts.put_other _ _ _ _ (by decide)).trans hJ)
          · intro a X hX hS hD hJ' hU
            have hJ : a.tmps.getD 11 undef = .bool true := hJ'
            obtain ⟨x0, x1, x2⟩ := cells3 ((Posts.Ext.blk hX _ (lt_of_block HV.out)).trans HV.out)
            have y1 : X.cell? ⟨S + 1, 0, none⟩ = some (.int .u32 t) := by rw [World.cell?_of_block (Posts.Ext.blk hX _ hz2)]; exact hc2
            have d75 := Posts.slot (show a.eval (.tmp 75) = .bool (true) from hD.1)
            exact Posts.op_value (fun _ => trivial) rfl rfl (by intro c h; cases h) rfl (by rw [hS.size]; simp) (v := .bool (true)) (by simp [execOp, d75,  go_sem, x0, x1, x2, y1]) rfl (hE.refl _) ((Posts.put_other _ _ _ _ (by decide)).trans hJ)
          · intro a X hX hS hD hJ' hU
            have hJ : a.tmps.getD 11 undef = .bool true := hJ'
            obtain ⟨x0, x1, x2⟩ := cells3 ((Posts.Ext.blk hX _ (lt_of_block HV.out)).trans HV.out)
            have y1 : X.cell? ⟨S + 1, 0, none⟩ = some (.int .u32 t) := by rw [World.cell?_of_block (Posts.Ext.blk hX _ hz2)]; exact hc2
            have dg := Posts.slot (show a.eval (.tmp 76) = .bool (true) from hD.1)
            by_cases hg : (false) = true
            · cases hg
            · exact Posts.op_skip hE (fun _ => trivial) rfl (Posts.wanted_no rfl rfl rfl (by simpa [hg] using dg)) rfl (by rw [hS.size]; simp) (fun h => absurd h hg) ((Posts.put_other _ _ _ _ (by decide)).trans hJ)
          · intro a X hX hS hD hJ' hU
            have hJ : a.tmps.getD 11 undef = .bool true := hJ'
            obtain ⟨x0, x1, x2⟩ := cells3 ((Posts.Ext.blk hX _ (lt_of_block HV.out)).trans HV.out)
            have y1 : X.cell? ⟨S + 1, 0, none⟩ = some (.int .u32 t) := by rw [World.cell?_of_block (Posts.Ext.blk hX _ hz2)]; exact hc2
            have dg := Posts.slot (show a.eval (.tmp 76) = .bool (true) from hD.1)
            by_cases hg : (false) = true
            · cases hg
            · exact Posts.op_skip hE (fun _ => trivial) rfl (Posts.wanted_no rfl rfl rfl (by simpa [hg] using dg)) rfl (by rw [hS.size]; simp) (fun h => absurd h hg) ((Posts.put_other _ _ _ _ (by decide)).trans hJ)
          · intro a X hX hS hD hJ' hU
            have hJ : a.tmps.getD 11 undef = .bool true := hJ'
            obtain ⟨x0, x1, x2⟩ := cells3 ((Posts.Ext.blk hX _ (lt_of_block HV.out)).trans HV.out)
            have y1 : X.cell? ⟨S + 1, 0, none⟩ = some (.int .u32 t) := by rw [World.cell?_of_block (Posts.Ext.blk hX _ hz2)]; exact hc2
            have dg := Posts.slot (show a.eval (.tmp 76) = .bool (true) from hD.2.1)
            by_cases hg : (false) = true
            · cases hg
            · exact Posts.op_skip hE (fun _ => trivial) rfl (Posts.wanted_no rfl rfl rfl (by simpa [hg] using dg)) rfl (by rw [hS.size]; simp) (fun h => absurd h hg) ((Posts.put_other _ _ _ _ (by decide)).trans hJ)
          · intro a X hX hS hD hJ' hU
            have hJ : a.tmps.getD 11 undef = .bool true := hJ'
            obtain ⟨x0, x1, x2⟩ := cells3 ((Posts.Ext.blk hX _ (lt_of_block HV.out)).trans HV.out)
            have y1 : X.cell? ⟨S + 1, 0, none⟩ = some (.int .u32 t) := by rw [World.cell?_of_block (Posts.Ext.blk hX _ hz2)]; exact hc2
            have dg := Posts.slot (show a.eval (.tmp 76) = .bool (true) from hD.2.2.2.1)
            by_cases hg : (false) = true
            · cases hg
            · exact Posts.op_skip hE (fun _ => trivial) rfl (Posts.wanted_no rfl rfl rfl (by simpa [hg] using dg)) rfl (by rw [hS.size]; simp) (fun h => absurd h hg) ((Posts.put_other _ _ _ _ (by decide)).trans hJ)
          · intro a X hX hS hD hJ' hU
            have hJ : a.tmps.getD 11 undef = .bool true := hJ'
            obtain ⟨x0, x1, x2⟩ := cells3 ((Posts.Ext.blk hX _ (lt_of_block HV.out)).trans HV.out)
            have y1 : X.cell? ⟨S + 1, 0, none⟩ = some (.int .u32 t) := by rw [World.cell?_of_block (Posts.Ext.blk hX _ hz2)]; exact hc2
            have d76 := Posts.slot (show a.eval (.tmp 76) = .bool (true) from hD.1)
            exact Posts.op_value (fun _ => trivial) rfl rfl (by intro c h; cases h) rfl (by rw [hS.size]; simp) (v := .bool (true)) (by simp [execOp, d76, go_sem]) rfl (hE.refl _) ((Posts.put_other _ _ _ _ (by decide)).trans hJ)
          · intro a0 Y hY hS hJ hL
            have p81 := Posts.slot (show a0.eval (.tmp 81) = .bool (true) from hL.2.2.2.2.2.2.1)
            refine Posts.tail_op 7 (by kernel_rfl) (Posts.op_val (fun _ => trivial) rfl rfl (by intro c h; cases h) (v := .bool (true)) (Y := Y) (by simp [execOp, p81, go_sem]) ?_)
            refine ⟨by kernel_rfl, ?_⟩
            have h96 := hS.frame [75, 76, 77, 78, 79, 80, 81, 11] (fun t ht => by simp [Posts.isDst] at ht; rcases ht with h | h | h | h | h | h | h | h <;> subst h <;> simp)
            simp only [List.foldl_cons, List.foldl_nil] at h96
            have hdf := hS.defers
            generalize a0.tmps.getD 75 undef = v75 at *
            generalize a0.tmps.getD 76 undef = v76 at *
            generalize a0.tmps.getD 77 undef = v77 at *
            generalize a0.tmps.getD 78 undef = v78 at *
            generalize a0.tmps.getD 79 undef = v79 at *
            generalize a0.tmps.getD 80 undef = v80 at *
            generalize a0.tmps.getD 81 undef = v81 at *
            generalize a0.tmps.getD 11 undef = v11 at *
            clear hL hS p81
            obtain ⟨tm, df⟩ := a0
            simp only at h96 hdf
            subst h96
            subst hdf
            simp only [Exit.inBlock, Exit.then]
            rename_i hK
            refine hK _ _ ?_
            go_wp2_with fail
            go_roundw
            case rel => exact ⟨j + 1, by omega, by go_num, by rw [HStep.out]; simp, HB2.out.trans (Below.mono hY HB2.out.size)⟩
            case measure => simp [intOf]; omega
      · have hdj : decide ((j : Int) < (n : Int)) = false := by simp; omega
        have hall : frT l j t = frB l t := frT_all l j t (by rw [HLn.out]; omega)
        rw [hall]
        clear hall
        have r1 := (hbel.block _ (lt_of_block HC.out.hN)).trans HC.out.hN
        have r2 := (hbel.block _ (lt_of_block HC.out.hR)).trans HC.out.hR
        have hcn : wr.cell? ⟨N, 0, none⟩ = some (.int .i64 (cnt t L)) := by simp [World.cell?, r1]
        have hcr : wr.cell? ⟨S + 1 + 1, 0, none⟩ = some (.bool false) ∧ wr.frozen? ⟨S + 1 + 1, 0, none⟩ = false := by simp [World.cell?, World.frozen?, r2]
        obtain ⟨hcr, hcf⟩ := hcr
        have HR2 := Lib.hid r2
        clear r1 r2 hbel hc1
        have fin : Hid (∀ X : World, X = wr.setCell ⟨S + 1 + 1, 0, none⟩ (.bool true) → X.heap[B]? = some (.deferred (some [])) ∧ ((X.putObj B (.deferred none)).cell? ⟨S + 1 + 1, 0, none⟩ = some (.bool true)) ∧ Below S w (X.putObj B (.deferred none))) := fun X hX => by
          subst hX
          have hsn := HC.out.sn
          have hnb := HC.out.nb
          have k1 : Kept (fun k => k = S + 1 + 1) wr (wr.setCell ⟨S + 1 + 1, 0, none⟩ (.bool true)) := Kept.setCell (Kept.refl (fun k => k = S + 1 + 1) wr) (.inl rfl) _
          have k2 : Kept (fun k => k = B) (wr.setCell ⟨S + 1 + 1, 0, none⟩ (.bool true)) ((wr.setCell ⟨S + 1 + 1, 0, none⟩ (.bool true)).putObj B (.deferred none)) := Kept.put (Kept.refl (fun k => k = B) _) (.inl rfl) _
          have r3 := k2.same (heap_set1 (v := .bool true) HR2.out) (by omega)
          refine ⟨k1.same ((HBl.out.block _ (lt_of_block HD.out)).trans HD.out) (by omega), by simp [World.cell?, r3], ?_⟩
          have hV := lt_of_block HC.out.hM
          exact HC.out.bel.trans ((HBl.out.mono (by omega)).trans ((k1.toBelow (by have := HBl.out.size; omega) (fun k hk => by omega)).trans (k2.toBelow (by have := k1.size; have := HBl.out.size; omega) (fun k hk => by omega))))
        cases hf : frB l t with
        | true =>
          have hk : cnt t L = 1 := HCnt.out.1 ((frB_iff l t).1 hf)
          rw [hk] at hcn
          clear hf
          go_wp2_with fail
          obtain ⟨z0, z1, z2⟩ := fin.out _ rfl
          refine ⟨by simp, .inl ⟨_, _, rfl, run_takeDeferred z0, ?_⟩⟩
          refine ⟨.bool true, by simp [results, Try.f7, go_sem, z1], rfl, ?_⟩
          rw [hS]
          exact z2
        | false =>
          have hk : cnt t L = 0 := HCnt.out.2 (fun h => by rw [(frB_iff l t).2 h] at hf; cases hf)
          rw [hk] at hcn
          clear hf
          go_wp2_with fail
          obtain ⟨z0, z1, z2⟩ := fin.out _ rfl
          refine ⟨by simp, .inl ⟨_, _, rfl, run_takeDeferred z0, ?_⟩⟩
          refine ⟨.bool true, by simp [results, Try.f7, go_sem, z1], rfl, ?_⟩
          rw [hS]
          exact z2
/-- what the walk gives, for every argument -/
theorem lifted (os : Os) (started : os.Started) (H : Type) (enc : TypeId × Value → H) :
    ReturnsInHanded {} Try.checked os 7 .any (Rows.rightsWholeSpec.pre6 enc Try.prog Try.f7 Rows.rightsWholeRow.domain false) (Rows.rightsWholeSpec.post enc Try.prog Try.f7 false true false false) := by
  refine returnsInHanded_of_change (C := Try.checked) own started (by kernel_rfl) Try.func7
    (ChangeSpec.witness6 (enc := enc) (C := Try.checked) false ⟨#[], #[.slice none 0 0, .int .u32 0, .int .u32 0], []⟩ 8 (by kernel_rfl) (by kernel_rfl) (by kernel_rfl) (by kernel_rfl)) ?_
  intro W base args ds gs before hval0 hW hcnd _
  have hval : ∀ (j : Nat) t v, Try.f7.params[j]? = some t → args[j]? = some v → Value.okWide Try.prog W .any base t v := hval0
  have hW' := hW
  obtain ⟨p, q, hA0, hV, rfl, hfz, hnd⟩ := hW
  have hA : DataW.TrodAll enc Try.prog W 0 (fun _ => true) true Try.f7.params.toList args.toList ds p := hA0
  rw [Try.params7] at hA hval
  obtain ⟨v0, vs0, d0, ds0, p0, q0, hargs, rfl, rfl, h0, r0⟩ := trodAll_cons hA
  obtain ⟨v1, vs1, d1, ds1, p1, q1, rfl, rfl, rfl, h1, r1⟩ := trodAll_cons r0
  obtain ⟨v2, vs2, d2, ds2, p2, q2, rfl, rfl, rfl, h2, r2⟩ := trodAll_cons r1
  obtain ⟨rfl, rfl, rfl⟩ := trodAll_nil r2
  obtain rfl : args = #[v0, v1, v2] := by cases args; simp_all
  obtain ⟨rfl, rfl⟩ := trodVars_none hV
  have k0 := h0
  have lt0 : ∀ x ∈ p0, x.block < W.heap.size := by obtain ⟨m, hm⟩ := k0; exact DataW.trod_lt m _ _ _ hm
  obtain ⟨a0, len0, cap0, rfl⟩ := okWide_slice Try.underlying29 (hval 0 29 v0 rfl rfl)
  obtain ⟨z0, w0⟩ : ∃ l, RRow W a0 len0 l := by
    obtain ⟨fuel, hf⟩ := h0
    obtain ⟨a, n, c, l, hcs, h1, h2, h3⟩ := open_regions hf
    simp [Value.cells] at hcs
    obtain ⟨rfl, rfl, rfl⟩ := hcs
    exact ⟨l, h3⟩
  obtain ⟨z1, rfl, rfl, rfl, w1⟩ := open_int Try.underlying22 (hval 1 22 v1 rfl rfl) h1
  have b1 : 0 ≤ z1 ∧ z1 ≤ 4294967295 := by simp [Lit.wf, IntKind.min, IntKind.max, IntKind.signed, IntKind.bits] at w1; omega
  obtain ⟨z2, rfl, rfl, rfl, w2⟩ := open_int Try.underlying22 (hval 2 22 v2 rfl rfl) h2
  have b2 : 0 ≤ z2 ∧ z2 ≤ 4294967295 := by simp [Lit.wf, IntKind.min, IntKind.max, IntKind.signed, IntKind.bits] at w2; omega
  clear hA0 hval0
  refine (walk W a0 len0 cap0 z0 w0 z1 b1 z2 b2).mono fun e W' ⟨he, bel⟩ => ?_
  subst he
  exact ⟨_, rfl, _, _, _, [], _, [], hW', trodAll_mk1 (shut_bool Try.underlying4 _), (trodAll_cons_mk (Below.trod laidOut (by kernel_rfl) (of_decide_eq_true (by kernel_rfl)) k0 bel lt0) (trodAll_cons_mk (shut_int Try.underlying22 w1) (trodAll_cons_mk (shut_int Try.underlying22 w2) trodAll_mk0))), rfl, bel.frame _, fun h => by cases h⟩

theorem proved : Rows.RightsWholeSaid :=
  OpenClaim.holds_of_wide 7 Try.f7 rfl rfl rfl rfl rfl rfl rfl ⟨rfl, rfl, rfl, rfl, rfl⟩ rfl rfl rfl rfl rfl (by kernel_rfl) Try.func7 (by kernel_rfl)
    (of_decide_eq_true (by kernel_rfl)) (by unfold Func.isWrapper; first | (rw [if_pos (by decide +kernel)]; kernel_rfl) | (rw [if_neg (by decide +kernel)]; exact ⟨rfl, rfl⟩))
    (fun os started H enc _ => lifted os started H enc)
#print axioms proved
end Go.Proofs.Ytekicfaakjbmhaa.rightsWhole
