/- Reading a value of a kind, without a list. -/
import Derived.Test.YtimhppgepiikbaaWireL1
namespace Go.Proofs.Ytimhppgepiikbaa
open Go.ChangeShapes Go.WideShapes Go.ChangeAt Go.RowKit
namespace Wire
set_option linter.unusedVariables false
set_option linter.unusedSimpArgs false
/-- what a value's reading tells and leaves -/
structure RV where
  n : Int
  i : Int
  b : List Int
  s : RS
def rdFlat (k most : Int) (s : RS) : RV :=
  if k = 1 then ⟨(s.num 1).1, 0, [], (s.num 1).2⟩ else if k = 2 then ⟨(s.num 2).1, 0, [], (s.num 2).2⟩ else if k = 4 then ⟨(s.num 4).1, 0, [], (s.num 4).2⟩ else if k = 8 then ⟨(s.num 8).1, 0, [], (s.num 8).2⟩
  else if k = 5 then ⟨0, sg (s.num 4).1, [], (s.num 4).2⟩ else if k = 6 then ⟨0, 0, (s.bytes most).1, (s.bytes most).2⟩ else ⟨0, 0, [], s⟩
def ReadPost (q : Nat → Prop) (g : Nat) (w : World) (k : Int) (v : RV) (r : Ending) (w' : World) : Prop :=
  ∃ ba bn bc, r = .returned (.agg #[.int .i64 k, .int .u64 v.n, .int .i64 v.i, .slice ba bn bc, .slice none 0 0]) ∧ OwnV w' w.heap.size (.slice ba bn bc) bn v.b ∧ bn ≤ bc ∧ bc ≤ 9223372036854775807 ∧ (∀ z ∈ v.b, 0 ≤ z ∧ z ≤ 255) ∧ RSt q g w' v.s ∧ Kept (· = g) w w' ∧ (0 ≤ v.n ∧ v.n ≤ 18446744073709551615) ∧ (-9223372036854775808 ≤ v.i ∧ v.i ≤ 9223372036854775807)
theorem read_plain {q : Nat → Prop} {g : Nat} {w w' : World} {k n i : Int} {s : RS} (h : RSt q g w' s) (hk : Kept (· = g) w w') (hn : 0 ≤ n ∧ n ≤ 18446744073709551615) (hi : -9223372036854775808 ≤ i ∧ i ≤ 9223372036854775807) : ReadPost q g w k ⟨n, i, [], s⟩ (.returned (.agg #[.int .i64 k, .int .u64 n, .int .i64 i, .slice none 0 0, .slice none 0 0])) w' :=
  ⟨none, 0, 0, rfl, World.ownsRow_nil _ _ _ _, Nat.le_refl _, by omega, by simp, h, hk, hn, hi⟩
/-- stores into new blocks leave a reader as it is -/
theorem RSt.set {q : Nat → Prop} {g : Nat} {w : World} {s : RS} (h : RSt q g w s) (x : Addr) (u : Value) (hx : x.block ≠ g) (hq : q x.block) : RSt q g (w.setCell x u) s := by
  obtain ⟨v, h1, h2, h3, h4⟩ := h
  refine ⟨v, (Below.heap_setCell _ _ _ _ (fun e => hx e.symm)).trans h1, h2, h3, fun he => ?_⟩
  obtain ⟨a, n, c, h5, h6, h7⟩ := h4 he
  exact ⟨a, n, c, h5, h6.kept ((Kept.refl _ _).setCell (Or.inl (Or.inr hq)) _), h7⟩
theorem RV.b_nil : True := trivial
set_option maxHeartbeats 4000000 in
set_option maxRecDepth 100000 in
theorem read_flat {q : Nat → Prop} (g : Nat) (w : World) (k most i : Int) (ba la : Option Addr) (bn bc ln lc : Nat) (s : RS) (hm0 : 0 ≤ most) (hm1 : most ≤ 1048576) (h : RSt q g w s) (hk7 : ¬ k = 7) :
    Calls Try.prog 13 #[.pointer (some ⟨g, 0, none⟩), .agg #[.int .i64 k, .int .u64 most, .int .i64 i, .slice ba bn bc, .slice la ln lc]] w (ReadPost q g w k (rdFlat k most s)) := by
  have hlg := h.lt
  have hB0 : Below w.heap.size w (((w.alloc (.cells #[.int .i64 k, .int .u64 most, .int .i64 i, .slice ba bn bc, .slice la ln lc] 39)).alloc (.cells #[.int .i64 0, .int .u64 0, .int .i64 0, .slice none 0 0, .slice none 0 0] 39)).alloc (.cells #[.int .i64 k, .int .u64 0, .int .i64 0, .slice none 0 0, .slice none 0 0] 39)) := (((Below.refl _ _).alloc (Nat.le_refl _) _).alloc (by simp) _).alloc (by simp; omega) _
  have HR : Hid (RSt (fun k => q k ∨ w.heap.size ≤ k) g (((w.alloc (.cells #[.int .i64 k, .int .u64 most, .int .i64 i, .slice ba bn bc, .slice la ln lc] 39)).alloc (.cells #[.int .i64 0, .int .u64 0, .int .i64 0, .slice none 0 0, .slice none 0 0] 39)).alloc (.cells #[.int .i64 k, .int .u64 0, .int .i64 0, .slice none 0 0, .slice none 0 0] 39)) s) := (h.more (q' := fun k => q k ∨ w.heap.size ≤ k) (fun k hk hh => hh.elim id fun e => by omega)).kept hB0
  have HQ : Hid (∀ (w' : World) s, RSt (fun k => q k ∨ w.heap.size ≤ k) g w' s → RSt q g w' s) := fun w' s h => h.more fun k _ hk => Or.inl hk
  have HV : Hid ((((w.alloc (.cells #[.int .i64 k, .int .u64 most, .int .i64 i, .slice ba bn bc, .slice la ln lc] 39)).alloc (.cells #[.int .i64 0, .int .u64 0, .int .i64 0, .slice none 0 0, .slice none 0 0] 39)).alloc (.cells #[.int .i64 k, .int .u64 0, .int .i64 0, .slice none 0 0, .slice none 0 0] 39)).heap[w.heap.size + 1 + 1]? = some (.cells #[.int .i64 k, .int .u64 0, .int .i64 0, .slice none 0 0, .slice none 0 0] 39 (0, 0))) := by
    have h := heap_alloc_new ((w.alloc (.cells #[.int .i64 k, .int .u64 most, .int .i64 i, .slice ba bn bc, .slice la ln lc] 39)).alloc (.cells #[.int .i64 0, .int .u64 0, .int .i64 0, .slice none 0 0, .slice none 0 0] 39)) (.cells #[.int .i64 k, .int .u64 0, .int .i64 0, .slice none 0 0, .slice none 0 0] 39)
    have e : ((w.alloc (.cells #[.int .i64 k, .int .u64 most, .int .i64 i, .slice ba bn bc, .slice la ln lc] 39)).alloc (.cells #[.int .i64 0, .int .u64 0, .int .i64 0, .slice none 0 0, .slice none 0 0] 39)).heap.size = w.heap.size + 1 + 1 := by simp
    rw [e] at h
    exact h
  have HZ : Hid ((((w.alloc (.cells #[.int .i64 k, .int .u64 most, .int .i64 i, .slice ba bn bc, .slice la ln lc] 39)).alloc (.cells #[.int .i64 0, .int .u64 0, .int .i64 0, .slice none 0 0, .slice none 0 0] 39)).alloc (.cells #[.int .i64 k, .int .u64 0, .int .i64 0, .slice none 0 0, .slice none 0 0] 39)).heap[w.heap.size + 1]? = some (.cells #[.int .i64 0, .int .u64 0, .int .i64 0, .slice none 0 0, .slice none 0 0] 39 (0, 0))) := by
    have h := heap_alloc2_new w (.cells #[.int .i64 k, .int .u64 most, .int .i64 i, .slice ba bn bc, .slice la ln lc] 39) (.cells #[.int .i64 0, .int .u64 0, .int .i64 0, .slice none 0 0, .slice none 0 0] 39)
    exact (Below.heap_alloc _ _ _ (by simp)).trans h
  have HK0 : Hid (Kept (· = g) w (((w.alloc (.cells #[.int .i64 k, .int .u64 most, .int .i64 i, .slice ba bn bc, .slice la ln lc] 39)).alloc (.cells #[.int .i64 0, .int .u64 0, .int .i64 0, .slice none 0 0, .slice none 0 0] 39)).alloc (.cells #[.int .i64 k, .int .u64 0, .int .i64 0, .slice none 0 0, .slice none 0 0] 39))) := Kept.of_below hB0
  have HRB : Hid (∀ W', Below w.heap.size w W' → RSt q g W' s) := fun W' hb => h.kept hb
  clear h hB0
  by_cases h1 : k = 1
  · subst h1
    have HD : Hid (rdFlat 1 most s = ⟨(s.num 1).1, 0, [], (s.num 1).2⟩) := by show _ = _; unfold rdFlat; rfl
    clear hk7
    have hr := HR.out.range 1
    obtain ⟨r0, r1⟩ := hr
    generalize hx : (s.num 1).1 = x at *
    have HX := Lib.hid hx
    have hb : x < 256 := by omega
    clear hx r1
    go_enter Try.func13, Try.ntmps13
    go_wp2_with fail
    refine (ru8_any g _ s HR.out).mono ?_
    rintro r w1 ⟨rfl, h1, h2⟩
    rw [HX.out]
    have hv := (h2.block _ (lt_of_block HV.out) (by omega)).trans HV.out
    have hz := (h2.block _ (lt_of_block HZ.out) (by omega)).trans HZ.out
    have v0 := cell_of_row _ _ 0 _ _ _ hv
    have z0 := cell_of_row _ _ 0 _ _ _ hz
    have f0 := row_free hz 0
    have v1 := cell_of_row _ _ 1 _ _ _ hv
    have z1 := cell_of_row _ _ 1 _ _ _ hz
    have f1 := row_free hz 1
    have v2 := cell_of_row _ _ 2 _ _ _ hv
    have z2 := cell_of_row _ _ 2 _ _ _ hz
    have f2 := row_free hz 2
    have v3 := cell_of_row _ _ 3 _ _ _ hv
    have z3 := cell_of_row _ _ 3 _ _ _ hz
    have f3 := row_free hz 3
    have v4 := cell_of_row _ _ 4 _ _ _ hv
    have z4 := cell_of_row _ _ 4 _ _ _ hz
    have f4 := row_free hz 4
    have fv := row_free hv 1
    simp only [List.getElem?_toArray, List.getElem?_cons_zero, List.getElem?_cons_succ] at v0 v1 v2 v3 v4 z0 z1 z2 z3 z4
    have H1 := Lib.hid h1
    have HK1 := Lib.hid (HK0.out.trans h2)
    clear h1 h2 hv hz
    have hne : w.heap.size + 1 + 1 ≠ g := by omega
    have hne1 : w.heap.size + 1 ≠ g := by omega
    go_wp2_with fail
    refine bodyPost_ret (v := .agg #[.int .i64 1, .int .u64 x, .int .i64 0, .slice none 0 0, .slice none 0 0]) (by simp [results, Try.results13, go_sem, z0, z1, z2, z3, z4, f0, f1, f2, f3, f4]) rfl ?_
    rw [HD.out]
    refine read_plain (HQ.out _ _ ?_) ?_ (by omega) (by first | omega | (unfold sg; split <;> omega))
    · exact (((((H1.out.set _ _ hne (Or.inr (by simp only; omega))).set _ _ hne1 (Or.inr (by simp only; omega))).set _ _ hne1 (Or.inr (by simp only; omega))).set _ _ hne1 (Or.inr (by simp only; omega))).set _ _ hne1 (Or.inr (by simp only; omega))).set _ _ hne1 (Or.inr (by simp only; omega))
    · exact (((((HK1.out.setCell (Or.inr (by simp only; omega)) _).setCell (Or.inr (by simp only; omega)) _).setCell (Or.inr (by simp only; omega)) _).setCell (Or.inr (by simp only; omega)) _).setCell (Or.inr (by simp only; omega)) _).setCell (Or.inr (by simp only; omega)) _
  by_cases h2 : k = 2
  · subst h2
    have HD : Hid (rdFlat 2 most s = ⟨(s.num 2).1, 0, [], (s.num 2).2⟩) := by show _ = _; unfold rdFlat; rfl
    clear hk7 h1
    have hr := HR.out.range 2
    obtain ⟨r0, r1⟩ := hr
    generalize hx : (s.num 2).1 = x at *
    have HX := Lib.hid hx
    have hb : x < 65536 := by omega
    clear hx r1
    go_enter Try.func13, Try.ntmps13
    go_wp2_with fail
    refine (ru16_any g _ s HR.out).mono ?_
    rintro r w1 ⟨rfl, h1, h2⟩
    rw [HX.out]
    have hv := (h2.block _ (lt_of_block HV.out) (by omega)).trans HV.out
    have hz := (h2.block _ (lt_of_block HZ.out) (by omega)).trans HZ.out
    have v0 := cell_of_row _ _ 0 _ _ _ hv
    have z0 := cell_of_row _ _ 0 _ _ _ hz
    have f0 := row_free hz 0
    have v1 := cell_of_row _ _ 1 _ _ _ hv
    have z1 := cell_of_row _ _ 1 _ _ _ hz
    have f1 := row_free hz 1
    have v2 := cell_of_row _ _ 2 _ _ _ hv
    have z2 := cell_of_row _ _ 2 _ _ _ hz
    have f2 := row_free hz 2
    have v3 := cell_of_row _ _ 3 _ _ _ hv
    have z3 := cell_of_row _ _ 3 _ _ _ hz
    have f3 := row_free hz 3
    have v4 := cell_of_row _ _ 4 _ _ _ hv
    have z4 := cell_of_row _ _ 4 _ _ _ hz
    have f4 := row_free hz 4
    have fv := row_free hv 1
    simp only [List.getElem?_toArray, List.getElem?_cons_zero, List.getElem?_cons_succ] at v0 v1 v2 v3 v4 z0 z1 z2 z3 z4
    have H1 := Lib.hid h1
    have HK1 := Lib.hid (HK0.out.trans h2)
    clear h1 h2 hv hz
    have hne : w.heap.size + 1 + 1 ≠ g := by omega
    have hne1 : w.heap.size + 1 ≠ g := by omega
    go_wp2_with fail
    refine bodyPost_ret (v := .agg #[.int .i64 2, .int .u64 x, .int .i64 0, .slice none 0 0, .slice none 0 0]) (by simp [results, Try.results13, go_sem, z0, z1, z2, z3, z4, f0, f1, f2, f3, f4]) rfl ?_
    rw [HD.out]
    refine read_plain (HQ.out _ _ ?_) ?_ (by omega) (by first | omega | (unfold sg; split <;> omega))
    · exact (((((H1.out.set _ _ hne (Or.inr (by simp only; omega))).set _ _ hne1 (Or.inr (by simp only; omega))).set _ _ hne1 (Or.inr (by simp only; omega))).set _ _ hne1 (Or.inr (by simp only; omega))).set _ _ hne1 (Or.inr (by simp only; omega))).set _ _ hne1 (Or.inr (by simp only; omega))
    · exact (((((HK1.out.setCell (Or.inr (by simp only; omega)) _).setCell (Or.inr (by simp only; omega)) _).setCell (Or.inr (by simp only; omega)) _).setCell (Or.inr (by simp only; omega)) _).setCell (Or.inr (by simp only; omega)) _).setCell (Or.inr (by simp only; omega)) _
  by_cases h4 : k = 4
  · subst h4
    have HD : Hid (rdFlat 4 most s = ⟨(s.num 4).1, 0, [], (s.num 4).2⟩) := by show _ = _; unfold rdFlat; rfl
    clear hk7 h1 h2
    have hr := HR.out.range 4
    obtain ⟨r0, r1⟩ := hr
    generalize hx : (s.num 4).1 = x at *
    have HX := Lib.hid hx
    have hb : x < 4294967296 := by omega
    clear hx r1
    go_enter Try.func13, Try.ntmps13
    go_wp2_with fail
    refine (ru32_any g _ s HR.out).mono ?_
    rintro r w1 ⟨rfl, h1, h2⟩
    rw [HX.out]
    have hv := (h2.block _ (lt_of_block HV.out) (by omega)).trans HV.out
    have hz := (h2.block _ (lt_of_block HZ.out) (by omega)).trans HZ.out
    have v0 := cell_of_row _ _ 0 _ _ _ hv
    have z0 := cell_of_row _ _ 0 _ _ _ hz
    have f0 := row_free hz 0
    have v1 := cell_of_row _ _ 1 _ _ _ hv
    have z1 := cell_of_row _ _ 1 _ _ _ hz
    have f1 := row_free hz 1
    have v2 := cell_of_row _ _ 2 _ _ _ hv
    have z2 := cell_of_row _ _ 2 _ _ _ hz
    have f2 := row_free hz 2
    have v3 := cell_of_row _ _ 3 _ _ _ hv
    have z3 := cell_of_row _ _ 3 _ _ _ hz
    have f3 := row_free hz 3
    have v4 := cell_of_row _ _ 4 _ _ _ hv
    have z4 := cell_of_row _ _ 4 _ _ _ hz
    have f4 := row_free hz 4
    have fv := row_free hv 1
    simp only [List.getElem?_toArray, List.getElem?_cons_zero, List.getElem?_cons_succ] at v0 v1 v2 v3 v4 z0 z1 z2 z3 z4
    have H1 := Lib.hid h1
    have HK1 := Lib.hid (HK0.out.trans h2)
    clear h1 h2 hv hz
    have hne : w.heap.size + 1 + 1 ≠ g := by omega
    have hne1 : w.heap.size + 1 ≠ g := by omega
    go_wp2_with fail
    refine bodyPost_ret (v := .agg #[.int .i64 4, .int .u64 x, .int .i64 0, .slice none 0 0, .slice none 0 0]) (by simp [results, Try.results13, go_sem, z0, z1, z2, z3, z4, f0, f1, f2, f3, f4]) rfl ?_
    rw [HD.out]
    refine read_plain (HQ.out _ _ ?_) ?_ (by omega) (by first | omega | (unfold sg; split <;> omega))
    · exact (((((H1.out.set _ _ hne (Or.inr (by simp only; omega))).set _ _ hne1 (Or.inr (by simp only; omega))).set _ _ hne1 (Or.inr (by simp only; omega))).set _ _ hne1 (Or.inr (by simp only; omega))).set _ _ hne1 (Or.inr (by simp only; omega))).set _ _ hne1 (Or.inr (by simp only; omega))
    · exact (((((HK1.out.setCell (Or.inr (by simp only; omega)) _).setCell (Or.inr (by simp only; omega)) _).setCell (Or.inr (by simp only; omega)) _).setCell (Or.inr (by simp only; omega)) _).setCell (Or.inr (by simp only; omega)) _).setCell (Or.inr (by simp only; omega)) _
  by_cases h8 : k = 8
  · subst h8
    have HD : Hid (rdFlat 8 most s = ⟨(s.num 8).1, 0, [], (s.num 8).2⟩) := by show _ = _; unfold rdFlat; rfl
    clear hk7 h1 h2 h4
    have hr := HR.out.range 8
    obtain ⟨r0, r1⟩ := hr
    generalize hx : (s.num 8).1 = x at *
    have HX := Lib.hid hx
    have hb : x < 18446744073709551616 := by omega
    clear hx r1
    go_enter Try.func13, Try.ntmps13
    go_wp2_with fail
    refine (ru64_any g _ s HR.out).mono ?_
    rintro r w1 ⟨rfl, h1, h2⟩
    rw [HX.out]
    have hv := (h2.block _ (lt_of_block HV.out) (by omega)).trans HV.out
    have hz := (h2.block _ (lt_of_block HZ.out) (by omega)).trans HZ.out
    have v0 := cell_of_row _ _ 0 _ _ _ hv
    have z0 := cell_of_row _ _ 0 _ _ _ hz
    have f0 := row_free hz 0
    have v1 := cell_of_row _ _ 1 _ _ _ hv
    have z1 := cell_of_row _ _ 1 _ _ _ hz
    have f1 := row_free hz 1
    have v2 := cell_of_row _ _ 2 _ _ _ hv
    have z2 := cell_of_row _ _ 2 _ _ _ hz
    have f2 := row_free hz 2
    have v3 := cell_of_row _ _ 3 _ _ _ hv
    have z3 := cell_of_row _ _ 3 _ _ _ hz
    have f3 := row_free hz 3
    have v4 := cell_of_row _ _ 4 _ _ _ hv
    have z4 := cell_of_row _ _ 4 _ _ _ hz
    have f4 := row_free hz 4
    have fv := row_free hv 1
    simp only [List.getElem?_toArray, List.getElem?_cons_zero, List.getElem?_cons_succ] at v0 v1 v2 v3 v4 z0 z1 z2 z3 z4
    have H1 := Lib.hid h1
    have HK1 := Lib.hid (HK0.out.trans h2)
    clear h1 h2 hv hz
    have hne : w.heap.size + 1 + 1 ≠ g := by omega
    have hne1 : w.heap.size + 1 ≠ g := by omega
    go_wp2_with fail
    refine bodyPost_ret (v := .agg #[.int .i64 8, .int .u64 x, .int .i64 0, .slice none 0 0, .slice none 0 0]) (by simp [results, Try.results13, go_sem, z0, z1, z2, z3, z4, f0, f1, f2, f3, f4]) rfl ?_
    rw [HD.out]
    refine read_plain (HQ.out _ _ ?_) ?_ (by omega) (by first | omega | (unfold sg; split <;> omega))
    · exact (((((H1.out.set _ _ hne (Or.inr (by simp only; omega))).set _ _ hne1 (Or.inr (by simp only; omega))).set _ _ hne1 (Or.inr (by simp only; omega))).set _ _ hne1 (Or.inr (by simp only; omega))).set _ _ hne1 (Or.inr (by simp only; omega))).set _ _ hne1 (Or.inr (by simp only; omega))
    · exact (((((HK1.out.setCell (Or.inr (by simp only; omega)) _).setCell (Or.inr (by simp only; omega)) _).setCell (Or.inr (by simp only; omega)) _).setCell (Or.inr (by simp only; omega)) _).setCell (Or.inr (by simp only; omega)) _).setCell (Or.inr (by simp only; omega)) _
  by_cases h5 : k = 5
  · subst h5
    have HD : Hid (rdFlat 5 most s = ⟨0, sg (s.num 4).1, [], (s.num 4).2⟩) := by show _ = _; unfold rdFlat; rfl
    clear hk7 h1 h2 h4 h8
    have hr := HR.out.range 4
    obtain ⟨r0, r1⟩ := hr
    generalize hx : (s.num 4).1 = x at *
    have HX := Lib.hid hx
    have hb : x < 4294967296 := by omega
    clear hx r1
    go_enter Try.func13, Try.ntmps13
    go_wp2_with fail
    refine (ri32_any g _ s HR.out).mono ?_
    rintro r w1 ⟨rfl, h1, h2⟩
    rw [HX.out]
    have hv := (h2.block _ (lt_of_block HV.out) (by omega)).trans HV.out
    have hz := (h2.block _ (lt_of_block HZ.out) (by omega)).trans HZ.out
    have v0 := cell_of_row _ _ 0 _ _ _ hv
    have z0 := cell_of_row _ _ 0 _ _ _ hz
    have f0 := row_free hz 0
    have v1 := cell_of_row _ _ 1 _ _ _ hv
    have z1 := cell_of_row _ _ 1 _ _ _ hz
    have f1 := row_free hz 1
    have v2 := cell_of_row _ _ 2 _ _ _ hv
    have z2 := cell_of_row _ _ 2 _ _ _ hz
    have f2 := row_free hz 2
    have v3 := cell_of_row _ _ 3 _ _ _ hv
    have z3 := cell_of_row _ _ 3 _ _ _ hz
    have f3 := row_free hz 3
    have v4 := cell_of_row _ _ 4 _ _ _ hv
    have z4 := cell_of_row _ _ 4 _ _ _ hz
    have f4 := row_free hz 4
    have fv := row_free hv 2
    simp only [List.getElem?_toArray, List.getElem?_cons_zero, List.getElem?_cons_succ] at v0 v1 v2 v3 v4 z0 z1 z2 z3 z4
    have H1 := Lib.hid h1
    have HK1 := Lib.hid (HK0.out.trans h2)
    clear h1 h2 hv hz
    have hne : w.heap.size + 1 + 1 ≠ g := by omega
    have hne1 : w.heap.size + 1 ≠ g := by omega
    go_wp2_with fail
    refine bodyPost_ret (v := .agg #[.int .i64 5, .int .u64 0, .int .i64 (sg x), .slice none 0 0, .slice none 0 0]) (by simp [results, Try.results13, go_sem, z0, z1, z2, z3, z4, f0, f1, f2, f3, f4]) rfl ?_
    rw [HD.out]
    refine read_plain (HQ.out _ _ ?_) ?_ (by omega) (by first | omega | (unfold sg; split <;> omega))
    · exact (((((H1.out.set _ _ hne (Or.inr (by simp only; omega))).set _ _ hne1 (Or.inr (by simp only; omega))).set _ _ hne1 (Or.inr (by simp only; omega))).set _ _ hne1 (Or.inr (by simp only; omega))).set _ _ hne1 (Or.inr (by simp only; omega))).set _ _ hne1 (Or.inr (by simp only; omega))
    · exact (((((HK1.out.setCell (Or.inr (by simp only; omega)) _).setCell (Or.inr (by simp only; omega)) _).setCell (Or.inr (by simp only; omega)) _).setCell (Or.inr (by simp only; omega)) _).setCell (Or.inr (by simp only; omega)) _).setCell (Or.inr (by simp only; omega)) _
  by_cases h6 : k = 6
  · subst h6
    have HD : Hid (rdFlat 6 most s = ⟨0, 0, (s.bytes most).1, (s.bytes most).2⟩) := by show _ = _; unfold rdFlat; rfl
    clear hk7 h1 h2 h4 h8 h5
    have hd : decide (most < 1099511627776) = true := by simp; omega
    have hd2 : decide (1099511627776 < most) = false := by simp; omega
    have hrb := rbytes_any g _ s most HR.out
    have HRb := Lib.hid hrb
    clear hrb
    go_enter Try.func13, Try.ntmps13
    go_wp2_with fail
    refine HRb.out.mono ?_
    rintro r w1 ⟨va, vn, vc, rfl, hs, hle, hmx, hnil, h1, h2, ho⟩
    unfold maxLen at hmx
    have hv := (h2.block _ (lt_of_block HV.out) (by omega)).trans HV.out
    have hz := (h2.block _ (lt_of_block HZ.out) (by omega)).trans HZ.out
    have ne5 := own_other ho hv (by decide)
    have ne4 := own_other ho hz (by decide)
    have v0 := cell_of_row _ _ 0 _ _ _ hv
    have z0 := cell_of_row _ _ 0 _ _ _ hz
    have f0 := row_free hz 0
    have v1 := cell_of_row _ _ 1 _ _ _ hv
    have z1 := cell_of_row _ _ 1 _ _ _ hz
    have f1 := row_free hz 1
    have v2 := cell_of_row _ _ 2 _ _ _ hv
    have z2 := cell_of_row _ _ 2 _ _ _ hz
    have f2 := row_free hz 2
    have v3 := cell_of_row _ _ 3 _ _ _ hv
    have z3 := cell_of_row _ _ 3 _ _ _ hz
    have f3 := row_free hz 3
    have v4 := cell_of_row _ _ 4 _ _ _ hv
    have z4 := cell_of_row _ _ 4 _ _ _ hz
    have f4 := row_free hz 4
    have fv := row_free hv 3
    simp only [List.getElem?_toArray, List.getElem?_cons_zero, List.getElem?_cons_succ] at v0 v1 v2 v3 v4 z0 z1 z2 z3 z4
    have H1 := Lib.hid h1
    have HK1 := Lib.hid (HK0.out.trans h2)
    have HBy := Lib.hid hs.2.1
    have HO : Hid (OwnV w1 w.heap.size (.slice va vn vc) vn (s.bytes most).1) := ⟨ho.1, ho.2.imp id fun ⟨g', cap, cur, e1, e2, e3⟩ => ⟨g', cap, cur, e1, Nat.le_trans (by simp; omega) e2, e3⟩⟩
    have HNe5 := Lib.hid ne5.symm
    have HNe4 := Lib.hid ne4.symm
    have hne : w.heap.size + 1 + 1 ≠ g := by omega
    have hne1 : w.heap.size + 1 ≠ g := by omega
    clear h1 h2 hv hz hs ho ne5 ne4 hnil
    go_wp2_with fail
    refine bodyPost_ret (v := .agg #[.int .i64 6, .int .u64 0, .int .i64 0, .slice va vn vc, .slice none 0 0]) (by simp [results, Try.results13, go_sem, z0, z1, z2, z3, z4, f0, f1, f2, f3, f4]) rfl ?_
    rw [HD.out]
    refine ⟨va, vn, vc, rfl, ?_, hle, hmx, HBy.out, HQ.out _ _ ?_, ?_, by simp, by simp⟩
    · exact ownsRow_setCell_other (ownsRow_setCell_other (ownsRow_setCell_other (ownsRow_setCell_other (ownsRow_setCell_other (ownsRow_setCell_other HO.out HNe5.out _) HNe4.out _) HNe4.out _) HNe4.out _) HNe4.out _) HNe4.out _
    · exact (((((H1.out.set _ _ hne (Or.inr (by simp only; omega))).set _ _ hne1 (Or.inr (by simp only; omega))).set _ _ hne1 (Or.inr (by simp only; omega))).set _ _ hne1 (Or.inr (by simp only; omega))).set _ _ hne1 (Or.inr (by simp only; omega))).set _ _ hne1 (Or.inr (by simp only; omega))
    · exact (((((HK1.out.setCell (Or.inr (by simp only; omega)) _).setCell (Or.inr (by simp only; omega)) _).setCell (Or.inr (by simp only; omega)) _).setCell (Or.inr (by simp only; omega)) _).setCell (Or.inr (by simp only; omega)) _).setCell (Or.inr (by simp only; omega)) _
  have d1 : (k == 1) = false := by simpa using h1
  have d2 : (k == 2) = false := by simpa using h2
  have d4 : (k == 4) = false := by simpa using h4
  have d8 : (k == 8) = false := by simpa using h8
  have d5 : (k == 5) = false := by simpa using h5
  have d6 : (k == 6) = false := by simpa using h6
  have d7 : (k == 7) = false := by simpa using hk7
  have HD : Hid (rdFlat k most s = ⟨0, 0, [], s⟩) := by show _ = _; unfold rdFlat; rw [if_neg h1, if_neg h2, if_neg h4, if_neg h8, if_neg h5, if_neg h6]
  clear hk7 h1 h2 h4 h8 h5 h6
  have HQR := Lib.hid (HQ.out _ _ HR.out)
  go_enter Try.func13, Try.ntmps13
  go_wp2_with fail
  refine bodyPost_ret (v := .agg #[.int .i64 k, .int .u64 0, .int .i64 0, .slice none 0 0, .slice none 0 0]) (by simp [results, Try.results13, go_sem]) rfl ?_
  rw [HD.out]
  exact read_plain (HRB.out _ ((((Below.refl _ _).alloc (Nat.le_refl _) _).alloc (by simp) _).alloc (by simp; omega) _)) (Kept.of_below ((((Below.refl _ _).alloc (Nat.le_refl _) _).alloc (by simp) _).alloc (by simp; omega) _)) (by omega) (by omega)
end Wire
end Go.Proofs.Ytimhppgepiikbaa
