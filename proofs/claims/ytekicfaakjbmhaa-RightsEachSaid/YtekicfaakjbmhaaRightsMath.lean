/- Regions of memory in numbers: what fits, what overlaps, what may be together, and the stretches that are free. No program. -/
namespace Go.Proofs.Ytekicfaakjbmhaa
namespace Rights
/-- a region: its base, its size, its rights, each within its bounds -/
structure Rg where
  b : Int
  s : Int
  r : Int
  h : (0 ≤ b ∧ b ≤ 4294967295) ∧ (0 ≤ s ∧ s ≤ 4294967295) ∧ (0 ≤ r ∧ r ≤ 255)
instance : Inhabited Rg := ⟨⟨0, 0, 0, by decide⟩⟩
theorem Rg.ext' {x y : Rg} (h1 : x.b = y.b) (h2 : x.s = y.s) (h3 : x.r = y.r) : x = y := by
  cases x; cases y; simp_all
instance : DecidableEq Rg := fun x y =>
  if h : x.b = y.b ∧ x.s = y.s ∧ x.r = y.r then isTrue (Rg.ext' h.1 h.2.1 h.2.2) else isFalse (fun e => h (by subst e; simp))
/-- the number behind the last byte -/
def Rg.e (x : Rg) : Int := x.b + x.s
theorem Rg.e_bd (x : Rg) : 0 ≤ x.e ∧ x.e ≤ 8589934590 := by have := x.h; unfold Rg.e; omega
/-- does it have this byte? -/
def Rg.Has (x : Rg) (k : Int) : Prop := x.b ≤ k ∧ k < x.e
instance (x : Rg) (k : Int) : Decidable (x.Has k) := by unfold Rg.Has; infer_instance
def hasB (x : Rg) (k : Int) : Bool := decide (x.b ≤ k ∧ k < x.e)
theorem hasB_iff (x : Rg) (k : Int) : hasB x k = true ↔ x.Has k := by unfold hasB Rg.Has; simp
def fits (x : Rg) (m : Int) : Bool := decide (x.s ≠ 0 ∧ x.e ≤ m ∧ x.r ≠ 0 ∧ x.r ≤ 7)
def overlap (x y : Rg) : Bool := decide (x.s ≠ 0 ∧ y.s ≠ 0 ∧ x.b < y.e ∧ y.b < x.e)
theorem overlap_comm (x y : Rg) : overlap x y = overlap y x := by
  unfold overlap; exact decide_eq_decide.2 (by omega)
theorem overlap_iff (x y : Rg) : overlap x y = true ↔ ∃ k, x.Has k ∧ y.Has k := by
  unfold overlap Rg.Has Rg.e
  have := x.h; have := y.h
  rw [decide_eq_true_iff]
  constructor
  · intro h
    exact ⟨max x.b y.b, by omega⟩
  · rintro ⟨k, h⟩
    omega

/-! ### The stretches -/
/-- the stretches of f's bytes from lo on, below hi -/
def Segs (f : Int → Prop) (hi : Int) : Int → List (Int × Int) → Prop
  | lo, [] => ∀ x, lo ≤ x → x < hi → ¬ f x
  | lo, (a, n) :: l => lo ≤ a ∧ 0 < n ∧ a + n ≤ hi ∧ (∀ x, lo ≤ x → x < a → ¬ f x) ∧ (∀ x, a ≤ x → x < a + n → f x) ∧ (a + n < hi → ¬ f (a + n)) ∧ Segs f hi (a + n) l
theorem Segs.unique {f : Int → Prop} {hi : Int} : ∀ {l l' : List (Int × Int)} {lo : Int}, Segs f hi lo l → Segs f hi lo l' → l = l'
  | [], [], _, _, _ => rfl
  | [], (a, n) :: l', lo, h, h' => by
    obtain ⟨h1, h2, h3, _, h5, _⟩ := h'
    exact absurd (h5 a (by omega) (by omega)) (h a (by omega) (by omega))
  | (a, n) :: l, [], lo, h, h' => by
    obtain ⟨h1, h2, h3, _, h5, _⟩ := h
    exact absurd (h5 a (by omega) (by omega)) (h' a (by omega) (by omega))
  | (a, n) :: l, (a', n') :: l', lo, h, h' => by
    obtain ⟨h1, h2, h3, h4, h5, h6, h7⟩ := h
    obtain ⟨g1, g2, g3, g4, g5, g6, g7⟩ := h'
    have ea : a = a' := by
      rcases Int.lt_trichotomy a a' with hl | hl | hl
      · exact absurd (h5 a (by omega) (by omega)) (g4 a (by omega) hl)
      · exact hl
      · exact absurd (g5 a' (by omega) (by omega)) (h4 a' (by omega) hl)
    subst ea
    have en : n = n' := by
      rcases Int.lt_trichotomy n n' with hl | hl | hl
      · exact absurd (g5 (a + n) (by omega) (by omega)) (h6 (by omega))
      · exact hl
      · exact absurd (h5 (a + n') (by omega) (by omega)) (g6 (by omega))
    subst en
    rw [Segs.unique h7 g7]
theorem Segs.lower {f : Int → Prop} {hi lo lo' : Int} (hle : lo ≤ lo') (hn : ∀ x, lo ≤ x → x < lo' → ¬ f x) : ∀ {l : List (Int × Int)}, Segs f hi lo' l → Segs f hi lo l
  | [], h => fun x h1 h2 => by
    by_cases hx : x < lo'
    · exact hn x h1 hx
    · exact h x (by omega) h2
  | (a, n) :: l, h => by
    obtain ⟨h1, h2, h3, h4, h5, h6, h7⟩ := h
    exact ⟨by omega, h2, h3, fun x g1 g2 => by
      by_cases hx : x < lo'
      · exact hn x g1 hx
      · exact h4 x (by omega) g2, h5, h6, h7⟩
theorem Segs.congr {f g : Int → Prop} {hi : Int} : ∀ {l : List (Int × Int)} {lo : Int}, (∀ x, lo ≤ x → x < hi → (f x ↔ g x)) → Segs f hi lo l → Segs g hi lo l
  | [], _, hfg, h => fun x h1 h2 => fun hg => h x h1 h2 ((hfg x h1 h2).2 hg)
  | (a, n) :: l, lo, hfg, h => by
    obtain ⟨h1, h2, h3, h4, h5, h6, h7⟩ := h
    exact ⟨h1, h2, h3, fun x g1 g2 hg => h4 x g1 g2 ((hfg x g1 (by omega)).2 hg), fun x g1 g2 => (hfg x (by omega) (by omega)).1 (h5 x g1 g2), fun g1 hg => h6 g1 ((hfg _ (by omega) g1).2 hg), Segs.congr (fun x g1 g2 => hfg x (by omega) g2) h7⟩
/-- one byte more, which is not free -/
theorem Segs.miss {f : Int → Prop} {hi : Int} (hf : ¬ f hi) : ∀ {l : List (Int × Int)} {lo : Int}, Segs f hi lo l → Segs f (hi + 1) lo l
  | [], _, h => fun x h1 h2 => by
    by_cases hx : x = hi
    · subst hx; exact hf
    · exact h x h1 (by omega)
  | (a, n) :: l, lo, h => by
    obtain ⟨h1, h2, h3, h4, h5, h6, h7⟩ := h
    exact ⟨h1, h2, by omega, h4, h5, fun g => by
      by_cases hx : a + n = hi
      · rw [hx]; exact hf
      · exact h6 (by omega), Segs.miss hf h7⟩
/-- one byte more, which is free, behind one that is not -/
theorem Segs.begin {f : Int → Prop} {hi : Int} (hf : f hi) : ∀ {l : List (Int × Int)} {lo : Int}, lo ≤ hi → (lo < hi → ¬ f (hi - 1)) → (lo = hi → l = []) → Segs f hi lo l → Segs f (hi + 1) lo (l ++ [(hi, 1)])
  | [], lo, hlo, hp, _, h => ⟨hlo, by omega, by omega, fun x g1 g2 => h x g1 g2, fun x g1 g2 => (by rw [show x = hi from by omega]; exact hf), fun g => by omega, fun x g1 g2 => by omega⟩
  | (a, n) :: l, lo, hlo, hp, hl, h => by
    obtain ⟨h1, h2, h3, h4, h5, h6, h7⟩ := h
    have hlt : a + n < hi := by
      by_cases g : a + n < hi
      · exact g
      · exfalso
        have e : a + n = hi := by omega
        refine hp (by omega) (h5 (hi - 1) (by omega) (by omega))
    exact ⟨h1, h2, by omega, h4, h5, fun _ => h6 hlt, Segs.begin hf (by omega) (fun _ => hp (by omega)) (fun e => by omega) h7⟩
/-- one byte more, which is free, behind one that is -/
theorem Segs.grow {f : Int → Prop} {hi : Int} (hf : f hi) : ∀ {l : List (Int × Int)} {lo a n : Int}, a + n = hi → Segs f hi lo (l ++ [(a, n)]) → Segs f (hi + 1) lo (l ++ [(a, n + 1)])
  | [], lo, a, n, he, h => by
    obtain ⟨h1, h2, h3, h4, h5, h6, h7⟩ := h
    refine ⟨h1, by omega, by omega, h4, fun x g1 g2 => ?_, fun g => by omega, fun x g1 g2 => by omega⟩
    by_cases hx : x = hi
    · subst hx; exact hf
    · exact h5 x g1 (by omega)
  | (a', n') :: l, lo, a, n, he, h => by
    obtain ⟨h1, h2, h3, h4, h5, h6, h7⟩ := h
    have h8 := Segs.grow hf he h7
    have hlt : a' + n' < hi := by
      by_cases g : a' + n' < hi
      · exact g
      · exfalso
        have : ∀ (l : List (Int × Int)) (lo : Int), hi ≤ lo → ¬ Segs f hi lo (l ++ [(a, n)]) := by
          intro l
          induction l with
          | nil => rintro lo hh ⟨k1, k2, k3, _⟩; omega
          | cons p l ih => obtain ⟨p1, p2⟩ := p; rintro lo hh ⟨k1, k2, k3, _⟩; omega
        exact this l _ (by omega) h7
    exact ⟨h1, h2, by omega, h4, h5, fun _ => h6 hlt, h8⟩
/-- if the last byte is free, the last stretch ends behind it -/
theorem Segs.last {f : Int → Prop} {hi : Int} : ∀ {l : List (Int × Int)} {lo : Int}, lo < hi → f (hi - 1) → Segs f hi lo l → ∃ l0 a n, l = l0 ++ [(a, n)] ∧ a + n = hi
  | [], lo, h0, hf, h => absurd hf (h (hi - 1) (by omega) (by omega))
  | (a, n) :: l, lo, h0, hf, h => by
    obtain ⟨h1, h2, h3, h4, h5, h6, h7⟩ := h
    by_cases he : a + n = hi
    · cases l with
      | nil => exact ⟨[], a, n, rfl, he⟩
      | cons p l => obtain ⟨p1, p2⟩ := p; obtain ⟨k1, k2, k3, _⟩ := h7; omega
    · obtain ⟨l0, a', n', rfl, he'⟩ := Segs.last (by omega) hf h7
      exact ⟨(a, n) :: l0, a', n', rfl, he'⟩
/-- the stretches ahead of, between and behind what is taken: pairs of where it begins and what is behind it -/
def gaps : Int → List (Int × Int) → List (Int × Int)
  | _, [] => []
  | at', (b, e) :: ps => (if at' < b then [(at', b - at')] else []) ++ gaps (max at' e) ps
/-- the place behind all these -/
def place : Int → List (Int × Int) → Int
  | a, [] => a
  | a, (_, e) :: ps => place (max a e) ps
theorem gaps_append : ∀ (ps qs : List (Int × Int)) (a : Int), gaps a (ps ++ qs) = gaps a ps ++ gaps (place a ps) qs
  | [], _, _ => rfl
  | (b, e) :: ps, qs, a => by simp [gaps, place, gaps_append ps qs]
theorem place_append : ∀ (ps qs : List (Int × Int)) (a : Int), place a (ps ++ qs) = place (place a ps) qs
  | [], _, _ => rfl
  | (b, e) :: ps, qs, a => by simp [place, place_append ps qs]
/-- what regions take of a memory -/
def taken (m : Int) (l : List Rg) : List (Int × Int) := (l.filter fun x => decide (x.s ≠ 0)).map fun x => (min x.b m, min x.e m)
def Free (l : List Rg) (k : Int) : Prop := ∀ x ∈ l, ¬ x.Has k
/-- the stretches that are in no region -/
def free (m : Int) (l : List Rg) : List (Int × Int) := gaps 0 (taken m l ++ [(m, m)])
theorem gaps_segs {m : Int} : ∀ (l : List Rg) (a : Int), l.Pairwise (fun x y => x.b ≤ y.b) → 0 ≤ a → a ≤ m → Segs (Free l) m a (gaps a (taken m l ++ [(m, m)]))
  | [], a, _, h0, h1 => by
    simp only [taken, List.filter_nil, List.map_nil, List.nil_append, gaps]
    by_cases ha : a < m
    · rw [if_pos ha]
      refine ⟨by omega, by omega, by omega, fun x g1 g2 => by omega, fun x _ _ y hy => (by cases hy), fun g => by omega, fun x g1 g2 => by omega⟩
    · rw [if_neg ha]
      intro x g1 g2; omega
  | x :: l, a, hs, h0, h1 => by
    obtain ⟨hx, hs'⟩ := List.pairwise_cons.1 hs
    have hb := x.h
    have hm0 : 0 ≤ m := by omega
    by_cases h2 : x.s = 0
    · have e : taken m (x :: l) = taken m l := by simp [taken, h2]
      rw [e]
      refine Segs.congr (fun k _ _ => ?_) (gaps_segs l a hs' h0 h1)
      constructor
      · intro hf y hy
        rcases List.mem_cons.1 hy with rfl | hy
        · unfold Rg.Has Rg.e; omega
        · exact hf y hy
      · exact fun hf y hy => hf y (List.mem_cons_of_mem _ hy)
    · have e : taken m (x :: l) = (min x.b m, min x.e m) :: taken m l := by simp [taken, h2]
      have he : x.e = x.b + x.s := rfl
      rw [e, List.cons_append, gaps]
      have ih := gaps_segs (m := m) l (max a (min x.e m)) hs' (by omega) (by omega)
      have ih2 : Segs (Free (x :: l)) m (max a (min x.e m)) (gaps (max a (min x.e m)) (taken m l ++ [(m, m)])) := by
        refine Segs.congr (fun k g1 g2 => ?_) ih
        constructor
        · intro hf y hy
          rcases List.mem_cons.1 hy with rfl | hy
          · unfold Rg.Has; omega
          · exact hf y hy
        · exact fun hf y hy => hf y (List.mem_cons_of_mem _ hy)
      by_cases hlt : a < min x.b m
      · rw [if_pos hlt]
        refine ⟨by omega, by omega, by omega, ?_, ?_, ?_, ?_⟩
        · intro y g1 g2; omega
        · intro k g1 g2 y hy
          rcases List.mem_cons.1 hy with rfl | hy
          · unfold Rg.Has; omega
          · have := hx y hy
            unfold Rg.Has; omega
        · intro g hf
          exact hf x (by simp) (by unfold Rg.Has; omega)
        · refine Segs.lower (lo' := max a (min x.e m)) (by omega) ?_ ih2
          intro k g1 g2 hf
          refine hf x (by simp) ?_
          unfold Rg.Has; omega
      · rw [if_neg hlt, List.nil_append]
        refine Segs.lower (lo' := max a (min x.e m)) (by omega) ?_ ih2
        intro k g1 g2 hf
        refine hf x (by simp) ?_
        unfold Rg.Has; omega
theorem free_segs {m : Int} {l l' : List Rg} (hp : l'.Perm l) (hs : l'.Pairwise (fun x y => x.b ≤ y.b)) (hm : 0 ≤ m) : Segs (Free l) m 0 (free m l') := by
  refine Segs.congr (fun k _ _ => ?_) (gaps_segs l' 0 hs (Int.le_refl _) hm)
  exact ⟨fun h x hx => h x (hp.mem_iff.2 hx), fun h x hx => h x (hp.mem_iff.1 hx)⟩
end Rights
end Go.Proofs.Ytekicfaakjbmhaa
