/- told: what Free tells, in two lists. -/
import Derived.Test.YtekicfaakjbmhaaRightsFree
import Derived.Maps.AppendAt
namespace Go.Proofs.Ytekicfaakjbmhaa
open Go.ChangeShapes Go.WideShapes Go.ChangeAt Go.RowKit
namespace Rights
set_option linter.unusedVariables false
set_option linter.unusedSimpArgs false
attribute [local go_sem] Oper.semAt_some
theorem ownsRow_block {X Y : World} {base : Nat} {e : TypeId} {sz n : Nat} {v : Value} {xs : List Value} (h : X.ownsRow base e sz v n xs) (hb : ∀ k, v.ownBlock = some k → k < X.heap.size → Y.heap[k]? = X.heap[k]?) : Y.ownsRow base e sz v n xs := by
  obtain ⟨h1, h2⟩ := h
  refine ⟨h1, ?_⟩
  rcases h2 with h2 | ⟨g, cap, cur, rfl, hg, hh, rest⟩
  · exact .inl h2
  · exact .inr ⟨g, cap, cur, rfl, hg, (hb g rfl (lt_of_block hh)).trans hh, rest⟩
theorem gaps_len : ∀ (ps : List (Int × Int)) (a : Int), (gaps a ps).length ≤ ps.length
  | [], _ => by simp [gaps]
  | (b, e) :: ps, a => by
    have := gaps_len ps (max a e)
    simp only [gaps, List.length_append, List.length_cons]
    split <;> simp <;> omega
theorem free_len (m : Int) (l : List Rg) : (free m l).length ≤ l.length + 1 := by
  have h := gaps_len (taken m l ++ [(m, m)]) 0
  have h2 : (taken m l).length ≤ l.length := by unfold taken; rw [List.length_map]; exact List.length_filter_le _ _
  simp at h
  unfold free
  omega
def ats (L : List (Int × Int)) : List Value := L.map fun p => .int .u32 p.1
def szs (L : List (Int × Int)) : List Value := L.map fun p => .int .u32 p.2
theorem infoU : ∃ i0 z, Try.prog.info? 22 = some i0 ∧ i0.zero = some z ∧ i0.size = 1 ∧ i0.bytes = 4 ∧ z.cells.size = 1 := by
  have h : (Try.prog.info? 22).map (fun i => (i.zero, i.size, i.bytes)) = some (some (.int .u32 0), 1, 4) := by kernel_rfl
  obtain ⟨i0, hi, hz0, hz1, hz2⟩ := info_parts h
  exact ⟨i0, _, hi, hz0, hz1, hz2, rfl⟩
/-- how all stands between two rounds: the boxes S and S + 1, a row each, none of them the iterator's; B: the heap's size when the loop began -/
structure TI (S B : Nat) (w : World) (pre : List (Int × Int)) (q : Nat → Prop) (va vs : Value) (V : World) : Prop where
  h0 : V.heap[S]? = some (.cells #[va] 30 (0, 0))
  h1 : V.heap[S + 1]? = some (.cells #[vs] 30 (0, 0))
  oa : V.ownsRow (B + 2) 22 1 va pre.length (ats pre)
  os : V.ownsRow (B + 2) 22 1 vs pre.length (szs pre)
  na : ∀ k, va.ownBlock = some k → ¬ q k
  ns : ∀ k, vs.ownBlock = some k → ¬ q k
  ne : ∀ k, va.ownBlock = some k → vs.ownBlock ≠ some k
  sb : S + 2 ≤ B
  bel : Below S w V
  qs : ∀ k, q k → S + 2 ≤ k
theorem ti_stable (S B : Nat) (w : World) : Stable (fun k => k = B ∨ k = B + 1) (fun pre q V => ∃ va vs, TI S B w pre q va vs V) := by
  rintro pre q q' X Y ⟨va, vs, h⟩ hk hq
  have hlt : ∀ (v : Value) (n : Nat) (xs : List Value), X.ownsRow (B + 2) 22 1 v n xs → ∀ k, v.ownBlock = some k → B + 2 ≤ k ∧ k < X.heap.size := fun v n xs ho k hk => ho.lt k hk
  have hs := h.sb
  have hbase : ∀ k, k < S + 2 → ¬ (q k ∨ (k = B ∨ k = B + 1)) := by
    rintro k hlt (x | x | x)
    · have := h.qs k x; omega
    · omega
    · omega
  have keep : ∀ (v : Value) (n : Nat) (xs : List Value), X.ownsRow (B + 2) 22 1 v n xs → (∀ k, v.ownBlock = some k → ¬ q k) → Y.ownsRow (B + 2) 22 1 v n xs := fun v n xs ho hn =>
    ownsRow_block ho fun k hk' hlt' => hk.block k hlt' (by
      rintro (x | x | x)
      · exact hn k hk' x
      · have := (ho.lt k hk').1; omega
      · have := (ho.lt k hk').1; omega)
  have nq : ∀ (v : Value) (n : Nat) (xs : List Value), X.ownsRow (B + 2) 22 1 v n xs → (∀ k, v.ownBlock = some k → ¬ q k) → (∀ k, v.ownBlock = some k → ¬ q' k) := fun v n xs ho hn k hk' hq' => by
    rcases (hq k hq').1 with x | x
    · exact hn k hk' x
    · have := (ho.lt k hk').2; omega
  refine ⟨va, vs, hk.same h.h0 (hbase _ (by omega)), hk.same h.h1 (hbase _ (by omega)), keep _ _ _ h.oa h.na, keep _ _ _ h.os h.ns, nq _ _ _ h.oa h.na, nq _ _ _ h.os h.ns, h.ne, h.sb, h.bel.trans (hk.toBelow ?_ ?_), ?_⟩
  · have := lt_of_block h.h0; omega
  · intro k hlt'; exact hbase k (by omega)
  · intro k hk'
    rcases (hq k hk').1 with x | x
    · exact h.qs k x
    · have := lt_of_block h.h1; omega
/-- a slice of one number, in a new row -/
def rowP (B0 : Nat) (u : Value) : Value → World → Prop := fun v X => ∃ b, B0 ≤ b ∧ v = .slice (some ⟨b, 0, none⟩) 1 1 ∧ X.heap[b]? = some (.cells #[u] 22 (0, 0))
def EA (va : Value) : World → World → Prop := fun X Y => Kept (fun k => va.ownBlock = some k) X Y
theorem ea_rel (va : Value) : Posts.Rel (EA va) := ⟨fun _ => Kept.refl _ _, fun _ _ _ h k => h.trans k, fun _ => (Kept.refl _ _).drew⟩
theorem rowP_stable {B0 : Nat} {u va : Value} (h : ∀ k, va.ownBlock = some k → k < B0) : Posts.Stable (EA va) (rowP B0 u) := by
  rintro v X Y ⟨b, hb, rfl, hh⟩ hE
  exact ⟨b, hb, rfl, Kept.same hE hh (fun e => by have := h b e; omega)⟩
theorem not_undef_stable {E : World → World → Prop} : Posts.Stable E (fun v _ => v ≠ undef) := fun _ _ _ h _ => h
/-- what has become of the first list's row: nothing yet, or one more -/
def JA (B B0 n : Nat) (xa xs : List Value) (u va vs : Value) (a : Act) (X : World) : Prop :=
  X.ownsRow (B + 2) 22 1 vs n xs ∧ B0 ≤ X.heap.size ∧
  ((a.tmps.getD 16 undef = undef ∧ X.ownsRow (B + 2) 22 1 va n xa) ∨
   (∃ v', a.tmps.getD 16 undef = v' ∧ X.ownsRow (B + 2) 22 1 v' (n + 1) (xa ++ [u]) ∧ (∀ k, v'.ownBlock = some k → va.ownBlock = some k ∨ B0 ≤ k)))
theorem ja_next {B B0 n : Nat} {xa xs : List Value} {u va vs : Value} {a a' : Act} {X Y : World} (h : JA B B0 n xa xs u va vs a X) (hs : a'.tmps.getD 16 undef = a.tmps.getD 16 undef) (hb : Below X.heap.size X Y) : JA B B0 n xa xs u va vs a' Y := by
  obtain ⟨h1, h2, h3⟩ := h
  refine ⟨ownsRow_block h1 fun k _ hk => hb.block k hk, Nat.le_trans h2 hb.size, ?_⟩
  rw [hs]
  rcases h3 with ⟨h3, h4⟩ | ⟨v', h3, h4, h5⟩
  · exact .inl ⟨h3, ownsRow_block h4 fun k _ hk => hb.block k hk⟩
  · exact .inr ⟨v', h3, ownsRow_block h4 fun k _ hk => hb.block k hk, h5⟩
theorem cell_one_row {X : World} {b : Nat} {u : Value} {t : TypeId} (h : X.heap[b]? = some (.cells #[u] t (0, 0))) : ∀ j v, [u][j]? = some v → X.cell? ((⟨b, 0, none⟩ : Addr).add j) = some v := by
  intro j v hv
  have hj : j = 0 := by have := (List.getElem?_eq_some_iff.1 hv).1; simp at this; omega
  subst hj
  simp at hv
  subst hv
  rw [Addr.add_lit]
  simp [World.cell?, h]
theorem kept_grown {X Y : World} {row : Option Nat} (h : X.grownBy Y row) : Kept (fun k => row = some k) X Y := ⟨h.os, h.tape, h.output, h.size, fun k hk hn => h.block k hk (fun e => hn e.symm)⟩
theorem ownsRow_lt {X : World} {base : Nat} {e : TypeId} {sz n : Nat} {v : Value} {xs : List Value} (h : X.ownsRow base e sz v n xs) {k : Nat} (hk : v.ownBlock = some k) : base ≤ k ∧ k < X.heap.size := h.lt k hk
/-- both lists have one more -/
theorem ti_next {S B : Nat} {w V Y Y7 : World} {pre : List (Int × Int)} {q : Nat → Prop} {va vs va' vs' : Value} {x : Int × Int} (h : TI S B w pre q va vs V) (hsz : B + 2 ≤ V.heap.size) (hq : ∀ k, q k → B + 2 ≤ k ∧ k < V.heap.size)
    (hY : Kept (fun k => va.ownBlock = some k) V Y) (oa : Y.ownsRow (B + 2) 22 1 va' (pre.length + 1) (ats pre ++ [.int .u32 x.1])) (aa : ∀ k, va'.ownBlock = some k → va.ownBlock = some k ∨ V.heap.size ≤ k)
    (hg : Y.grownBy Y7 vs.ownBlock) (os : Y7.ownsRow (B + 2) 22 1 vs' (pre.length + 1) (szs pre ++ [.int .u32 x.2])) (asl : vs'.ownBlock = vs.ownBlock ∨ vs'.ownBlock = some Y.heap.size) :
    Kept (fun k => ¬ q k ∧ ¬ (S + 2 ≤ k ∧ k < B) ∧ k ≠ B ∧ k ≠ B + 1) V ((Y7.setCell ⟨S, 0, none⟩ va').setCell ⟨S + 1, 0, none⟩ vs') ∧ TI S B w (pre ++ [x]) q va' vs' ((Y7.setCell ⟨S, 0, none⟩ va').setCell ⟨S + 1, 0, none⟩ vs') := by
  have hsb := h.sb
  have hg' := kept_grown hg
  have hva : ∀ k, va.ownBlock = some k → B + 2 ≤ k ∧ k < V.heap.size := fun k hk => ownsRow_lt h.oa hk
  have hvs : ∀ k, vs.ownBlock = some k → B + 2 ≤ k ∧ k < V.heap.size := fun k hk => ownsRow_lt h.os hk
  have hYs := hY.size
  have hva' : ∀ k, va'.ownBlock = some k → B + 2 ≤ k ∧ k < Y.heap.size := fun k hk => ownsRow_lt oa hk
  have hvs' : ∀ k, vs'.ownBlock = some k → B + 2 ≤ k ∧ k < Y7.heap.size := fun k hk => ownsRow_lt os hk
  have K1 : Kept (fun k => va.ownBlock = some k ∨ vs.ownBlock = some k ∨ k = S ∨ k = S + 1) V ((Y7.setCell ⟨S, 0, none⟩ va').setCell ⟨S + 1, 0, none⟩ vs') := by
    refine Kept.setCell (Kept.setCell ?_ (.inl (.inr (.inr (.inl rfl)))) _) (.inl (.inr (.inr (.inr rfl)))) _
    exact (hY.mono fun k _ e => .inl e).trans (hg'.mono fun k _ e => .inr (.inl e))
  have hS7 : Y7.heap[S]? = some (.cells #[va] 30 (0, 0)) := hg'.same (hY.same h.h0 (fun e => by have := hva _ e; omega)) (fun e => by have := hvs _ e; omega)
  have hS71 : Y7.heap[S + 1]? = some (.cells #[vs] 30 (0, 0)) := hg'.same (hY.same h.h1 (fun e => by have := hva _ e; omega)) (fun e => by have := hvs _ e; omega)
  have K2 : Kept (fun k => k = S ∨ k = S + 1) Y7 ((Y7.setCell ⟨S, 0, none⟩ va').setCell ⟨S + 1, 0, none⟩ vs') :=
    Kept.setCell (Kept.setCell (Kept.refl _ _) (.inl (.inl rfl)) _) (.inl (.inr rfl)) _
  refine ⟨K1.mono fun k hk e => ?_, ⟨?_, ?_, ?_, ?_, ?_, ?_, ?_, hsb, ?_, h.qs⟩⟩
  · rcases e with e | e | e | e
    · have := hva k e; exact ⟨h.na k e, by omega, by omega, by omega⟩
    · have := hvs k e; exact ⟨h.ns k e, by omega, by omega, by omega⟩
    · subst e; exact ⟨fun x => by have := h.qs _ x; omega, by omega, by omega, by omega⟩
    · subst e; exact ⟨fun x => by have := h.qs _ x; omega, by omega, by omega, by omega⟩
  · exact ((Kept.refl (fun k => k = S + 1) (Y7.setCell ⟨S, 0, none⟩ va')).setCell (.inl rfl) _).same (heap_set1 hS7) (by omega)
  · exact heap_set1 (((Kept.refl (fun k => k = S) Y7).setCell (.inl rfl) _).same hS71 (by omega))
  · have e : ats (pre ++ [x]) = ats pre ++ [.int .u32 x.1] := by simp [ats]
    rw [e, List.length_append]
    refine ownsRow_block oa fun k hk hlt => ?_
    have h1 := hva' k hk
    refine (K2.block k (by have := hg'.size; omega) (by omega)).trans (hg'.block k hlt fun e => ?_)
    have h2 := hvs k e
    rcases aa k hk with h3 | h3
    · exact h.ne k h3 e
    · omega
  · have e : szs (pre ++ [x]) = szs pre ++ [.int .u32 x.2] := by simp [szs]
    rw [e, List.length_append]
    refine ownsRow_block os fun k hk hlt => ?_
    have h1 := hvs' k hk
    exact K2.block k hlt (by omega)
  · intro k hk hqk
    have h2 := hq k hqk
    rcases aa k hk with h3 | h3
    · exact h.na k h3 hqk
    · omega
  · intro k hk hqk
    have h2 := hq k hqk
    rcases asl with h3 | h3
    · exact h.ns k (h3 ▸ hk) hqk
    · rw [h3] at hk; cases hk; omega
  · intro k hk hk2
    have h1 := hva' k hk
    rcases asl with h3 | h3
    · rw [h3] at hk2
      have h4 := hvs k hk2
      rcases aa k hk with h5 | h5
      · exact h.ne k h5 hk2
      · omega
    · rw [h3] at hk2; cases hk2; omega
  · refine h.bel.trans (K1.toBelow (by omega) fun k hk => ?_)
    rintro (e | e | e | e)
    · have := hva k e; omega
    · have := hvs k e; omega
    · omega
    · omega
end Rights
end Go.Proofs.Ytekicfaakjbmhaa
