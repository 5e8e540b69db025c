/- A value's kind, and its reading. -/
import Derived.Test.YtimhppgepiikbaaWireM6
namespace Go.Proofs.Ytimhppgepiikbaa
open Go.ChangeShapes Go.WideShapes Go.ChangeAt Go.RowKit
namespace Wire
set_option linter.unusedVariables false
/-- the value that a value's reading tells -/
def rdVal (k : Int) (sub : F) (s : RS) : Int × Int × List Int × F :=
  if k = 7 then (0, 0, [], if (rdList (kindE sub).1 (kindE sub).2 1048576 s).2.e = 0 then (rdList (kindE sub).1 (kindE sub).2 1048576 s).1 else .nil)
  else ((rdFlat k 1048576 s).n, (rdFlat k 1048576 s).i, (rdFlat k 1048576 s).b, .nil)
def BackPost (g : Nat) (W : World) (k : Int) (sub : F) (s : RS) (r : Ending) (w' : World) : Prop :=
  ∃ ba bn bc la ln lc, r = .returned (.agg #[.int .i64 k, .int .u64 (rdVal k sub s).1, .int .i64 (rdVal k sub s).2.1, .slice ba bn bc, .slice la ln lc]) ∧ SRow (fun _ => False) w' ba bn (rdVal k sub s).2.2.1 ∧ FRow (fun _ => False) w' la ln (rdVal k sub s).2.2.2 ∧ ln ≤ lc ∧ lc ≤ 9223372036854775807 ∧
    RSt (fun _ => False) g w' (rdVs k sub s) ∧ Kept (· = g) W w'
def KindPost (g : Nat) (k : Int) (sub : F) (W : World) (r : Ending) (w' : World) : Prop :=
  ∃ kv, r = .returned kv ∧ Below W.heap.size W w' ∧ ∀ s, RSt (fun _ => False) g w' s → Calls Try.prog 13 #[.pointer (some ⟨g, 0, none⟩), kv] w' (BackPost g w' k sub s)
theorem flat_kind {k n i : Int} {b : List Int} {sub : F} (h : FlatV k n i b sub) : ¬ k = 7 ∧ (-9223372036854775808 ≤ k ∧ k ≤ 9223372036854775807) := by
  obtain ⟨_, h⟩ := h
  rcases h with ⟨rfl, _⟩ | ⟨rfl, _⟩ | ⟨rfl, _⟩ | ⟨rfl, _⟩ | ⟨rfl, _⟩ | ⟨rfl, _⟩ <;> (constructor <;> omega)
theorem kind_any (g : Nat) (w : World) (k n i : Int) (b : List Int) (sub : F) (ba la : Option Addr) (bn bc ln lc : Nat) (hp : PlainV k n i b sub) (hr : FRow (fun _ => False) w la ln sub) (hc : ln ≤ lc) (hm : lc ≤ 9223372036854775807) :
    Calls Try.prog 14 #[.agg #[.int .i64 k, .int .u64 n, .int .i64 i, .slice ba bn bc, .slice la ln lc]] w (KindPost g k sub w) := by
  by_cases h7 : k = 7
  · subst h7
    have hfl : Flat sub := by
      rcases hp with hp | ⟨_, _, _, _, hf, _⟩
      · exact absurd rfl (flat_kind hp).1
      · exact hf
    refine (kind_list w n i ba la bn bc ln lc sub hr hc hm).mono ?_
    rintro r w' ⟨b0, ek, en, rfl, h1, h2, h3, h4⟩
    refine ⟨_, rfl, h4, fun s hs => ?_⟩
    have hE : kindE sub = (ek, en) ∧ ¬ ek = 7 ∧ (0 ≤ en ∧ en ≤ 1048576) ∧ (-9223372036854775808 ≤ ek ∧ ek ≤ 9223372036854775807) := by
      rcases h3 with ⟨rfl, rfl, rfl⟩ | ⟨x1, x2, x3, x4, x5, rfl, rfl⟩
      · exact ⟨rfl, by omega, by omega, by omega⟩
      · exact ⟨rfl, (flat_kind hfl.1).1, by omega, (flat_kind hfl.1).2⟩
    obtain ⟨e1, e2, e3, e4⟩ := hE
    refine (read_list g b0 w' 1048576 ek en 0 none 0 0 s (by omega) (by omega) h1 e2 e3.1 e3.2 e4 hs).mono ?_
    rintro r w2 ⟨la', ln', lc', rfl, q1, q2, q3, q4, q5⟩
    have v1 : rdVal 7 sub s = (0, 0, [], if (rdList ek en 1048576 s).2.e = 0 then (rdList ek en 1048576 s).1 else .nil) := by unfold rdVal; rw [if_pos rfl, e1]
    have v2 : rdVs 7 sub s = (rdList ek en 1048576 s).2 := by unfold rdVs; rw [if_pos rfl, e1]
    unfold BackPost
    rw [v1, v2]
    exact ⟨none, 0, 0, la', ln', lc', rfl, ⟨rfl, by simp, Or.inl rfl⟩, q1, q2, q3, q4, q5⟩
  · refine (kind_flat w k n i ba la bn bc ln lc h7).mono ?_
    rintro r w' ⟨rfl, h4⟩
    refine ⟨_, rfl, h4, fun s hs => ?_⟩
    refine (read_flat g w' k 1048576 0 none none 0 0 0 0 s (by omega) (by omega) hs h7).mono ?_
    rintro r w2 ⟨ba', bn', bc', rfl, q1, q2, q3, q4, q5, q6, _, _⟩
    have v1 : rdVal k sub s = ((rdFlat k 1048576 s).n, (rdFlat k 1048576 s).i, (rdFlat k 1048576 s).b, .nil) := by unfold rdVal; rw [if_neg h7]
    have v2 : rdVs k sub s = (rdFlat k 1048576 s).s := by unfold rdVs; rw [if_neg h7]
    unfold BackPost
    rw [v1, v2]
    exact ⟨ba', bn', bc', none, 0, 0, rfl, (own_parts q1 q4).1.imp (fun _ _ h => h.elim), ⟨rfl, Or.inl rfl⟩, by omega, by omega, q5, q6⟩
/-- what is told is what was written -/
theorem val_back {D R : List Int} {p : Nat} {k n i : Int} {b : List Int} {sub : F} (hp : PlainV k n i b sub) (hn : (0 ≤ n ∧ n ≤ 18446744073709551615) ∧ Nums sub) (hbad : ¬ bad k i sub) (hg : k = 7 → Good sub) (hl : b.length ≤ 200000) (hs : Small sub) (h : D.drop p = encV k n i b sub ++ R) :
    rdVal k sub ⟨D, p, 0⟩ = (n, i, b, sub) := by
  unfold rdVal
  rcases hp with hp | ⟨rfl, rfl, rfl, rfl, hf, K, ha⟩
  · have hsub : sub = .nil := hp.1
    subst hsub
    have hk7 := (flat_kind hp).1
    have e0 : encV k n i b .nil = moreB k n i b .nil := by simp [encV, hk7]
    rw [if_neg hk7, flat_back hp hn.1 hbad hl (by rw [h, e0])]
  · have hl2 : sub.len ≤ 65535 := by
      apply Nat.le_of_not_lt; intro hh; exact hbad (Or.inr ⟨rfl, hh⟩)
    have e0 : encV 7 0 0 [] sub = le 2 sub.len ++ enc sub := rfl
    rw [if_pos rfl, list_back sub D R p K hf ha hn.2 (hg rfl) hs hl2 (by rw [h, e0]; simp)]
    simp
theorem nums_of {p : Nat → Prop} {w : World} (f : F) : ∀ {b o : Nat}, FIn p w b o f → Nums f := by
  induction f with
  | nil => intro _ _ _; trivial
  | cons k n i bs sub next ihs ihn =>
    intro b o h
    obtain ⟨_, _, _, _, _, ⟨la, ln, lc, _, _, _, g4, g5⟩, hb, hn⟩ := h
    refine ⟨hb.2.1, ?_, ihn hn⟩
    rcases g5 with g5 | ⟨b', o', _, g5⟩
    · cases sub with
      | nil => trivial
      | cons => simp [F.len] at g4; omega
    · exact ihs g5
theorem nums_row {p : Nat → Prop} {w : World} {a : Option Addr} {n : Nat} {f : F} (h : FRow p w a n f) : Nums f := by
  obtain ⟨h1, h2⟩ := h
  rcases h2 with h2 | ⟨b, o, _, h2⟩
  · cases f with
    | nil => trivial
    | cons => simp [F.len] at h1; omega
  · exact nums_of f h2
theorem Good.drop (f : F) : ∀ k, Good f → Good (f.drop k) := by
  induction f with
  | nil => intro k _; cases k <;> trivial
  | cons k n i b sub next _ ih =>
    intro j h
    cases j with
    | zero => exact h
    | succ j => exact ih j h.2.1
theorem Plain.drop (f : F) : ∀ k, Plain f → Plain (f.drop k) := by
  induction f with
  | nil => intro k _; cases k <;> trivial
  | cons k n i b sub next _ ih =>
    intro j h
    cases j with
    | zero => exact h
    | succ j => exact ih j h.2
theorem Nums.drop (f : F) : ∀ k, Nums f → Nums (f.drop k) := by
  induction f with
  | nil => intro k _; cases k <;> trivial
  | cons k n i b sub next _ ih =>
    intro j h
    cases j with
    | zero => exact h
    | succ j => exact ih j h.2.2
/-- all but the last -/
theorem head_any {p : Nat → Prop} {w : World} {a : Option Addr} {r c : Nat} {l : List Int} (h : SRow p w a r l) (m : Nat) (v : Int) (hv : v = m) (hm : m ≤ r) (hc : r ≤ c) (h0 : 0 < r) :
    ∃ a', (∀ W : World, (Instr.slice 26 (.slice a r c) none (some (.int .i64 v)) none).run Try.prog W = .ok (.slice a' m c) W) ∧ SRow p w a' m (l.take m) ∧ ¬ a' = none := by
  subst hv
  have ht : Try.prog.underlying 26 = some (.slice (Try.prog.elem 26)) := by kernel_rfl
  have ha : ∃ b off, a = some ⟨b, off, none⟩ := by
    rcases h.2.2 with h | ⟨b, off, e, _⟩
    · omega
    · exact ⟨b, off, e⟩
  obtain ⟨b, off, rfl⟩ := ha
  refine ⟨if c = 0 then some ⟨b, off, none⟩ else (some ⟨b, off, none⟩ : Option Addr).map (·.add (0 * 1)), fun W => ?_, ?_, by split <;> simp⟩
  · have hs : (sizeOf (Try.prog.elem 26)).run Try.prog W = .ok 1 W := by kernel_rfl
    rw [run_slice_h W 26 _ r c ht .i64 (m : Int) (by omega) (by omega), hs]
    simp [Result.andThen, sliced]
  · obtain ⟨h1, h2, h3⟩ := h
    refine ⟨by simp; omega, fun z hz => h2 z (List.mem_of_mem_take hz), ?_⟩
    by_cases e : m = 0
    · exact Or.inl e
    · rcases h3 with h3 | ⟨b', off', e', hp, hc'⟩
      · omega
      · simp only [Option.some.injEq, Addr.mk.injEq] at e'
        obtain ⟨rfl, rfl, _⟩ := e'
        rw [if_neg (by omega)]
        refine Or.inr ⟨b, off, by simp [Addr.add], hp, fun i hi => ?_⟩
        rw [hc' i (by omega)]
        simp [List.getD, hi]
end Wire
end Go.Proofs.Ytimhppgepiikbaa
