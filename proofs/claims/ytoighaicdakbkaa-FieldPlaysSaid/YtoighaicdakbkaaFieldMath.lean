/- A field in numbers: its definition, its words, what each call answers and leaves. No program. -/
import Derived.Laws.BitsLemmas
import Derived.WalkSmall
namespace Go.Proofs.Ytoighaicdakbkaa
namespace Fld
set_option linter.unusedSimpArgs false
/-- is a partition one of some? -/
def bit (rd part : Int) : Bool := decide (0 ≤ part) && decide (rd / 2 ^ part.toNat % 2 = 1)
/-- a definition -/
structure Df where
  ins : Int
  rd : Int
  wr : Int
  safe : List Int
def Df.may (d : Df) : Bool := decide (0 ≤ d.ins) && decide (d.ins ≤ 16) && decide (d.safe.length ≤ 16) && decide (d.rd ≤ 255) && decide (0 ≤ d.wr) && decide (d.wr ≤ 7)
/-- a field: readers, writer, safe state, input words, output words, what was put out -/
structure Fv where
  rd : Int
  wr : Int
  safe : List Int
  ins : List Int
  outs : List Int
  puts : List (Option Int)
structure Fv.ok (s : Fv) : Prop where
  rd : 0 ≤ s.rd ∧ s.rd ≤ 255
  wr : 0 ≤ s.wr ∧ s.wr ≤ 7
  si : s.ins.length ≤ 16
  ss : s.safe.length ≤ 16
  so : s.outs.length = s.safe.length
  sp : s.puts.length = s.safe.length
/-- what was put out, else the safe state -/
def merge : List Int → List (Option Int) → List Int
  | a :: l, p :: ps => p.getD a :: merge l ps
  | _, _ => []
theorem merge_len : ∀ (l : List Int) (ps : List (Option Int)), ps.length = l.length → (merge l ps).length = l.length
  | [], _, _ => by simp [merge]
  | a :: l, [], h => by simp at h
  | a :: l, p :: ps, h => by simp [merge, merge_len l ps (by simpa using h)]
theorem merge_at : ∀ (l : List Int) (ps : List (Option Int)) (i : Nat), ps.length = l.length → i < l.length → (merge l ps).getD i 0 = (ps.getD i none).getD (l.getD i 0)
  | [], _, i, _, hi => by simp at hi
  | a :: l, [], _, h, _ => by simp at h
  | a :: l, p :: ps, 0, _, _ => by simp [merge]
  | a :: l, p :: ps, i + 1, h, hi => by
    have := merge_at l ps i (by simpa using h) (by simpa using hi)
    simpa [merge] using this
theorem merge_none : ∀ (l : List Int) (n : Nat), n = l.length → merge l (List.replicate n none) = l
  | [], n, h => by simp [merge]
  | a :: l, 0, h => by simp at h
  | a :: l, n + 1, h => by simp [List.replicate_succ, merge, merge_none l n (by simpa using h)]
theorem merge_set : ∀ (l : List Int) (ps : List (Option Int)) (i : Nat) (x : Int), ps.length = l.length → merge l (ps.set i (some x)) = (merge l ps).set i x
  | [], ps, i, x, h => by simp [merge]
  | a :: l, [], i, x, h => by simp at h
  | a :: l, p :: ps, 0, x, h => by simp [merge]
  | a :: l, p :: ps, i + 1, x, h => by simp [merge, merge_set l ps i x (by simpa using h)]
def newF (d : Df) : Fv := ⟨d.rd, d.wr, d.safe, List.replicate d.ins.toNat 0, d.safe, List.replicate d.safe.length none⟩
def latchE (s : Fv) (l : List Int) : Int := if l.length = s.ins.length then 0 else 2
def latchF (s : Fv) (l : List Int) : Fv := if l.length = s.ins.length then { s with ins := l, puts := List.replicate s.safe.length none } else s
def refuse (may : Bool) (n : Int) (count : Nat) : Int := if may = true then (if 0 ≤ n ∧ n < count then 0 else 5) else 70
def inE (s : Fv) (part n : Int) : Int := refuse (bit s.rd part) n s.ins.length
def inV (s : Fv) (part n : Int) : Int := if inE s part n = 0 then s.ins.getD n.toNat 0 else 0
def outE (s : Fv) (part n : Int) : Int := refuse (part == s.wr) n s.safe.length
def outF (s : Fv) (part n x : Int) : Fv := if outE s part n = 0 then { s with puts := s.puts.set n.toNat (some x) } else s
def comF (s : Fv) (ok : Bool) : Fv := { s with outs := if ok = true then merge s.safe s.puts else s.safe, puts := List.replicate s.safe.length none }
theorem may_iff {d : Df} : d.may = true ↔ (0 ≤ d.ins ∧ d.ins ≤ 16 ∧ d.safe.length ≤ 16 ∧ d.rd ≤ 255 ∧ 0 ≤ d.wr ∧ d.wr ≤ 7) := by
  unfold Df.may
  simp only [Bool.and_eq_true, decide_eq_true_eq]
  omega
theorem newF_ok {d : Df} (h : d.may = true) (h0 : 0 ≤ d.rd) : (newF d).ok := by
  obtain ⟨h1, h2, h3, h4, h5, h6⟩ := may_iff.1 h
  exact ⟨⟨h0, h4⟩, ⟨h5, h6⟩, by simp [newF]; omega, h3, rfl, by simp [newF]⟩
theorem latchF_ok {s : Fv} (h : s.ok) (l : List Int) : (latchF s l).ok := by
  unfold latchF
  split
  · rename_i e; exact ⟨h.rd, h.wr, by simp only [e]; exact h.si, h.ss, h.so, by simp⟩
  · exact h
theorem outF_ok {s : Fv} (h : s.ok) (part n x : Int) : (outF s part n x).ok := by
  unfold outF
  split
  · exact ⟨h.rd, h.wr, h.si, h.ss, h.so, by simp [h.sp]⟩
  · exact h
theorem comF_ok {s : Fv} (h : s.ok) (ok : Bool) : (comF s ok).ok := by
  refine ⟨h.rd, h.wr, h.si, h.ss, ?_, by simp [comF]⟩
  unfold comF
  cases ok with
  | true => simp [merge_len _ _ h.sp]
  | false => simp
theorem refuse_zero {m : Bool} {n : Int} {c : Nat} : refuse m n c = 0 ↔ (m = true ∧ 0 ≤ n ∧ n < c) := by
  unfold refuse
  cases m with
  | false => simp
  | true =>
    by_cases h : 0 ≤ n ∧ n < c
    · simp [h]
    · rw [if_pos rfl, if_neg h]; simp; omega
theorem refuse_ne {m : Bool} {n : Int} {c : Nat} (h : refuse m n c ≠ 0) : (refuse m n c != 0) = true := by simpa using h
end Fld
end Go.Proofs.Ytoighaicdakbkaa
