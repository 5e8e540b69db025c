/- FieldPlays: what stands behind each call: the field, the document's, and a block of the caller's. -/
import Derived.Test.YtoighaicdakbkaaFieldR4
namespace Go.Proofs.Ytoighaicdakbkaa
open Go.ChangeShapes Go.WideShapes Go.ChangeAt Go.RowKit
namespace Fld
set_option linter.unusedVariables false
set_option linter.unusedSimpArgs false
/-- both fields -/
structure P0 (W : World) (S : Nat) (d : Df) (b : Option Addr) (c : Nat) (A : Ra) (a : Fa) (s : Fv) (ri ro : List Int) (ps : List (Int × Int)) (V : World) : Prop where
  fr : Fr W S d b c a.wr a s V
  rf : Rf S d b c A ri ro ps V
  dis : ∀ k, A.own k → ¬ a.own k
section
variable {W : World} {S : Nat} {d : Df} {b : Option Addr} {c : Nat} {A A' : Ra} {a a' : Fa} {s s' : Fv} {ri ro ri' ro' : List Int} {ps ps' : List (Int × Int)} {V V' : World}
theorem P0.below (h : P0 W S d b c A a s ri ro ps V) (hb : Below V.heap.size V V') : P0 W S d b c A a s ri ro ps V' := ⟨h.fr.below hb, h.rf.below hb, h.dis⟩
theorem P0.prog (h : P0 W S d b c A a s ri ro ps V) (hp : Fd V' a s') (hk : Kept a.wr V V') (hs : Alike s s') : P0 W S d b c A a s' ri ro ps V' :=
  ⟨h.fr.write hp hk hs, h.rf.kept hk (fun k hk' e => h.dis k hk' (wr_own e)), h.dis⟩
theorem P0.ref (h : P0 W S d b c A a s ri ro ps V) (hr : Rf S d b c A' ri' ro' ps' V') (hk : Kept A.own V V') (hn : ∀ k, A'.own k → A.own k ∨ V.heap.size ≤ k) : P0 W S d b c A' a s ri' ro' ps' V' := by
  have hS := lt_of_block h.fr.box
  refine ⟨⟨h.fr.fd.kept hk (fun k hk' e => h.dis k e hk'), h.fr.sub, h.fr.far, fun k hk' => Nat.lt_of_lt_of_le (h.fr.lt k hk') hk.size, h.fr.bel.trans (hk.toBelow (Nat.le_of_lt hS) (fun k hk' e => by have := h.rf.beyond k e; omega)), hk.same h.fr.box (fun e => by have := h.rf.beyond _ e; omega), h.fr.sf, h.fr.rd, h.fr.wq, h.fr.si⟩, hr, fun k hk' e => ?_⟩
  rcases hn k hk' with h1 | h1
  · exact h.dis k h1 e
  · have := h.fr.fd.lt k e; omega
end
/-- with a block of the caller's, that neither writes -/
def PV (W : World) (S : Nat) (d : Df) (b : Option Addr) (c r : Nat) (a : Fa) (vb : Nat) (cs : Array Value) (s : Fv) (ri ro : List Int) (ps : List (Int × Int)) (V : World) : Prop :=
  ∃ A, A.r = r ∧ P0 W S d b c A a s ri ro ps V ∧ V.heap[vb]? = some (.cells cs 38 (0, 0)) ∧ ¬ a.wr vb ∧ ¬ A.own vb
/-- both have the same words, and will have -/
def PS (W : World) (S : Nat) (d : Df) (b : Option Addr) (c r m : Nat) (a : Fa) (s : Fv) (V : World) : Prop :=
  ∃ A ps, A.r = r ∧ ps.length ≤ m ∧ play d.safe ps = merge s.safe s.puts ∧ P0 W S d b c A a s s.ins s.outs ps V
/-- with the field that was copied -/
def PO (W : World) (S : Nat) (d : Df) (b : Option Addr) (c r m : Nat) (ao : Fa) (so : Fv) (a : Fa) (s : Fv) (V : World) : Prop :=
  ∃ A ps, A.r = r ∧ ps.length ≤ m ∧ play d.safe ps = merge s.safe s.puts ∧ P0 W S d b c A a s s.ins s.outs ps V ∧ Fd V ao so ∧ ∀ k, ao.wr k → ¬ a.own k ∧ ¬ A.own k ∧ S < k
section
variable {W : World} {S : Nat} {d : Df} {b : Option Addr} {c r m : Nat} {a ao : Fa} {vb : Nat} {cs : Array Value} {s s' so so' : Fv} {ri ro ri' ro' : List Int} {ps ps' : List (Int × Int)} {V V' : World}
theorem PS.below (h : PS W S d b c r m a s V) (hb : Below V.heap.size V V') : PS W S d b c r m a s V' := by
  obtain ⟨A, ps, h1, h2, h3, h4⟩ := h
  exact ⟨A, ps, h1, h2, h3, h4.below hb⟩
theorem PS.fr (h : PS W S d b c r m a s V) : Fr W S d b c a.wr a s V := by
  obtain ⟨A, ps, h1, h2, h3, h4⟩ := h
  exact h4.fr
theorem PS.words (h : PS W S d b c r m a s V) : ∃ gi ci go co, V.cell? ⟨r, 4, none⟩ = some (.slice (some ⟨gi, 0, none⟩) s.ins.length ci) ∧ V.cell? ⟨r, 5, none⟩ = some (.slice (some ⟨go, 0, none⟩) s.outs.length co) ∧
    NRow (fun _ => False) V (some ⟨gi, 0, none⟩) s.ins.length s.ins ∧ NRow (fun _ => False) V (some ⟨go, 0, none⟩) s.outs.length s.outs := by
  obtain ⟨A, ps, rfl, h2, h3, h4⟩ := h
  obtain ⟨-, -, -, -, c4, c5, -⟩ := h4.rf.c0
  exact ⟨_, _, _, _, c4, c5, h4.rf.ri.nrow id, h4.rf.ro.nrow id⟩
theorem PS.v (h : PS W S d b c r m a s V) (cs : Array Value) : ∃ ps, ps.length ≤ m ∧ play d.safe ps = merge s.safe s.puts ∧ PV W S d b c r a V.heap.size cs s s.ins s.outs ps (V.alloc (.cells cs 38)) := by
  obtain ⟨A, ps, h1, h2, h3, h4⟩ := h
  exact ⟨ps, h2, h3, A, h1, h4.below (below_alloc _ _), heap_alloc_new _ _, fun e => by have := h4.fr.lt _ e; omega, fun e => by have := h4.rf.lt _ e; omega⟩
theorem PV.st (h : PV W S d b c r a vb cs s s.ins s.outs ps V) (hl : ps.length ≤ m) (hm : play d.safe ps = merge s.safe s.puts) : PS W S d b c r m a s V := by
  obtain ⟨A, h1, h2, _⟩ := h
  exact ⟨A, ps, h1, hl, hm, h2⟩
theorem PV.st' (h : PV W S d b c r a vb cs s ri ro ps V) (hi : ri = s.ins) (ho : ro = s.outs) (hl : ps.length ≤ m) (hm : play d.safe ps = merge s.safe s.puts) : PS W S d b c r m a s V := by
  subst hi
  subst ho
  exact h.st hl hm
theorem PV.v (h : PV W S d b c r a vb cs s ri ro ps V) : V.heap[vb]? = some (.cells cs 38 (0, 0)) := by
  obtain ⟨A, h1, h2, h3, _⟩ := h
  exact h3
theorem PV.fr (h : PV W S d b c r a vb cs s ri ro ps V) : Fr W S d b c a.wr a s V := by
  obtain ⟨A, h1, h2, _⟩ := h
  exact h2.fr
theorem PV.below (h : PV W S d b c r a vb cs s ri ro ps V) (hb : Below V.heap.size V V') : PV W S d b c r a vb cs s ri ro ps V' := by
  obtain ⟨A, h1, h2, h3, h4, h5⟩ := h
  exact ⟨A, h1, h2.below hb, (hb.block vb (lt_of_block h3)).trans h3, h4, h5⟩
theorem PV.drew (h : PV W S d b c r a vb cs s ri ro ps V) : PV W S d b c r a vb cs s ri ro ps V.drew := h.below (below_drewN (Below.refl _ _) 1)
theorem PV.prog (h : PV W S d b c r a vb cs s ri ro ps V) (hp : Fd V' a s') (hk : Kept a.wr V V') (hs : Alike s s') : PV W S d b c r a vb cs s' ri ro ps V' := by
  obtain ⟨A, h1, h2, h3, h4, h5⟩ := h
  exact ⟨A, h1, h2.prog hp hk hs, hk.same h3 h4, h4, h5⟩
/-! ### The calls -/
abbrev Out (W : World) (S : Nat) (d : Df) (b : Option Addr) (c r : Nat) (a : Fa) (vb : Nat) (cs : Array Value) (s : Fv) (ri ro : List Int) (ps : List (Int × Int)) (v : Value) (e : Ending) (V' : World) : Prop := e = .returned v ∧ PV W S d b c r a vb cs s ri ro ps V'
theorem latchPV (h : PV W S d b c r a vb cs s ri ro ps V) {x : Option Addr} {n cc : Nat} {l : List Int} (hr : ∀ Y, Below S W Y → NRow (fun k => S ≤ k) Y x n l) (hn : n ≤ 9223372036854775807) :
    Calls Try.prog 11 #[.pointer (some ⟨a.g, 0, none⟩), .slice x n cc] V (Out W S d b c r a vb cs (latchF s l) ri ro ps (.int .i64 (latchE s l))) :=
  (latch_any h.fr.fd ((hr V h.fr.bel).imp (fun k _ hk => Nat.le_of_lt (h.fr.far k hk))) hn).mono fun e V' ⟨h1, h2, h3⟩ => ⟨h1, h.prog h2 h3 (latch_alike _ _)⟩
theorem outPV (h : PV W S d b c r a vb cs s ri ro ps V) (part n x : Int) :
    Calls Try.prog 15 #[.pointer (some ⟨a.g, 0, none⟩), .int .i64 part, .int .i64 n, .int .u32 x] V (Out W S d b c r a vb cs (outF s part n x) ri ro ps (.int .i64 (outE s part n))) :=
  (out_any h.fr.fd part n x).mono fun e V' ⟨h1, h2, h3⟩ => ⟨h1, h.prog h2 h3 (out_alike _ _ _ _)⟩
theorem comPV (h : PV W S d b c r a vb cs s ri ro ps V) (ok : Bool) :
    Calls Try.prog 17 #[.pointer (some ⟨a.g, 0, none⟩), .bool ok] V (Out W S d b c r a vb cs (comF s ok) ri ro ps (.tuple #[])) :=
  (commit_any h.fr.fd ok).mono fun e V' ⟨h1, h2, h3⟩ => ⟨h1, h.prog h2 h3 (com_alike _ _)⟩
theorem PV.refE (h : PV W S d b c r a vb cs s ri ro ps V) (hr : ∀ A, A.r = r → P0 W S d b c A a s ri ro ps V → RfE S d b c A ri' ro' ps' V V') : PV W S d b c r a vb cs s ri' ro' ps' V' := by
  obtain ⟨A, h1, h2, h3, h4, h5⟩ := h
  obtain ⟨A', q1, q2, q3, q4⟩ := hr A h1 h2
  refine ⟨A', q1.trans h1, h2.ref q2 q3 q4, q3.same h3 h5, h4, fun e => ?_⟩
  rcases q4 _ e with h6 | h6
  · exact h5 h6
  · have := lt_of_block h3; omega
theorem rlatchPV (h : PV W S d b c r a vb cs s ri ro ps V) {x : Option Addr} {n cc : Nat} {l : List Int} (hr : ∀ Y, Below S W Y → NRow (fun k => S ≤ k) Y x n l) (hcc : x = none → cc = 0) (h16 : d.ins ≤ 16) :
    Calls Try.prog 12 #[.pointer (some ⟨r, 0, none⟩), .slice x n cc] V (Out W S d b c r a vb cs s (if (n : Int) = d.ins then l else ri) ro (if (n : Int) = d.ins then [] else ps) (.int .i64 (if (n : Int) = d.ins then 0 else 2))) := by
  have hP := h
  obtain ⟨A, rfl, h2, h3, h4, h5⟩ := h
  by_cases hn : (n : Int) = d.ins
  · rw [if_pos hn, if_pos hn, if_pos hn]
    refine (rlatch_ok h2.rf (hr V h2.fr.bel) hcc hn (by omega)).mono fun e V' q => ⟨q.1, ?_⟩
    obtain ⟨A', q1, q2, q3, q4⟩ := q.2
    refine ⟨A', q1, h2.ref q2 q3 q4, q3.same h3 h5, h4, fun e => ?_⟩
    rcases q4 _ e with h6 | h6
    · exact h5 h6
    · have := lt_of_block h3; omega
  · rw [if_neg hn, if_neg hn, if_neg hn]
    refine (rlatch_no h2.rf hn).mono fun e V' q => ⟨q.1, ?_⟩
    rw [q.2]; exact hP
theorem routPV (h : PV W S d b c r a vb cs s ri ro ps V) (hl : ps.length ≤ 100000) (part n x : Int) :
    Calls Try.prog 16 #[.pointer (some ⟨r, 0, none⟩), .int .i64 part, .int .i64 n, .int .u32 x] V (Out W S d b c r a vb cs s ri ro (if refuse (part == d.wr) n d.safe.length = 0 then ps ++ [(n, x)] else ps) (.int .i64 (refuse (part == d.wr) n d.safe.length))) := by
  obtain ⟨A, rfl, h2, h3, h4, h5⟩ := h
  refine (rout_any h2.rf hl part n x).mono fun e V' q => ⟨q.1, ?_⟩
  obtain ⟨A', q1, q2, q3, q4⟩ := q.2
  refine ⟨A', q1, h2.ref q2 q3 q4, q3.same h3 h5, h4, fun e => ?_⟩
  rcases q4 _ e with h6 | h6
  · exact h5 h6
  · have := lt_of_block h3; omega
theorem rcomPV (h : PV W S d b c r a vb cs s ri ro ps V) (hr : ∀ Y, Below S W Y → NRow (fun k => S ≤ k) Y b d.safe.length d.safe) (hcc : b = none → c = 0) (h16 : d.safe.length ≤ 16) (hl : ps.length ≤ 100000) (ok : Bool) :
    Calls Try.prog 18 #[.pointer (some ⟨r, 0, none⟩), .bool ok] V (Out W S d b c r a vb cs s ri (if ok = true then play d.safe ps else d.safe) [] (.tuple #[])) := by
  obtain ⟨A, rfl, h2, h3, h4, h5⟩ := h
  refine (rcommit_any h2.rf (hr V h2.fr.bel) hcc (by omega) hl ok).mono fun e V' q => ⟨q.1, ?_⟩
  obtain ⟨A', q1, q2, q3, q4⟩ := q.2
  refine ⟨A', q1, h2.ref q2 q3 q4, q3.same h3 h5, h4, fun e => ?_⟩
  rcases q4 _ e with h6 | h6
  · exact h5 h6
  · have := lt_of_block h3; omega
theorem rinPV (h : PV W S d b c r a vb cs s ri ro ps V) (hr : 0 ≤ d.rd ∧ d.rd ≤ 255) (part n : Int) (hp : -9223372036854775808 ≤ part ∧ part ≤ 9223372036854775807) :
    Calls Try.prog 14 #[.pointer (some ⟨r, 0, none⟩), .int .i64 part, .int .i64 n] V fun e V' => e = .returned (.tuple #[.int .u32 (rinV d ri part n), .int .i64 (rinE d ri part n)]) ∧ V' = V := by
  obtain ⟨A, rfl, h2, h3, h4, h5⟩ := h
  exact rin_any h2.rf hr part n hp
/-! ### The field that was copied -/
theorem PS.copied (h : PS W S d b c r m a s V) {a' : Fa} (hf : Fd V' a' s) (hbs : a'.bs = a.bs) (hg : V.heap.size ≤ a'.g) (hw : ∀ k, a'.wr k → V.heap.size ≤ k) (hb : Below V.heap.size V V') : PO W S d b c r m a s a' s V' := by
  obtain ⟨A, ps, h1, h2, h3, h4⟩ := h
  have h5 := h4.below hb
  have hS := lt_of_block h4.fr.box
  have hown : ∀ k, a'.own k → V.heap.size ≤ k ∨ k = a.bs := by
    rintro k (rfl | rfl | rfl | rfl | rfl)
    · exact .inl hg
    · exact .inr hbs
    · exact .inl (hw _ (.inl rfl))
    · exact .inl (hw _ (.inr (.inl rfl)))
    · exact .inl (hw _ (.inr (.inr rfl)))
  have hsz := hb.size
  refine ⟨A, ps, h1, h2, h3, ⟨⟨hf, fun _ h => h, fun k hk => by have := hw k hk; omega, fun k hk => hf.lt k (wr_own hk), h5.fr.bel, h5.fr.box, h5.fr.sf, h5.fr.rd, h5.fr.wq, h5.fr.si⟩, h5.rf, fun k hk e => ?_⟩, h5.fr.fd, fun k hk => ⟨fun e => ?_, fun e => h4.dis k e (wr_own hk), h4.fr.far k hk⟩⟩
  · rcases hown k e with h6 | h6
    · have := h4.rf.lt k hk; omega
    · exact h4.dis k hk (by rw [h6]; exact .inr (.inl rfl))
  · rcases hown k e with h6 | h6
    · have := h4.fr.lt k hk; omega
    · subst h6
      obtain ⟨q1, q2, q3, q4, q5, q6, q7⟩ := h4.fr.fd.gs
      rcases hk with e | e | e
      · exact h4.fr.fd.n1 e
      · exact h4.fr.fd.n2 e
      · exact q5 e
theorem PO.fd (h : PO W S d b c r m ao so a s V) : Fd V ao so := by
  obtain ⟨A, ps, h1, h2, h3, h4, h5, h6⟩ := h
  exact h5
theorem PO.st (h : PO W S d b c r m ao so a s V) : PS W S d b c r m a s V := by
  obtain ⟨A, ps, h1, h2, h3, h4, h5, h6⟩ := h
  exact ⟨A, ps, h1, h2, h3, h4⟩
theorem PO.below (h : PO W S d b c r m ao so a s V) (hb : Below V.heap.size V V') : PO W S d b c r m ao so a s V' := by
  obtain ⟨A, ps, h1, h2, h3, h4, h5, h6⟩ := h
  exact ⟨A, ps, h1, h2, h3, h4.below hb, h5.below hb, h6⟩
theorem PO.old (h : PO W S d b c r m ao so a s V) (hp : Fd V' ao so') (hk : Kept ao.wr V V') : PO W S d b c r m ao so' a s V' := by
  obtain ⟨A, ps, h1, h2, h3, h4, h5, h6⟩ := h
  have hS := lt_of_block h4.fr.box
  exact ⟨A, ps, h1, h2, h3, ⟨⟨h4.fr.fd.kept hk (fun k hk' e => (h6 k e).1 hk'), h4.fr.sub, h4.fr.far, fun k hk' => Nat.lt_of_lt_of_le (h4.fr.lt k hk') hk.size, h4.fr.bel.trans (hk.toBelow (Nat.le_of_lt hS) (fun k hk' e => by have := (h6 k e).2.2; omega)), hk.same h4.fr.box (fun e => by have := (h6 _ e).2.2; omega), h4.fr.sf, h4.fr.rd, h4.fr.wq, h4.fr.si⟩,
    h4.rf.kept hk (fun k hk' e => (h6 k e).2.1 hk'), h4.dis⟩, hp, h6⟩
/-- both fields, new -/
theorem PS.new {A : Ra} (hf : Fr W S d b c a.wr a (newF d) V) (hr : Rf S d b c A (List.replicate d.ins.toNat 0) d.safe [] V') (hA : ∀ k, A.own k → V.heap.size ≤ k) (hb : Below V.heap.size V V') : PS W S d b c A.r 0 a (newF d) V' :=
  ⟨A, [], rfl, Nat.le_refl _, by show d.safe = merge d.safe (List.replicate d.safe.length none); rw [merge_none _ _ rfl], ⟨hf.below hb, hr, fun k hk e => by have := hA k hk; have := hf.fd.lt k e; omega⟩⟩
theorem PS.more (h : PS W S d b c r m a s V) {m' : Nat} (hm : m ≤ m') : PS W S d b c r m' a s V := by
  obtain ⟨A, ps, h1, h2, h3, h4⟩ := h
  exact ⟨A, ps, h1, by omega, h3, h4⟩
/-! ### What both do is the same -/
theorem latch_link (hP : play d.safe ps = merge s.safe s.puts) (hsf : s.safe = d.safe) (hsi : (s.ins.length : Int) = d.ins) {n : Nat} {l : List Int} (hl : l.length = n) :
    latchE s l = (if (n : Int) = d.ins then 0 else 2) ∧ (if (n : Int) = d.ins then l else s.ins) = (latchF s l).ins ∧ s.outs = (latchF s l).outs ∧ play d.safe (if (n : Int) = d.ins then [] else ps) = merge (latchF s l).safe (latchF s l).puts := by
  unfold latchE latchF
  by_cases h : (n : Int) = d.ins
  · have h2 : l.length = s.ins.length := by omega
    rw [if_pos h, if_pos h, if_pos h, if_pos h2, if_pos h2]
    refine ⟨rfl, rfl, rfl, ?_⟩
    show d.safe = merge s.safe (List.replicate s.safe.length none)
    rw [merge_none _ _ rfl, hsf]
  · have h2 : ¬ l.length = s.ins.length := by omega
    rw [if_neg h, if_neg h, if_neg h, if_neg h2, if_neg h2]
    exact ⟨rfl, rfl, rfl, hP⟩
theorem out_link (hP : play d.safe ps = merge s.safe s.puts) (hok : s.ok) (hsf : s.safe = d.safe) (hwr : s.wr = d.wr) (part n x : Int) :
    outE s part n = refuse (part == d.wr) n d.safe.length ∧ s.ins = (outF s part n x).ins ∧ s.outs = (outF s part n x).outs ∧ play d.safe (if refuse (part == d.wr) n d.safe.length = 0 then ps ++ [(n, x)] else ps) = merge (outF s part n x).safe (outF s part n x).puts := by
  have he : outE s part n = refuse (part == d.wr) n d.safe.length := by unfold outE; rw [hsf, hwr]
  refine ⟨he, ?_, ?_, ?_⟩
  · unfold outF; split <;> rfl
  · unfold outF; split <;> rfl
  · unfold outF
    rw [he]
    by_cases h : refuse (part == d.wr) n d.safe.length = 0
    · rw [if_pos h, if_pos h, play_add, hP]
      exact (merge_set _ _ _ _ hok.sp).symm
    · rw [if_neg h, if_neg h]; exact hP
theorem com_link (hP : play d.safe ps = merge s.safe s.puts) (hsf : s.safe = d.safe) (ok : Bool) :
    s.ins = (comF s ok).ins ∧ (if ok = true then play d.safe ps else d.safe) = (comF s ok).outs ∧ play d.safe [] = merge (comF s ok).safe (comF s ok).puts := by
  refine ⟨rfl, ?_, ?_⟩
  · unfold comF
    cases ok with
    | true => simpa using hP
    | false => simpa using hsf.symm
  · show d.safe = merge s.safe (List.replicate s.safe.length none)
    rw [merge_none _ _ rfl, hsf]
theorem in_link (hrd : s.rd = d.rd) (part n : Int) : inE s part n = rinE d s.ins part n ∧ inV s part n = rinV d s.ins part n := by
  unfold inV rinV inE rinE
  rw [hrd]
  exact ⟨rfl, rfl⟩
end
end Fld
end Go.Proofs.Ytoighaicdakbkaa
