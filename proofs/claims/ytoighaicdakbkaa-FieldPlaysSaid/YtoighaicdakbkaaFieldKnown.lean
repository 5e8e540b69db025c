/- known: the layer does a small thing right. -/
import Derived.Test.YtoighaicdakbkaaFieldW3
import Derived.Test.YtoighaicdakbkaaFieldW5
namespace Go.Proofs.Ytoighaicdakbkaa
open Go.ChangeShapes Go.WideShapes Go.ChangeAt Go.RowKit
namespace Fld
set_option linter.unusedVariables false
set_option linter.unusedSimpArgs false
def D0 : Df := ⟨2, 1, 1, [9, 8]⟩
def K0 : Fv := newF D0
def K1 : Fv := latchF K0 [5, 6]
def K2 : Fv := outF K1 1 0 3
def K3 : Fv := comF K2 true
def K4 : Fv := outF K3 1 0 4
def K5 : Fv := comF K4 false
/-- a field of a call's own -/
structure Kn (w : World) (a : Fa) (s : Fv) (V : World) : Prop where
  fd : Fd V a s
  bel : Below w.heap.size w V
  own : ∀ k, a.own k → w.heap.size ≤ k
section
variable {w V : World} {a : Fa} {s : Fv}
theorem wr_own {k : Nat} (h : a.wr k) : a.own k := by exact h.elim (fun h => .inr (.inr (.inl h))) fun h => h.elim (fun h => .inr (.inr (.inr (.inl h)))) fun h => .inr (.inr (.inr (.inr h)))
theorem Kn.grow (h : Kn w a s V) {V' : World} (hb : Below V.heap.size V V') : Kn w a s V' := ⟨h.fd.below hb, h.bel.trans (hb.mono h.bel.size), h.own⟩
theorem Kn.write (h : Kn w a s V) {V' : World} {s' : Fv} (hp : Fd V' a s') (hk : Kept a.wr V V') : Kn w a s' V' := ⟨hp, h.bel.trans (hk.toBelow h.bel.size (fun k hk e => by have := h.own k (wr_own e); omega)), h.own⟩
theorem latch_kn (h : Kn w a s V) {b : Option Addr} {n c : Nat} {l : List Int} (hr : NRow a.wr V b n l) (hn : n ≤ 9223372036854775807) (e0 : Int) (he : latchE s l = e0) :
    Calls Try.prog 11 #[.pointer (some ⟨a.g, 0, none⟩), .slice b n c] V fun e V' => e = .returned (.int .i64 e0) ∧ Kn w a (latchF s l) V' := by
  subst he
  exact (latch_any h.fd hr hn).mono fun e V' ⟨h1, h2, h3⟩ => ⟨h1, h.write h2 h3⟩
theorem in_kn (h : Kn w a s V) (part n x e0 : Int) (hx : inV s part n = x) (he : inE s part n = e0) :
    Calls Try.prog 13 #[.pointer (some ⟨a.g, 0, none⟩), .int .i64 part, .int .i64 n] V fun e V' => e = .returned (.tuple #[.int .u32 x, .int .i64 e0]) ∧ Kn w a s V' := by
  subst hx; subst he
  exact (in_any h.fd part n).mono fun e V' ⟨h1, h2⟩ => ⟨h1, h.grow h2⟩
theorem out_kn (h : Kn w a s V) (part n x e0 : Int) (he : outE s part n = e0) :
    Calls Try.prog 15 #[.pointer (some ⟨a.g, 0, none⟩), .int .i64 part, .int .i64 n, .int .u32 x] V fun e V' => e = .returned (.int .i64 e0) ∧ Kn w a (outF s part n x) V' := by
  subst he
  exact (out_any h.fd part n x).mono fun e V' ⟨h1, h2, h3⟩ => ⟨h1, h.write h2 h3⟩
theorem com_kn (h : Kn w a s V) (ok : Bool) : Calls Try.prog 17 #[.pointer (some ⟨a.g, 0, none⟩), .bool ok] V fun e V' => e = .returned (.tuple #[]) ∧ Kn w a (comF s ok) V' :=
  (commit_any h.fd ok).mono fun e V' ⟨h1, h2, h3⟩ => ⟨h1, h.write h2 h3⟩
/-- a new row of words, and the rest as it was -/
def OutsP (w : World) (a : Fa) (s : Fv) (l : List Int) (n : Nat) (e : Ending) (V' : World) : Prop := ∃ b, e = .returned (.slice (some ⟨b, 0, none⟩) n n) ∧ NRow (fun _ => False) V' (some ⟨b, 0, none⟩) n l ∧ Kn w a s V'
theorem outs_kn (h : Kn w a s V) (l : List Int) (n : Nat) (hl : s.outs = l) (hn : l.length = n) : Calls Try.prog 22 #[.pointer (some ⟨a.g, 0, none⟩)] V (OutsP w a s l n) := by
  subst hn
  subst hl
  exact (outs_any h.fd).mono fun e V' q => by
    obtain ⟨h1, rfl⟩ := q
    exact ⟨_, h1, num_row (heap_alloc_new _ _) id, h.grow (below_alloc _ _)⟩
end
theorem are_any {p q : Nat → Prop} {a b : Option Addr} {n c d : Nat} {l : List Int} {w : World} (ha : NRow p w a n l) (hb : NRow q w b n l) (hn : n ≤ 300000) :
    Calls Try.prog 23 #[.slice a n c, .slice b n d] w fun e w' => e = .returned (.bool true) ∧ Below w.heap.size w w' := by
  have HS := Lib.hid (same_any (c := c) (d := d) ha hb hn)
  go_enter Try.func23, Try.ntmps23
  go_wp2_with (go_at_call 20; refine HS.out.mono ?_; rintro e w1 ⟨rfl, hb⟩)
  go_ret
  exact ⟨rfl, hb⟩
/-- a literal's row -/
theorem lit_row {V : World} (l : List Int) (n : Nat) (hn : l.length = n) (cs : Array Value) (h : (nums l).toArray = cs) (p : Nat → Prop) (hp : ¬ p V.heap.size) : NRow p (V.alloc (.cells cs 23)) (some ⟨V.heap.size, 0, none⟩) n l := by
  subst h
  subst hn
  exact num_row (heap_alloc_new _ _) hp
set_option maxHeartbeats 4000000 in
set_option maxRecDepth 100000 in
theorem known_any (w : World) : Calls Try.prog 5 #[] w fun e w' => e = .returned (.bool true) ∧ Below w.heap.size w w' := by
  have HN := Lib.hid (new_any D0 (b := some ⟨w.heap.size, 0, none⟩) (c := 2) (lit_row (V := w) [9, 8] 2 rfl #[.int .u32 9, .int .u32 8] rfl (fun _ => False) id) (by decide) (by decide +kernel))
  go_enter Try.func5, Try.ntmps5
  go_wp2_with fail
  refine HN.out.mono ?_
  rintro e w1 ⟨a, rfl, hp, hg, hb⟩
  have H : Kn w a K0 w1 := ⟨hp, (below_alloc _ _).trans (hb.mono (by simp)), fun k hk => by have := hg k hk; simp at this; omega⟩
  clear hg hp hb HN
  go_wp2_with fail
  refine (outs_kn H [9, 8] 2 (by decide +kernel) rfl).mono ?_
  clear H; rintro e w1 ⟨b, rfl, hr, H⟩
  go_wp2_with fail
  refine (are_any (hr.below (below_alloc _ _) (Nat.le_refl _)) (lit_row (V := w1) [9, 8] 2 rfl #[.int .u32 9, .int .u32 8] rfl (fun _ => False) id) (by omega)).mono ?_
  rintro e w2 ⟨rfl, hb⟩
  replace H := (H.grow (below_alloc w1 (.cells #[.int .u32 9, .int .u32 8] 23))).grow hb
  clear hr hb
  go_wp2_with fail
  refine (latch_kn (H.grow (below_alloc _ (.cells #[.int .u32 5, .int .u32 6] 23))) (lit_row [5, 6] 2 rfl #[.int .u32 5, .int .u32 6] rfl a.wr (fun h => Nat.lt_irrefl _ (H.fd.lt _ (wr_own h)))) (by omega) 0 (by decide +kernel)).mono ?_
  clear H; rintro e w1 ⟨rfl, H⟩
  go_wp2_with fail
  refine (in_kn H 0 1 6 0 (by decide +kernel) (by decide +kernel)).mono ?_
  clear H; rintro e w1 ⟨rfl, H⟩
  go_wp2_with fail
  refine (in_kn H 1 1 0 70 (by decide +kernel) (by decide +kernel)).mono ?_
  clear H; rintro e w1 ⟨rfl, H⟩
  go_wp2_with fail
  refine (in_kn H 0 2 0 5 (by decide +kernel) (by decide +kernel)).mono ?_
  clear H; rintro e w1 ⟨rfl, H⟩
  go_wp2_with fail
  refine (out_kn H 1 0 3 0 (by decide +kernel)).mono ?_
  clear H; rintro e w1 ⟨rfl, H⟩
  go_wp2_with fail
  refine (outs_kn H [9, 8] 2 (by decide +kernel) rfl).mono ?_
  clear H; rintro e w1 ⟨b, rfl, hr, H⟩
  go_wp2_with fail
  refine (are_any (hr.below (below_alloc _ _) (Nat.le_refl _)) (lit_row (V := w1) [9, 8] 2 rfl #[.int .u32 9, .int .u32 8] rfl (fun _ => False) id) (by omega)).mono ?_
  rintro e w2 ⟨rfl, hb⟩
  replace H := (H.grow (below_alloc w1 (.cells #[.int .u32 9, .int .u32 8] 23))).grow hb
  clear hr hb
  go_wp2_with fail
  refine (com_kn H true).mono ?_
  clear H; rintro e w1 ⟨rfl, H⟩
  go_wp2_with fail
  refine (outs_kn H [3, 8] 2 (by decide +kernel) rfl).mono ?_
  clear H; rintro e w1 ⟨b, rfl, hr, H⟩
  go_wp2_with fail
  refine (are_any (hr.below (below_alloc _ _) (Nat.le_refl _)) (lit_row (V := w1) [3, 8] 2 rfl #[.int .u32 3, .int .u32 8] rfl (fun _ => False) id) (by omega)).mono ?_
  rintro e w2 ⟨rfl, hb⟩
  replace H := (H.grow (below_alloc w1 (.cells #[.int .u32 3, .int .u32 8] 23))).grow hb
  clear hr hb
  go_wp2_with fail
  refine (out_kn H 1 0 4 0 (by decide +kernel)).mono ?_
  clear H; rintro e w1 ⟨rfl, H⟩
  go_wp2_with fail
  refine (com_kn H false).mono ?_
  clear H; rintro e w1 ⟨rfl, H⟩
  go_wp2_with fail
  refine (outs_kn H [9, 8] 2 (by decide +kernel) rfl).mono ?_
  clear H; rintro e w1 ⟨b, rfl, hr, H⟩
  go_wp2_with fail
  refine (are_any (hr.below (below_alloc _ _) (Nat.le_refl _)) (lit_row (V := w1) [9, 8] 2 rfl #[.int .u32 9, .int .u32 8] rfl (fun _ => False) id) (by omega)).mono ?_
  rintro e w2 ⟨rfl, hb⟩
  replace H := (H.grow (below_alloc w1 (.cells #[.int .u32 9, .int .u32 8] 23))).grow hb
  clear hr hb
  go_wp2_with fail
  refine (out_kn H 0 0 1 70 (by decide +kernel)).mono ?_
  clear H; rintro e w1 ⟨rfl, H⟩
  go_wp2_with fail
  refine (latch_kn (H.grow (below_alloc _ (.cells #[.int .u32 1] 23))) (lit_row [1] 1 rfl #[.int .u32 1] rfl a.wr (fun h => Nat.lt_irrefl _ (H.fd.lt _ (wr_own h)))) (by omega) 2 (by decide +kernel)).mono ?_
  clear H; rintro e w1 ⟨rfl, H⟩
  have HB := Lib.hid H.bel
  clear H
  go_wp2_with (first
    | (go_at_call 17; refine (commit_nil true _).mono ?_; rintro e w2 ⟨rfl, rfl⟩)
    | (go_at_call 13; refine (in_nil _ _ _).mono ?_; rintro e w2 ⟨rfl, rfl⟩)
    | (go_at_call 11; refine (latch_nil _ _).mono ?_; rintro e w2 ⟨rfl, rfl⟩)
    | (go_at_call 15; refine (out_nil _ _ _ _).mono ?_; rintro e w2 ⟨rfl, rfl⟩)
    | (go_at_call 21; refine (ins_nil _).mono ?_; rintro e w2 ⟨rfl, rfl⟩)
    | (go_at_call 22; refine (outs_nil _).mono ?_; rintro e w2 ⟨rfl, rfl⟩)
    | (go_at_call 19; refine (copy_nil _).mono ?_; rintro e w2 ⟨rfl, rfl⟩))
  go_ret
  exact ⟨rfl, HB.out⟩
end Fld
end Go.Proofs.Ytoighaicdakbkaa
