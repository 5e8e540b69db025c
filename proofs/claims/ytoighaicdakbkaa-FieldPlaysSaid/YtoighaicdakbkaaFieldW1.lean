/- The small calls: refusal, reads, safeWord, putWord, copied; Ins, Outs; Check. -/
import Derived.Test.YtoighaicdakbkaaFieldMem
namespace Go.Proofs.Ytoighaicdakbkaa
open Go.ChangeShapes Go.WideShapes Go.ChangeAt Go.RowKit
namespace Fld
set_option linter.unusedVariables false
set_option linter.unusedSimpArgs false
theorem refusal_any (may : Bool) (n : Int) (c : Nat) (w : World) :
    Calls Try.prog 25 #[.bool may, .int .i64 n, .int .i64 (c : Int)] w fun e w' => e = .returned (.int .i64 (refuse may n c)) ∧ w' = w := by
  cases may with
  | false =>
    go_enter Try.func25, Try.ntmps25
    go_wp2_with fail
    go_ret
    exact ⟨rfl, rfl⟩
  | true =>
    by_cases h0 : n < 0
    · have e0 : decide (n < 0) = true := decide_eq_true h0
      have HE : Hid (refuse true n c = 5) := by show _ = _; unfold refuse; rw [if_pos rfl, if_neg (by omega)]
      go_enter Try.func25, Try.ntmps25
      go_wp2_with fail
      go_ret
      exact ⟨by rw [HE.out]; rfl, rfl⟩
    have e0 : decide (n < 0) = false := decide_eq_false h0
    by_cases h1 : (c : Int) ≤ n
    · have e1 : decide ((c : Int) ≤ n) = true := decide_eq_true h1
      have HE : Hid (refuse true n c = 5) := by show _ = _; unfold refuse; rw [if_pos rfl, if_neg (by omega)]
      go_enter Try.func25, Try.ntmps25
      go_wp2_with fail
      go_ret
      exact ⟨by rw [HE.out]; rfl, rfl⟩
    · have e1 : decide ((c : Int) ≤ n) = false := decide_eq_false h1
      have HE : Hid (refuse true n c = 0) := by show _ = _; unfold refuse; rw [if_pos rfl, if_pos (by omega)]
      go_enter Try.func25, Try.ntmps25
      go_wp2_with fail
      go_ret
      exact ⟨by rw [HE.out]; rfl, rfl⟩
section
variable {w : World} {a : Fa} {s : Fv}
theorem reads_any (h : Fd w a s) (part : Int) :
    Calls Try.prog 26 #[.pointer (some ⟨a.g, 0, none⟩), .int .i64 part] w fun e w' => e = .returned (.bool (bit s.rd part)) ∧ w' = w := by
  have c0 := h.c0
  have hr := h.ok.rd
  clear h
  generalize s.rd = rd at *
  generalize a.g = g at *
  by_cases h0 : 0 ≤ part
  · have e0 : decide ((0 : Int) ≤ part) = true := by simpa using h0
    have HB := Lib.hid (bit_is rd part ⟨hr.1, by omega⟩ h0)
    have hr0 := hr.1
    go_enter Try.func26, Try.ntmps26
    go_wp2_with fail
    go_ret
    exact ⟨ret_bool HB.out, rfl⟩
  · have e0 : decide ((0 : Int) ≤ part) = false := by simpa using h0
    have HB : Hid (bit rd part = false) := by show _ = _; unfold bit; rw [e0]; rfl
    go_enter Try.func26, Try.ntmps26
    go_wp2_with fail
    go_ret
    exact ⟨by rw [HB.out]; rfl, rfl⟩
theorem safeWord_any (h : Fd w a s) {n : Nat} (hn : n < s.safe.length) :
    Calls Try.prog 28 #[.pointer (some ⟨a.g, 0, none⟩), .int .i64 (n : Int)] w fun e w' => e = .returned (.int .u32 (s.safe.getD n 0)) ∧ w' = w := by
  have c2 := h.c2
  have cn := h.safe_at n hn
  have b0 : (0 : Int) ≤ n := by omega
  have b1 : (n : Int) < s.safe.length := by omega
  have hl := h.ok.ss
  clear h
  generalize s.safe.getD n 0 = x at *
  generalize s.safe.length = L at *
  generalize a.g = g at *
  generalize a.bs = bs at *
  go_enter Try.func28, Try.ntmps28
  go_wp2_with fail
  go_ret
  exact ⟨rfl, rfl⟩
theorem putWord_any (h : Fd w a s) {n : Nat} (hn : n < s.safe.length) :
    Calls Try.prog 29 #[.pointer (some ⟨a.g, 0, none⟩), .int .i64 (n : Int)] w fun e w' => e = .returned (.int .u32 ((merge s.safe s.puts).getD n 0)) ∧ Below w.heap.size w w' := by
  have c5 := h.c5
  obtain ⟨p0, p1⟩ := h.put_at n hn
  have hm := merge_at s.safe s.puts n h.ok.sp hn
  have b0 : (0 : Int) ≤ n := by omega
  have b1 : (n : Int) < s.safe.length := by omega
  have hl := h.ok.ss
  have HS := Lib.hid (fun W (hb : Below w.heap.size w W) => safeWord_any (h.below hb) hn)
  clear h
  generalize hx : s.puts.getD n none = x at *
  cases x with
  | none =>
    simp only [Option.getD_none, Option.isSome_none] at p0 p1 hm
    have HM := Lib.hid hm
    clear hm hx
    generalize s.safe.getD n 0 = y at *
    generalize s.safe.length = L at *
    generalize a.g = g at *
    generalize a.bp = bp at *
    have HB := Lib.hid (below_alloc w (.cells #[.int .u32 0, .bool false] 61))
    go_enter Try.func29, Try.ntmps29
    go_wp2_with fail
    refine (HS.out _ HB.out).mono ?_
    rintro e w1 ⟨rfl, rfl⟩
    go_wp2_with fail
    go_ret
    exact ⟨by rw [HM.out]; rfl, HB.out⟩
  | some z =>
    simp only [Option.getD_some, Option.isSome_some] at p0 p1 hm
    have HM := Lib.hid hm
    clear hm hx HS
    generalize s.safe.length = L at *
    generalize a.g = g at *
    generalize a.bp = bp at *
    have HB := Lib.hid (below_alloc w (.cells #[.int .u32 z, .bool true] 61))
    go_enter Try.func29, Try.ntmps29
    go_wp2_with fail
    go_ret
    exact ⟨by rw [HM.out]; rfl, HB.out⟩
end
/-- a new row of words -/
abbrev numObj (l : List Int) : Obj := .cells (nums l).toArray 23
theorem copied_any {p : Nat → Prop} {a : Option Addr} {n c : Nat} {l : List Int} {w : World} (h : NRow p w a n l) (hn : n ≤ 1000000) :
    Calls Try.prog 24 #[.slice a n c] w fun e w' => e = .returned (.slice (some ⟨w.heap.size, 0, none⟩) n n) ∧ w' = w.alloc (.cells (nums l).toArray 23) := by
  have hmk := fun W => run_make_nums W n hn
  have hcp : ∀ ty, (Builtin.copy_ #[22, 22] ty #[.slice (some ⟨w.heap.size, 0, none⟩) n n, .slice a n c]).run Try.prog (w.alloc (.cells (nums (List.replicate n 0)).toArray 23)) = .ok (goInt n) ((w.alloc (.cells (nums (List.replicate n 0)).toArray 23)).setRow w.heap.size (nums l).toArray) := fun ty =>
    run_copy_nums _ _ n n c a l _ 23 ty (h.below (below_alloc _ _) (Nat.le_refl _)) (heap_alloc_new _ _) (by simp)
  simp only [World.setRow_alloc_new] at hcp
  clear h
  generalize (nums (List.replicate n 0)).toArray = Z at *
  generalize (nums l).toArray = L at *
  go_enter Try.func24, Try.ntmps24
  go_wp2_with (first | rw [hmk] | simp only [hcp])
  go_ret
  exact ⟨rfl, rfl⟩
theorem copiedP_any {b n c : Nat} {l : List (Option Int)} {w : World} (h : w.heap[b]? = some (.cells (putC l).toArray 61 (0, 0))) (hl : l.length = n) (hn : n ≤ 1000000) :
    Calls Try.prog 30 #[.slice (some ⟨b, 0, none⟩) n c] w fun e w' => e = .returned (.slice (some ⟨w.heap.size, 0, none⟩) n n) ∧ w' = w.alloc (.cells (putC l).toArray 61) := by
  have hmk := fun W => run_make_puts W n hn
  have hcp : ∀ ty, (Builtin.copy_ #[54, 54] ty #[.slice (some ⟨w.heap.size, 0, none⟩) n n, .slice (some ⟨b, 0, none⟩) n c]).run Try.prog (w.alloc (.cells (putC (List.replicate n none)).toArray 61)) = .ok (goInt n) ((w.alloc (.cells (putC (List.replicate n none)).toArray 61)).setRow w.heap.size (putC l).toArray) := fun ty =>
    run_copy_whole _ _ ty _ 2 _ n n c _ _ 61 (putC l) uP sP (heap_alloc_new _ _) (by rw [putC_len, hl]) (by simp [putC_len]) (.inr ⟨_, rfl, fun j v hj => by
      rw [Addr.add_mid, Nat.zero_add, cell_of_row _ _ _ _ _ _ (((below_alloc w _).block b (lt_of_block h)).trans h), List.getElem?_toArray]; exact hj⟩) (putC_one _)
  simp only [World.setRow_alloc_new] at hcp
  clear h
  generalize (putC (List.replicate n none)).toArray = Z at *
  generalize (putC l).toArray = L at *
  go_enter Try.func30, Try.ntmps30
  go_wp2_with (first | rw [hmk] | simp only [hcp])
  go_ret
  exact ⟨rfl, rfl⟩
/-- a new row with these words -/
def RowP (l : List Int) (w : World) (e : Ending) (w' : World) : Prop := e = .returned (.slice (some ⟨w.heap.size, 0, none⟩) l.length l.length) ∧ w' = w.alloc (.cells (nums l).toArray 23)
section
variable {w : World} {a : Fa} {s : Fv}
theorem ins_any (h : Fd w a s) : Calls Try.prog 21 #[.pointer (some ⟨a.g, 0, none⟩)] w (RowP s.ins w) := by
  have c3 := h.c3
  have HC := Lib.hid (copied_any (c := s.ins.length) (num_row (p := fun _ => False) h.ri id) (by have := h.ok.si; omega))
  clear h
  unfold RowP
  generalize (nums s.ins).toArray = L at *
  generalize s.ins.length = n at *
  generalize a.g = g at *
  generalize a.bi = b at *
  go_enter Try.func21, Try.ntmps21
  go_wp2_with (go_at_call 24; refine HC.out.mono ?_; rintro e w1 ⟨rfl, rfl⟩)
  go_ret
  exact ⟨rfl, rfl⟩
theorem outs_any (h : Fd w a s) : Calls Try.prog 22 #[.pointer (some ⟨a.g, 0, none⟩)] w (RowP s.outs w) := by
  have c4 := h.c4
  have hso := h.ok.so
  have HC := Lib.hid (copied_any (c := s.outs.length) (num_row (p := fun _ => False) h.ro id) (by have := h.ok.ss; omega))
  rw [← hso] at c4
  clear h hso
  unfold RowP
  generalize (nums s.outs).toArray = L at *
  generalize s.outs.length = n at *
  generalize a.g = g at *
  generalize a.bo = b at *
  go_enter Try.func22, Try.ntmps22
  go_wp2_with (go_at_call 24; refine HC.out.mono ?_; rintro e w1 ⟨rfl, rfl⟩)
  go_ret
  exact ⟨rfl, rfl⟩
end
theorem ins_nil (w : World) : Calls Try.prog 21 #[.pointer none] w fun e w' => e = .returned (.slice none 0 0) ∧ w' = w := by
  go_enter Try.func21, Try.ntmps21
  go_wp2_with fail
  go_ret
  exact ⟨rfl, rfl⟩
theorem outs_nil (w : World) : Calls Try.prog 22 #[.pointer none] w fun e w' => e = .returned (.slice none 0 0) ∧ w' = w := by
  go_enter Try.func22, Try.ntmps22
  go_wp2_with fail
  go_ret
  exact ⟨rfl, rfl⟩
theorem check_any (d : Df) (a : Option Addr) (c : Nat) (hl : d.safe.length ≤ 9223372036854775807) (w : World) :
    Calls Try.prog 9 #[.agg #[.int .i64 d.ins, .slice a d.safe.length c, .int .u32 d.rd, .int .i64 d.wr]] w fun e w' => e = .returned (.int .i64 (if d.may = true then 0 else 2)) ∧ Below w.heap.size w w' := by
  obtain ⟨E, hE⟩ : ∃ E : Int, (if d.may = true then (0 : Int) else 2) = E := ⟨_, rfl⟩
  rw [hE]
  have hE' : (if (0 ≤ d.ins ∧ d.ins ≤ 16 ∧ d.safe.length ≤ 16 ∧ d.rd ≤ 255 ∧ 0 ≤ d.wr ∧ d.wr ≤ 7) then (0 : Int) else 2) = E := by
    rw [← hE]
    by_cases h : d.may = true
    · rw [if_pos h, if_pos (may_iff.1 h)]
    · rw [if_neg h, if_neg (fun x => h (may_iff.2 x))]
  clear hE
  generalize d.safe.length = n at *
  generalize d.ins = i at *
  generalize d.rd = r at *
  generalize d.wr = x at *
  have HE := Lib.hid hE'
  clear hE'
  have HB := Lib.hid (below_alloc w (.cells #[.int .i64 i, .slice a n c, .int .u32 r, .int .i64 x] 25))
  by_cases h0 : i < 0
  · have e0 := decide_eq_true h0
    have he : E = 2 := by rw [← HE.out, if_neg (by omega)]
    subst he
    clear HE
    go_enter Try.func9, Try.ntmps9
    go_wp2_with fail
    go_ret
    exact ⟨rfl, HB.out⟩
  have e0 := decide_eq_false h0
  by_cases h1 : 16 < i
  · have e1 := decide_eq_true h1
    have he : E = 2 := by rw [← HE.out, if_neg (by omega)]
    subst he
    clear HE
    go_enter Try.func9, Try.ntmps9
    go_wp2_with fail
    go_ret
    exact ⟨rfl, HB.out⟩
  have e1 := decide_eq_false h1
  by_cases h2 : 16 < (n : Int)
  · have e2 := decide_eq_true h2
    have he : E = 2 := by rw [← HE.out, if_neg (by omega)]
    subst he
    clear HE
    go_enter Try.func9, Try.ntmps9
    go_wp2_with fail
    go_ret
    exact ⟨rfl, HB.out⟩
  have e2 := decide_eq_false h2
  by_cases h3 : 256 ≤ r
  · have e3 := decide_eq_true h3
    have he : E = 2 := by rw [← HE.out, if_neg (by omega)]
    subst he
    clear HE
    go_enter Try.func9, Try.ntmps9
    go_wp2_with fail
    go_ret
    exact ⟨rfl, HB.out⟩
  have e3 := decide_eq_false h3
  by_cases h4 : x < 0
  · have e4 := decide_eq_true h4
    have he : E = 2 := by rw [← HE.out, if_neg (by omega)]
    subst he
    clear HE
    go_enter Try.func9, Try.ntmps9
    go_wp2_with fail
    go_ret
    exact ⟨rfl, HB.out⟩
  have e4 := decide_eq_false h4
  by_cases h5 : 8 ≤ x
  · have e5 := decide_eq_true h5
    have he : E = 2 := by rw [← HE.out, if_neg (by omega)]
    subst he
    clear HE
    go_enter Try.func9, Try.ntmps9
    go_wp2_with fail
    go_ret
    exact ⟨rfl, HB.out⟩
  · have e5 := decide_eq_false h5
    have he : E = 0 := by rw [← HE.out, if_pos (by omega)]
    subst he
    clear HE
    go_enter Try.func9, Try.ntmps9
    go_wp2_with fail
    go_ret
    exact ⟨rfl, HB.out⟩
end Fld
end Go.Proofs.Ytoighaicdakbkaa
