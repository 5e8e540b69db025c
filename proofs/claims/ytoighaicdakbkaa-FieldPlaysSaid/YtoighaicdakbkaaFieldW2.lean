/- New, Latch, In, Out. -/
import Derived.Test.YtoighaicdakbkaaFieldW1
namespace Go.Proofs.Ytoighaicdakbkaa
open Go.ChangeShapes Go.WideShapes Go.ChangeAt Go.RowKit
namespace Fld
set_option linter.unusedVariables false
set_option linter.unusedSimpArgs false
theorem heap_alloc_if (w : World) (o : Obj) (k : Nat) : (w.alloc o).heap[k]? = if k = w.heap.size then some o else w.heap[k]? := by
  simp only [World.alloc, Array.getElem?_push]
theorem heap_drew (w : World) (k : Nat) : w.drew.heap[k]? = w.heap[k]? := rfl
theorem size_drew (w : World) : w.drew.heap.size = w.heap.size := rfl
/-- what a call that changes the field leaves -/
def DoneP (a : Fa) (s : Fv) (err : Int) (w : World) (e : Ending) (w' : World) : Prop := e = .returned (.int .i64 err) ∧ Fd w' a s ∧ Kept a.wr w w'
section
variable {w : World} {a : Fa} {s : Fv}
theorem latch_nil (v : Value) (w : World) : Calls Try.prog 11 #[.pointer none, v] w fun e w' => e = .returned (.int .i64 1) ∧ w' = w := by
  go_enter Try.func11, Try.ntmps11
  go_wp2_with fail
  go_ret
  exact ⟨rfl, rfl⟩
theorem latch_any (h : Fd w a s) {b : Option Addr} {n c : Nat} {l : List Int} (hr : NRow a.wr w b n l) (hn : n ≤ 9223372036854775807) :
    Calls Try.prog 11 #[.pointer (some ⟨a.g, 0, none⟩), .slice b n c] w (DoneP a (latchF s l) (latchE s l) w) := by
  have c3 := h.c3
  have c5 := h.c5
  have hl := hr.1
  by_cases he : n = s.ins.length
  · subst he
    have HE : Hid (latchE s l = 0) := by show _ = _; unfold latchE; rw [if_pos hl]
    have hcp := fun ty => run_copy_nums w a.bi s.ins.length s.ins.length c b l s.ins _ ty hr h.ri rfl
    obtain ⟨q1, q2, q3, q4, q5, q6, q7⟩ := h.gs
    have hcl := fun ty => run_clear_puts (w.setRow a.bi (nums l).toArray) a.bp s.safe.length s.safe.length s.puts _ ty (by rw [setRow_other _ _ _ _ (fun e => q6 e.symm)]; exact h.rp) h.ok.sp
    have HF := Lib.hid (h.latched l hl)
    have HK : Hid (Kept a.wr w ((w.setRow a.bi (nums l).toArray).setRow a.bp (putC (List.replicate s.safe.length none)).toArray)) := ((Kept.refl a.wr w).setRow (.inl (.inl rfl)) _).setRow (.inl (.inr (.inr rfl))) _
    have e0 : ((s.ins.length : Int) != (s.ins.length : Int)) = false := by simp
    have d5 : (w.setRow a.bi (nums l).toArray).cell? ⟨a.g, 5, none⟩ = some (.slice (some ⟨a.bp, 0, none⟩) s.safe.length s.safe.length) := (World.cell?_of_block (setRow_other _ _ _ _ q2)).trans c5
    clear h hr hl q1 q2 q3 q4 q5 q6 q7 c5
    generalize latchE s l = E at *
    generalize latchF s l = S' at *
    generalize (putC (List.replicate s.safe.length none)).toArray = Z at *
    generalize (nums l).toArray = L at *
    generalize s.safe.length = N at *
    generalize s.ins.length = M at *
    go_enter Try.func11, Try.ntmps11
    go_wp2_with (first | simp only [hcp] | simp only [hcl])
    go_ret
    exact ⟨by rw [HE.out]; rfl, HF.out, HK.out⟩
  · have HE : Hid (latchE s l = 2) := by show _ = _; unfold latchE; rw [if_neg (by omega)]
    have HF : Hid (Fd w a (latchF s l)) := by show Fd _ _ _; unfold latchF; rw [if_neg (by omega)]; exact h
    have e0 : ((n : Int) != (s.ins.length : Int)) = true := by simp; omega
    clear h hr hl c5
    generalize latchE s l = E at *
    generalize latchF s l = S' at *
    generalize s.ins.length = M at *
    go_enter Try.func11, Try.ntmps11
    go_wp2_with fail
    go_ret
    exact ⟨by rw [HE.out]; rfl, HF.out, Kept.refl _ _⟩
theorem in_nil (part n : Int) (w : World) : Calls Try.prog 13 #[.pointer none, .int .i64 part, .int .i64 n] w fun e w' => e = .returned (.tuple #[.int .u32 0, .int .i64 1]) ∧ w' = w := by
  go_enter Try.func13, Try.ntmps13
  go_wp2_with fail
  refine bodyPost_ret (v := .tuple #[.int .u32 0, .int .i64 1]) (by simp [results, Try.f13, go_sem]) rfl ⟨rfl, rfl⟩
/-- what In answers -/
def InP (s : Fv) (part n : Int) (w : World) (e : Ending) (w' : World) : Prop := e = .returned (.tuple #[.int .u32 (inV s part n), .int .i64 (inE s part n)]) ∧ Below w.heap.size w w'
theorem in_any (h : Fd w a s) (part n : Int) :
    Calls Try.prog 13 #[.pointer (some ⟨a.g, 0, none⟩), .int .i64 part, .int .i64 n] w (InP s part n w) := by
  have HC := Lib.hid (fun W (hb : Below w.heap.size w W) => (h.below hb).c3)
  have HR := Lib.hid (fun W (hb : Below w.heap.size w W) => reads_any (h.below hb) part)
  have HF := Lib.hid (fun W => refusal_any (bit s.rd part) n s.ins.length W)
  have hl := h.ok.si
  obtain ⟨E, hE⟩ : ∃ E, inE s part n = E := ⟨_, rfl⟩
  have hE2 : refuse (bit s.rd part) n s.ins.length = E := hE
  rw [hE2] at HF
  unfold InP
  by_cases he : E = 0
  · subst he
    obtain ⟨-, h0, h1⟩ := refuse_zero.1 hE2
    obtain ⟨k, rfl⟩ := Int.eq_ofNat_of_zero_le h0
    have HX := Lib.hid (fun W (hb : Below w.heap.size w W) => (h.below hb).ins_at k (by omega))
    have HV : Hid (inV s part k = s.ins.getD k 0) := by show _ = _; unfold inV; rw [if_pos hE, Int.toNat_natCast]
    have HE := Lib.hid hE
    have hk : k < s.ins.length := by omega
    clear h hE hE2
    generalize s.ins.getD k 0 = x at *
    generalize inV s part k = y at *
    generalize inE s part k = E0 at *
    generalize bit s.rd part = bt at *
    generalize s.ins.length = M at *
    generalize a.g = g at *
    generalize a.bi = bi at *
    go_enter Try.func13, Try.ntmps13
    go_wp2_with fail
    go_region_held3 (fun w' => w'.cell? ⟨g, 3, none⟩ = some (.slice (some ⟨bi, 0, none⟩) M M)) (first | exact HC.out _ (by first | exact Below.refl _ _ | go_grown) | go_keep) (first
      | (go_at_call 26; refine (HR.out _ (by first | exact Below.refl _ _ | go_grown)).mono ?_; rintro e w' ⟨rfl, rfl⟩)
      | (go_at_call 25; refine (HF.out _).mono ?_; rintro e w' ⟨rfl, rfl⟩))
    all_goals
      rename_i hK _
      refine hK _ _ ?_
      have q3 := HC.out w.drew (by go_grown)
      have qx := HX.out w.drew (by go_grown)
      go_wp2_with fail
      refine bodyPost_ret (v := .tuple #[.int .u32 x, .int .i64 0]) (by simp [results, Try.f13, go_sem]) rfl ?_
      exact ⟨by rw [HV.out, HE.out], by go_grown⟩
  · have HV : Hid (inV s part n = 0) := by show _ = _; unfold inV; rw [if_neg (by rw [hE]; exact he)]
    have HE := Lib.hid hE
    have hne : (E != 0) = true := by simpa using he
    clear h hE hE2 he
    generalize inV s part n = y at *
    generalize inE s part n = E0 at *
    generalize bit s.rd part = bt at *
    generalize s.ins.length = M at *
    generalize a.g = g at *
    generalize a.bi = bi at *
    go_enter Try.func13, Try.ntmps13
    go_wp2_with fail
    go_region_held3 (fun w' => w'.cell? ⟨g, 3, none⟩ = some (.slice (some ⟨bi, 0, none⟩) M M)) (first | exact HC.out _ (by first | exact Below.refl _ _ | go_grown) | go_keep) (first
      | (go_at_call 26; refine (HR.out _ (by first | exact Below.refl _ _ | go_grown)).mono ?_; rintro e w' ⟨rfl, rfl⟩)
      | (go_at_call 25; refine (HF.out _).mono ?_; rintro e w' ⟨rfl, rfl⟩))
    all_goals
      rename_i hK _
      refine hK _ _ ?_
      go_wp2_with fail
      refine bodyPost_ret (v := .tuple #[.int .u32 0, .int .i64 E]) (by simp [results, Try.f13, go_sem]) rfl ?_
      exact ⟨by rw [HV.out, HE.out], by go_grown⟩
theorem out_nil (part n x : Int) (w : World) : Calls Try.prog 15 #[.pointer none, .int .i64 part, .int .i64 n, .int .u32 x] w fun e w' => e = .returned (.int .i64 1) ∧ w' = w := by
  go_enter Try.func15, Try.ntmps15
  go_wp2_with fail
  go_ret
  exact ⟨rfl, rfl⟩
theorem out_any (h : Fd w a s) (part n x : Int) :
    Calls Try.prog 15 #[.pointer (some ⟨a.g, 0, none⟩), .int .i64 part, .int .i64 n, .int .u32 x] w (DoneP a (outF s part n x) (outE s part n) w) := by
  have HC := Lib.hid (fun W (hb : Below w.heap.size w W) => And.intro (h.below hb).c1 (h.below hb).c4)
  have HF := Lib.hid (fun W => refusal_any (part == s.wr) n s.safe.length W)
  have hl := h.ok.ss
  obtain ⟨E, hE⟩ : ∃ E, outE s part n = E := ⟨_, rfl⟩
  have hE2 : refuse (part == s.wr) n s.safe.length = E := hE
  rw [hE2] at HF
  by_cases he : E = 0
  · subst he
    obtain ⟨-, h0, h1⟩ := refuse_zero.1 hE2
    obtain ⟨k, rfl⟩ := Int.eq_ofNat_of_zero_le h0
    have hk : k < s.safe.length := by omega
    have HX := Lib.hid (fun W (hb : Below w.heap.size w W) => And.intro (h.below hb).c5 (And.intro ((h.below hb).put_at k hk) (row_free (h.below hb).rp)))
    have HP : Hid (∀ W, Below w.heap.size w W → DoneP a (outF s part k x) (outE s part k) w (.returned (.int .i64 0)) ((W.setCell ⟨a.bp, k * 2, none⟩ (.int .u32 x)).setCell ⟨a.bp, k * 2 + 1, none⟩ (.bool true))) := fun W hb => by
      refine ⟨by rw [hE], ?_, ((Kept.of_below hb).setCell (.inl (.inr (.inr rfl))) _).setCell (.inl (.inr (.inr rfl))) _⟩
      unfold outF
      rw [if_pos hE, Int.toNat_natCast]
      exact (h.below hb).put k hk x
    clear h hE hE2
    generalize (s.puts.getD k none).getD 0 = y0 at *
    generalize (s.puts.getD k none).isSome = y1 at *
    generalize s.wr = wv at *
    generalize s.safe.length = M at *
    generalize outF s part k x = S' at *
    generalize outE s part k = E0 at *
    obtain ⟨bt, hbt⟩ : ∃ b, (part == wv) = b := ⟨_, rfl⟩
    rw [hbt] at HF
    obtain ⟨g, hg⟩ : ∃ g, a.g = g := ⟨_, rfl⟩
    obtain ⟨bo, hbo⟩ : ∃ g, a.bo = g := ⟨_, rfl⟩
    obtain ⟨bp, hbp⟩ : ∃ g, a.bp = g := ⟨_, rfl⟩
    rw [hg, hbo] at HC
    rw [hg, hbp] at HX
    rw [hbp] at HP
    rw [hg]
    clear hg hbo hbp
    go_enter Try.func15, Try.ntmps15
    go_wp2_with fail
    go_region_held3 (fun w' => w'.cell? ⟨g, 1, none⟩ = some (.int .i64 wv) ∧ w'.cell? ⟨g, 4, none⟩ = some (.slice (some ⟨bo, 0, none⟩) M M)) (first | exact HC.out _ (by first | exact Below.refl _ _ | go_grown) | go_keep) (first
      | (go_at_call 25; refine (HF.out _).mono ?_; rintro e w' ⟨rfl, rfl⟩))
    all_goals
      rename_i hK _
      refine hK _ _ ?_
      obtain ⟨q5, ⟨qx, qy⟩, qf⟩ := HX.out w.drew (by go_grown)
      have qf0 := qf (k * 2)
      have qf1 := qf (k * 2 + 1)
      have qg0 : w.frozen? ⟨bp, k * 2, none⟩ = false := qf0
      have qg1 : w.frozen? ⟨bp, k * 2 + 1, none⟩ = false := qf1
      have qz : (w.setCell ⟨bp, k * 2, none⟩ (.int .u32 x)).cell? ⟨bp, k * 2 + 1, none⟩ = some (.bool y1) := ((show CF w bp (k * 2 + 1) (.bool y1) from ⟨qy, qf1⟩).other (.int .u32 x) (b' := bp) (j' := k * 2) (fun _ => by omega)).1
      clear qf
      go_wp2_with fail
      go_ret
      exact HP.out w.drew (by go_grown)
  · have HP : Hid (∀ W, Below w.heap.size w W → DoneP a (outF s part n x) (outE s part n) w (.returned (.int .i64 E)) W) := fun W hb => by
      refine ⟨by rw [hE], ?_, Kept.of_below hb⟩
      unfold outF
      rw [if_neg (by rw [hE]; exact he)]
      exact h.below hb
    have hne : (E != 0) = true := by simpa using he
    clear h hE hE2 he
    generalize s.wr = wv at *
    generalize s.safe.length = M at *
    generalize outF s part n x = S' at *
    generalize outE s part n = E0 at *
    obtain ⟨bt, hbt⟩ : ∃ b, (part == wv) = b := ⟨_, rfl⟩
    rw [hbt] at HF
    obtain ⟨g, hg⟩ : ∃ g, a.g = g := ⟨_, rfl⟩
    obtain ⟨bo, hbo⟩ : ∃ g, a.bo = g := ⟨_, rfl⟩
    rw [hg, hbo] at HC
    rw [hg]
    clear hg hbo
    go_enter Try.func15, Try.ntmps15
    go_wp2_with fail
    go_region_held3 (fun w' => w'.cell? ⟨g, 1, none⟩ = some (.int .i64 wv) ∧ w'.cell? ⟨g, 4, none⟩ = some (.slice (some ⟨bo, 0, none⟩) M M)) (first | exact HC.out _ (by first | exact Below.refl _ _ | go_grown) | go_keep) (first
      | (go_at_call 25; refine (HF.out _).mono ?_; rintro e w' ⟨rfl, rfl⟩))
    all_goals
      rename_i hK _
      refine hK _ _ ?_
      go_wp2_with fail
      go_ret
      exact HP.out w.drew (by go_grown)
end
end Fld
end Go.Proofs.Ytoighaicdakbkaa
