/- Commit. -/
import Derived.Test.YtoighaicdakbkaaFieldW2
import Derived.Deep.DeepCutAuto
import Derived.Deep.CutBlock
namespace Go.Proofs.Ytoighaicdakbkaa
open Go.ChangeShapes Go.WideShapes Go.ChangeAt Go.RowKit
namespace Fld
set_option linter.unusedVariables false
set_option linter.unusedSimpArgs false
/-- what a call without an answer leaves -/
def VoidP (a : Fa) (s : Fv) (w : World) (e : Ending) (w' : World) : Prop := e = .returned (.tuple #[]) ∧ Fd w' a s ∧ Kept a.wr w w'
theorem commit_nil (ok : Bool) (w : World) : Calls Try.prog 17 #[.pointer none, .bool ok] w fun e w' => e = .returned (.tuple #[]) ∧ w' = w := by
  go_enter Try.func17, Try.ntmps17
  go_wp2_with fail
  refine bodyPost_ret (results_none rfl _ _ _) rfl ⟨rfl, rfl⟩
/-- so many words are new -/
def half (T o : List Int) (k : Nat) : List Int := T.take k ++ o.drop k
theorem half_len (T o : List Int) (k : Nat) (h : T.length = o.length) : (half T o k).length = o.length := by simp [half]; omega
theorem half_zero (T o : List Int) : half T o 0 = o := by simp [half]
theorem half_all (T o : List Int) (h : T.length = o.length) : half T o T.length = T := by rw [half, List.take_length, List.drop_of_length_le (by omega), List.append_nil]
theorem half_next (T o : List Int) (k : Nat) (h : T.length = o.length) (hk : k < T.length) : (half T o k).set k (T.getD k 0) = half T o (k + 1) := by
  unfold half
  apply List.ext_getElem?
  intro i
  have hk2 : k < o.length := by omega
  rw [List.getElem?_set]
  by_cases e : k = i
  · subst e
    rw [if_pos rfl, if_pos (by simp; omega), List.getElem?_append_left (by simp; omega), List.getElem?_take_of_lt (by omega), List.getD_eq_getElem?_getD, List.getElem?_eq_getElem hk]
    rfl
  · rw [if_neg e]
    by_cases h2 : i < k
    · rw [List.getElem?_append_left (by simp; omega), List.getElem?_append_left (by simp; omega), List.getElem?_take_of_lt h2, List.getElem?_take_of_lt (by omega)]
    · rw [List.getElem?_append_right (by simp; omega), List.getElem?_append_right (by simp; omega), List.getElem?_drop, List.getElem?_drop]
      simp only [List.length_take]
      congr 1
      omega
section
variable {w : World} {a : Fa} {s : Fv}
set_option maxHeartbeats 2000000 in
theorem commit_true (h : Fd w a s) : Calls Try.prog 17 #[.pointer (some ⟨a.g, 0, none⟩), .bool true] w (VoidP a (comF s true) w) := by
  obtain ⟨T, hT⟩ : ∃ T, merge s.safe s.puts = T := ⟨_, rfl⟩
  have hTl : T.length = s.safe.length := by rw [← hT]; exact merge_len _ _ h.ok.sp
  have HTo : Hid (T.length = s.outs.length) := hTl.trans h.ok.so.symm
  have HC : Hid (∀ (W : World) (o : List Int) (k : Nat), k < s.safe.length → Fd W a { s with outs := o } → Calls Try.prog 29 #[.pointer (some ⟨a.g, 0, none⟩), .int .i64 (k : Int)] W fun e w' => e = .returned (.int .u32 (T.getD k 0)) ∧ Below W.heap.size W w') := fun W o k hk hW => by
    rw [← hT]
    exact putWord_any hW hk
  have HN : Hid (comF s true = { s with outs := T, puts := List.replicate s.safe.length none }) := by show _ = _; rw [← hT]; rfl
  have HW := Lib.hid (show Fd w a { s with outs := half T s.outs 0 } from by rw [half_zero]; exact h)
  have c4 := h.c4
  have hl := h.ok.ss
  obtain ⟨q1, q2, q3, q4, q5, q6, q7⟩ := h.gs
  have HQ := Lib.hid (And.intro q3 (And.intro h.n2 (And.intro h.n3 q7)))
  obtain ⟨N, hN⟩ : ∃ N, s.safe.length = N := ⟨_, rfl⟩
  have HNn := Lib.hid hN
  have HTl : Hid (T.length = N) := hTl.trans hN
  rw [hN] at c4 hl HC
  clear h hT hTl hN q1 q2 q3 q4 q5 q6 q7
  obtain ⟨g, hg⟩ : ∃ g, a.g = g := ⟨_, rfl⟩
  have HG := Lib.hid hg
  rw [hg] at c4 HC ⊢
  obtain ⟨bo, hbo⟩ : ∃ g, a.bo = g := ⟨_, rfl⟩
  have HBo := Lib.hid hbo
  rw [hbo] at c4
  clear hg hbo
  go_enter Try.func17, Try.ntmps17
  go_wp2_with fail
  clear c4
  go_loopw [18] (fun i wr => ∃ k : Nat, k ≤ N ∧ i = .int .i64 k ∧ Fd wr a { s with outs := half T s.outs k } ∧ Kept (fun k => k = a.bo) w wr) (fun i _ => N - (intOf i).toNat)
  case atStart => exact ⟨0, by omega, rfl, HW.out, Kept.refl _ _⟩
  case round =>
    clear HW
    obtain ⟨k, hk, rfl, hf, hkp⟩ := hrel
    have HF := Lib.hid hf
    have HK := Lib.hid hkp
    clear hf hkp
    by_cases hlt : k < N
    · have k0 : (0 : Int) ≤ k := by omega
      have k1 : (k : Int) < N := by omega
      have hd : decide ((k : Int) < (N : Int)) = true := decide_eq_true (by omega)
      have hd2 : decide (k < N) = true := decide_eq_true hlt
      have HX : Hid (∀ W, Below wr.heap.size wr W → W.cell? ⟨g, 4, none⟩ = some (.slice (some ⟨bo, 0, none⟩) N N) ∧ W.cell? ⟨bo, k, none⟩ = some (.int .u32 ((half T s.outs k).getD k 0)) ∧ W.frozen? ⟨bo, k, none⟩ = false) := fun W hb => by
        have hW := HF.out.below hb
        have d4 := hW.c4
        rw [HG.out, HBo.out] at d4
        simp only [HNn.out] at d4
        have d5 := num_cell hW.ro k (by simp only; rw [half_len _ _ _ HTo.out, ← HTo.out, HTl.out]; exact hlt)
        have d6 := row_free hW.ro k
        rw [HBo.out] at d5 d6
        exact ⟨d4, d5, d6⟩
      generalize (half T s.outs k).getD k 0 = old at *
      have HC1 := Lib.hid (fun (W : World) (hb : Below wr.heap.size wr W) => HC.out W _ k hlt (HF.out.below hb))
      have HP : Hid (∀ W, Below wr.heap.size wr W → Fd (W.setCell ⟨bo, k, none⟩ (.int .u32 (T.getD k 0))) a { s with outs := half T s.outs (k + 1) } ∧ Kept (fun k => k = a.bo) w (W.setCell ⟨bo, k, none⟩ (.int .u32 (T.getD k 0)))) := fun W hb => by
        have hW := HF.out.below hb
        have hr := num_set hW.ro k (T.getD k 0)
        simp only at hr
        rw [half_next _ _ _ HTo.out (by rw [HTl.out]; exact hlt)] at hr
        have hkk : Kept (fun k => k = a.bo) W (W.setCell ⟨a.bo, k, none⟩ (.int .u32 (T.getD k 0))) := (Kept.refl (fun k => k = a.bo) W).setCell (.inl rfl) _
        have := hW.outs (half T s.outs (k + 1)) (by simp only; rw [half_len _ _ _ HTo.out, half_len _ _ _ HTo.out]) hkk hr
        rw [← HBo.out]
        exact ⟨this, (HK.out.behind hb HK.out.size).trans hkk⟩
      generalize T.getD k 0 = x at *
      have HS : Hid (∀ W, Below wr.heap.size wr W → (W.setCell ⟨bo, k, none⟩ (.int .u32 x)).cell? ⟨g, 4, none⟩ = some (.slice (some ⟨bo, 0, none⟩) N N)) := fun W hb => by
        refine (World.cell?_of_block (Below.heap_setCell _ _ _ _ ?_)).trans (HX.out W hb).1
        have := HQ.out.1
        rw [HG.out, HBo.out] at this
        exact this
      obtain ⟨d4, d5, d6⟩ := HX.out wr (Below.refl _ _)
      clear d5 d6
      go_upto_region 7 with fail
      clear d4
      go_region_held3 (fun w' => w'.cell? ⟨g, 4, none⟩ = some (.slice (some ⟨bo, 0, none⟩) N N)) (first | exact HS.out _ (by first | assumption | (go_grown; done)) | exact (HX.out _ (by first | assumption | exact Below.refl _ _ | (go_grown; done))).1 | go_keep) (first
        | (go_at_call 29; refine (HC1.out _ (by first | assumption | exact Below.refl _ _ | go_grown)).mono ?_; rintro e w' ⟨rfl, hb⟩; replace hb : Below wr.heap.size wr w' := (by first | exact hb | exact (Below.refl _ _).drew.trans hb); obtain ⟨-, d5, d6⟩ := HX.out w' hb))
      all_goals
        rename_i hK _
        refine hK _ _ ?_
        go_wp2_with fail
        go_roundw
        case rel =>
          obtain ⟨p1, p2⟩ := HP.out w' hb
          exact ⟨k + 1, by omega, by go_num, p1, p2⟩
        case measure => simp [intOf]; omega
    · have hd : decide ((k : Int) < (N : Int)) = false := decide_eq_false (by omega)
      have hd2 : decide (k < N) = false := decide_eq_false hlt
      obtain rfl : k = N := by omega
      have c5 := HF.out.c5
      have hcl := fun ty => run_clear_puts wr a.bp s.safe.length s.safe.length s.puts _ ty HF.out.rp HF.out.ok.sp
      have HE := Lib.hid HF.out.cleared
      have hha : half T s.outs k = T := by have := half_all T s.outs HTo.out; rwa [HTl.out] at this
      have HKe : Hid (Kept a.wr w (wr.setRow a.bp (putC (List.replicate s.safe.length none)).toArray)) := (HK.out.mono (fun k _ e => .inr (.inl e))).setRow (.inl (.inr (.inr rfl))) _
      rw [HG.out] at c5
      simp only [HNn.out] at c5 hcl HKe HE HN
      rw [hha] at HE
      clear hha HF HK
      generalize (putC (List.replicate k none)).toArray = Z at *
      go_wp2_with (simp only [hcl])
      go_end0
      exact ⟨rfl, by rw [HN.out]; exact HE.out, HKe.out⟩
set_option maxHeartbeats 2000000 in
theorem commit_false (h : Fd w a s) : Calls Try.prog 17 #[.pointer (some ⟨a.g, 0, none⟩), .bool false] w (VoidP a (comF s false) w) := by
  obtain ⟨T, hT⟩ : ∃ T, s.safe = T := ⟨_, rfl⟩
  have hTl : T.length = s.safe.length := by rw [← hT]
  have HTo : Hid (T.length = s.outs.length) := hTl.trans h.ok.so.symm
  have HC : Hid (∀ (W : World) (o : List Int) (k : Nat), k < s.safe.length → Fd W a { s with outs := o } → Calls Try.prog 28 #[.pointer (some ⟨a.g, 0, none⟩), .int .i64 (k : Int)] W fun e w' => e = .returned (.int .u32 (T.getD k 0)) ∧ Below W.heap.size W w') := fun W o k hk hW => by
    rw [← hT]
    exact (safeWord_any hW hk).mono fun e w' h => ⟨h.1, by rw [h.2]; exact Below.refl _ _⟩
  have HN : Hid (comF s false = { s with outs := T, puts := List.replicate s.safe.length none }) := by show _ = _; rw [← hT]; rfl
  have HW := Lib.hid (show Fd w a { s with outs := half T s.outs 0 } from by rw [half_zero]; exact h)
  have c4 := h.c4
  have hl := h.ok.ss
  obtain ⟨q1, q2, q3, q4, q5, q6, q7⟩ := h.gs
  have HQ := Lib.hid (And.intro q3 (And.intro h.n2 (And.intro h.n3 q7)))
  obtain ⟨N, hN⟩ : ∃ N, s.safe.length = N := ⟨_, rfl⟩
  have HNn := Lib.hid hN
  have HTl : Hid (T.length = N) := hTl.trans hN
  rw [hN] at c4 hl HC
  clear h hT hTl hN q1 q2 q3 q4 q5 q6 q7
  obtain ⟨g, hg⟩ : ∃ g, a.g = g := ⟨_, rfl⟩
  have HG := Lib.hid hg
  rw [hg] at c4 HC ⊢
  obtain ⟨bo, hbo⟩ : ∃ g, a.bo = g := ⟨_, rfl⟩
  have HBo := Lib.hid hbo
  rw [hbo] at c4
  clear hg hbo
  go_enter Try.func17, Try.ntmps17
  go_wp2_with fail
  clear c4
  go_loopw [18] (fun i wr => ∃ k : Nat, k ≤ N ∧ i = .int .i64 k ∧ Fd wr a { s with outs := half T s.outs k } ∧ Kept (fun k => k = a.bo) w wr) (fun i _ => N - (intOf i).toNat)
  case atStart => exact ⟨0, by omega, rfl, HW.out, Kept.refl _ _⟩
  case round =>
    clear HW
    obtain ⟨k, hk, rfl, hf, hkp⟩ := hrel
    have HF := Lib.hid hf
    have HK := Lib.hid hkp
    clear hf hkp
    by_cases hlt : k < N
    · have k0 : (0 : Int) ≤ k := by omega
      have k1 : (k : Int) < N := by omega
      have hd : decide ((k : Int) < (N : Int)) = true := decide_eq_true (by omega)
      have hd2 : decide (k < N) = true := decide_eq_true hlt
      have HX : Hid (∀ W, Below wr.heap.size wr W → W.cell? ⟨g, 4, none⟩ = some (.slice (some ⟨bo, 0, none⟩) N N) ∧ W.cell? ⟨bo, k, none⟩ = some (.int .u32 ((half T s.outs k).getD k 0)) ∧ W.frozen? ⟨bo, k, none⟩ = false) := fun W hb => by
        have hW := HF.out.below hb
        have d4 := hW.c4
        rw [HG.out, HBo.out] at d4
        simp only [HNn.out] at d4
        have d5 := num_cell hW.ro k (by simp only; rw [half_len _ _ _ HTo.out, ← HTo.out, HTl.out]; exact hlt)
        have d6 := row_free hW.ro k
        rw [HBo.out] at d5 d6
        exact ⟨d4, d5, d6⟩
      generalize (half T s.outs k).getD k 0 = old at *
      have HC1 := Lib.hid (fun (W : World) (hb : Below wr.heap.size wr W) => HC.out W _ k hlt (HF.out.below hb))
      have HP : Hid (∀ W, Below wr.heap.size wr W → Fd (W.setCell ⟨bo, k, none⟩ (.int .u32 (T.getD k 0))) a { s with outs := half T s.outs (k + 1) } ∧ Kept (fun k => k = a.bo) w (W.setCell ⟨bo, k, none⟩ (.int .u32 (T.getD k 0)))) := fun W hb => by
        have hW := HF.out.below hb
        have hr := num_set hW.ro k (T.getD k 0)
        simp only at hr
        rw [half_next _ _ _ HTo.out (by rw [HTl.out]; exact hlt)] at hr
        have hkk : Kept (fun k => k = a.bo) W (W.setCell ⟨a.bo, k, none⟩ (.int .u32 (T.getD k 0))) := (Kept.refl (fun k => k = a.bo) W).setCell (.inl rfl) _
        have := hW.outs (half T s.outs (k + 1)) (by simp only; rw [half_len _ _ _ HTo.out, half_len _ _ _ HTo.out]) hkk hr
        rw [← HBo.out]
        exact ⟨this, (HK.out.behind hb HK.out.size).trans hkk⟩
      generalize T.getD k 0 = x at *
      have HS : Hid (∀ W, Below wr.heap.size wr W → (W.setCell ⟨bo, k, none⟩ (.int .u32 x)).cell? ⟨g, 4, none⟩ = some (.slice (some ⟨bo, 0, none⟩) N N)) := fun W hb => by
        refine (World.cell?_of_block (Below.heap_setCell _ _ _ _ ?_)).trans (HX.out W hb).1
        have := HQ.out.1
        rw [HG.out, HBo.out] at this
        exact this
      obtain ⟨d4, d5, d6⟩ := HX.out wr (Below.refl _ _)
      clear d5 d6
      go_upto_region 7 with fail
      clear d4
      go_region_held3 (fun w' => w'.cell? ⟨g, 4, none⟩ = some (.slice (some ⟨bo, 0, none⟩) N N)) (first | exact HS.out _ (by first | assumption | (go_grown; done)) | exact (HX.out _ (by first | assumption | exact Below.refl _ _ | (go_grown; done))).1 | go_keep) (first
        | (go_at_call 28; refine (HC1.out _ (by first | assumption | exact Below.refl _ _ | go_grown)).mono ?_; rintro e w' ⟨rfl, hb⟩; replace hb : Below wr.heap.size wr w' := (by first | exact hb | exact (Below.refl _ _).drew.trans hb); obtain ⟨-, d5, d6⟩ := HX.out w' hb))
      all_goals
        rename_i hK _
        refine hK _ _ ?_
        go_wp2_with fail
        go_roundw
        case rel =>
          obtain ⟨p1, p2⟩ := HP.out w' hb
          exact ⟨k + 1, by omega, by go_num, p1, p2⟩
        case measure => simp [intOf]; omega
    · have hd : decide ((k : Int) < (N : Int)) = false := decide_eq_false (by omega)
      have hd2 : decide (k < N) = false := decide_eq_false hlt
      obtain rfl : k = N := by omega
      have c5 := HF.out.c5
      have hcl := fun ty => run_clear_puts wr a.bp s.safe.length s.safe.length s.puts _ ty HF.out.rp HF.out.ok.sp
      have HE := Lib.hid HF.out.cleared
      have hha : half T s.outs k = T := by have := half_all T s.outs HTo.out; rwa [HTl.out] at this
      have HKe : Hid (Kept a.wr w (wr.setRow a.bp (putC (List.replicate s.safe.length none)).toArray)) := (HK.out.mono (fun k _ e => .inr (.inl e))).setRow (.inl (.inr (.inr rfl))) _
      rw [HG.out] at c5
      simp only [HNn.out] at c5 hcl HKe HE HN
      rw [hha] at HE
      clear hha HF HK
      generalize (putC (List.replicate k none)).toArray = Z at *
      go_wp2_with (simp only [hcl])
      go_end0
      exact ⟨rfl, by rw [HN.out]; exact HE.out, HKe.out⟩
theorem commit_any (h : Fd w a s) (ok : Bool) : Calls Try.prog 17 #[.pointer (some ⟨a.g, 0, none⟩), .bool ok] w (VoidP a (comF s ok) w) := by
  cases ok with
  | true => exact commit_true h
  | false => exact commit_false h
end
end Fld
end Go.Proofs.Ytoighaicdakbkaa
