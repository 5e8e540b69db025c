/- The document's Read, Age, Put, Send. -/
import Derived.Test.YtcapiaempfjmeaaPortR1
namespace Go.Proofs.Ytcapiaempfjmeaa
open Go.ChangeShapes Go.WideShapes Go.ChangeAt Go.RowKit
namespace Prt
set_option linter.unusedVariables false
set_option linter.unusedSimpArgs false
section
variable {A : RA} {n : Nat} {a0 : Option Addr} {c0 : Nat} {l : List Bx} {T : Nat → Option Nat} {V : World} {ds : List Df} {p : Nat → Prop}
theorem Rf.five (h : Rf A n a0 c0 l T V) : V.cell? ⟨A.r, 0, none⟩ = some (.slice a0 n c0) ∧ V.cell? ⟨A.r, 1, none⟩ = some (.slice A.xw n A.cw) ∧ V.cell? ⟨A.r, 2, none⟩ = some (.slice A.xa n A.ca) ∧ V.cell? ⟨A.r, 3, none⟩ = some (.slice A.xd n A.cd) ∧ V.cell? ⟨A.r, 4, none⟩ = some (.slice A.xs n A.cs) :=
  cells5 h.obj
theorem errW_two {f : Df → Int → Bool} {l : List Bx} {part port word : Int} (h : errW f l part port word = 0) : ∃ k j : Nat, port = (k : Int) ∧ word = (j : Int) ∧ k < l.length ∧ (j : Int) < (l[k]!).d.w ∧ f (l[k]!).d part = true := by
  obtain ⟨h1, h2, h3⟩ := errW_zero.1 h
  obtain ⟨k, rfl, hk, hf⟩ := errA_two h1
  rw [Int.toNat_natCast] at h3
  exact ⟨k, word.toNat, rfl, by omega, hk, by omega, hf⟩
/-- what Read answers -/
theorem rread_any (h : Rf A n a0 c0 l T V) (hf : FRow p V a0 n ds) (hd : ∀ i, i < n → (l[i]!).d = ds[i]!) (part port word : Int) (hp : -9223372036854775808 ≤ part ∧ part ≤ 9223372036854775807) :
    Calls Try.prog 12 #[.pointer (some ⟨A.r, 0, none⟩), .int .i64 part, .int .i64 port, .int .i64 word] V (ReadP l part port word V) := by
  have HW := Lib.hid (wrongR_any h hf hd part port word hp)
  by_cases he : errW rds l part port word = 0
  · obtain ⟨k, j, rfl, rfl, hk, hj, hfm⟩ := errW_two he
    have hl := h.len
    have hkn : k < n := by omega
    have hjw : j < wd l[k]! := by unfold wd; omega
    have HQ : Hid (∀ W, Below V.heap.size V W → ReadP l part k j V (.returned (.tuple #[.int .u32 ((l[k]!).m.getD j 0), .int .i64 0])) W) := fun W hb => by
      refine ⟨?_, hb⟩
      rw [he]; unfold readV; rw [if_pos he, Int.toNat_natCast, Int.toNat_natCast]
    have HC : Hid (∀ W, Below V.heap.size V W → W.cell? ⟨A.r, 1, none⟩ = some (.slice A.xw n A.cw) ∧ W.cell? ⟨A.bw, k, none⟩ = some (.slice (some ⟨A.wb k, 0, none⟩) (wd l[k]!) (A.wc k)) ∧ W.cell? ⟨A.wb k, j, none⟩ = some (.int .u32 ((l[k]!).m.getD j 0))) := fun W hb => by
      have hr := h.below hb
      exact ⟨hr.five.2.1, (hr.cW k hkn).1, (hr.cM k hkn j hjw).1⟩
    rw [he] at HW
    have hx := (h.hx (by omega)).1
    have k0 : (0 : Int) ≤ k := by omega
    have k1 : (k : Int) < n := by omega
    have j0 : (0 : Int) ≤ j := by omega
    have j1 : (j : Int) < (wd l[k]! : Nat) := by omega
    rw [hx] at HC
    clear h hf hd he hfm hx hk hj hl
    generalize wd l[k]! = wn at *
    generalize (l[k]!).m.getD j 0 = z at *
    generalize A.wb k = bb at *
    generalize A.wc k = bc at *
    go_enter Try.func12, Try.ntmps12
    go_wp2_with (go_at_call 37; refine HW.out.mono ?_; rintro e w1 ⟨rfl, hb⟩; obtain ⟨c1, c2, c3⟩ := HC.out _ hb)
    refine bodyPost_ret (v := .tuple #[.int .u32 z, .int .i64 0]) (by simp [results, Try.f12, go_sem]) rfl ?_
    exact HQ.out _ hb
  · have HQ : Hid (∀ W, Below V.heap.size V W → ReadP l part port word V (.returned (.tuple #[.int .u32 0, .int .i64 (errW rds l part port word)])) W) := fun W hb => by
      refine ⟨?_, hb⟩
      unfold readV; rw [if_neg he]
    have hne : (errW rds l part port word != 0) = true := by simpa using he
    clear h hf hd he
    generalize errW rds l part port word = E at *
    go_enter Try.func12, Try.ntmps12
    go_wp2_with (go_at_call 37; refine HW.out.mono ?_; rintro e w1 ⟨rfl, hb⟩)
    refine bodyPost_ret (v := .tuple #[.int .u32 0, .int .i64 E]) (by simp [results, Try.f12, go_sem]) rfl ?_
    exact HQ.out _ hb
theorem errW_none {f : Df → Int → Bool} (h : Rf A n a0 c0 l T V) (part port : Int) : errW f l part port 0 = errA f l part port := by
  unfold errW
  split
  · rename_i he
    obtain ⟨h1, h2, _⟩ := errA_zero.1 he
    have hw := (h.at (i := port.toNat) (by rw [← h.len]; omega)).w
    rw [he, if_pos ⟨by omega, by omega⟩]
  · rfl
theorem rage_any (h : Rf A n a0 c0 l T V) (hf : FRow p V a0 n ds) (hd : ∀ i, i < n → (l[i]!).d = ds[i]!) (part port : Int) (hp : -9223372036854775808 ≤ part ∧ part ≤ 9223372036854775807) :
    Calls Try.prog 14 #[.pointer (some ⟨A.r, 0, none⟩), .int .i64 part, .int .i64 port] V (AgeP l part port V) := by
  have hw := wrongR_any h hf hd part port 0 hp
  rw [errW_none h] at hw
  have HW := Lib.hid hw
  clear hw
  by_cases he : errA rds l part port = 0
  · obtain ⟨k, rfl, hk, hfm⟩ := errA_two he
    have hl := h.len
    have hkn : k < n := by omega
    have HQ : Hid (∀ W, Below V.heap.size V W → AgeP l part k V (.returned (.tuple #[.int .u32 (l[k]!).age, .int .i64 0])) W) := fun W hb => by
      refine ⟨?_, hb⟩
      rw [he]; unfold ageV; rw [if_pos he, Int.toNat_natCast]
    have HC : Hid (∀ W, Below V.heap.size V W → W.cell? ⟨A.r, 2, none⟩ = some (.slice A.xa n A.ca) ∧ W.cell? ⟨A.ba, k, none⟩ = some (.int .u32 (l[k]!).age)) := fun W hb => by
      have hr := h.below hb
      exact ⟨hr.five.2.2.1, (hr.cA k hkn).1⟩
    rw [he] at HW
    have hx := (h.hx (by omega)).2.1
    have k0 : (0 : Int) ≤ k := by omega
    have k1 : (k : Int) < n := by omega
    rw [hx] at HC
    clear h hf hd he hfm hx hk hl
    generalize (l[k]!).age = z at *
    go_enter Try.func14, Try.ntmps14
    go_wp2_with (go_at_call 37; refine HW.out.mono ?_; rintro e w1 ⟨rfl, hb⟩; obtain ⟨c1, c2⟩ := HC.out _ hb)
    refine bodyPost_ret (v := .tuple #[.int .u32 z, .int .i64 0]) (by simp [results, Try.f14, go_sem]) rfl ?_
    exact HQ.out _ hb
  · have HQ : Hid (∀ W, Below V.heap.size V W → AgeP l part port V (.returned (.tuple #[.int .u32 0, .int .i64 (errA rds l part port)])) W) := fun W hb => by
      refine ⟨?_, hb⟩
      unfold ageV; rw [if_neg he]
    have hne : (errA rds l part port != 0) = true := by simpa using he
    clear h hf hd he
    generalize errA rds l part port = E at *
    go_enter Try.func14, Try.ntmps14
    go_wp2_with (go_at_call 37; refine HW.out.mono ?_; rintro e w1 ⟨rfl, hb⟩)
    refine bodyPost_ret (v := .tuple #[.int .u32 0, .int .i64 E]) (by simp [results, Try.f14, go_sem]) rfl ?_
    exact HQ.out _ hb
/-- what is written -/
def RDone (A : RA) (n : Nat) (a0 : Option Addr) (c0 : Nat) (l : List Bx) (T : Nat → Option Nat) (v : Value) (V : World) (e : Ending) (V' : World) : Prop := e = .returned v ∧ Rf A n a0 c0 l T V' ∧ Kept (fun k => T k ≠ none) V V'
theorem rput_any (h : Rf A n a0 c0 l T V) (hf : FRow p V a0 n ds) (hd : ∀ i, i < n → (l[i]!).d = ds[i]!) (part port word x : Int) (hp : -9223372036854775808 ≤ part ∧ part ≤ 9223372036854775807) (hx : 0 ≤ x ∧ x ≤ 4294967295) :
    Calls Try.prog 16 #[.pointer (some ⟨A.r, 0, none⟩), .int .i64 part, .int .i64 port, .int .i64 word, .int .u32 x] V (RDone A n a0 c0 (putL l part port word x) T (.int .i64 (errW wrt l part port word)) V) := by
  have HW := Lib.hid (wrongW_any h hf hd part port word hp)
  by_cases he : errW wrt l part port word = 0
  · obtain ⟨k, j, rfl, rfl, hk, hj, hfm⟩ := errW_two he
    have hl := h.len
    have hkn : k < n := by omega
    have hjw : j < wd l[k]! := by unfold wd; omega
    have HQ : Hid (∀ W, Below V.heap.size V W → RDone A n a0 c0 (putL l part k j x) T (.int .i64 (errW wrt l part k j)) V (.returned (.int .i64 0)) (W.setCell ⟨A.db k, j, none⟩ (.int .u32 x))) := fun W hb => by
      unfold putL
      rw [if_pos he, he, Int.toNat_natCast, Int.toNat_natCast, modify_set _ _ _ hk]
      exact ⟨rfl, (h.below hb).wDr hkn j hjw x hx, (Kept.of_below hb).setCell (p := fun k => T k ≠ none) (.inl (by show T (A.db k) ≠ none; rw [h.tdb k hkn]; simp)) _⟩
    have HC : Hid (∀ W, Below V.heap.size V W → W.cell? ⟨A.r, 3, none⟩ = some (.slice A.xd n A.cd) ∧ W.cell? ⟨A.bd, k, none⟩ = some (.slice (some ⟨A.db k, 0, none⟩) (wd l[k]!) (A.dc k)) ∧ W.cell? ⟨A.db k, j, none⟩ = some (.int .u32 ((l[k]!).dr.getD j 0)) ∧ W.frozen? ⟨A.db k, j, none⟩ = false) := fun W hb => by
      have hr := h.below hb
      exact ⟨hr.five.2.2.2.1, (hr.cD k hkn).1, (hr.cR k hkn j hjw).1, (hr.cR k hkn j hjw).2⟩
    rw [he] at HW
    have hxx := (h.hx (by omega)).2.2.1
    have k0 : (0 : Int) ≤ k := by omega
    have k1 : (k : Int) < n := by omega
    have j0 : (0 : Int) ≤ j := by omega
    have j1 : (j : Int) < (wd l[k]! : Nat) := by omega
    rw [hxx] at HC
    clear h hf hd he hfm hxx hk hj hl
    generalize wd l[k]! = wn at *
    generalize (l[k]!).dr.getD j 0 = z at *
    generalize A.db k = bb at *
    generalize A.dc k = bc at *
    go_enter Try.func16, Try.ntmps16
    go_wp2_with (go_at_call 37; refine HW.out.mono ?_; rintro e w1 ⟨rfl, hb⟩; obtain ⟨c1, c2, c3, c4⟩ := HC.out _ hb)
    go_ret
    exact HQ.out _ hb
  · have HQ : Hid (∀ W, Below V.heap.size V W → RDone A n a0 c0 (putL l part port word x) T (.int .i64 (errW wrt l part port word)) V (.returned (.int .i64 (errW wrt l part port word))) W) := fun W hb => by
      unfold putL
      rw [if_neg he]
      exact ⟨rfl, h.below hb, Kept.of_below hb⟩
    have hne : (errW wrt l part port word == 0) = false := by simpa using he
    clear h hf hd he
    generalize errW wrt l part port word = E at *
    go_enter Try.func16, Try.ntmps16
    go_wp2_with (go_at_call 37; refine HW.out.mono ?_; rintro e w1 ⟨rfl, hb⟩)
    go_ret
    exact HQ.out _ hb
theorem rsend_any (h : Rf A n a0 c0 l T V) (hf : FRow p V a0 n ds) (hd : ∀ i, i < n → (l[i]!).d = ds[i]!) (part port : Int) (hp : -9223372036854775808 ≤ part ∧ part ≤ 9223372036854775807) :
    Calls Try.prog 18 #[.pointer (some ⟨A.r, 0, none⟩), .int .i64 part, .int .i64 port] V (RDone A n a0 c0 (sendL l part port) T (.int .i64 (errA wrt l part port)) V) := by
  have hw := wrongW_any h hf hd part port 0 hp
  rw [errW_none h] at hw
  have HW := Lib.hid hw
  clear hw
  by_cases he : errA wrt l part port = 0
  · obtain ⟨k, rfl, hk, hfm⟩ := errA_two he
    have hl := h.len
    have hkn : k < n := by omega
    have hg := h.tags (by omega)
    have HQ : Hid (∀ W, Below V.heap.size V W → RDone A n a0 c0 (sendL l part k) T (.int .i64 (errA wrt l part k)) V (.returned (.int .i64 0)) (W.setCell ⟨A.bs, k, none⟩ (.bool true))) := fun W hb => by
      unfold sendL
      rw [if_pos he, he, Int.toNat_natCast, modify_set _ _ _ hk]
      exact ⟨rfl, (h.below hb).wS hkn true, (Kept.of_below hb).setCell (p := fun k => T k ≠ none) (.inl (by show T A.bs ≠ none; rw [hg.2.2.2]; simp)) _⟩
    have HC : Hid (∀ W, Below V.heap.size V W → W.cell? ⟨A.r, 4, none⟩ = some (.slice A.xs n A.cs) ∧ W.cell? ⟨A.bs, k, none⟩ = some (.bool (l[k]!).s) ∧ W.frozen? ⟨A.bs, k, none⟩ = false) := fun W hb => by
      have hr := h.below hb
      exact ⟨hr.five.2.2.2.2, (hr.cS k hkn).1, (hr.cS k hkn).2⟩
    rw [he] at HW
    have hxx := (h.hx (by omega)).2.2.2
    have k0 : (0 : Int) ≤ k := by omega
    have k1 : (k : Int) < n := by omega
    rw [hxx] at HC
    clear h hf hd he hfm hxx hk hl hg
    generalize (l[k]!).s = z at *
    go_enter Try.func18, Try.ntmps18
    go_wp2_with (go_at_call 37; refine HW.out.mono ?_; rintro e w1 ⟨rfl, hb⟩; obtain ⟨c1, c2, c3⟩ := HC.out _ hb)
    go_ret
    exact HQ.out _ hb
  · have HQ : Hid (∀ W, Below V.heap.size V W → RDone A n a0 c0 (sendL l part port) T (.int .i64 (errA wrt l part port)) V (.returned (.int .i64 (errA wrt l part port))) W) := fun W hb => by
      unfold sendL
      rw [if_neg he]
      exact ⟨rfl, h.below hb, Kept.of_below hb⟩
    have hne : (errA wrt l part port == 0) = false := by simpa using he
    clear h hf hd he
    generalize errA wrt l part port = E at *
    go_enter Try.func18, Try.ntmps18
    go_wp2_with (go_at_call 37; refine HW.out.mono ?_; rintro e w1 ⟨rfl, hb⟩)
    go_ret
    exact HQ.out _ hb
end
end Prt
end Go.Proofs.Ytcapiaempfjmeaa
