/- putFalling: where a number belongs in a falling list; the list with it. -/
import Derived.Test.YtcmbkoghhhhmcaaDoorInsAny
import Derived.Test.YtcmbkoghhhhmcaaDoorFlowR2
import Derived.Test.YtcmbkoghhhhmcaaDoorFlowGi
import Derived.Shelf.Abstract
namespace Go.Proofs.YtcmbkoghhhhmcaaDoor
open Go.ChangeShapes Go.WideShapes Go.ChangeAt Go.RowKit
namespace Flw
open Isa
open Goes
open Ins
open Rights (Kept)
set_option linter.unusedVariables false
set_option linter.unusedSimpArgs false
theorem diff_any (x n : Int) (hx : 0 ≤ x ∧ x ≤ 100000) (hn : 0 ≤ n ∧ n ≤ 100000) (w : World) : Calls Tryd.prog 43 #[.int .i64 x, .int .i64 n] w fun e w' => e = .returned (.int .i64 (n - x)) ∧ w' = w := by
  have hw : IntKind.i64.wrap (n - x) = n - x := by simp [IntKind.wrap, IntKind.bits, IntKind.signed]; omega
  go_enter Tryd.func43, Tryd.ntmps43
  go_wp2_with fail
  go_ret
  exact ⟨rfl, rfl⟩
/-- where x belongs -/
def Plc (R : List Nat) (x at_ : Nat) : Prop := at_ ≤ R.length ∧ (∀ t, t < at_ → x < R.getD t 0) ∧ (∀ t, at_ ≤ t → t < R.length → R.getD t 0 ≤ x)
/-- falling -/
def Fal (R : List Nat) : Prop := R.Pairwise (fun a b => b < a)
theorem Fal.at {R : List Nat} (h : Fal R) {i j : Nat} (hij : i < j) (hj : j < R.length) : R.getD j 0 < R.getD i 0 := by
  have := List.pairwise_iff_getElem.1 h i j (by omega) hj hij
  rw [List.getD_eq_getElem?_getD, List.getD_eq_getElem?_getD, List.getElem?_eq_getElem hj, List.getElem?_eq_getElem (by omega : i < R.length)]
  exact this
theorem mem_at {R : List Nat} {m : Nat} (h : m ∈ R) : ∃ t, t < R.length ∧ R.getD t 0 = m := by
  obtain ⟨t, ht, e⟩ := List.getElem_of_mem h
  exact ⟨t, ht, by rw [List.getD_eq_getElem?_getD, List.getElem?_eq_getElem ht, e]; rfl⟩
/-- a number that is not there, put where it belongs -/
theorem Fal.ins {R : List Nat} (h : Fal R) {x k : Nat} (hp : Plc R x k) (hx : x ∉ R) : Fal (insL R k x) := by
  obtain ⟨h1, h2, h3⟩ := hp
  have hne : ∀ t, t < R.length → R.getD t 0 ≠ x := fun t ht e => hx (by rw [← e]; exact getD_mem 0 ht)
  unfold insL
  rw [Fal, List.pairwise_append, List.pairwise_cons]
  refine ⟨h.sublist (List.take_sublist _ _), ⟨fun b hb => ?_, h.sublist (List.drop_sublist _ _)⟩, fun a ha b hb => ?_⟩
  · obtain ⟨i, hi, e⟩ := List.getElem_of_mem hb
    rw [List.length_drop] at hi
    rw [List.getElem_drop] at e
    have := h3 (k + i) (by omega) (by omega)
    have n := hne (k + i) (by omega)
    rw [List.getD_eq_getElem?_getD, List.getElem?_eq_getElem (by omega)] at this n
    simp at this n
    omega
  · obtain ⟨i, hi, e⟩ := List.getElem_of_mem ha
    rw [List.length_take] at hi
    rw [List.getElem_take] at e
    have ha' := h2 i (by omega)
    rw [List.getD_eq_getElem?_getD, List.getElem?_eq_getElem (by omega)] at ha'
    simp at ha'
    rcases List.mem_cons.1 hb with q | q
    · omega
    · obtain ⟨j, hj, e2⟩ := List.getElem_of_mem q
      rw [List.length_drop] at hj
      rw [List.getElem_drop] at e2
      have := h3 (k + j) (by omega) (by omega)
      rw [List.getD_eq_getElem?_getD, List.getElem?_eq_getElem (by omega)] at this
      simp at this
      omega
theorem ins_mem {R : List Nat} {x k m : Nat} : m ∈ insL R k x ↔ m = x ∨ m ∈ R := by
  unfold insL
  have := List.take_append_drop k R
  constructor
  · intro h
    rcases List.mem_append.1 h with h | h
    · exact .inr (List.mem_of_mem_take h)
    · rcases List.mem_cons.1 h with h | h
      · exact .inl h
      · exact .inr (List.mem_of_mem_drop h)
  · rintro (h | h)
    · subst h; simp
    · rw [← this] at h
      rcases List.mem_append.1 h with h | h
      · simp [h]
      · simp [h]
set_option maxHeartbeats 1600000 in
theorem search_any (R : List Nat) (hf : Fal R) (x : Nat) (hx : x ≤ 100000) (hb : ∀ m ∈ R, m ≤ 100000) (a : Option Addr) (n c : Nat) (hn : n ≤ 1000000) (w : World) (h : NRow w a n R) :
    Calls Tryd.prog 42 #[.slice a n c, .int .i64 (x : Nat), .func (.func 43) #[] #[]] w fun e w' => ∃ k fd, e = .returned (.tuple #[.int .i64 (k : Nat), .bool fd]) ∧ Plc R x k ∧ w' = w := by
  have HA := Lib.hid (fun k (hk : k < n) => h.at k hk)
  have hln : R.length = n := h.1
  have HL := Lib.hid hln
  have HF := Lib.hid hf
  have HD := Lib.hid (fun k (hk : k < n) (W : World) => diff_any ((R.getD k 0 : Nat) : Int) (x : Nat) ⟨by omega, by have := hb _ (getD_mem (l := R) (k := k) 0 (by omega)); omega⟩ ⟨by omega, by omega⟩ W)
  clear h hln hf hb
  go_enter Tryd.func42, Tryd.ntmps42
  go_wp2_with fail
  go_loopw [9, 10] (fun s9 s10 wr => ∃ lo hi : Nat, s9 = .int .i64 lo ∧ s10 = .int .i64 hi ∧ lo ≤ hi ∧ hi ≤ n ∧ (∀ t, t < lo → x < R.getD t 0) ∧ (∀ t, hi ≤ t → t < n → R.getD t 0 ≤ x) ∧ wr = w) (fun s9 s10 _ => (intOf s10).toNat - (intOf s9).toNat)
  case atStart => exact ⟨0, n, rfl, rfl, by omega, Nat.le_refl _, fun t ht => by omega, fun t h1 h2 => by omega, rfl⟩
  case round =>
    obtain ⟨lo, hi, rfl, rfl, hlh, hhn, h1, h2, rfl⟩ := hrel
    have H1 := Lib.hid h1
    have H2 := Lib.hid h2
    clear h1 h2
    by_cases hlt : lo < hi
    · obtain ⟨b, off, rfl, hc⟩ := HA.out ((lo + hi) / 2) (by omega)
      have HDk := Lib.hid (HD.out ((lo + hi) / 2) (by omega))
      have HFk := Lib.hid (fun t (ht : t < (lo + hi) / 2) => HF.out.at ht (by have := HL.out; omega))
      have HFu := Lib.hid (fun t (ht : (lo + hi) / 2 < t) (h2 : t < n) => HF.out.at ht (by have := HL.out; omega))
      generalize hy : R.getD ((lo + hi) / 2) 0 = y at *
      have HY := Lib.hid hy
      clear hy
      by_cases hyx : x < y
      · have hd : decide ((x : Int) - (y : Int) < 0) = true := decide_eq_true (by omega)
        go_wp2_with fail
        refine (HDk.out _).mono ?_
        rintro e w' ⟨rfl, hw'⟩
        subst w'
        go_wp2_with fail
        go_roundw
        case rel => exact ⟨(lo + hi) / 2 + 1, hi, by rw [show ((lo : Int) + (hi : Int)) / 2 + 1 = (((lo + hi) / 2 + 1 : Nat) : Int) by omega], rfl, by omega, hhn, fun t ht => by
          by_cases q : t = (lo + hi) / 2
          · subst q; rw [HY.out]; exact hyx
          · have := HFk.out t (by omega); omega, H2.out, by first | trivial | rfl⟩
        case measure => simp [intOf]; omega
      · have hd : decide ((x : Int) - (y : Int) < 0) = false := decide_eq_false (by omega)
        go_wp2_with fail
        refine (HDk.out _).mono ?_
        rintro e w' ⟨rfl, hw'⟩
        subst w'
        go_wp2_with fail
        go_roundw
        case rel => exact ⟨lo, (lo + hi) / 2, rfl, by rw [show ((lo : Int) + (hi : Int)) / 2 = (((lo + hi) / 2 : Nat) : Int) by omega], by omega, by omega, H1.out, fun t h1 h2 => by
          by_cases q : t = (lo + hi) / 2
          · subst q; rw [HY.out]; omega
          · have := HFu.out t (by omega) h2; omega, by first | trivial | rfl⟩
        case measure => simp [intOf]; omega
    · obtain rfl : lo = hi := by omega
      have HP : Hid (Plc R x lo) := ⟨by have := HL.out; omega, H1.out, fun t h1 h2 => H2.out t h1 (by have := HL.out; omega)⟩
      clear H1 H2
      by_cases hlo : lo < n
      · obtain ⟨b, off, rfl, hc⟩ := HA.out lo hlo
        have HDk := Lib.hid (HD.out lo hlo)
        have hd : decide ((lo : Int) < (n : Int)) = true := decide_eq_true (by omega)
        have k0 : (0 : Int) ≤ lo := by omega
        have k1 : (lo : Int) < n := by omega
        generalize R.getD lo 0 = y at *
        go_wp2_with fail
        refine (HDk.out _).mono ?_
        rintro e w' ⟨rfl, hw'⟩
        subst w'
        go_wp2_with fail
        go_ret2
        exact ⟨_, _, rfl, HP.out, rfl⟩
      · have hd : decide ((lo : Int) < (n : Int)) = false := decide_eq_false (by omega)
        go_wp2_with fail
        go_ret2
        exact ⟨_, _, rfl, HP.out, rfl⟩
theorem nums_one (R : List Nat) : ∀ u ∈ nums R, u.oneCell' = true := fun u hu => by
  obtain ⟨x, _, rfl⟩ := List.mem_map.1 hu
  rfl
/-- what Put leaves, of a number that is not there: g: the block of those that wait -/
def PutP (S g : Nat) (v : Value) (R : List Nat) (x : Nat) (w : World) (e : Ending) (w' : World) : Prop :=
  ∃ a c R', e = .returned (.tuple #[]) ∧ R'.length = R.length + 1 ∧ Fal R' ∧ (∀ m, m ∈ R' ↔ m = x ∨ m ∈ R) ∧ Box w' g 63 (.slice a (R.length + 1 : Nat) c) ∧ w'.ownsRow S 3 1 (.slice a (R.length + 1 : Nat) c) (R.length + 1) (nums R') ∧ Kept (fun j => v.ownBlock = some j ∨ j = g) w w' ∧
    ((Value.slice a (R.length + 1 : Nat) c).ownBlock = v.ownBlock ∨ ∃ g, (Value.slice a (R.length + 1 : Nat) c).ownBlock = some g ∧ w.heap.size ≤ g)
theorem own_ne_wait {w : World} {S sz n g : Nat} {u x : Value} {xs : List Value} {t : TypeId} (ht : t ≠ 3) (h : w.ownsRow S 3 sz u n xs) (hb : Box w g t x) {k : Nat} (hk : u.ownBlock = some k) : k ≠ g := by
  obtain ⟨cur, hc⟩ := own_block h hk
  exact ne_kind hc hb (by intro e; injection e with _ e _; exact ht e.symm)
set_option maxHeartbeats 1600000 in
theorem put_any {w : World} {S g : Nat} {v : Value} {R : List Nat} (hw : Box w g 63 v) (h : w.ownsRow S 3 1 v R.length (nums R)) (hS : S ≤ w.heap.size) (hn : R.length ≤ 1000000) (hf : Fal R) (x : Nat) (hx : x ≤ 100000) (hb : ∀ m ∈ R, m ≤ 100000) (hxR : x ∉ R) :
    Calls Tryd.prog 31 #[.pointer (some ⟨g, 0, none⟩), .int .i64 (x : Nat)] w (PutP S g v R x w) := by
  obtain ⟨a, c, rfl, hnc, hcm, hrow⟩ := own_nrow h
  have HS := Lib.hid (search_any R hf x hx hb a R.length c hn w hrow)
  have q1 := hw.cell
  have HW := Lib.hid hw
  have q2 : Box (w.alloc (.cells #[.int .i64 (x : Nat)] 3)) g 63 (.slice a R.length c) := hw.kept ((Kept.refl (fun _ => False) w).alloc (.cells #[.int .i64 (x : Nat)] 3)) (fun x => x)
  have HI := Lib.hid (fun (k : Nat) (hk : k ≤ R.length) => insert_any (h.alloc (.cells #[.int .i64 (x : Nat)] 3)) (nums_one R) (by simp; omega) hn k hk w.heap.size (x : Nat) (alloc_new w _) (fun g hg => by have := own_lt h hg; omega))
  have HP : Hid (∀ k, Plc R x k → ∀ e w', InsP S (.slice a R.length c) (insL (nums R) k (.int .i64 (x : Nat))) (w.alloc (.cells #[.int .i64 (x : Nat)] 3)) e w' →
      ∃ a' c', e = .returned (.slice a' (R.length + 1 : Nat) c') ∧ Box w' g 63 (.slice a R.length c) ∧ PutP S g (.slice a R.length c) R x w (.returned (.tuple #[])) (w'.setCell ⟨g, 0, none⟩ (.slice a' (R.length + 1 : Nat) c'))) := by
    rintro k hk e w' ⟨a', c', rfl, ho, hkp, hat⟩
    have e1 : insL (nums R) k (.int .i64 (x : Nat)) = nums (insL R k x) := by unfold nums; rw [insL_map]
    have e2 : (insL (nums R) k (Value.int .i64 (x : Nat))).length = R.length + 1 := by rw [insL_len]; simp [nums]
    rw [e2] at ho hat ⊢
    rw [e1] at ho
    have k1 : Kept (fun j => (Value.slice a R.length c).ownBlock = some j) w w' := ((Kept.refl _ w).alloc _).trans (hkp.mono fun j _ e => e)
    have b1 := hw.kept k1 (fun e => own_ne_wait (by decide) h hw e rfl)
    have k2 : Kept (fun j => j = g) w' (w'.setCell ⟨g, 0, none⟩ (.slice a' (R.length + 1 : Nat) c')) := kept_set _ _ _ _ rfl
    refine ⟨a', c', rfl, b1, a', c', insL R k x, rfl, insL_len _ _ _, hf.ins hk hxR, fun m => ins_mem, b1.set _, own_kept ho k2 (fun j hj => own_ne_wait (by decide) ho b1 hj), (k1.mono fun j _ e => .inl e).trans (k2.mono fun j _ e => .inr e), hat.imp id fun ⟨g, e, hg⟩ => ⟨g, e, by simp at hg; omega⟩⟩
  clear h hrow hf hb hxR hw
  go_enter Tryd.func31, Tryd.ntmps31
  go_wp2_with fail
  refine HS.out.mono ?_
  rintro e w1 ⟨k, fd, rfl, hpl, hw1⟩
  subst w1
  have HIk := Lib.hid ((HI.out k hpl.1).mono fun e w' q => HP.out k hpl e w' q)
  clear hpl HS HI HP
  have q3 := q2.cell
  clear q2
  go_wp2_with fail
  refine HIk.out.mono ?_
  rintro e w2 ⟨a', c', rfl, hb2, hq⟩
  have HQ := Lib.hid hq
  have q4 := hb2.cell
  have f4 := hb2.free
  clear hq hb2 HIk q1 q3
  go_wp2_with fail
  exact bodyPost_ret (results_none rfl _ _ _) rfl HQ.out
end Flw
end Go.Proofs.YtcmbkoghhhhmcaaDoor
