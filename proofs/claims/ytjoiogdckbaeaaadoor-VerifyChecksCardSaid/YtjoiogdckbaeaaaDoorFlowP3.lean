/- putFalling: where a number belongs in a falling list; the list with it. · Turns: what waits, the least one first, over and over. · A store that is worked off, and a row of numbers beside it: what stands in memory meanwhile. -/
import Derived.Test.YtjoiogdckbaeaaaDoorIns
import Derived.Test.YtjoiogdckbaeaaaDoorFlowS
import Derived.Shelf.Abstract
import Derived.Test.YtjoiogdckbaeaaaDoorFlowM
import Derived.Test.YtjoiogdckbaeaaaDoorFlowP1
import Derived.Test.YtjoiogdckbaeaaaDoorRightsPosts
import Derived.LoopNIn
import Derived.LoopIn
import Derived.Sort.LoopGhostIn
import Derived.Test.YtjoiogdckbaeaaaDoorFlowInts
namespace Go.Proofs.YtjoiogdckbaeaaaDoor
open Go.ChangeShapes Go.WideShapes Go.ChangeAt Go.RowKit
namespace Flw
open Isa
open Goes
open Ins
open Rights (Kept)
set_option linter.unusedVariables false
set_option linter.unusedSimpArgs false
theorem diff_any (x n : Int) (hx : 0 ≤ x ∧ x ≤ 100000) (hn : 0 ≤ n ∧ n ≤ 100000) (w : World) : Calls Tryd.prog 70 #[.int .i64 x, .int .i64 n] w fun e w' => e = .returned (.int .i64 (n - x)) ∧ w' = w := by
  have hw : IntKind.i64.wrap (n - x) = n - x := by simp [IntKind.wrap, IntKind.bits, IntKind.signed]; omega
  go_enter Tryd.func70, Tryd.ntmps70
  go_wp2_with fail
  go_ret
  exact ⟨rfl, rfl⟩
/-- where x belongs -/
def Plc (R : List Nat) (x at_ : Nat) : Prop := at_ ≤ R.length ∧ (∀ t, t < at_ → x < R.getD t 0) ∧ (∀ t, at_ ≤ t → t < R.length → R.getD t 0 ≤ x)
/-- falling -/
def Fal (R : List Nat) : Prop := R.Pairwise (fun a b => b < a)
theorem Fal.at {R : List Nat} (h : Fal R) {i j : Nat} (hij : i < j) (hj : j < R.length) : R.getD j 0 < R.getD i 0 := by
  have := List.pairwise_iff_getElem.1 h i j (by omega) hj hij
  rw [List.getD_eq_getElem?_getD, List.getD_eq_getElem?_getD, List.getElem?_eq_getElem hj, List.getElem?_eq_getElem (by omega : i < R.length)]
  exact this
theorem mem_at {R : List Nat} {m : Nat} (h : m ∈ R) : ∃ t, t < R.length ∧ R.getD t 0 = m := by
  obtain ⟨t, ht, e⟩ := List.getElem_of_mem h
  exact ⟨t, ht, by rw [List.getD_eq_getElem?_getD, List.getElem?_eq_getElem ht, e]; rfl⟩
/-- a number that is not there, put where it belongs -/
theorem Fal.ins {R : List Nat} (h : Fal R) {x k : Nat} (hp : Plc R x k) (hx : x ∉ R) : Fal (insL R k x) := by
  obtain ⟨h1, h2, h3⟩ := hp
  have hne : ∀ t, t < R.length → R.getD t 0 ≠ x := fun t ht e => hx (by rw [← e]; exact getD_mem 0 ht)
  unfold insL
  rw [Fal, List.pairwise_append, List.pairwise_cons]
  refine ⟨h.sublist (List.take_sublist _ _), ⟨fun b hb => ?_, h.sublist (List.drop_sublist _ _)⟩, fun a ha b hb => ?_⟩
  · obtain ⟨i, hi, e⟩ := List.getElem_of_mem hb
    rw [List.length_drop] at hi
    rw [List.getElem_drop] at e
    have := h3 (k + i) (by omega) (by omega)
    have n := hne (k + i) (by omega)
    rw [List.getD_eq_getElem?_getD, List.getElem?_eq_getElem (by omega)] at this n
    simp at this n
    omega
  · obtain ⟨i, hi, e⟩ := List.getElem_of_mem ha
    rw [List.length_take] at hi
    rw [List.getElem_take] at e
    have ha' := h2 i (by omega)
    rw [List.getD_eq_getElem?_getD, List.getElem?_eq_getElem (by omega)] at ha'
    simp at ha'
    rcases List.mem_cons.1 hb with q | q
    · omega
    · obtain ⟨j, hj, e2⟩ := List.getElem_of_mem q
      rw [List.length_drop] at hj
      rw [List.getElem_drop] at e2
      have := h3 (k + j) (by omega) (by omega)
      rw [List.getD_eq_getElem?_getD, List.getElem?_eq_getElem (by omega)] at this
      simp at this
      omega
theorem ins_mem {R : List Nat} {x k m : Nat} : m ∈ insL R k x ↔ m = x ∨ m ∈ R := by
  unfold insL
  have := List.take_append_drop k R
  constructor
  · intro h
    rcases List.mem_append.1 h with h | h
    · exact .inr (List.mem_of_mem_take h)
    · rcases List.mem_cons.1 h with h | h
      · exact .inl h
      · exact .inr (List.mem_of_mem_drop h)
  · rintro (h | h)
    · subst h; simp
    · rw [← this] at h
      rcases List.mem_append.1 h with h | h
      · simp [h]
      · simp [h]
set_option maxHeartbeats 1600000 in
theorem search_any (R : List Nat) (hf : Fal R) (x : Nat) (hx : x ≤ 100000) (hb : ∀ m ∈ R, m ≤ 100000) (a : Option Addr) (n c : Nat) (hn : n ≤ 1000000) (w : World) (h : NRow w a n R) :
    Calls Tryd.prog 69 #[.slice a n c, .int .i64 (x : Nat), .func (.func 70) #[] #[]] w fun e w' => ∃ k fd, e = .returned (.tuple #[.int .i64 (k : Nat), .bool fd]) ∧ Plc R x k ∧ w' = w := by
  have HA := Lib.hid (fun k (hk : k < n) => h.at k hk)
  have hln : R.length = n := h.1
  have HL := Lib.hid hln
  have HF := Lib.hid hf
  have HD := Lib.hid (fun k (hk : k < n) (W : World) => diff_any ((R.getD k 0 : Nat) : Int) (x : Nat) ⟨by omega, by have := hb _ (getD_mem (l := R) (k := k) 0 (by omega)); omega⟩ ⟨by omega, by omega⟩ W)
  clear h hln hf hb
  go_enter Tryd.func69, Tryd.ntmps69
  go_wp2_with fail
  go_loopw [9, 10] (fun s9 s10 wr => ∃ lo hi : Nat, s9 = .int .i64 lo ∧ s10 = .int .i64 hi ∧ lo ≤ hi ∧ hi ≤ n ∧ (∀ t, t < lo → x < R.getD t 0) ∧ (∀ t, hi ≤ t → t < n → R.getD t 0 ≤ x) ∧ wr = w) (fun s9 s10 _ => (intOf s10).toNat - (intOf s9).toNat)
  case atStart => exact ⟨0, n, rfl, rfl, by omega, Nat.le_refl _, fun t ht => by omega, fun t h1 h2 => by omega, rfl⟩
  case round =>
    obtain ⟨lo, hi, rfl, rfl, hlh, hhn, h1, h2, rfl⟩ := hrel
    have H1 := Lib.hid h1
    have H2 := Lib.hid h2
    clear h1 h2
    by_cases hlt : lo < hi
    · obtain ⟨b, off, rfl, hc⟩ := HA.out ((lo + hi) / 2) (by omega)
      have HDk := Lib.hid (HD.out ((lo + hi) / 2) (by omega))
      have HFk := Lib.hid (fun t (ht : t < (lo + hi) / 2) => HF.out.at ht (by have := HL.out; omega))
      have HFu := Lib.hid (fun t (ht : (lo + hi) / 2 < t) (h2 : t < n) => HF.out.at ht (by have := HL.out; omega))
      generalize hy : R.getD ((lo + hi) / 2) 0 = y at *
      have HY := Lib.hid hy
      clear hy
      by_cases hyx : x < y
      · have hd : decide ((x : Int) - (y : Int) < 0) = true := decide_eq_true (by omega)
        go_wp2_with fail
        refine (HDk.out _).mono ?_
        rintro e w' ⟨rfl, hw'⟩
        subst w'
        go_wp2_with fail
        go_roundw
        case rel => exact ⟨(lo + hi) / 2 + 1, hi, by rw [show ((lo : Int) + (hi : Int)) / 2 + 1 = (((lo + hi) / 2 + 1 : Nat) : Int) by omega], rfl, by omega, hhn, fun t ht => by
          by_cases q : t = (lo + hi) / 2
          · subst q; rw [HY.out]; exact hyx
          · have := HFk.out t (by omega); omega, H2.out, by first | trivial | rfl⟩
        case measure => simp [intOf]; omega
      · have hd : decide ((x : Int) - (y : Int) < 0) = false := decide_eq_false (by omega)
        go_wp2_with fail
        refine (HDk.out _).mono ?_
        rintro e w' ⟨rfl, hw'⟩
        subst w'
        go_wp2_with fail
        go_roundw
        case rel => exact ⟨lo, (lo + hi) / 2, rfl, by rw [show ((lo : Int) + (hi : Int)) / 2 = (((lo + hi) / 2 : Nat) : Int) by omega], by omega, by omega, H1.out, fun t h1 h2 => by
          by_cases q : t = (lo + hi) / 2
          · subst q; rw [HY.out]; omega
          · have := HFu.out t (by omega) h2; omega, by first | trivial | rfl⟩
        case measure => simp [intOf]; omega
    · obtain rfl : lo = hi := by omega
      have HP : Hid (Plc R x lo) := ⟨by have := HL.out; omega, H1.out, fun t h1 h2 => H2.out t h1 (by have := HL.out; omega)⟩
      clear H1 H2
      by_cases hlo : lo < n
      · obtain ⟨b, off, rfl, hc⟩ := HA.out lo hlo
        have HDk := Lib.hid (HD.out lo hlo)
        have hd : decide ((lo : Int) < (n : Int)) = true := decide_eq_true (by omega)
        have k0 : (0 : Int) ≤ lo := by omega
        have k1 : (lo : Int) < n := by omega
        generalize R.getD lo 0 = y at *
        go_wp2_with fail
        refine (HDk.out _).mono ?_
        rintro e w' ⟨rfl, hw'⟩
        subst w'
        go_wp2_with fail
        go_ret2
        exact ⟨_, _, rfl, HP.out, rfl⟩
      · have hd : decide ((lo : Int) < (n : Int)) = false := decide_eq_false (by omega)
        go_wp2_with fail
        go_ret2
        exact ⟨_, _, rfl, HP.out, rfl⟩
theorem nums_one (R : List Nat) : ∀ u ∈ nums R, u.oneCell' = true := fun u hu => by
  obtain ⟨x, _, rfl⟩ := List.mem_map.1 hu
  rfl
/-- what Put leaves, of a number that is not there: g: the block of those that wait -/
def PutP (S g : Nat) (v : Value) (R : List Nat) (x : Nat) (w : World) (e : Ending) (w' : World) : Prop :=
  ∃ a c R', e = .returned (.tuple #[]) ∧ R'.length = R.length + 1 ∧ Fal R' ∧ (∀ m, m ∈ R' ↔ m = x ∨ m ∈ R) ∧ Box w' g 104 (.slice a (R.length + 1 : Nat) c) ∧ w'.ownsRow S 3 1 (.slice a (R.length + 1 : Nat) c) (R.length + 1) (nums R') ∧ Kept (fun j => v.ownBlock = some j ∨ j = g) w w' ∧
    ((Value.slice a (R.length + 1 : Nat) c).ownBlock = v.ownBlock ∨ ∃ g, (Value.slice a (R.length + 1 : Nat) c).ownBlock = some g ∧ w.heap.size ≤ g)
theorem own_ne_wait {w : World} {S sz n g : Nat} {u x : Value} {xs : List Value} {t : TypeId} (ht : t ≠ 3) (h : w.ownsRow S 3 sz u n xs) (hb : Box w g t x) {k : Nat} (hk : u.ownBlock = some k) : k ≠ g := by
  obtain ⟨cur, hc⟩ := own_block h hk
  exact ne_kind hc hb (by intro e; injection e with _ e _; exact ht e.symm)
set_option maxHeartbeats 1600000 in
theorem put_any {w : World} {S g : Nat} {v : Value} {R : List Nat} (hw : Box w g 104 v) (h : w.ownsRow S 3 1 v R.length (nums R)) (hS : S ≤ w.heap.size) (hn : R.length ≤ 1000000) (hf : Fal R) (x : Nat) (hx : x ≤ 100000) (hb : ∀ m ∈ R, m ≤ 100000) (hxR : x ∉ R) :
    Calls Tryd.prog 54 #[.pointer (some ⟨g, 0, none⟩), .int .i64 (x : Nat)] w (PutP S g v R x w) := by
  obtain ⟨a, c, rfl, hnc, hcm, hrow⟩ := own_nrow h
  have HS := Lib.hid (search_any R hf x hx hb a R.length c hn w hrow)
  have q1 := hw.cell
  have HW := Lib.hid hw
  have q2 : Box (w.alloc (.cells #[.int .i64 (x : Nat)] 3)) g 104 (.slice a R.length c) := hw.kept ((Kept.refl (fun _ => False) w).alloc (.cells #[.int .i64 (x : Nat)] 3)) (fun x => x)
  have HI := Lib.hid (fun (k : Nat) (hk : k ≤ R.length) => insert_any (h.alloc (.cells #[.int .i64 (x : Nat)] 3)) (nums_one R) (by simp; omega) hn k hk w.heap.size (x : Nat) (alloc_new w _) (fun g hg => by have := own_lt h hg; omega))
  have HP : Hid (∀ k, Plc R x k → ∀ e w', InsP S (.slice a R.length c) (insL (nums R) k (.int .i64 (x : Nat))) (w.alloc (.cells #[.int .i64 (x : Nat)] 3)) e w' →
      ∃ a' c', e = .returned (.slice a' (R.length + 1 : Nat) c') ∧ Box w' g 104 (.slice a R.length c) ∧ PutP S g (.slice a R.length c) R x w (.returned (.tuple #[])) (w'.setCell ⟨g, 0, none⟩ (.slice a' (R.length + 1 : Nat) c'))) := by
    rintro k hk e w' ⟨a', c', rfl, ho, hkp, hat⟩
    have e1 : insL (nums R) k (.int .i64 (x : Nat)) = nums (insL R k x) := by unfold nums; rw [insL_map]
    have e2 : (insL (nums R) k (Value.int .i64 (x : Nat))).length = R.length + 1 := by rw [insL_len]; simp [nums]
    rw [e2] at ho hat ⊢
    rw [e1] at ho
    have k1 : Kept (fun j => (Value.slice a R.length c).ownBlock = some j) w w' := ((Kept.refl _ w).alloc _).trans (hkp.mono fun j _ e => e)
    have b1 := hw.kept k1 (fun e => own_ne_wait (by decide) h hw e rfl)
    have k2 : Kept (fun j => j = g) w' (w'.setCell ⟨g, 0, none⟩ (.slice a' (R.length + 1 : Nat) c')) := kept_set _ _ _ _ rfl
    refine ⟨a', c', rfl, b1, a', c', insL R k x, rfl, insL_len _ _ _, hf.ins hk hxR, fun m => ins_mem, b1.set _, own_kept ho k2 (fun j hj => own_ne_wait (by decide) ho b1 hj), (k1.mono fun j _ e => .inl e).trans (k2.mono fun j _ e => .inr e), hat.imp id fun ⟨g, e, hg⟩ => ⟨g, e, by simp at hg; omega⟩⟩
  clear h hrow hf hb hxR hw
  go_enter Tryd.func54, Tryd.ntmps54
  go_wp2_with fail
  refine HS.out.mono ?_
  rintro e w1 ⟨k, fd, rfl, hpl, hw1⟩
  subst w1
  have HIk := Lib.hid ((HI.out k hpl.1).mono fun e w' q => HP.out k hpl e w' q)
  clear hpl HS HI HP
  have q3 := q2.cell
  clear q2
  go_wp2_with fail
  refine HIk.out.mono ?_
  rintro e w2 ⟨a', c', rfl, hb2, hq⟩
  have HQ := Lib.hid hq
  have q4 := hb2.cell
  have f4 := hb2.free
  clear hq hb2 HIk q1 q3
  go_wp2_with fail
  exact bodyPost_ret (results_none rfl _ _ _) rfl HQ.out
end Flw
end Go.Proofs.YtjoiogdckbaeaaaDoor
namespace Go.Proofs.YtjoiogdckbaeaaaDoor
open Go.ChangeShapes Go.WideShapes Go.ChangeAt Go.RowKit
namespace Flw
open Isa
open Goes
open Ins
open Rights (Kept yield_any yield_wide)
set_option linter.unusedVariables false
set_option linter.unusedSimpArgs false
attribute [local go_sem] Oper.semAt_some
/-- those that wait, in memory: x: the iterator's box; g: their block; S: where rows of the call's own begin -/
structure WAt (S g x : Nat) (s : List Nat × Value) (V : World) : Prop where
  bx : Box V x 119 (.pointer (some ⟨g, 0, none⟩))
  bw : Box V g 104 s.2
  own : V.ownsRow S 3 1 s.2 s.1.length (nums s.1)
  len : s.1.length ≤ 1000000
def wFin (s : List Nat × Value) : Prop := s.1 = []
/-- the least one is taken out -/
def wStep (g : Nat) (s : List Nat × Value) (k : Nat) (s' : List Nat × Value) (V V' : World) : Prop := s.1 = s'.1 ++ [k] ∧ s'.2.ownBlock = s.2.ownBlock ∧ Kept (fun j => j = g) V V'
theorem turns_make (g : Nat) (w : World) : Calls Tryd.prog 55 #[.pointer (some ⟨g, 0, none⟩)] w fun e w' =>
    e = .returned (.func (.func 72) #[] #[.pointer (some ⟨w.heap.size, 0, none⟩)]) ∧ w' = w.alloc (.cells #[.pointer (some ⟨g, 0, none⟩)] 119) := by
  go_enter Tryd.func55, Tryd.ntmps55
  go_wp2_with fail
  go_ret
  exact ⟨rfl, rfl⟩
theorem turns_enters : ∀ args X, (callFunc 72 args).run Tryd.prog X = .ok (.enter 72 args) X := enters_of Tryd.func72 (by kernel_rfl) rfl
theorem WAt.pop {S g x : Nat} {rest : List Nat} {k b r cap : Nat} {V Y : World} (hr : rest.length = r) (h : WAt S g x (rest ++ [k], .slice (some ⟨b, 0, none⟩) (r + 1 : Nat) cap) V) (hb : Below V.heap.size V Y) :
    wStep g (rest ++ [k], .slice (some ⟨b, 0, none⟩) (r + 1 : Nat) cap) k (rest, .slice (some ⟨b, 0, none⟩) r cap) V (Y.setCell ⟨g, 0, none⟩ (.slice (some ⟨b, 0, none⟩) r cap)) ∧ WAt S g x (rest, .slice (some ⟨b, 0, none⟩) r cap) (Y.setCell ⟨g, 0, none⟩ (.slice (some ⟨b, 0, none⟩) r cap)) := by
  subst hr
  have hY : Kept (fun j => j = g) V Y := Kept.of_below hb
  have bw : Box Y g 104 (.slice (some ⟨b, 0, none⟩) (rest.length + 1 : Nat) cap) := h.bw.below hb (Nat.le_refl _)
  have hk : Kept (fun j => j = g) V (Y.setCell ⟨g, 0, none⟩ (.slice (some ⟨b, 0, none⟩) rest.length cap)) := hY.trans (kept_set _ _ _ _ rfl)
  have h1 := h.own
  have e : nums (rest ++ [k]) = nums rest ++ [.int .i64 (k : Nat)] := by simp [nums]
  simp only at h1
  rw [e, List.length_append, List.length_singleton] at h1
  refine ⟨⟨rfl, rfl, hk⟩, h.bx.kept hk (ne_kind h.bx h.bw (by intro e; injection e with _ e _; exact absurd e (by decide))), bw.set _, ?_, by have := h.len; simp at this; simp; omega⟩
  exact own_kept (own_take h1 (k := rest.length) (by simp [nums]) (by omega)) hk (fun j hj => own_ne_wait (by decide) h1 h.bw hj)
set_option maxHeartbeats 4000000 in
set_option maxRecDepth 100000 in
theorem seq_turns (S g x : Nat) : SeqD Tryd.prog 72 #[.pointer (some ⟨x, 0, none⟩)] encN (WAt S g x) wFin (wStep g) := by
  intro yl J Jx W m0 s0 hAt hY h0
  have HAt := Lib.hid hAt
  have HY := Lib.hid hY
  have H0 := Lib.hid h0
  clear hAt hY h0
  refine callsIn_of_wp Tryd.func72 rfl trivial ?_ rfl
  simp only [Tryd.ntmps72, List.size_toArray, List.length_cons, List.length_nil, Nat.reduceAdd, Nat.reduceSub, Array.replicate_succ, Array.replicate_zero, List.push_toArray, List.append_toArray, List.nil_append, List.cons_append]
  gi_wp2_with fail
  gi_loopg [] m0 (fun m wr => ∃ s, J m s wr)
  case atStart => exact ⟨s0, H0.out⟩
  case round =>
    obtain ⟨s, hJ⟩ := hrel
    have hW := HAt.out _ _ _ hJ
    have HJ := Lib.hid hJ
    have HWt := Lib.hid hW
    clear hJ hW H0
    obtain ⟨R, v⟩ := s
    have q1 := HWt.out.bx.cell
    have q2 := HWt.out.bw.cell
    have f2 := HWt.out.bw.free
    simp only at q2
    obtain ⟨va, vc, hve, hv1, hv2⟩ := own_shape HWt.out.own
    simp only at hve hv1
    subst hve
    rcases snoc_cases R with rfl | ⟨rest, k, rfl⟩
    · gi_wp2_with fail
      go_end0
      exact ⟨⟨_, rfl⟩, .inl ⟨gk, ([], _), rfl, HJ.out⟩⟩
    · have hml : (rest ++ [k]).length = rest.length + 1 := by simp
      rw [hml] at q2 hv1
      obtain ⟨b, cap, hv, hg0, hg1⟩ := own_some HWt.out.own (by simp)
      rw [hml] at hv
      injection hv with e1 _ e3
      subst e1
      subst e3
      have hcell : wr.cell? ⟨b, rest.length, none⟩ = some (.int .i64 (k : Nat)) := by
        have := World.ownsRow.cells HWt.out.own (g := b) rfl rest.length (.int .i64 (k : Nat)) (by simp [nums])
        rwa [WideShapes.add_plain, Nat.zero_add] at this
      have hrl : rest.length ≤ 1000000 := by have := HWt.out.len; simp at this; omega
      obtain ⟨r, hm⟩ : ∃ r, rest.length = r := ⟨_, rfl⟩
      rw [hm] at q2 hv1 hcell hrl hml
      rw [hml] at HJ HWt
      have HPop := Lib.hid (fun Y hb => HWt.out.pop (Y := Y) hm hb)
      clear hm hml HWt
      have hnv : ¬ vc < r := by omega
      have m0 : (0 : Int) ≤ r := by omega
      have m1 : (r : Int) < (r : Int) + 1 := by omega
      gi_wp2_with fail
      have hE := Posts.ext_rel
      refine (Posts.wpIn_region_tail hE 9 4 (Posts.At [Posts.is (.pointer (some ⟨g, 0, none⟩)), Posts.is (.pointer (some ⟨g, 0, none⟩)), Posts.is (.pointer (some ⟨g, 0, none⟩)), Posts.is (.pointer (some ⟨g, 0, none⟩)), Posts.is (.slice (some ⟨b, 0, none⟩) (r + 1 : Nat) vc), Posts.is (.int .i64 (r : Nat)), Posts.is (.slice (some ⟨b, 0, none⟩) r vc), Posts.is (.pointer (some ⟨g, 0, none⟩)), Posts.is (.pointer (some ⟨g, 0, none⟩))]) (fun _ _ => True) (by kernel_rfl) (by decide) (by kernel_rfl) (by kernel_rfl) (by kernel_rfl)
        (Posts.stable_at _ (by repeat' (first | exact trivial | (refine And.intro ?_ ?_) | exact Posts.is_stable _ | exact Posts.on_stable _ _ | assumption))) trivial ?_ ?_)
      · refine ⟨?_, ?_, ?_, ?_, ?_, ?_, ?_, ?_, ?_, trivial⟩
        · intro a X hX hS hD hJ hU
          have x0 := (World.cell?_of_block (Posts.Ext.blk hX _ (World.block_lt_of_cell? _ _ q1))).trans q1
          have x1 := (World.cell?_of_block (Posts.Ext.blk hX _ (World.block_lt_of_cell? _ _ q2))).trans q2
          have d1 := Posts.slot (show a.eval (.tmp 1) = .pointer (some ⟨x, 0, none⟩) from hS.other 1 rfl)
          exact Posts.op_value (fun _ => trivial) rfl rfl (by intro c h; cases h) rfl (by rw [hS.size]; simp) (v := .pointer (some ⟨g, 0, none⟩)) (by simp [execOp, d1,  go_sem, x0, x1, hnv]) rfl (hE.refl _) trivial
        · intro a X hX hS hD hJ hU
          have x0 := (World.cell?_of_block (Posts.Ext.blk hX _ (World.block_lt_of_cell? _ _ q1))).trans q1
          have x1 := (World.cell?_of_block (Posts.Ext.blk hX _ (World.block_lt_of_cell? _ _ q2))).trans q2
          have d1 := Posts.slot (show a.eval (.tmp 1) = .pointer (some ⟨x, 0, none⟩) from hS.other 1 rfl)
          exact Posts.op_value (fun _ => trivial) rfl rfl (by intro c h; cases h) rfl (by rw [hS.size]; simp) (v := .pointer (some ⟨g, 0, none⟩)) (by simp [execOp, d1,  go_sem, x0, x1, hnv]) rfl (hE.refl _) trivial
        · intro a X hX hS hD hJ hU
          have x0 := (World.cell?_of_block (Posts.Ext.blk hX _ (World.block_lt_of_cell? _ _ q1))).trans q1
          have x1 := (World.cell?_of_block (Posts.Ext.blk hX _ (World.block_lt_of_cell? _ _ q2))).trans q2
          have d25 := Posts.slot (show a.eval (.tmp 25) = .pointer (some ⟨g, 0, none⟩) from hD.1)
          exact Posts.op_value (fun _ => trivial) rfl rfl (by intro c h; cases h) rfl (by rw [hS.size]; simp) (v := .pointer (some ⟨g, 0, none⟩)) (by simp [execOp, d25,  go_sem, x0, x1, hnv]) rfl (hE.refl _) trivial
        · intro a X hX hS hD hJ hU
          have x0 := (World.cell?_of_block (Posts.Ext.blk hX _ (World.block_lt_of_cell? _ _ q1))).trans q1
          have x1 := (World.cell?_of_block (Posts.Ext.blk hX _ (World.block_lt_of_cell? _ _ q2))).trans q2
          have d26 := Posts.slot (show a.eval (.tmp 26) = .pointer (some ⟨g, 0, none⟩) from hD.1)
          exact Posts.op_value (fun _ => trivial) rfl rfl (by intro c h; cases h) rfl (by rw [hS.size]; simp) (v := .pointer (some ⟨g, 0, none⟩)) (by simp [execOp, d26,  go_sem, x0, x1, hnv]) rfl (hE.refl _) trivial
        · intro a X hX hS hD hJ hU
          have x0 := (World.cell?_of_block (Posts.Ext.blk hX _ (World.block_lt_of_cell? _ _ q1))).trans q1
          have x1 := (World.cell?_of_block (Posts.Ext.blk hX _ (World.block_lt_of_cell? _ _ q2))).trans q2
          have d27 := Posts.slot (show a.eval (.tmp 27) = .pointer (some ⟨g, 0, none⟩) from hD.1)
          exact Posts.op_value (fun _ => trivial) rfl rfl (by intro c h; cases h) rfl (by rw [hS.size]; simp) (v := .slice (some ⟨b, 0, none⟩) (r + 1 : Nat) vc) (by simp [execOp, d27,  go_sem, x0, x1, hnv]) rfl (hE.refl _) trivial
        · intro a X hX hS hD hJ hU
          have x0 := (World.cell?_of_block (Posts.Ext.blk hX _ (World.block_lt_of_cell? _ _ q1))).trans q1
          have x1 := (World.cell?_of_block (Posts.Ext.blk hX _ (World.block_lt_of_cell? _ _ q2))).trans q2
          have d3 := Posts.slot (show a.eval (.tmp 3) = .int .i64 (r : Nat) from hS.other 3 rfl)
          exact Posts.op_value (fun _ => trivial) rfl rfl (by intro c h; cases h) rfl (by rw [hS.size]; simp) (v := .int .i64 (r : Nat)) (by simp [execOp, d3,  go_sem, x0, x1, hnv]) rfl (hE.refl _) trivial
        · intro a X hX hS hD hJ hU
          have x0 := (World.cell?_of_block (Posts.Ext.blk hX _ (World.block_lt_of_cell? _ _ q1))).trans q1
          have x1 := (World.cell?_of_block (Posts.Ext.blk hX _ (World.block_lt_of_cell? _ _ q2))).trans q2
          have d28 := Posts.slot (show a.eval (.tmp 28) = .slice (some ⟨b, 0, none⟩) (r + 1 : Nat) vc from hD.1)
          have d29 := Posts.slot (show a.eval (.tmp 29) = .int .i64 (r : Nat) from hD.2.1)
          exact Posts.op_value (fun _ => trivial) rfl rfl (by intro c h; cases h) rfl (by rw [hS.size]; simp) (v := .slice (some ⟨b, 0, none⟩) r vc) (by simp [execOp, d28, d29,  go_sem, x0, x1, hnv]) rfl (hE.refl _) trivial
        · intro a X hX hS hD hJ hU
          have x0 := (World.cell?_of_block (Posts.Ext.blk hX _ (World.block_lt_of_cell? _ _ q1))).trans q1
          have x1 := (World.cell?_of_block (Posts.Ext.blk hX _ (World.block_lt_of_cell? _ _ q2))).trans q2
          have d24 := Posts.slot (show a.eval (.tmp 24) = .pointer (some ⟨g, 0, none⟩) from hD.1)
          exact Posts.op_value (fun _ => trivial) rfl rfl (by intro c h; cases h) rfl (by rw [hS.size]; simp) (v := .pointer (some ⟨g, 0, none⟩)) (by simp [execOp, d24,  go_sem, x0, x1, hnv]) rfl (hE.refl _) trivial
        · intro a X hX hS hD hJ hU
          have x0 := (World.cell?_of_block (Posts.Ext.blk hX _ (World.block_lt_of_cell? _ _ q1))).trans q1
          have x1 := (World.cell?_of_block (Posts.Ext.blk hX _ (World.block_lt_of_cell? _ _ q2))).trans q2
          have d31 := Posts.slot (show a.eval (.tmp 31) = .pointer (some ⟨g, 0, none⟩) from hD.1)
          exact Posts.op_value (fun _ => trivial) rfl rfl (by intro c h; cases h) rfl (by rw [hS.size]; simp) (v := .pointer (some ⟨g, 0, none⟩)) (by simp [execOp, d31,  go_sem, x0, x1, hnv]) rfl (hE.refl _) trivial
      · intro a0 Y hY hS hJt hL
        have p24 := Posts.slot (show a0.eval (.tmp 24) = .pointer (some ⟨g, 0, none⟩) from hL.1)
        have p25 := Posts.slot (show a0.eval (.tmp 25) = .pointer (some ⟨g, 0, none⟩) from hL.2.1)
        have p26 := Posts.slot (show a0.eval (.tmp 26) = .pointer (some ⟨g, 0, none⟩) from hL.2.2.1)
        have p27 := Posts.slot (show a0.eval (.tmp 27) = .pointer (some ⟨g, 0, none⟩) from hL.2.2.2.1)
        have p28 := Posts.slot (show a0.eval (.tmp 28) = .slice (some ⟨b, 0, none⟩) (r + 1 : Nat) vc from hL.2.2.2.2.1)
        have p29 := Posts.slot (show a0.eval (.tmp 29) = .int .i64 (r : Nat) from hL.2.2.2.2.2.1)
        have p30 := Posts.slot (show a0.eval (.tmp 30) = .slice (some ⟨b, 0, none⟩) r vc from hL.2.2.2.2.2.2.1)
        have p31 := Posts.slot (show a0.eval (.tmp 31) = .pointer (some ⟨g, 0, none⟩) from hL.2.2.2.2.2.2.2.1)
        have p32 := Posts.slot (show a0.eval (.tmp 32) = .pointer (some ⟨g, 0, none⟩) from hL.2.2.2.2.2.2.2.2.1)
        have hfr := hS.frame [24, 25, 26, 27, 28, 29, 30, 31, 32] (fun t ht => by simp [Posts.isDst] at ht; first | (rcases ht with h | h | h | h | h | h | h | h | h <;> subst h <;> simp) | (subst ht; simp))
        simp only [List.foldl_cons, List.foldl_nil] at hfr
        have hdf := hS.defers
        simp only [Array.getD_eq_getD_getElem?] at hfr
        clear hL hS
        generalize a0.tmps[24]?.getD undef = v24 at *
        generalize a0.tmps[25]?.getD undef = v25 at *
        generalize a0.tmps[26]?.getD undef = v26 at *
        generalize a0.tmps[27]?.getD undef = v27 at *
        generalize a0.tmps[28]?.getD undef = v28 at *
        generalize a0.tmps[29]?.getD undef = v29 at *
        generalize a0.tmps[30]?.getD undef = v30 at *
        generalize a0.tmps[31]?.getD undef = v31 at *
        generalize a0.tmps[32]?.getD undef = v32 at *
        obtain rfl := p24
        obtain rfl := p25
        obtain rfl := p26
        obtain rfl := p27
        obtain rfl := p28
        obtain rfl := p29
        obtain rfl := p30
        obtain rfl := p31
        obtain rfl := p32
        obtain ⟨tm, df⟩ := a0
        simp only [List.setIfInBounds_toArray, List.set_cons_succ, List.set_cons_zero] at hfr hdf
        subst hfr
        subst hdf
        have HPy := Lib.hid (HPop.out Y hY)
        have y2 := (World.cell?_of_block (Posts.Ext.blk hY _ (World.block_lt_of_cell? _ _ q2))).trans q2
        have yf : Y.frozen? ⟨g, 0, none⟩ = false := by have := Posts.Ext.blk hY g (World.block_lt_of_cell? _ _ q2); unfold World.frozen? at f2 ⊢; rw [this]; exact f2
        refine Posts.tail_op 9 (by kernel_rfl) (Posts.op_done (fun _ => trivial) rfl rfl (by intro c h; cases h) (Y := Y.setCell ⟨g, 0, none⟩ (.slice (some ⟨b, 0, none⟩) r vc)) (by simp [execOp, Act.eval, go_sem, y2, yf]) ?_)
        refine ⟨by kernel_rfl, ?_⟩
        simp only [Exit.inBlock, Exit.then]
        first
          | (rename_i hK; refine hK _ _ ?_)
          | (rename_i hK _; refine hK _ _ ?_)
          | (rename_i hK _ _; refine hK _ _ ?_)
        simp only [Act.put]
        clear hY y2 yf q1 q2 f2 hcell
        generalize Y.setCell ⟨g, 0, none⟩ (.slice (some ⟨b, 0, none⟩) r vc) = Y2 at *
        obtain ⟨fn, tmps, assign, body, hy, hR⟩ := HY.out _ _ k _ _ _ HJ.out HPy.out.1 HPy.out.2
        clear HPy HPop
        dsimp only [encN] at hy
        gi_wp2_with fail
        refine ⟨rfl, RoundIn.mono hR ?_⟩
        rintro e W3 h3
        clear hy hR
        rcases h3 with ⟨rfl, m', s', hlm, hJ3⟩ | ⟨rfl, hJx3⟩
        · gi_wp2_with fail
          gi_roundg m'
          case rel => exact ⟨s', hJ3⟩
          case measure => exact hlm
        · gi_wp2_with fail
          refine bodyPost_ret (results_none rfl _ _ _) rfl ?_
          exact ⟨⟨_, rfl⟩, .inr hJx3⟩
end Flw
end Go.Proofs.YtjoiogdckbaeaaaDoor
namespace Go.Proofs.YtjoiogdckbaeaaaDoor
open Go.ChangeShapes Go.WideShapes Go.ChangeAt Go.RowKit
namespace Flw
open Isa
open Goes
open Rights (Kept)
set_option linter.unusedVariables false
set_option linter.unusedSimpArgs false
/-- g: those that wait; O: the row; W0: the world ahead; q: what else may be written -/
structure WSt (g O : Nat) (q : Nat → Prop) (W0 : World) (A : List Int) (R : List Nat) (v : Value) (V : World) : Prop where
  bw : Box V g 104 v
  row : PRow V O A
  own : V.ownsRow W0.heap.size 3 1 v R.length (nums R)
  kp : Kept (fun k => k = O ∨ k = g ∨ q k) W0 V
  lg : g < W0.heap.size
  lO : O < W0.heap.size
section
variable {g O : Nat} {q : Nat → Prop} {W0 : World} {A : List Int} {R : List Nat} {v : Value} {V : World}
theorem WSt.gO (h : WSt g O q W0 A R v V) : g ≠ O := ne_kind h.bw h.row (by intro e; injection e with _ e _; exact absurd e (by decide))
theorem WSt.ge (h : WSt g O q W0 A R v V) {k : Nat} (hk : v.ownBlock = some k) : W0.heap.size ≤ k ∧ k < V.heap.size := own_lt h.own hk
theorem WSt.kept (h : WSt g O q W0 A R v V) {p : Nat → Prop} {V' : World} (hk : Kept p V V') (hg : ¬ p g) (hO : ¬ p O) (hv : ∀ k, v.ownBlock = some k → ¬ p k) (hp : ∀ k, p k → k < W0.heap.size → q k) : WSt g O q W0 A R v V' :=
  ⟨h.bw.kept hk hg, hk.same h.row hO, own_kept h.own hk hv, h.kp.trans' hk fun k hlt hpk => .inr (.inr (hp k hpk hlt)), h.lg, h.lO⟩
theorem WSt.below (h : WSt g O q W0 A R v V) {V' : World} (hb : Below V.heap.size V V') : WSt g O q W0 A R v V' :=
  h.kept (kept_of hb fun k h1 h2 => absurd h1 (by omega) : Kept (fun _ => False) V V') (fun x => x) (fun x => x) (fun _ _ x => x) (fun _ x => x.elim)
/-- one number of the row is set -/
theorem WSt.set (h : WSt g O q W0 A R v V) (x : Nat) (u : Int) : Kept (fun k => k = O) V (V.setCell ⟨O, x, none⟩ (.int .i64 u)) ∧ WSt g O q W0 (A.set x u) R v (V.setCell ⟨O, x, none⟩ (.int .i64 u)) := by
  have hk : Kept (fun k => k = O) V (V.setCell ⟨O, x, none⟩ (.int .i64 u)) := kept_set _ _ _ _ rfl
  exact ⟨hk, h.bw.kept hk h.gO, h.row.set x u, own_kept h.own hk (fun k hk2 e => by have := (h.ge hk2).1; have := h.lO; have e2 : k = O := e; omega), h.kp.trans (hk.mono fun k _ e => .inl e), h.lg, h.lO⟩
/-- one more waits -/
theorem WSt.put {x : Nat} {Y : World} {e : Ending} (h : WSt g O q W0 A R v V) (hq : PutP W0.heap.size g v R x V e Y) :
    ∃ a c R', e = .returned (.tuple #[]) ∧ R'.length = R.length + 1 ∧ Fal R' ∧ (∀ m, m ∈ R' ↔ m = x ∨ m ∈ R) ∧ ((Value.slice a (R.length + 1 : Nat) c).ownBlock = v.ownBlock ∨ ∃ g, (Value.slice a (R.length + 1 : Nat) c).ownBlock = some g ∧ V.heap.size ≤ g) ∧
      Kept (fun k => v.ownBlock = some k ∨ k = g) V Y ∧ WSt g O q W0 A R' (.slice a (R.length + 1 : Nat) c) Y := by
  obtain ⟨a, c, R', he, hl, hf, hm, hb, ho, hk, hat⟩ := hq
  refine ⟨a, c, R', he, hl, hf, hm, hat, hk, hb, hk.same h.row ?_, by rw [hl]; exact ho, h.kp.trans' hk ?_, h.lg, h.lO⟩
  · rintro (e | e)
    · have := (h.ge e).1; have := h.lO; omega
    · exact h.gO e.symm
  · rintro k hlt (e | e)
    · have := (h.ge e).1; omega
    · exact .inr (.inl e)
/-- the least one is taken out -/
theorem WSt.step {R' : List Nat} {k x : Nat} {v' : Value} {V' : World} (h : WSt g O q W0 A R v V) (hs : wStep g (R, v) k (R', v') V V') (ha : WAt W0.heap.size g x (R', v') V') : R = R' ++ [k] ∧ v'.ownBlock = v.ownBlock ∧ Kept (fun j => j = g) V V' ∧ WSt g O q W0 A R' v' V' := by
  obtain ⟨h1, h2, h3⟩ := hs
  exact ⟨h1, h2, h3, ha.bw, h3.same h.row h.gO.symm, ha.own, h.kp.trans (h3.mono fun k _ e => .inr (.inl e)), h.lg, h.lO⟩
/-- how it begins -/
theorem WSt.start (hg : W0.heap[g]? = some (.cells #[.slice none 0 0] 104 (0, 0))) (hO : PRow W0 O A) : WSt g O q W0 A [] (.slice none 0 0) W0 :=
  ⟨hg, hO, World.ownsRow_nil _ _ _ _, Kept.refl _ _, lt_of_block hg, hO.lt⟩
end
/-- a box of the iterator is no block of the store or of the row -/
theorem box_ne {V : World} {x y : Nat} {t u : TypeId} {a b : Value} (h : Box V x t a) (k : Box V y u b) (ht : t ≠ u) : x ≠ y := ne_kind h k (by intro e; injection e with _ e _; exact ht e)
theorem box_ne_own {V : World} {x S n : Nat} {t : TypeId} {a v : Value} {xs : List Value} (h : Box V x t a) (k : V.ownsRow S 3 1 v n xs) (ht : t ≠ 3) {j : Nat} (hj : v.ownBlock = some j) : x ≠ j := fun e => own_ne_wait ht k h hj e.symm
theorem box_ne_row {V : World} {x O : Nat} {t : TypeId} {a : Value} {A : List Int} (h : Box V x t a) (k : PRow V O A) (ht : t ≠ 3) : x ≠ O := ne_kind h k (by intro e; injection e with _ e _; exact ht e)
end Flw
end Go.Proofs.YtjoiogdckbaeaaaDoor
