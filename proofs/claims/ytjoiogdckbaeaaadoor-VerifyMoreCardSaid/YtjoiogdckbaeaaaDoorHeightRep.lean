/- slices.Repeat of one number: what it answers. (math/bits.Mul by the library's contract.) -/
import Derived.Shelf.Bits.Mul64
import Derived.Laws.CopyRow
import Derived.Laws.CopyOwn
import Derived.Deep.WholeRow
import Derived.Deep.RegionLaw
import Derived.Test.YtjoiogdckbaeaaaDoorFlowInts
import Derived.Test.YtjoiogdckbaeaaaDoorFlowS
import Derived.Test.YtjoiogdckbaeaaaDoorRightsPosts
namespace Go.Proofs.YtjoiogdckbaeaaaDoor
open Go.ChangeShapes Go.WideShapes Go.ChangeAt Go.RowKit
namespace Hgt
open Isa Flw Goes
open Go.Shelf
set_option linter.unusedVariables false
set_option linter.unusedSimpArgs false
def mul_ren : Go.Shelf.Ren := ⟨fun | 212 => 53 | 263 => 67 | 264 => 68 | n => n, fun | 46 => 100 | 51 => 23 | 53 => 99 | 146 => 115 | 148 => 117 | n => n, fun | n => n⟩
theorem mulI : Go.Proofs.Lays.n212 Tryd.prog mul_ren := {
  mixed := by kernel_rfl
  f212 := Tryd.func53.trans (congrArg some (by kernel_rfl))
  f263 := Tryd.func67.trans (congrArg some (by kernel_rfl))
  f264 := Tryd.func68.trans (congrArg some (by kernel_rfl))
  t46 := Tryd.underlying100
  a46 := Tryd.isAgg100
  z46 := Tryd.sizeOf100
  v46 := Tryd.zeroValue100
  t51 := Tryd.underlying23
  a51 := Tryd.isAgg23
  z51 := Tryd.sizeOf23
  v51 := Tryd.zeroValue23
  t53 := Tryd.underlying99
  a53 := Tryd.isAgg99
  z53 := Tryd.sizeOf99
  v53 := Tryd.zeroValue99
  t146 := Tryd.underlying115
  a146 := Tryd.isAgg115
  z146 := Tryd.sizeOf115
  v146 := Tryd.zeroValue115
  t148 := Tryd.underlying117
  a148 := Tryd.isAgg117
  z148 := Tryd.sizeOf117
  v148 := Tryd.zeroValue117 }
theorem mul_one (n : Nat) (hn : n ≤ 1000000) (w : World) : Calls Tryd.prog 53 #[.int .u64 1, .int .u64 (n : Nat)] w fun e w' => e = .returned (.tuple #[.int .u64 0, .int .u64 (n : Nat)]) ∧ w' = w := by
  refine (Any.bits_Mul mulI 1 n (by omega) (by omega) w).mono ?_
  rintro e w' ⟨rfl, hw⟩
  have e1 : 1 * n / 18446744073709551616 = 0 := by omega
  have e2 : 1 * n % 18446744073709551616 = n := by omega
  rw [e1, e2]
  exact ⟨rfl, hw⟩
/-- of n cells the first k are told -/
def repL (n k : Nat) (x : Int) : List Int := List.replicate k x ++ List.replicate (n - k) 0
theorem repL_len {n k : Nat} (h : k ≤ n) (x : Int) : (repL n k x).length = n := by simp [repL]; omega
theorem ints_len (l : List Int) : (ints l).length = l.length := by simp [ints]
theorem ints_app (l m : List Int) : ints (l ++ m) = ints l ++ ints m := by simp [ints]
theorem ints_one (l : List Int) : ∀ v ∈ ints l, v.oneCell' = true := fun v hv => by
  obtain ⟨x, _, rfl⟩ := List.mem_map.1 hv
  rfl
theorem szI : (Tryd.prog.info? 3).map (·.size) = some 1 := by kernel_rfl
/-- m more cells are told, out of those that stand elsewhere, or ahead -/
theorem run_copy_rep (w : World) (O n k m : Nat) (x : Int) (s : Addr) (sl sc dc : Nat) (ty : TypeId) (h : PRow w O (repL n k x)) (hk : k + m ≤ n) (hm : Nat.min sl (n - k) = m) (hs : ∀ j, j < m → w.cell? (s.add j) = some (.int .i64 x)) :
    (Builtin.copy_ #[58, 58] ty #[.slice (some ⟨O, k, none⟩) (n - k : Nat) dc, .slice (some s) sl sc]).run Tryd.prog w = .ok (.int .i64 (m : Nat)) (w.setRow O (ints (repL n (k + m) x)).toArray) := by
  have hl : (ints (repL n k x)).length = n := by rw [ints_len, repL_len (by omega)]
  have hrun := run_copy_row (P := Tryd.prog) w 58 58 ty 3 O k (n - k) dc s sl sc (ints (repL n k x)).toArray 3 (ints (List.replicate m x)) Tryd.underlying58 szI h (by rw [ints_len]; simp [hm])
    (fun j v hj => by
      have hlt : j < m := by have := (List.getElem?_eq_some_iff.1 hj).1; rw [ints_len] at this; simpa using this
      have hv : v = .int .i64 x := by
        have := List.mem_of_getElem? hj
        obtain ⟨y, hy, rfl⟩ := List.mem_map.1 this
        rw [(List.mem_replicate.1 hy).2]
      rw [hv]
      exact hs j hlt) (by rw [List.size_toArray, hl, ints_len]; simp; omega) (ints_one _)
  rw [hrun]
  have e1 : (ints (List.replicate m x)).length = m := by rw [ints_len]; simp
  rw [e1]
  have e2 : ((ints (repL n k x)).toArray.toList.take k ++ ints (List.replicate m x) ++ (ints (repL n k x)).toArray.toList.drop (k + m)) = ints (repL n (k + m) x) := by
    rw [List.toList_toArray]
    unfold repL
    rw [ints_app, ints_app, List.take_left' (by rw [ints_len]; simp), ← List.drop_drop, List.drop_left' (by rw [ints_len]; simp)]
    unfold ints
    rw [← List.map_drop, List.drop_replicate, ← List.map_append, List.replicate_append_replicate, ← Nat.sub_sub]
  rw [e2]
  rfl
theorem prow_setRow {w : World} {O : Nat} {l m : List Int} (h : PRow w O l) : PRow (w.setRow O (ints m).toArray) O m := setRow_heap w O _ _ _ _ h
/-- copy in a region that draws its order, where its run is known -/
theorem step_copy_run {P : Program} {ops : Array Oper} {o : Oper} {a : Act} {w : World} {K : Act → World → Prop} {Q : Exit → Act → World → Prop} {E : Prop} (hgd : o.guard = none) (d s : Operand) (t : TypeId)
    (ho : o.op = .call { callee := .builtin .copy, args := #[d, s], argTypes := #[t, t] }) (vd vs v : Value) (w1 : World) (hd : a.eval d = vd) (hs : a.eval s = vs) (hrun : ∀ ty, (Builtin.copy_ #[t, t] ty #[vd, vs]).run P w = .ok v w1) (h : K (a.put o.dst v) w1) :
    if Region.wanted o (yielded ops a.tmps) = true then Oper.wp P o a w K Q else E := by
  have hw : Region.wanted o (yielded ops a.tmps) = true := by simp [Region.wanted, hgd]
  rw [if_pos hw]
  unfold Oper.wp
  simp [execOp, ho, resolve, invoke, builtin, hd, hs, hrun, Result.andThen]
  exact h
set_option maxHeartbeats 800000 in
theorem rep_any (x : Int) (vb n : Nat) (h1 : 1 ≤ n) (hn : n ≤ 1000000) (w : World) (hv : w.heap[vb]? = some (.cells #[.int .i64 x] 3 (0, 0))) :
    Calls Tryd.prog 28 #[.slice (some ⟨vb, 0, none⟩) 1 1, .int .i64 (n : Nat)] w fun e w' => ∃ O, e = .returned (.slice (some ⟨O, 0, none⟩) n n) ∧ w.heap.size ≤ O ∧ PRow w' O (List.replicate n x) ∧ Below w.heap.size w w' := by
  have HM := Lib.hid (mul_one n hn w)
  have u1 : IntKind.u64.wrap (n : Int) = (n : Int) := by simp [IntKind.wrap, IntKind.bits, IntKind.signed]; omega
  have d1 : decide ((n : Int) < 0) = false := decide_eq_false (by omega)
  have d2 : decide ((9223372036854775807 : Int) < (n : Int)) = false := decide_eq_false (by omega)
  have hmk := run_make_ints w n (by omega)
  have hP0 : PRow (w.alloc (.cells (ints (List.replicate n 0)).toArray 3)) w.heap.size (repL n 0 x) := by
    have e : repL n 0 x = List.replicate n 0 := by simp [repL]
    rw [e]
    exact alloc_new w _
  have hlv := lt_of_block hv
  have hcp : ∀ ty, (Builtin.copy_ #[58, 58] ty #[.slice (some ⟨w.heap.size, 0, none⟩) n n, .slice (some ⟨vb, 0, none⟩) 1 1]).run Tryd.prog (w.alloc (.cells (ints (List.replicate n 0)).toArray 3)) = .ok (.int .i64 1) ((w.alloc (.cells (ints (List.replicate n 0)).toArray 3)).setRow w.heap.size (ints (repL n 1 x)).toArray) := fun ty => by
    have := run_copy_rep (w.alloc (.cells (ints (List.replicate n 0)).toArray 3)) w.heap.size n 0 1 x ⟨vb, 0, none⟩ 1 1 n ty hP0 (by omega) (by simp [Nat.min_def]; omega) (fun j hj => by
      have e : j = 0 := by omega
      subst e
      rw [Addr.add_lit]
      exact cells_at ((Below.heap_alloc _ _ _ hlv).trans hv) 0)
    simpa using this
  have HP1 : Hid (PRow ((w.alloc (.cells (ints (List.replicate n 0)).toArray 3)).setRow w.heap.size (ints (repL n 1 x)).toArray) w.heap.size (repL n 1 x)) := prow_setRow hP0
  have HB1 : Hid (Below w.heap.size w ((w.alloc (.cells (ints (List.replicate n 0)).toArray 3)).setRow w.heap.size (ints (repL n 1 x)).toArray)) := below_setRow ((Below.refl _ w).alloc (Nat.le_refl _) _) (Nat.le_refl _) _
  rw [World.setRow_alloc_new] at hcp HP1 HB1
  clear hv hP0 hlv
  go_enter Tryd.func28, Tryd.ntmps28
  go_wp2_with fail
  refine HM.out.mono ?_
  rintro e w1 ⟨rfl, hw1⟩
  subst w1
  clear HM
  go_wp2_with fail
  generalize w.alloc (.cells (ints (repL n 1 x)).toArray 3) = W1 at *
  clear hcp hmk
  obtain ⟨O, hO⟩ : ∃ O, w.heap.size = O := ⟨_, rfl⟩
  have HO := Lib.hid hO
  have HPo : Hid (PRow W1 O (repL n 1 x)) := by rw [← HO.out]; exact HP1.out
  rw [hO]
  clear hO HP1
  go_loopw [8] (fun s8 wr => ∃ k : Nat, s8 = .int .i64 k ∧ 1 ≤ k ∧ k ≤ n ∧ PRow wr O (repL n k x) ∧ Below w.heap.size w wr) (fun s8 _ => n - (intOf s8).toNat)
  case atStart => exact ⟨1, rfl, Nat.le_refl _, h1, HPo.out, HB1.out⟩
  case round =>
    obtain ⟨k, rfl, hk1, hkn, hp, hb⟩ := hrel
    have HP := Lib.hid hp
    have HB := Lib.hid hb
    clear hp hb HPo HB1
    by_cases hlt : k < n
    · have d3 : decide ((k : Int) < (n : Int)) = true := decide_eq_true (by omega)
      obtain ⟨m, hm⟩ : ∃ m, Nat.min k (n - k) = m := ⟨_, rfl⟩
      have hm1 : 1 ≤ m ∧ k + m ≤ n ∧ m ≤ k := by
        rw [← hm]
        simp only [Nat.min_def]
        split <;> omega
      have HRun := Lib.hid (fun (Y : World) (hY : Below wr.heap.size wr Y) => fun (ty : TypeId) => run_copy_rep Y O n k m x ⟨O, 0, none⟩ k n (n - k) ty (HP.out.below hY (Nat.le_refl _)) hm1.2.1 hm (fun j hj => by
        rw [Addr.add_lit]
        have hx := (HP.out.below hY (Nat.le_refl _)).at (k := j) (by rw [repL_len hkn]; omega)
        rw [Nat.zero_add, hx]
        have : (repL n k x).getD j 0 = x := by
          unfold repL
          rw [List.getD_eq_getElem?_getD, List.getElem?_append_left (by simp; omega), List.getElem?_replicate, if_pos (by omega)]
          rfl
        rw [this]))
      have HBn := Lib.hid (fun (Y : World) (hY : Below wr.heap.size wr Y) => below_setRow (HB.out.trans (hY.mono HB.out.size)) (by have := HO.out; omega : w.heap.size ≤ O) (ints (repL n (k + m) x)).toArray)
      have HPn := Lib.hid (fun (Y : World) (hY : Below wr.heap.size wr Y) => prow_setRow (m := repL n (k + m) x) (HP.out.below hY (Nat.le_refl _)))
      have hw : IntKind.i64.wrap ((k : Int) + (m : Int)) = (k : Int) + (m : Int) := by simp [IntKind.wrap, IntKind.bits, IntKind.signed]; omega
      have k0 : (0 : Int) ≤ k := by omega
      have k1 : (k : Int) ≤ n := by omega
      have hBd : Below wr.heap.size wr wr.drew := ⟨rfl, rfl, rfl, Nat.le_refl _, fun _ _ => rfl⟩
      have HRd := Lib.hid (HRun.out _ hBd)
      have HBy := Lib.hid (HBn.out _ hBd)
      have HPy := Lib.hid (HPn.out _ hBd)
      have hnk : ¬ n = k := by omega
      clear hm HP HB HRun HBn HPn hBd
      go_wp2_with fail
      have hRd := HRd.out
      go_region
      clear hRd HRd
      generalize wr.drew.setRow O (ints (repL n (k + m) x)).toArray = Y2 at *
      go_wp2_with fail
      go_roundw
      case rel => exact ⟨k + m, by rw [show ((k + m : Nat) : Int) = (k : Int) + (m : Int) from by omega], by omega, by omega, HPy.out, HBy.out⟩
      case measure => simp [intOf]; omega
    · have d3 : decide ((k : Int) < (n : Int)) = false := decide_eq_false (by omega)
      obtain rfl : k = n := by omega
      have hpf : PRow wr O (List.replicate k x) := by
        have := HP.out
        unfold repL at this
        rw [Nat.sub_self, List.replicate_zero, List.append_nil] at this
        exact this
      have HPf := Lib.hid hpf
      clear hpf
      go_wp2_with fail
      go_ret
      exact ⟨_, rfl, by rw [← HO.out]; exact Nat.le_refl _, HPf.out, HB.out⟩
end Hgt
end Go.Proofs.YtjoiogdckbaeaaaDoor
