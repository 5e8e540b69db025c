/- commit; all: the ports gone over; Commit. -/
import Derived.Test.YtcapiaempfjmeaaPortW5
import Derived.Shelf.Abstract
import Derived.OwnWalkIn
import Derived.TacticsInMore
import Derived.LoopNIn
import Derived.LoopIn
import Derived.RangeFuncCalls
namespace Go.Proofs.Ytcapiaempfjmeaa
open Go.ChangeShapes Go.WideShapes Go.ChangeAt Go.RowKit
namespace Prt
set_option linter.unusedVariables false
set_option linter.unusedSimpArgs false
attribute [local go_sem] Oper.semAt_some
section
variable {w : World} {g : Nat} {l : List Bx}
/-- a call without an answer, that writes -/
def VoidP (g : Nat) (l : List Bx) (w : World) (e : Ending) (w' : World) : Prop := e = .returned (.tuple #[]) ∧ Pt w' g l ∧ Kept (fun k => k = g) w w'
theorem sizeW : (Try.prog.info? 56).map (·.size) = some 16 := by kernel_rfl
set_option maxHeartbeats 1000000 in
theorem commit_any (h : Pt w g l) {k : Nat} (hk : k < l.length) : Calls Try.prog 40 #[.pointer (some ⟨g, k * 37, none⟩)] w (VoidP g (l.set k (comB l[k]!)) w) := by
  have h0 := h.at hk
  cases hs : (l[k]!).s with
  | true =>
    have c36 := h.cs hk
    rw [hs] at c36
    have hd := h0.dr
    -- the worlds, one behind the other
    have p1 := h.wM hk (l[k]!).dr hd h0.dz
    have k1 : Kept (fun j => j = g) w (w.setCells g (k * 37 + 3) (nums (l[k]!).dr)) := Pt.keptW _ _ _ _
    have hk1 : k < (l.set k { l[k]! with m := (l[k]!).dr }).length := by simpa using hk
    have a1 := p1.cage hk1
    have f1 := p1.frozen (k * 37 + 19)
    have p2 := p1.wAge hk1 0 (by omega)
    have k2 := k1.setCell (x := ⟨g, k * 37 + 19, none⟩) (.inl rfl) (.int .u32 0)
    rw [set_at _ _ _ hk, List.set_set] at p2
    have hk2 : k < (l.set k { { l[k]! with m := (l[k]!).dr } with age := 0 }).length := by simpa using hk
    have a2 := p2.cs hk2
    have f2 := p2.frozen (k * 37 + 36)
    have p3 := p2.wS hk2 false
    have k3 := k2.setCell (x := ⟨g, k * 37 + 36, none⟩) (.inl rfl) (.bool false)
    rw [set_at _ _ _ hk, List.set_set] at p3
    have HP : Hid (VoidP g (l.set k (comB l[k]!)) w (.returned (.tuple #[])) (((w.setCells g (k * 37 + 3) (nums (l[k]!).dr)).setCell ⟨g, k * 37 + 19, none⟩ (.int .u32 0)).setCell ⟨g, k * 37 + 36, none⟩ (.bool false))) := by
      refine ⟨rfl, ?_, k3⟩
      unfold comB
      rw [if_pos hs]
      exact p3
    have hst := store_mid w g (k * 37 + 3) (nums (l[k]!).dr) (by rw [nums_len, hd]; exact h.there _ _ (by have := h.len; omega)) (nums_one _)
    have HR : Hid (w.rangeAt g (k * 37 + 20) (nums (l[k]!).dr)) := fun j v hv => by
      have hj : j < 16 := by have := (List.getElem?_eq_some_iff.1 hv).1; rwa [nums_len, hd] at this
      rw [Nat.add_assoc, h.cdr hk hj, ← nums_at _ j (by omega), hv]
    have h16 : (nums (l[k]!).dr).length = 16 := by rw [nums_len, hd]
    have HT : Hid ((Try.prog.info? 56).map (·.size) = some (nums (l[k]!).dr).length) := by show _ = _; rw [h16]; exact sizeW
    clear p1 k1 p2 k2 p3 k3 hd h0 h hs hk1 hk2
    obtain ⟨P, hP⟩ : ∃ P, l.set k (comB l[k]!) = P := ⟨_, rfl⟩
    rw [hP] at HP ⊢
    clear hP
    generalize ((l.set k { l[k]! with m := (l[k]!).dr })[k]!).age = za at a1
    generalize ((l.set k { { l[k]! with m := (l[k]!).dr } with age := 0 })[k]!).s = zs at a2
    generalize nums (l[k]!).dr = X at *
    go_enter Try.func40, Try.ntmps40
    go_wp2_with (with_reducible refine wpList_load_mid rfl 56 _ rfl g (k * 37 + 20) rfl X _ HR.out Try.underlying56 rfl HT.out ?_)
    go_end0
    exact HP.out
  | false =>
    have c36 := h.cs hk
    rw [hs] at c36
    have c19 := h.cage hk
    have f19 := h.frozen (k * 37 + 19)
    have hage := h0.age
    have HP : Hid (VoidP g (l.set k (comB l[k]!)) w (.returned (.tuple #[])) (w.setCell ⟨g, k * 37 + 19, none⟩ (.int .u32 (min ((l[k]!).age + 1) 255)))) := by
      refine ⟨rfl, ?_, (Kept.refl (fun j => j = g) w).setCell (.inl rfl) _⟩
      unfold comB
      rw [if_neg (by rw [hs]; simp)]
      exact h.wAge hk _ (by omega)
    obtain ⟨P, hP⟩ : ∃ P, l.set k (comB l[k]!) = P := ⟨_, rfl⟩
    rw [hP] at HP ⊢
    clear hP h hs h0
    generalize (l[k]!).age = z at *
    have w1 : IntKind.u32.wrap (z + 1) = z + 1 := by simp [IntKind.wrap, IntKind.bits, IntKind.signed]; omega
    go_enter Try.func40, Try.ntmps40
    go_wp2_with fail
    · go_end0
      have hq := HP.out
      rw [Int.min_def, if_neg (by omega)] at hq
      exact hq
    · go_end0
      have hq := HP.out
      rw [Int.min_def, if_pos (by omega)] at hq
      exact hq
theorem all_make (p : Option Addr) (w : World) : Calls Try.prog 39 #[.pointer p] w fun e w' => e = .returned (.func (.func 46) #[] #[.pointer (some ⟨w.heap.size, 0, none⟩)]) ∧ w' = w.alloc (.cells #[.pointer p] 25) := by
  go_enter Try.func39, Try.ntmps39
  go_wp2_with fail
  go_ret
  exact ⟨rfl, rfl⟩
end
/-- a port, handed to a loop's body -/
def encK (g : Nat) (k : Nat) : Array Value := #[.pointer (some ⟨g, k * 37, none⟩)]
theorem seq_all (c : Nat → Prop) (pb g n : Nat) (hn : n ≤ 16) (w : World) (hb : w.cell? ⟨pb, 0, none⟩ = some (.pointer (some ⟨g, 0, none⟩))) (hc : c pb) :
    SeqQ Try.prog 46 #[.pointer (some ⟨pb, 0, none⟩)] (encK g) c (fun _ W => W.cell? ⟨g, 592, none⟩ = some (.int .i64 n)) (List.range n) w := by
  intro yl J Jx W hW hJ hJx hG hY h0
  have HY := Lib.hid hY
  have HJ := Lib.hid hJ
  have HB : Hid (∀ V, Kept (fun j => ¬ c j) W V → V.cell? ⟨pb, 0, none⟩ = some (.pointer (some ⟨g, 0, none⟩))) := fun V hV => hV.cell (hW.cell hb (fun x => x hc)) (fun x => x hc)
  have H0 := Lib.hid h0
  have cb := HB.out W (Kept.refl _ _)
  have cn := hG _ _ _ h0
  clear hW hY hJ hJx h0 hb hG
  refine callsIn_of_wp Try.func46 rfl trivial ?_ rfl
  simp only [Try.ntmps46, List.size_toArray, List.length_cons, List.length_nil, Nat.reduceAdd, Nat.reduceSub, Array.replicate_succ, Array.replicate_zero, List.push_toArray, List.append_toArray, List.nil_append, List.cons_append]
  gi_wp2_with fail
  gi_loopw [10] (fun i wr => ∃ k : Nat, k ≤ n ∧ i = .int .i64 k ∧ J (List.range k) (fun _ => False) wr ∧ Kept (fun j => ¬ c j) W wr) (fun i _ => n - (intOf i).toNat)
  case atStart => exact ⟨0, by omega, rfl, H0.out, Kept.refl _ _⟩
  case round =>
    obtain ⟨k, hk, rfl, hJk, hkw⟩ := hrel
    have HK := Lib.hid hkw
    have cb := HB.out _ hkw
    clear hkw
    by_cases hlt : k < n
    · have k0 : (0 : Int) ≤ k := by omega
      have k1 : (k : Int) < n := by omega
      have k2 : (k : Int) < 16 := by omega
      have k3 : k < 16 := by omega
      have hd : decide ((k : Int) < (n : Int)) = true := decide_eq_true (by omega)
      have hd2 : decide (k < n) = true := decide_eq_true hlt
      have hpre : List.range k ++ [k] <+: List.range n := by
        rw [← List.range_succ]
        have := List.take_prefix (k + 1) (List.range n)
        rwa [List.take_range, Nat.min_eq_left (by omega)] at this
      obtain ⟨fn, tmps, assign, body, hy, hR⟩ := HY.out (List.range k) k (fun _ => False) wr hpre hJk
      have HPre := Lib.hid hpre
      dsimp only [encK] at hy
      clear hJk hpre
      gi_wp2_with fail
      refine ⟨rfl, RoundIn.mono hR ?_⟩
      rintro e W3 ⟨hk3, h3⟩
      have HK3 : Hid (Kept (fun j => ¬ c j) W W3) := HK.out.trans (hk3.mono fun j _ h => h.2)
      have cb3 := HB.out _ HK3.out
      rcases h3 with ⟨rfl, hJ3⟩ | ⟨rfl, hJx3⟩
      · gi_wp2_with fail
        go_roundw
        case rel => exact ⟨k + 1, by omega, by go_num, by rw [List.range_succ]; exact hJ3, HK3.out⟩
        case measure => simp [intOf]; omega
      · gi_wp2_with fail
        refine bodyPost_ret (results_none rfl _ _ _) rfl ?_
        exact ⟨⟨_, rfl⟩, .inr ⟨_, _, HPre.out, hJx3⟩⟩
    · have hd : decide ((k : Int) < (n : Int)) = false := decide_eq_false (by omega)
      have hd2 : decide (k < n) = false := decide_eq_false hlt
      obtain rfl : k = n := by omega
      gi_wp2_with fail
      go_end0
      exact ⟨⟨_, rfl⟩, .inl ⟨_, hJk⟩⟩
/-- of none -/
theorem seq_none (c : Nat → Prop) (pb g : Nat) (w : World) (hb : w.cell? ⟨pb, 0, none⟩ = some (.pointer none)) (hc : c pb) :
    SeqQ Try.prog 46 #[.pointer (some ⟨pb, 0, none⟩)] (encK g) c (fun _ _ => True) [] w := by
  intro yl J Jx W hW hJ hJx hG hY h0
  have cb := hW.cell hb (fun x => x hc)
  have H0 := Lib.hid h0
  clear hW hY hJ hJx h0 hb hG
  refine callsIn_of_wp Try.func46 rfl trivial ?_ rfl
  simp only [Try.ntmps46, List.size_toArray, List.length_cons, List.length_nil, Nat.reduceAdd, Nat.reduceSub, Array.replicate_succ, Array.replicate_zero, List.push_toArray, List.append_toArray, List.nil_append, List.cons_append]
  gi_wp2_with fail
  refine bodyPost_ret (results_none rfl _ _ _) rfl ?_
  exact ⟨⟨_, rfl⟩, .inl ⟨_, H0.out⟩⟩
end Prt
end Go.Proofs.Ytcapiaempfjmeaa
