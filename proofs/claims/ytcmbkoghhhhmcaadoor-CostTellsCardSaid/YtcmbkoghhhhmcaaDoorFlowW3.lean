/- flow.behind: what comes behind one, gone over: the iterator keeps what it promises. -/
import Derived.Test.YtcmbkoghhhhmcaaDoorFlowW2
import Derived.Test.YtcmbkoghhhhmcaaDoorFlowSeq
import Derived.OwnWalkIn
import Derived.TacticsInMore
import Derived.LoopNIn
import Derived.LoopIn
namespace Go.Proofs.YtcmbkoghhhhmcaaDoor
open Go.ChangeShapes Go.WideShapes Go.ChangeAt Go.RowKit
namespace Flw
open Isa
open Goes
open Rights (yield_any yield_wide)
set_option linter.unusedVariables false
set_option linter.unusedSimpArgs false
attribute [local go_sem] Oper.semAt_some
/-- a number, handed to a loop's body -/
def encN (k : Nat) : Array Value := #[.int .i64 (k : Nat)]
/-- the two boxes that the iterator reads -/
def two (b1 b2 : Nat) : Nat → Prop := fun k => k = b1 ∨ k = b2
structure BehAt (w : World) (b1 b2 : Nat) (i : Iv) (n : Nat) : Prop where
  ci : w.heap[b1]? = some (.cells #[.int .u8 i.op, .int .u8 i.a, .int .u16 i.b, .int .u32 i.c] 46 (0, 0))
  cn : w.heap[b2]? = some (.cells #[.int .i64 (n : Nat)] 3 (0, 0))
theorem BehAt.kept {w w' : World} {b1 b2 : Nat} {i : Iv} {n : Nat} (h : BehAt w b1 b2 i n) (hk : Rights.Kept (fun k => ¬ two b1 b2 k) w w') : BehAt w' b1 b2 i n :=
  ⟨hk.same h.ci (fun x => x (.inl rfl)), hk.same h.cn (fun x => x (.inr rfl))⟩
set_option maxHeartbeats 4000000 in
theorem seq_behind (b1 b2 : Nat) (i : Iv) (hi : i.wf) (n : Nat) (hn : n ≤ 100000) (w : World) (hB : BehAt w b1 b2 i n) :
    SeqN Tryd.prog 41 #[.pointer (some ⟨b1, 0, none⟩), .pointer (some ⟨b2, 0, none⟩)] encN (two b1 b2) (behI i n) w := by
  intro yl J Jx W hW hY h0
  have HY := Lib.hid hY
  have H0 := Lib.hid h0
  have HK : Hid (∀ V, Rights.Kept (fun k => ¬ two b1 b2 k) W V → BehAt V b1 b2 i n) := fun V hV => (hB.kept hW).kept hV
  obtain ⟨C, hC⟩ := Int.eq_ofNat_of_zero_le hi.c.1
  have hC2 : C ≤ 4294967295 := by have := hi.c.2; omega
  clear hW hY h0 hB
  have hW := HK.out W (Rights.Kept.refl _ _)
  obtain ⟨op, ia, ib, ic⟩ := i
  simp only at *
  subst hC
  obtain ⟨c0, c1, c2, c3⟩ := cells4 hW.ci
  have cn : W.cell? ⟨b2, 0, none⟩ = some (.int .i64 (n : Nat)) := cells_at hW.cn 0
  have hwc : IntKind.i64.wrap (C : Int) = (C : Int) := by simp [IntKind.wrap, IntKind.bits, IntKind.signed]; omega
  clear hW hi
  refine callsIn_of_wp Tryd.func41 rfl trivial ?_ rfl
  simp only [Tryd.ntmps41, List.size_toArray, List.length_cons, List.length_nil, Nat.reduceAdd, Nat.reduceSub, Array.replicate_succ, Array.replicate_zero, List.push_toArray, List.append_toArray, List.nil_append, List.cons_append]
  by_cases e27 : op = 27
  · have hL : behI ⟨op, ia, ib, (C : Int)⟩ n = [] := by unfold behI; rw [if_pos e27]
    rw [hL]
    have g27 : (op == 27) = true := by simpa using e27
    subst e27
    gi_wp2_with fail
    go_end0
    exact ⟨⟨_, rfl⟩, .inl H0.out⟩
  have g27 : (op == 27) = false := by simpa using e27
  by_cases e19 : op = 19
  · have hL : behI ⟨op, ia, ib, (C : Int)⟩ n = [C] := by unfold behI; rw [if_neg e27, if_pos e19]; rfl
    rw [hL] at HY ⊢
    have g19 : (op == 19) = true := by simpa using e19
    subst e19
    obtain ⟨fn, tmps, assign, body, hy, hR⟩ := HY.out [] C W (List.prefix_refl _) H0.out
    dsimp only [encN] at hy
    gi_wp2_with fail
    refine ⟨rfl, RoundIn.mono hR ?_⟩
    rintro e W3 ⟨hk3, h3⟩
    rcases h3 with ⟨rfl, hJ3⟩ | ⟨rfl, hJx3⟩
    · gi_wp2_with fail
      go_end0
      exact ⟨⟨_, rfl⟩, .inl hJ3⟩
    · gi_wp2_with fail
      go_end0
      exact ⟨⟨_, rfl⟩, .inr ⟨_, List.prefix_refl _, hJx3⟩⟩
  have g19 : (op == 19) = false := by simpa using e19
  have hw1 : IntKind.i64.wrap ((n : Int) + 1) = (n : Int) + 1 := by simp [IntKind.wrap, IntKind.bits, IntKind.signed]; omega
  by_cases e20 : op = 20
  · have g20 : (op == 20) = true := by simpa using e20
    by_cases hs : C = n + 1
    · have hL : behI ⟨op, ia, ib, (C : Int)⟩ n = [n + 1] := by unfold behI; rw [if_neg e27, if_neg e19, if_pos e20, if_pos (by simp only; omega)]
      rw [hL] at HY ⊢
      subst hs
      subst e20
      obtain ⟨fn, tmps, assign, body, hy, hR⟩ := HY.out [] (n + 1) W (List.prefix_refl _) H0.out
      dsimp only [encN] at hy
      rw [show (((n + 1 : Nat)) : Int) = (n : Int) + 1 from by omega] at hy
      have hne : (((n + 1 : Nat) : Int) != (n : Int) + 1) = false := by simp
      gi_wp2_with fail
      refine ⟨rfl, RoundIn.mono hR ?_⟩
      rintro e W3 ⟨hk3, h3⟩
      have hB3 := HK.out W3 hk3
      obtain ⟨d0, d1, d2, d3⟩ := cells4 hB3.ci
      have dn : W3.cell? ⟨b2, 0, none⟩ = some (.int .i64 (n : Nat)) := cells_at hB3.cn 0
      simp only at d0 d1 d2 d3
      clear hk3 hB3 c0 c1 c2 c3 cn
      rcases h3 with ⟨rfl, hJ3⟩ | ⟨rfl, hJx3⟩
      · gi_wp2_with fail
        go_end0
        exact ⟨⟨_, rfl⟩, .inl hJ3⟩
      · gi_wp2_with fail
        go_end0
        exact ⟨⟨_, rfl⟩, .inr ⟨_, List.prefix_refl _, hJx3⟩⟩
    · have hL : behI ⟨op, ia, ib, (C : Int)⟩ n = [n + 1, C] := by unfold behI; rw [if_neg e27, if_neg e19, if_pos e20, if_neg (by simp only; omega)]; rfl
      rw [hL] at HY ⊢
      subst e20
      obtain ⟨fn, tmps, assign, body, hy, hR⟩ := HY.out [] (n + 1) W (by simp) H0.out
      dsimp only [encN] at hy
      rw [show (((n + 1 : Nat)) : Int) = (n : Int) + 1 from by omega] at hy
      have hne : ((C : Int) != (n : Int) + 1) = true := by simp; omega
      gi_wp2_with fail
      refine ⟨rfl, RoundIn.mono hR ?_⟩
      rintro e W3 ⟨hk3, h3⟩
      have hB3 := HK.out W3 hk3
      obtain ⟨d0, d1, d2, d3⟩ := cells4 hB3.ci
      have dn : W3.cell? ⟨b2, 0, none⟩ = some (.int .i64 (n : Nat)) := cells_at hB3.cn 0
      simp only at d0 d1 d2 d3
      clear hk3 hB3 c0 c1 c2 c3 cn hy hR
      rcases h3 with ⟨rfl, hJ3⟩ | ⟨rfl, hJx3⟩
      · obtain ⟨fn, tmps, assign, body, hy, hR⟩ := HY.out [n + 1] C W3 (List.prefix_refl _) hJ3
        dsimp only [encN] at hy
        clear hJ3
        gi_wp2_with fail
        refine ⟨rfl, RoundIn.mono hR ?_⟩
        rintro e W4 ⟨hk4, h4⟩
        rcases h4 with ⟨rfl, hJ4⟩ | ⟨rfl, hJx4⟩
        · gi_wp2_with fail
          go_end0
          exact ⟨⟨_, rfl⟩, .inl hJ4⟩
        · gi_wp2_with fail
          go_end0
          exact ⟨⟨_, rfl⟩, .inr ⟨_, List.prefix_refl _, hJx4⟩⟩
      · gi_wp2_with fail
        go_end0
        exact ⟨⟨_, rfl⟩, .inr ⟨[n + 1], by simp, hJx3⟩⟩
  · have g20 : (op == 20) = false := by simpa using e20
    have hL : behI ⟨op, ia, ib, (C : Int)⟩ n = [n + 1] := by unfold behI; rw [if_neg e27, if_neg e19, if_neg e20]
    rw [hL] at HY ⊢
    obtain ⟨fn, tmps, assign, body, hy, hR⟩ := HY.out [] (n + 1) W (List.prefix_refl _) H0.out
    dsimp only [encN] at hy
    rw [show (((n + 1 : Nat)) : Int) = (n : Int) + 1 from by omega] at hy
    gi_wp2_with fail
    refine ⟨rfl, RoundIn.mono hR ?_⟩
    rintro e W3 ⟨hk3, h3⟩
    rcases h3 with ⟨rfl, hJ3⟩ | ⟨rfl, hJx3⟩
    · gi_wp2_with fail
      go_end0
      exact ⟨⟨_, rfl⟩, .inl hJ3⟩
    · gi_wp2_with fail
      go_end0
      exact ⟨⟨_, rfl⟩, .inr ⟨_, List.prefix_refl _, hJx3⟩⟩
end Flw
end Go.Proofs.YtcmbkoghhhhmcaaDoor
