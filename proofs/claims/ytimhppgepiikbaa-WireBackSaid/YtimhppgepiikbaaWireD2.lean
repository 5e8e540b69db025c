/- A reader in memory: numbers. -/
import Derived.Test.YtimhppgepiikbaaWireD1
import Derived.Laws.BitsLemmas
import Derived.WalkSmall
namespace Go.Proofs.Ytimhppgepiikbaa
open Go.ChangeShapes Go.WideShapes Go.ChangeAt Go.RowKit
namespace Wire
set_option linter.unusedVariables false
/-- the number of these bytes, the lowest one first -/
def un : List Int → Int
  | [] => 0
  | z :: r => z + 256 * un r
theorem un_snoc (l : List Int) (z : Int) : un (l ++ [z]) = un l + z * 256 ^ l.length := by
  induction l with
  | nil => simp [un]
  | cons x l ih => simp only [List.cons_append, un, ih, List.length_cons]; rw [Int.pow_succ, Int.mul_add, Int.add_assoc]; congr 2; rw [Int.mul_left_comm, Int.mul_comm 256]
theorem un_range : ∀ (l : List Int), (∀ z ∈ l, 0 ≤ z ∧ z ≤ 255) → 0 ≤ un l ∧ un l < 256 ^ l.length
  | [], _ => by simp [un]
  | z :: l, h => by
    have h1 := h z (by simp)
    have h2 := un_range l (fun x hx => h x (by simp [hx]))
    simp only [un, List.length_cons, Int.pow_succ]
    omega
theorem or_put (a x : Int) (k : Nat) (hk : k < 8) (h0 : 0 ≤ a) (h1 : a < 256 ^ k) (hx : 0 ≤ x ∧ x ≤ 255) : bits .or .u64 a (IntKind.u64.wrap (x * 2 ^ (8 * k))) = a + x * 256 ^ k := by
  have hp : (2 : Int) ^ (8 * k) = 256 ^ k := by rw [Int.pow_mul]; rfl
  rw [hp]
  have hpos : (0 : Int) < 256 ^ k := Int.pow_pos (by omega)
  have hle : (256 : Int) ^ k * 256 ≤ 18446744073709551616 := by
    have h8 : 256 ^ (k + 1) ≤ 18446744073709551616 := Nat.le_trans (Nat.pow_le_pow_right (n := 256) (by omega) (show k + 1 ≤ 8 by omega)) (by decide)
    have e : ((256 ^ (k + 1) : Nat) : Int) = 256 ^ k * 256 := by rw [Nat.pow_succ, Int.natCast_mul, Int.natCast_pow]; rfl
    omega
  have hxm : x * 256 ^ k ≤ 255 * 256 ^ k := Int.mul_le_mul_of_nonneg_right hx.2 (by omega)
  have hx0 : 0 ≤ x * 256 ^ k := Int.mul_nonneg hx.1 (by omega)
  have hw : IntKind.u64.wrap (x * 256 ^ k) = x * 256 ^ k := by
    simp only [IntKind.wrap, IntKind.bits, IntKind.signed]
    exact Int.emod_eq_of_lt hx0 (by omega)
  rw [hw]
  obtain ⟨A, rfl⟩ := Int.eq_ofNat_of_zero_le h0
  obtain ⟨X, rfl⟩ := Int.eq_ofNat_of_zero_le hx.1
  have hA : A < 2 ^ (8 * k) := by
    have : ((2 ^ (8 * k) : Nat) : Int) = 256 ^ k := by push_cast; exact hp
    omega
  have hc : ((X : Int) * 256 ^ k) = ((X * 2 ^ (8 * k) : Nat) : Int) := by push_cast; rw [hp]
  have hb := (bits_nat .u64 64 (by decide) (fun n h0 h1 => by simp only [IntKind.wrap, IntKind.bits, IntKind.signed]; exact Int.emod_eq_of_lt h0 h1) A (X * 2 ^ (8 * k)) (by
    have : ((2 ^ (8 * k) : Nat) : Int) = 256 ^ k := by push_cast; exact hp
    omega) (by rw [hc] at hxm hx0; omega)).2
  rw [hc]
  rw [hb, Nat.or_comm, Nat.mul_comm X, ← Nat.two_pow_add_eq_or_of_lt hA X]
  push_cast
  omega
/-- what a number's reading tells and leaves -/
def RS.num (s : RS) (m : Nat) : Int × RS :=
  if s.e = 0 then (if s.d.length < s.p + m then (0, ⟨s.d, s.p, 40⟩) else (un ((s.d.drop s.p).take m), ⟨s.d, s.p + m, 0⟩)) else (0, s)
theorem cut_any {p : Nat → Prop} {w : World} {a : Option Addr} {n c : Nat} {l : List Int} (h : SRow p w a n l) (lo m : Nat) (h1 : lo + m ≤ n) (h2 : n ≤ c) :
    ∃ a', (∀ W : World, (Instr.slice 26 (.slice a n c) (some (.int .i64 (lo : Int))) (some (.int .i64 ((lo : Int) + (m : Int)))) none).run Try.prog W = .ok (.slice a' m (c - lo)) W) ∧ SRow p w a' m ((l.drop lo).take m) := by
  have ht : Try.prog.underlying 26 = some (.slice (Try.prog.elem 26)) := by kernel_rfl
  refine ⟨if c = lo then a else a.map (·.add (lo * 1)), fun W => ?_, ?_⟩
  · have hs : (sizeOf (Try.prog.elem 26)).run Try.prog W = .ok 1 W := by kernel_rfl
    rw [run_slice_lh W 26 a n c ht .i64 .i64 (lo : Int) ((lo : Int) + (m : Int)) (by omega) (by omega) (by omega), hs]
    have e1 : ((lo : Int) + (m : Int)).toNat = lo + m := by omega
    simp [Result.andThen, sliced, e1]
  · obtain ⟨q1, q2, q3⟩ := h
    refine ⟨by simp; omega, fun z hz => q2 z (List.mem_of_mem_drop (List.mem_of_mem_take hz)), ?_⟩
    by_cases e : m = 0
    · exact Or.inl e
    · rcases q3 with q3 | ⟨b, off, rfl, hp, hc'⟩
      · omega
      · rw [if_neg (by omega)]
        refine Or.inr ⟨b, off + lo, by simp only [Option.map_some, Nat.mul_one]; rw [Addr.add_mid], hp, fun i hi => ?_⟩
        rw [Nat.add_assoc, hc' (lo + i) (by omega)]
        simp [List.getD, hi]
set_option maxHeartbeats 1000000 in
theorem rnum_ok {q : Nat → Prop} (g : Nat) (w : World) (D : List Int) (p m : Nat) (hm : m ≤ 8) (h : RSt q g w ⟨D, p, 0⟩) (hfit : p + m ≤ D.length) :
    Calls Try.prog 41 #[.pointer (some ⟨g, 0, none⟩), .int .i64 (m : Int)] w fun r w' => r = .returned (.int .u64 (un ((D.drop p).take m))) ∧ RSt q g w' ⟨D, p + m, 0⟩ ∧ Kept (· = g) w w' := by
  obtain ⟨v, hg, _, hp6, hd⟩ := h
  obtain ⟨a, n, c, rfl, hs, hpn, hnc, hcm, hn6⟩ := hd rfl
  simp only at hp6 hpn hs hg
  have hl : D.length = n := hs.1
  obtain ⟨a', hcut, hs'⟩ := cut_any hs p m (by omega) hnc
  have c0 : w.cell? ⟨g, 0, none⟩ = some (.slice a n c) := by rw [cell_of_row _ _ _ _ _ _ hg]; rfl
  have c1 : w.cell? ⟨g, 1, none⟩ = some (.int .i64 (p : Int)) := by rw [cell_of_row _ _ _ _ _ _ hg]; rfl
  have f1 := row_free hg 1
  have HG := Lib.hid hg
  have HS := Lib.hid hs
  have HS' := Lib.hid hs'
  have HL := Lib.hid hl
  have m0 : IntKind.i64.wrap ((p : Int) + (m : Int)) = (p : Int) + m := IntWalk.i64_in _ (by omega)
  have d1 : decide ((n : Int) - (p : Int) < (m : Int)) = false := by simp; omega
  have pn : p + m ≤ n := by omega
  clear hg hs hs' hl hfit hd
  go_enter Try.func41, Try.ntmps41
  go_wp2_with fail
  refine (rwell_any g w _ _ 0 HG.out).mono ?_
  rintro r w1 ⟨rfl, rfl⟩
  go_wp2_with fail
  refine (left_any g w a n c p _ hpn hn6 HG.out).mono ?_
  rintro r w1 ⟨rfl, q1, rfl⟩
  go_wp2_with fail
  go_quiet (fail)
  go_wp2_with fail
  have HGW : Hid (((w.drewN q1).drewN nq).heap[g]? = some (.cells #[.slice a n c, .int .i64 (p : Int), .int .i64 0] 63 (0, 0))) := HG.out
  have HSW : Hid (SRow (Gq q g) ((w.drewN q1).drewN nq) a' m ((D.drop p).take m)) := HS'.out
  have HSA : Hid (SRow (Gq q g) ((w.drewN q1).drewN nq) a n D) := HS.out
  have HKW : Hid (Kept (· = g) w ((w.drewN q1).drewN nq)) := Kept.of_below (below_drewN (below_drewN (Below.refl _ _) q1) nq)
  have c1' : ((w.drewN q1).drewN nq).cell? ⟨g, 1, none⟩ = some (.int .i64 (p : Int)) := c1
  have f1' : ((w.drewN q1).drewN nq).frozen? ⟨g, 1, none⟩ = false := f1
  clear c0 c1 f1 hcut HG HS HS'
  generalize (w.drewN q1).drewN nq = W at *
  obtain ⟨L, hL⟩ : ∃ L, L = (D.drop p).take m := ⟨_, rfl⟩
  rw [← hL] at HSW
  have HLe := Lib.hid hL
  clear hL
  go_loop [5, 33] (fun t i => ∃ k : Nat, k ≤ m ∧ i = .int .i64 k ∧ t = .int .u64 (un (L.take k))) (fun _ i => m - (intOf i).toNat)
  case atStart => exact ⟨0, by omega, rfl, rfl⟩
  case round =>
    obtain ⟨k, hk, rfl, rfl⟩ := hrel
    by_cases hlt : k < m
    · have k0 : (0 : Int) ≤ k := by omega
      have k1 : (k : Int) < m := by omega
      have hd : decide ((k : Int) < (m : Int)) = true := by simp; omega
      obtain ⟨hlen, hby, hrow⟩ := HSW.out
      rcases hrow with hrow | ⟨bb, off, rfl, _, hcl⟩
      · omega
      have hcell := hcl k hlt
      have hz := hby (L.getD k 0) (by simp [show k < L.length from by omega])
      have hr := un_range (L.take k) (fun z hz => hby z (List.mem_of_mem_take hz))
      rw [List.length_take, Nat.min_eq_left (by omega)] at hr
      have HT : Hid (un (L.take (k + 1)) = un (L.take k) + L.getD k 0 * 256 ^ k) := by
        show _ = _
        rw [List.take_succ_eq_append_getElem (by omega), un_snoc, List.length_take, Nat.min_eq_left (by omega)]
        simp [show k < L.length from by omega]
      have HO := Lib.hid (or_put (un (L.take k)) (L.getD k 0) k (by omega) hr.1 hr.2 hz)
      generalize L.getD k 0 = z at *
      have m2 : IntKind.i64.wrap (8 * (k : Int)) = 8 * k := IntWalk.i64_in _ (by omega)
      have m3 : (8 * (k : Int)).toNat = 8 * k := by omega
      have m4 : (0 : Int) ≤ 8 * (k : Int) := by omega
      obtain ⟨z0, z1⟩ := hz
      clear hcl hby hlen hr
      generalize un (L.take k) = acc at *
      go_wp2_with fail
      go_round
      case rel => exact ⟨k + 1, by omega, by go_num, by rw [HT.out, ← HO.out]⟩
      case measure => simp [intOf]; omega
    · have hd : decide ((k : Int) < (m : Int)) = false := by simp; omega
      have HA : Hid (L.take k = L) := List.take_of_length_le (by have := HSW.out.1; omega)
      go_wp2_with fail
      go_ret
      refine ⟨by rw [HA.out, ← HLe.out]; rfl, ?_, HKW.out.trans (kept_set g 1 W _)⟩
      refine ⟨_, row_setCell HGW.out, by omega, by simp only; omega, fun _ => ⟨a, n, c, rfl, HSA.out.kept ((kept_set g 1 W _).mono fun _ h => Or.inl h), pn, hnc, hcm, hn6⟩⟩
end Wire
end Go.Proofs.Ytimhppgepiikbaa
