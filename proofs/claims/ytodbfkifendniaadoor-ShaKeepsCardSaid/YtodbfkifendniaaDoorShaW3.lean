/- A block is taken in: what becomes of the eight numbers, and that nothing else that was there has turned. -/
import Derived.Test.YtodbfkifendniaaDoorShaW2
import Derived.RegionTactic
import Derived.Outline
namespace Go.Proofs.YtodbfkifendniaaDoor
open Go.ChangeShapes Go.WideShapes Go.ChangeAt Go.RowKit
namespace Sha
/-- the table of the primes' numbers is there -/
def Roots (w : World) : Prop := ∀ j, j < 64 → w.cell? ⟨0, j, none⟩ = some (.int .u32 (Ks.getD j 0))
theorem Roots.lt {w : World} (h : Roots w) : 0 < w.heap.size := World.block_lt_of_cell? _ _ (h 0 (by omega))
theorem Roots.kept {w w' : World} (h : Roots w) {p : Nat → Prop} (hk : Kept p w w') (hp : ¬ p 0) : Roots w' := fun j hj => by
  rw [← h j hj]; exact World.cell?_of_block (hk.block 0 h.lt hp)
theorem Roots.below {w w' : World} (h : Roots w) (hb : Below w.heap.size w w') : Roots w' := h.kept (p := fun _ => False) (Kept.of_below hb) (fun x => x)

/-- the first k of R, the rest of A -/
def blend (R A : List Int) (k : Nat) : List Int := R.take k ++ A.drop k
theorem blend_length (R A : List Int) (k : Nat) (h : R.length = A.length) (hk : k ≤ A.length) : (blend R A k).length = A.length := by simp [blend]; omega
theorem blend_at (R A : List Int) (k : Nat) (h : R.length = A.length) (hk : k < A.length) : (blend R A k).getD k 0 = A.getD k 0 := by
  unfold blend
  rw [List.getD_eq_getElem?_getD, List.getElem?_append_right (by simp; omega), List.length_take, Nat.min_eq_left (by omega), Nat.sub_self, List.getElem?_drop, Nat.add_zero, ← List.getD_eq_getElem?_getD]
theorem blend_set (R A : List Int) (k : Nat) (h : R.length = A.length) (hk : k < A.length) : (blend R A k).set k (R.getD k 0) = blend R A (k + 1) := by
  unfold blend
  rw [List.set_append_right _ _ (by simp; omega), List.length_take, Nat.min_eq_left (by omega), Nat.sub_self, List.take_succ_eq_append_getElem (by omega), List.drop_eq_getElem_cons hk]
  rw [List.getD_eq_getElem?_getD, List.getElem?_eq_getElem (by omega), List.set_cons_zero, List.append_assoc]
  rfl
theorem blend_all (R A : List Int) (h : R.length = A.length) : blend R A A.length = R := by
  unfold blend
  rw [List.take_of_length_le (by omega), List.drop_of_length_le (by omega), List.append_nil]

theorem add_at (s t : S) (k : Nat) (h : k < 8) : ((s.all.map U).getD k 0 + (t.all.map U).getD k 0) % 4294967296 = ((s.add t).all.map U).getD k 0 := by
  have e : ∀ x y : W, (U x + U y) % 4294967296 = U (x + y) := fun x y => by rw [add_U, V_U, V_U]
  rcases k with _ | _ | _ | _ | _ | _ | _ | _ | k
  all_goals first | exact e _ _ | omega

theorem stepU_code (s : S) (k w : W) : ((U s.h + U (S1 (V (U s.e))) + bits .xor .u32 (bits .and .u32 (U s.e) (U s.f)) (bits .and .u32 (bits .xor .u32 (if IntKind.u32.signed = true then -1 else IntKind.u32.max) (U s.e)) (U s.g)) + U k) % 4294967296 + U w) % 4294967296 = U (stepU s k w) := by
  have hm : (if IntKind.u32.signed = true then (-1 : Int) else IntKind.u32.max) = 4294967295 := rfl
  have hn : bits .xor .u32 4294967295 (U s.e) = U (~~~ s.e) := by rw [xor_U, show V 4294967295 = BitVec.allOnes 32 from by decide, BitVec.allOnes_xor, V_U]
  rw [hm, hn, xor_U, and_U, and_U, add_U, V_mod, V_add, V_add, V_add]
  simp only [V_U]
  rfl
theorem stepV_code (s : S) : (U (S0 (V (U s.a))) + bits .xor .u32 (bits .xor .u32 (bits .and .u32 (U s.a) (U s.b)) (bits .and .u32 (U s.a) (U s.c))) (bits .and .u32 (U s.b) (U s.c))) % 4294967296 = U (stepV s) := by
  rw [add_U, xor_U, xor_U, and_U, and_U, and_U]
  simp only [V_U]
  rfl
theorem sum_code (x y : W) : (U x + U y) % 4294967296 = U (x + y) := by rw [add_U, V_U, V_U]

theorem index_eight (r : S) (j : Nat) (wr : World) (h : j < 8) : Sem.run Tryd.prog (Instr.index 37 (.agg #[.int .u32 (U r.a), .int .u32 (U r.b), .int .u32 (U r.c), .int .u32 (U r.d), .int .u32 (U r.e), .int .u32 (U r.f), .int .u32 (U r.g), .int .u32 (U r.h)]) (.int .i64 (j : Int))) wr = .ok (.int .u32 ((r.all.map U).getD j 0)) wr := by
  rcases j with _ | _ | _ | _ | _ | _ | _ | _ | j
  all_goals first | (exfalso; omega) | kernel_rfl

def Mid (be bw : Nat) (s : S) (b : List Int) (w wr : World) : Prop :=
  IntRow wr bw .u32 (tab b 64) 55 ∧ IntRow wr be .u32 (s.all.map U) 38 ∧ Roots wr ∧ Kept (fun k => k = be) w wr

set_option maxRecDepth 100000 in
set_option maxHeartbeats 4000000 in
theorem take_any (s : S) (b : List Int) (eb : Nat) (w : World) (hb : b.length = 64) (hby : ∀ z ∈ b, 0 ≤ z ∧ z ≤ 255) (hr : Roots w) (hrow : IntRow w eb .u32 (s.all.map U) 38) :
    Calls Tryd.prog 18 #[.pointer (some ⟨eb, 0, none⟩), .agg (ints .u8 b)] w fun e w' => e = .returned (.tuple #[]) ∧ IntRow w' eb .u32 ((block s b).all.map U) 38 ∧ Kept (fun k => k = eb) w w' := by
  have HB := Lib.hid hb
  have HBy := Lib.hid hby
  have HR := Lib.hid hr
  have HE := Lib.hid hrow
  have helt := hrow.lt
  clear hb hby hr hrow
  have HT : Hid ((Tryd.prog.info? 41).map (·.size) = some (ints .u8 b).size) := by
    show _ = _
    rw [ints_size, HB.out]; kernel_rfl
  have HA : Hid ((w.alloc (.cells (ints .u8 b) 41)).heap[w.heap.size]? = some (.cells (ints .u8 b) 41 (0, 0))) := heap_alloc_new _ _
  go_enter Tryd.func18, Tryd.ntmps18
  go_wp2_with (with_reducible refine wpList_load_row rfl 41 (.tmp 3) rfl w.heap.size rfl 41 (ints .u8 b) (0, 0) _ HA.out Tryd.underlying41 rfl HT.out ?_)
  refine (bn b _ HB.out HBy.out).mono ?_
  rintro e w1 ⟨rfl, hb1⟩
  have hz : (ints .u32 (tab b 64)).size = 64 := by rw [ints_size, tab_length b 64 (by omega)]
  have hst : Sem.run Tryd.prog (storeCells ⟨w1.heap.size, 0, none⟩ (ints .u32 (tab b 64)).toList) (w1.alloc (.cells #[Value.int IntKind.u32 0, Value.int IntKind.u32 0, Value.int IntKind.u32 0, Value.int IntKind.u32 0, Value.int IntKind.u32 0, Value.int IntKind.u32 0, Value.int IntKind.u32 0, Value.int IntKind.u32 0, Value.int IntKind.u32 0, Value.int IntKind.u32 0, Value.int IntKind.u32 0, Value.int IntKind.u32 0, Value.int IntKind.u32 0, Value.int IntKind.u32 0, Value.int IntKind.u32 0, Value.int IntKind.u32 0, Value.int IntKind.u32 0, Value.int IntKind.u32 0, Value.int IntKind.u32 0, Value.int IntKind.u32 0, Value.int IntKind.u32 0, Value.int IntKind.u32 0, Value.int IntKind.u32 0, Value.int IntKind.u32 0, Value.int IntKind.u32 0, Value.int IntKind.u32 0, Value.int IntKind.u32 0, Value.int IntKind.u32 0, Value.int IntKind.u32 0, Value.int IntKind.u32 0, Value.int IntKind.u32 0, Value.int IntKind.u32 0, Value.int IntKind.u32 0, Value.int IntKind.u32 0, Value.int IntKind.u32 0, Value.int IntKind.u32 0, Value.int IntKind.u32 0, Value.int IntKind.u32 0, Value.int IntKind.u32 0, Value.int IntKind.u32 0, Value.int IntKind.u32 0, Value.int IntKind.u32 0, Value.int IntKind.u32 0, Value.int IntKind.u32 0, Value.int IntKind.u32 0, Value.int IntKind.u32 0, Value.int IntKind.u32 0, Value.int IntKind.u32 0, Value.int IntKind.u32 0, Value.int IntKind.u32 0, Value.int IntKind.u32 0, Value.int IntKind.u32 0, Value.int IntKind.u32 0, Value.int IntKind.u32 0, Value.int IntKind.u32 0, Value.int IntKind.u32 0, Value.int IntKind.u32 0, Value.int IntKind.u32 0, Value.int IntKind.u32 0, Value.int IntKind.u32 0, Value.int IntKind.u32 0, Value.int IntKind.u32 0, Value.int IntKind.u32 0, Value.int IntKind.u32 0] 55)) = .ok () (w1.alloc (.cells (ints .u32 (tab b 64)) 55)) := by
    rw [← tab_zero b]
    exact run_storeCells_new w1 55 _ _ (by rw [ints_size, tab_length b 64 (by omega)]; kernel_rfl) (by rw [ints_size, ints_size, tab_length b 64 (by omega), tab_length b 0 (by omega)]) (ints_all _ _)
  go_wp2_with fail
  clear hst hz
  have hbW : Below w.heap.size w (w1.alloc (.cells (ints .u32 (tab b 64)) 55)) := (((Below.refl _ _).alloc (Nat.le_refl _) _).trans (hb1.mono (by simp))).alloc (by have := hb1.size; simp at this; omega) _
  have hwsz := hb1.size
  simp at hwsz
  have hM : Mid eb w1.heap.size s b w (w1.alloc (.cells (ints .u32 (tab b 64)) 55)) := ⟨heap_alloc_new _ _, HE.out.below hbW helt, HR.out.below hbW, Kept.of_below hbW⟩
  have HM := Lib.hid hM
  clear hM HA hb1 HR HE
  generalize w1.alloc (.cells (ints .u32 (tab b 64)) 55) = W at *
  generalize w1.heap.size = bw at *
  have c0 := HM.out.2.1.cell 0 (by simp [S.all])
  have c1 := HM.out.2.1.cell 1 (by simp [S.all])
  have c2 := HM.out.2.1.cell 2 (by simp [S.all])
  have c3 := HM.out.2.1.cell 3 (by simp [S.all])
  have c4 := HM.out.2.1.cell 4 (by simp [S.all])
  have c5 := HM.out.2.1.cell 5 (by simp [S.all])
  have c6 := HM.out.2.1.cell 6 (by simp [S.all])
  have c7 := HM.out.2.1.cell 7 (by simp [S.all])
  change W.cell? ⟨eb, 0, none⟩ = some (.int .u32 (U s.a)) at c0
  change W.cell? ⟨eb, 1, none⟩ = some (.int .u32 (U s.b)) at c1
  change W.cell? ⟨eb, 2, none⟩ = some (.int .u32 (U s.c)) at c2
  change W.cell? ⟨eb, 3, none⟩ = some (.int .u32 (U s.d)) at c3
  change W.cell? ⟨eb, 4, none⟩ = some (.int .u32 (U s.e)) at c4
  change W.cell? ⟨eb, 5, none⟩ = some (.int .u32 (U s.f)) at c5
  change W.cell? ⟨eb, 6, none⟩ = some (.int .u32 (U s.g)) at c6
  change W.cell? ⟨eb, 7, none⟩ = some (.int .u32 (U s.h)) at c7
  go_quiet (fail)
  clear c0 c1 c2 c3 c4 c5 c6 c7
  go_wp2_with fail
  have hM2 : Mid eb bw s b w (W.drewN nq) := ⟨HM.out.1, HM.out.2.1, HM.out.2.2.1, HM.out.2.2.2.1, HM.out.2.2.2.2, HM.out.2.2.2.3, HM.out.2.2.2.4, HM.out.2.2.2.5⟩
  have HM2 := Lib.hid hM2
  clear hM2 HM
  generalize W.drewN nq = W2 at *
  go_loopw [5, 6, 7, 8, 9, 10, 11, 12, 52] (fun a1 a2 a3 a4 a5 a6 a7 a8 i wr => ∃ k : Nat, k ≤ 64 ∧ i = .int .i64 k ∧ a1 = .int .u32 (U (rounds (sched b 64) s k).a) ∧ a2 = .int .u32 (U (rounds (sched b 64) s k).b) ∧ a3 = .int .u32 (U (rounds (sched b 64) s k).c) ∧ a4 = .int .u32 (U (rounds (sched b 64) s k).d) ∧ a5 = .int .u32 (U (rounds (sched b 64) s k).e) ∧ a6 = .int .u32 (U (rounds (sched b 64) s k).f) ∧ a7 = .int .u32 (U (rounds (sched b 64) s k).g) ∧ a8 = .int .u32 (U (rounds (sched b 64) s k).h) ∧ Mid eb bw s b w wr) (fun _ _ _ _ _ _ _ _ i _ => 64 - (intOf i).toNat)
  case atStart => exact ⟨0, by omega, rfl, rfl, rfl, rfl, rfl, rfl, rfl, rfl, rfl, HM2.out⟩
  case round =>
    obtain ⟨k, hk, rfl, rfl, rfl, rfl, rfl, rfl, rfl, rfl, rfl, hN⟩ := hrel
    have HN := Lib.hid hN
    clear hN HM2
    by_cases hlt : k < 64
    · have k0 : (0 : Int) ≤ k := by omega
      have k1 : (k : Int) < 64 := by omega
      have hd : decide ((k : Int) < 64) = true := by simp; omega
      have HS : Hid (rounds (sched b 64) s (k + 1) = step (rounds (sched b 64) s k) (kAt k) ((sched b 64).getD k 0#32)) := rfl
      have cK := HN.out.2.2.1 k hlt
      rw [U_kAt k hlt] at cK
      have cW := HN.out.1.cell k (by rw [tab_length b 64 (by omega)]; exact hlt)
      rw [tab_at b 64 k hlt] at cW
      generalize rounds (sched b 64) s k = r at *
      generalize kAt k = kk at *
      generalize (sched b 64).getD k 0#32 = ww at *
      have e0 := U_lo r.e
      have e1 := U_hi r.e
      have f0 := U_lo r.a
      have f1 := U_hi r.a
      have HU := Lib.hid (stepU_code r kk ww)
      have HV := Lib.hid (stepV_code r)
      go_wp2
      go_quiet ((go_at_call 29; exact Calls.quiet_of_same ((mixE_any (U r.e) _ e0 e1).mono (fun _ _ h => ⟨h.1, h.2.symm⟩))))
      clear cK cW
      have hN2 : Mid eb bw s b w (wr.drewN nq) := ⟨HN.out.1, HN.out.2.1, HN.out.2.2.1, HN.out.2.2.2.1, HN.out.2.2.2.2, HN.out.2.2.2.3, HN.out.2.2.2.4, HN.out.2.2.2.5⟩
      have HN2 := Lib.hid hN2
      clear hN2 HN
      generalize wr.drewN nq = W3 at *
      rw [HU.out]
      generalize U r.h + U (S1 (V (U r.e))) = t1
      generalize (bits .xor .u32 (if IntKind.u32.signed = true then -1 else IntKind.u32.max) (U r.e)) = t2
      go_wp2_with fail
      refine (mixA_any (U r.a) _ f0 f1).mono ?_
      rintro e w' ⟨rfl, rfl⟩
      have hV := HV.out
      go_wp2_with fail
      go_roundw
      case rel =>
        refine ⟨k + 1, by omega, by go_num, ?_⟩
        rw [HS.out]
        exact ⟨by rw [sum_code]; rfl, rfl, rfl, rfl, by rw [sum_code]; rfl, rfl, rfl, rfl, HN2.out⟩
      case measure => simp [intOf]; omega
    · have HK : Hid (k = 64) := (by omega : k = 64)
      have hd : decide ((k : Int) < 64) = false := by simp; omega
      have HBl : Hid (block s b = s.add (rounds (sched b 64) s k)) := by rw [HK.out]; rfl
      generalize rounds (sched b 64) s k = r at *
      go_wp2_with fail
      obtain ⟨wo, rfl⟩ : ∃ wo : World, wo = wr := ⟨_, rfl⟩
      go_loopw [112] (fun i wq => ∃ j : Nat, j ≤ 8 ∧ i = .int .i64 j ∧ IntRow wq eb .u32 (blend ((s.add r).all.map U) (s.all.map U) j) 38 ∧ Kept (fun k => k = eb) w wq) (fun i _ => 8 - (intOf i).toNat)
      case atStart => exact ⟨0, by omega, rfl, HN.out.2.1, HN.out.2.2.2⟩
      case round =>
        obtain ⟨j, hj, rfl, hrow, hkept⟩ := hrel
        have HRow := Lib.hid hrow
        have HKept := Lib.hid hkept
        clear hrow hkept HN
        by_cases hjt : j < 8
        · have j0 : (0 : Int) ≤ j := by omega
          have j1 : (j : Int) < 8 := by omega
          have hdj : decide ((j : Int) < 8) = true := by simp; omega
          have hix : Sem.run Tryd.prog (Instr.index 37 (.agg #[.int .u32 (U r.a), .int .u32 (U r.b), .int .u32 (U r.c), .int .u32 (U r.d), .int .u32 (U r.e), .int .u32 (U r.f), .int .u32 (U r.g), .int .u32 (U r.h)]) (.int .i64 (j : Int))) wr = .ok (.int .u32 ((r.all.map U).getD j 0)) wr := by
            exact index_eight r j wr hjt
          have c1 := HRow.out.cell j (by rw [blend_length _ _ _ (by simp [S.all]) (by simp [S.all]; omega)]; simp [S.all]; omega)
          rw [blend_at _ _ _ (by simp [S.all]) (by simp [S.all]; omega)] at c1
          have f1 := HRow.out.free j
          have HA := Lib.hid (add_at s r j hjt)
          have HSet := Lib.hid (HRow.out.set j (((s.add r).all.map U).getD j 0))
          generalize (r.all.map U).getD j 0 = y at *
          generalize (s.all.map U).getD j 0 = x at *
          go_wp2_with fail
          go_region
          go_wp2_with fail
          go_roundw
          case rel =>
            refine ⟨j + 1, by omega, by go_num, ?_, (HKept.out.setCell (Or.inl rfl) _).drew⟩
            have h := HSet.out
            rw [blend_set _ _ _ (by simp [S.all]) (by simp [S.all]; omega), ← HA.out] at h
            exact h
          case measure => simp [intOf]; omega
        · have HJ : Hid (j = 8) := (by omega : j = 8)
          have hdj : decide ((j : Int) < 8) = false := by simp; omega
          go_wp2_with fail
          go_end0
          refine ⟨rfl, ?_, HKept.out⟩
          rw [HBl.out]
          have h := HRow.out
          rw [HJ.out] at h
          exact h
end Sha
end Go.Proofs.YtodbfkifendniaaDoor
