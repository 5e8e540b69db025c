/- Numbers as bytes: putHighFirst, padding and digest. -/
import Derived.Test.YtodbfkifendniaaDoorShaW3
namespace Go.Proofs.YtodbfkifendniaaDoor
open Go.ChangeShapes Go.WideShapes Go.ChangeAt Go.RowKit
namespace Sha
/-- l with M laid over it from o on, as far as it has come from M's end down to k -/
def puts (l M : List Int) (o k : Nat) : List Int := l.take (o + k) ++ M.drop k ++ l.drop (o + M.length)
theorem puts_length (l M : List Int) (o k : Nat) (h : o + M.length ≤ l.length) (hk : k ≤ M.length) : (puts l M o k).length = l.length := by simp [puts]; omega
theorem puts_start (l M : List Int) (o : Nat) : puts l M o M.length = l := by simp [puts]
theorem puts_zero (l M : List Int) (o : Nat) : puts l M o 0 = l.take o ++ M ++ l.drop (o + M.length) := by simp [puts]
theorem puts_set (l M : List Int) (o k : Nat) (h : o + M.length ≤ l.length) (hk : k < M.length) : (puts l M o (k + 1)).set (o + k) (M.getD k 0) = puts l M o k := by
  unfold puts
  rw [List.append_assoc, List.set_append_left _ _ (by simp; omega), ← Nat.add_assoc, List.take_succ_eq_append_getElem (by omega), List.set_append_right _ _ (by simp; omega)]
  rw [show o + k - (l.take (o + k)).length = 0 from by simp; omega, List.set_cons_zero, List.drop_eq_getElem_cons hk, List.getD_eq_getElem?_getD, List.getElem?_eq_getElem hk]
  simp only [List.append_assoc, List.cons_append, List.nil_append, Option.getD_some]
theorem be_at (n x k : Nat) (h : k < n) : (be n x).getD k 0 = ((x / 256 ^ (n - 1 - k) % 256 : Nat) : Int) := by simp [be, List.getD, h]

theorem put_any (B o n cap X : Nat) (a : Int) (ha : a = X) (l : List Int) (t : TypeId) (w : World) (ho : o + n ≤ l.length) (hn : n ≤ 1000) (hX : X < 18446744073709551616) (hrow : IntRow w B .u8 l t) :
    Calls Tryd.prog 31 #[.slice (some ⟨B, o, none⟩) n cap, .int .u64 a] w fun e w' => e = .returned (.tuple #[]) ∧ IntRow w' B .u8 (l.take o ++ be n X ++ l.drop (o + n)) t ∧ Kept (fun k => k = B) w w' ∧ w'.heap.size = w.heap.size := by
  subst ha
  have HRow := Lib.hid hrow
  clear hrow
  go_enter Tryd.func31, Tryd.ntmps31
  go_wp2_with fail
  go_loopw [1, 4] (fun x i wr => ∃ k : Nat, k ≤ n ∧ i = .int .i64 ((k : Int) - 1) ∧ x = .int .u64 ((X / 256 ^ (n - k) : Nat) : Int) ∧ IntRow wr B .u8 (puts l (be n X) o k) t ∧ Kept (fun k => k = B) w wr ∧ wr.heap.size = w.heap.size) (fun _ i _ => (intOf i + 1).toNat)
  case atStart =>
    refine ⟨n, by omega, rfl, by simp, ?_, Kept.refl _ _, rfl⟩
    have h := puts_start l (be n X) o
    rw [be_length] at h
    rw [h]; exact HRow.out
  case round =>
    obtain ⟨k, hk, rfl, rfl, hr, hkept, hsz⟩ := hrel
    have HR := Lib.hid hr
    have HK := Lib.hid hkept
    have HS := Lib.hid hsz
    clear hr hkept hsz HRow
    by_cases hlt : 0 < k
    · obtain ⟨j, rfl⟩ : ∃ j, k = j + 1 := ⟨k - 1, by omega⟩
      have hd : decide ((0 : Int) ≤ ((j + 1 : Nat) : Int) - 1) = true := by simp
      have c1 := HR.out.cell (o + j) (by rw [puts_length _ _ _ _ (by rw [be_length]; omega) (by rw [be_length]; omega)]; omega)
      have f1 := HR.out.free (o + j)
      have HC := Lib.hid (HR.out.set (o + j) ((be n X).getD j 0))
      have HB := Lib.hid (be_at n X j (by omega))
      have hx0 : (0 : Int) ≤ ((X / 256 ^ (n - (j + 1)) : Nat) : Int) := Int.natCast_nonneg _
      have hx1 : ((X / 256 ^ (n - (j + 1)) : Nat) : Int) < 18446744073709551616 := by have := Nat.div_le_self X (256 ^ (n - (j + 1))); omega
      have HD : Hid (((X / 256 ^ (n - (j + 1)) : Nat) : Int) / 256 = ((X / 256 ^ (n - j) : Nat) : Int)) := by
        show _ = _
        rw [show n - j = (n - (j + 1)) + 1 from by omega, Nat.pow_succ, ← Nat.div_div_eq_div_mul]; omega
      have HM : Hid (((X / 256 ^ (n - (j + 1)) : Nat) : Int) % 256 = (be n X).getD j 0) := by
        show _ = _
        rw [HB.out, show n - 1 - j = n - (j + 1) from by omega]; omega
      generalize ((X / 256 ^ (n - (j + 1)) : Nat) : Int) = x at *
      generalize (puts l (be n X) o (j + 1)).getD (o + j) 0 = y at *
      have j0 : (0 : Int) ≤ j := by omega
      have j1 : (j : Int) < n := by omega
      rw [show ((j + 1 : Nat) : Int) - 1 = (j : Int) from by omega] at *
      go_wp2_with fail
      go_roundw
      case rel =>
        refine ⟨j, by omega, rfl, by rw [HD.out], ?_, HK.out.setCell (Or.inl rfl) _, by simp [HS.out]⟩
        have h := HC.out
        rw [puts_set _ _ _ _ (by rw [be_length]; omega) (by rw [be_length]; omega), ← HM.out] at h
        exact h
      case measure => simp [intOf]
    · obtain rfl : k = 0 := by omega
      have hd : decide ((0 : Int) ≤ ((0 : Nat) : Int) - 1) = false := by decide
      go_wp2_with fail
      go_end0
      refine ⟨rfl, ?_, HK.out, HS.out⟩
      have h := HR.out
      rw [puts_zero, be_length] at h
      exact h

theorem infoByte : (Tryd.prog.info? 5).map (fun i => (i.zero, i.size, i.bytes)) = some (some (.int .u8 0), 1, 1) := by kernel_rfl
theorem made_ints (n : Nat) : madeCells (Value.int IntKind.u8 0).cells n = ints .u8 (List.replicate n 0) := by
  apply Array.ext'
  simp [madeCells, Value.cells, ints]
  apply List.ext_getElem
  · simp
  · intro i h1 h2
    simp [show i % 1 = 0 from Nat.mod_one i]
theorem make_any (w : World) (n : Nat) (k : IntKind) (a : Int) (ha : a = n) (h : n ≤ 100000) :
    (Instr.makeSlice 22 (.int k a) (.int k a)).run Tryd.prog w = .ok (.slice (some ⟨w.heap.size, 0, none⟩) n n) (w.alloc (.cells (ints .u8 (List.replicate n 0)) 5)) := by
  subst ha
  obtain ⟨i, hi, hz, hs, hb⟩ := info_parts infoByte
  have := run_make (P := Tryd.prog) w 22 5 i (.int .u8 0) Tryd.underlying22 hi hz k k (n : Int) (n : Int) (by omega) (by omega) (by rw [hb]; omega) (by omega)
  rw [this, hs, Int.toNat_natCast, Nat.mul_one, made_ints]

theorem pad_code (n : Nat) : ((List.replicate (fill n + 8) (0 : Int)).set 0 128).take (fill n) ++ be 8 (8 * n) ++ ((List.replicate (fill n + 8) (0 : Int)).set 0 128).drop (fill n + 8) = pad n := by
  have h1 : 1 ≤ fill n := by unfold fill; omega
  obtain ⟨m, hm⟩ : ∃ m, fill n = m + 1 := ⟨fill n - 1, by omega⟩
  unfold pad
  rw [hm, show m + 1 + 8 = (m + 8) + 1 from by omega, List.replicate_succ, List.set_cons_zero, List.take_succ_cons, List.drop_succ_cons, List.take_replicate, List.drop_replicate]
  simp

theorem padding_any (n : Nat) (w : World) (hn : n ≤ 1000000000) :
    Calls Tryd.prog 20 #[.int .u64 (n : Int)] w fun e w' => e = .returned (.slice (some ⟨w.heap.size, 0, none⟩) (fill n + 8) (fill n + 8)) ∧ IntRow w' w.heap.size .u8 (pad n) 5 ∧ Below w.heap.size w w' := by
  have hf1 : 1 ≤ fill n := by unfold fill; omega
  have hf2 : fill n ≤ 64 := by unfold fill; omega
  have hf : (64 : Int) - ((n : Int) + 8) % 64 = (fill n : Int) := by unfold fill; omega
  have hmk := make_any w (fill n + 8) .u64 ((fill n : Int) + 8) (by omega) (by omega)
  go_enter Tryd.func20, Tryd.ntmps20
  go_wp2_with fail
  have hr : IntRow (w.alloc (Obj.cells ((ints IntKind.u8 (List.replicate (fill n + 8) 0)).setIfInBounds 0 (Value.int IntKind.u8 128)) 5)) w.heap.size .u8 ((List.replicate (fill n + 8) 0).set 0 128) 5 := by
    unfold IntRow; rw [heap_alloc_new, ints_set]
  refine (put_any w.heap.size (fill n) 8 8 (8 * n) (8 * (n : Int)) (by omega) _ 5 _ (by simp) (by omega) (by omega) hr).mono ?_
  rintro e w1 ⟨rfl, hr1, hk1, hs1⟩
  clear hmk hr
  rw [pad_code] at hr1
  have hb : Below w.heap.size w w1 := ((Below.refl _ _).alloc (Nat.le_refl _) _).trans (hk1.toBelow (by simp) (by intro k hk; omega))
  clear hk1 hs1
  go_wp2_with fail
  go_ret
  exact ⟨rfl, hr1, hb⟩

/-- the digest's bytes when k numbers are laid out -/
def dg (s : S) (k : Nat) : List Int := (digest s).take (4 * k) ++ List.replicate (32 - 4 * k) 0
theorem be_four (x : Nat) : ∃ p q r t, be 4 x = [p, q, r, t] := ⟨_, _, _, _, rfl⟩
theorem digest_length (s : S) : (digest s).length = 32 := rfl
theorem digest_byte (s : S) : ∀ z ∈ digest s, 0 ≤ z ∧ z ≤ 255 := by
  intro z hz
  simp only [digest, List.mem_flatMap] at hz
  obtain ⟨x, _, hx⟩ := hz
  exact be_byte _ _ _ hx
theorem dg_length (s : S) (k : Nat) (h : k ≤ 8) : (dg s k).length = 32 := by simp [dg, digest_length]; omega
theorem dg_next (s : S) (k : Nat) (h : k < 8) : (dg s k).take (4 * k) ++ be 4 (s.all.getD k 0#32).toNat ++ (dg s k).drop (4 * k + 4) = dg s (k + 1) := by
  rcases k with _ | _ | _ | _ | _ | _ | _ | _ | k
  all_goals first | (exfalso; omega) | rfl
theorem dg_all (s : S) : dg s 8 = digest s := by
  unfold dg; rw [List.take_of_length_le (by rw [digest_length]; omega)]; simp
theorem dg_zero (s : S) : ints .u8 (dg s 0) = #[Value.int IntKind.u8 0, Value.int IntKind.u8 0, Value.int IntKind.u8 0, Value.int IntKind.u8 0, Value.int IntKind.u8 0, Value.int IntKind.u8 0, Value.int IntKind.u8 0, Value.int IntKind.u8 0, Value.int IntKind.u8 0, Value.int IntKind.u8 0, Value.int IntKind.u8 0, Value.int IntKind.u8 0, Value.int IntKind.u8 0, Value.int IntKind.u8 0, Value.int IntKind.u8 0, Value.int IntKind.u8 0, Value.int IntKind.u8 0, Value.int IntKind.u8 0, Value.int IntKind.u8 0, Value.int IntKind.u8 0, Value.int IntKind.u8 0, Value.int IntKind.u8 0, Value.int IntKind.u8 0, Value.int IntKind.u8 0, Value.int IntKind.u8 0, Value.int IntKind.u8 0, Value.int IntKind.u8 0, Value.int IntKind.u8 0, Value.int IntKind.u8 0, Value.int IntKind.u8 0, Value.int IntKind.u8 0, Value.int IntKind.u8 0] := rfl
theorem all_U (s : S) (k : Nat) (h : k < 8) : (s.all.map U).getD k 0 = (((s.all.getD k 0#32).toNat : Nat) : Int) := by
  rcases k with _ | _ | _ | _ | _ | _ | _ | _ | k
  all_goals first | (exfalso; omega) | rfl

set_option maxRecDepth 100000 in
set_option maxHeartbeats 1000000 in
theorem digest_any (s : S) (eb : Nat) (w : World) (hrow : IntRow w eb .u32 (s.all.map U) 38) :
    Calls Tryd.prog 21 #[.pointer (some ⟨eb, 0, none⟩)] w fun e w' => e = .returned (.agg (ints .u8 (digest s))) ∧ Below w.heap.size w w' := by
  have HE := Lib.hid hrow
  have helt := hrow.lt
  clear hrow
  go_enter Tryd.func21, Tryd.ntmps21
  go_wp2_with fail
  go_loopw [7] (fun i wr => ∃ k : Nat, k ≤ 8 ∧ i = .int .i64 k ∧ wr.heap.size = w.heap.size + 2 ∧ IntRow wr w.heap.size .u8 (dg s 0) 25 ∧ IntRow wr (w.heap.size + 1) .u8 (dg s k) 25 ∧ Below w.heap.size w wr) (fun i _ => 8 - (intOf i).toNat)
  case atStart =>
    refine ⟨0, by omega, rfl, by simp, ?_, ?_, ((Below.refl _ _).alloc (Nat.le_refl _) _).alloc (by simp) _⟩
    · unfold IntRow; rw [dg_zero]; exact heap_alloc2_old _ _ _
    · unfold IntRow; rw [dg_zero]; exact heap_alloc2_new _ _ _
  case round =>
    obtain ⟨k, hk, rfl, h1, h2, h3, h4⟩ := hrel
    have H1 := Lib.hid h1
    have H2 := Lib.hid h2
    have H3 := Lib.hid h3
    have H4 := Lib.hid h4
    clear h1 h2 h3 h4
    by_cases hlt : k < 8
    · have k0 : (0 : Int) ≤ k := by omega
      have k1 : (k : Int) < 8 := by omega
      have hd : decide ((k : Int) < 8) = true := by simp; omega
      have c1 := (HE.out.below H4.out helt).cell k (by simp [S.all]; omega)
      rw [all_U s k hlt] at c1
      go_wp2_with fail
      go_quiet (fail)
      clear c1
      have hsl := fun W : World => slice_lh W 25 32 (by kernel_rfl) (by kernel_rfl) (by kernel_rfl) (w.heap.size + 1) 0 (4 * k) (4 * k + 4) (4 * (k : Int)) (4 * (k : Int) + 4) (by omega) (by omega) (by omega) (by omega) (by omega)
      simp only [show 4 * k + 4 - 4 * k = 4 from by omega, Nat.zero_add] at hsl
      have hxl := (s.all.getD k 0#32).isLt
      have hs1 : (wr.drewN nq).heap.size = w.heap.size + 2 := H1.out
      have hs2 : IntRow (wr.drewN nq) w.heap.size .u8 (dg s 0) 25 := H2.out
      have hs3 : IntRow (wr.drewN nq) (w.heap.size + 1) .u8 (dg s k) 25 := H3.out
      have hs4 : Below w.heap.size w (wr.drewN nq) := ⟨H4.out.1, H4.out.2, H4.out.3, H4.out.4, H4.out.5⟩
      clear H1 H2 H3 H4
      have H1 := Lib.hid hs1
      have H2 := Lib.hid hs2
      have H3 := Lib.hid hs3
      have H4 := Lib.hid hs4
      clear hs1 hs2 hs3 hs4
      generalize wr.drewN nq = W2 at *
      have hx0 : (0 : Int) ≤ (((s.all.getD k 0#32).toNat : Nat) : Int) := Int.natCast_nonneg _
      have hx1 : (((s.all.getD k 0#32).toNat : Nat) : Int) < 4294967296 := by omega
      go_wp2_with fail
      refine (put_any (w.heap.size + 1) (4 * k) 4 (32 - 4 * k) (s.all.getD k 0#32).toNat _ rfl (dg s k) 25 _ (by rw [dg_length s k hk]; omega) (by omega) (by omega) H3.out).mono ?_
      rintro e w1 ⟨rfl, hr1, hk1, hz1⟩
      rw [dg_next s k hlt] at hr1
      have hr2 := H2.out.kept hk1 (by omega)
      have hb2 := H4.out.trans (hk1.toBelow (by have := H4.out.size; omega) (by intro k hk; omega))
      have K1 := Lib.hid (hz1.trans H1.out)
      have K2 := Lib.hid hr1
      have K3 := Lib.hid hr2
      have K4 := Lib.hid hb2
      clear hsl hz1 hr1 hr2 hb2 hk1
      go_wp2_with fail
      go_roundw
      case rel => exact ⟨k + 1, by omega, by go_num, K1.out, K3.out, K2.out, K4.out⟩
      case measure => simp [intOf]; omega
    · have HK : Hid (k = 8) := (by omega : k = 8)
      have hd : decide ((k : Int) < 8) = false := by simp; omega
      have HT : Hid ((Tryd.prog.info? 25).map (·.size) = some (ints .u8 (dg s k)).size) := by
        show _ = _
        rw [ints_size, dg_length s k hk]; kernel_rfl
      have hst : Sem.run Tryd.prog (storeCells ⟨w.heap.size, 0, none⟩ (ints .u8 (dg s k)).toList) wr = .ok () (wr.setRow w.heap.size (ints .u8 (dg s k))) := by
        have := run_storeCells_from (P := Tryd.prog) w.heap.size 25 (ints .u8 (dg s k)).toList 0 (ints .u8 (dg s 0)) wr H2.out (by simp [ints_size, dg_length s k hk, dg_length s 0 (by omega)]) (ints_one _ _)
        simpa using this
      have M4' : Hid (wr.heap[w.heap.size + 1]? = some (.cells (ints .u8 (dg s k)) 25 (0, 0))) := H3.out
      have hz : (ints .u8 (dg s k)).size = 32 := by rw [ints_size, dg_length s k hk]
      go_wp2_with (with_reducible refine wpList_load_row rfl 25 (.tmp 3) rfl (w.heap.size + 1) rfl 25 (ints .u8 (dg s k)) (0, 0) _ M4'.out Tryd.underlying25 rfl HT.out ?_)
      clear hst hz
      have hrow := setRow_heap wr w.heap.size (ints .u8 (dg s 0)) (ints .u8 (dg s k)) 25 (0, 0) H2.out
      refine bodyPost_ret (v := .agg (ints .u8 (dg s k))) (results_cell_row (p := 2) (ty := 25) rfl _ _ w.heap.size 25 (ints .u8 (dg s k)) (0, 0) _ rfl hrow Tryd.underlying25 rfl HT.out) rfl ⟨by rw [HK.out, dg_all], H4.out.trans (below_setRow _ _ _)⟩
end Sha
end Go.Proofs.YtodbfkifendniaaDoor
