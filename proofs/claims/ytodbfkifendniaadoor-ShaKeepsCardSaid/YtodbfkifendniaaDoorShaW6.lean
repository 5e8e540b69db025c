/- Sum: what it answers for any parts. -/
import Derived.Test.YtodbfkifendniaaDoorShaW5
namespace Go.Proofs.YtodbfkifendniaaDoor
open Go.ChangeShapes Go.WideShapes Go.ChangeAt Go.RowKit
namespace Sha
/-- a slice of slices of bytes reads as these parts -/
def PRow (w : World) (a : Option Addr) (n : Nat) (ps : List (List Int)) : Prop :=
  ps.length = n ∧ (n = 0 ∨ ∃ b off, a = some ⟨b, off, none⟩ ∧ ∀ i, i < n → ∃ a' m c, w.cell? ⟨b, off + i, none⟩ = some (.slice a' m c) ∧ m ≤ c ∧ c ≤ 9223372036854775807 ∧ SRow (fun _ => False) w a' m (ps.getD i []))

/-- the cutter's cells at its making -/
def zcut (v : Value) : Array Value := (cutL v (List.replicate 64 0) 0 0).toArray
theorem zero44 (w : World) : (zeroValue 44).run Tryd.prog w = .ok (.agg (zcut .nilFunc)) w := by kernel_rfl
theorem zcut_ne (v : Value) : (zcut v = #[]) = False := by simp [zcut, cutL]
theorem zcut_first (v x : Value) : (zcut v).setIfInBounds 0 x = zcut x := by simp [zcut, cutL]
theorem zcut_size (v : Value) : (zcut v).size = 67 := by simp [zcut, cutL]
theorem holds_nil : Holds [] (List.replicate 64 0) := ⟨by simp, by intro z hz; simp at hz; omega, by simp⟩
theorem cutL_one (eb : Nat) : ∀ v ∈ cutL (fv eb) (List.replicate 64 0) 0 0, v.oneCell' = true := by
  intro v hv
  simp only [cutL, List.mem_cons, List.mem_append, List.mem_map] at hv
  rcases hv with rfl | ⟨z, _, rfl⟩ | rfl | rfl | h
  · rfl
  · rfl
  · rfl
  · rfl
  · cases h

set_option maxRecDepth 100000 in
set_option maxHeartbeats 4000000 in
theorem sum_any (ps : List (List Int)) (a : Option Addr) (n cap : Nat) (w : World) (hn : n ≤ 9223372036854775807) (hlen : ps.flatten.length ≤ 900000000) (hr : Roots w) (hrow : PRow w a n ps) :
    Calls Tryd.prog 11 #[.slice a n cap] w fun e w' => e = .returned (.agg (ints .u8 (sum ps.flatten))) ∧ Below w.heap.size w w' := by
  have HR := Lib.hid hr
  have HP := Lib.hid hrow
  have HL := Lib.hid hlen
  clear hr hrow hlen
  go_enter Tryd.func11, Tryd.ntmps11
  go_wp2_with fail
  refine (begin_any _).mono ?_
  rintro e w1 ⟨rfl, hb1⟩
  have hz : (ints .u32 (H0.all.map U)).size = 8 := rfl
  have hst : Sem.run Tryd.prog (storeCells ⟨w1.heap.size, 0, none⟩ (ints .u32 (H0.all.map U)).toList) (w1.alloc (.cells #[.int .u32 0, .int .u32 0, .int .u32 0, .int .u32 0, .int .u32 0, .int .u32 0, .int .u32 0, .int .u32 0] 38)) = .ok () (w1.alloc (.cells (ints .u32 (H0.all.map U)) 38)) := by
    exact run_storeCells_new w1 38 _ _ (by kernel_rfl) rfl (ints_all _ _)
  have hz44 := zero44
  have hne := zcut_ne .nilFunc
  have hset := zcut_first .nilFunc (fv w1.heap.size)
  have hlz := zcut_size (fv w1.heap.size)
  have hst2 : Sem.run Tryd.prog (storeCells ⟨w1.heap.size + 1, 0, none⟩ (zcut (fv w1.heap.size)).toList) ((w1.alloc (.cells (ints .u32 (H0.all.map U)) 38)).alloc (.cells (zcut .nilFunc) 44)) = .ok () ((w1.alloc (.cells (ints .u32 (H0.all.map U)) 38)).alloc (.cells (zcut (fv w1.heap.size)) 44)) := by
    have h := run_storeCells_new (P := Tryd.prog) (w1.alloc (.cells (ints .u32 (H0.all.map U)) 38)) 44 (zcut .nilFunc) (zcut (fv w1.heap.size)) (by rw [zcut_size]; kernel_rfl) (by rw [zcut_size, zcut_size]) (Array.all_eq_true_iff_forall_mem.2 fun v hv => cutL_one _ v (by simpa [zcut] using hv))
    simpa using h
  unfold fv at hset hlz hst2
  go_wp2_with fail
  clear hz44 hne hset hlz hst2 hst hz
  have hsz1 := hb1.size
  simp at hsz1
  have hbel : Below w.heap.size w ((w1.alloc (.cells (ints .u32 (H0.all.map U)) 38)).alloc (.cells (zcut (.func (Fn.func 18) #[.pointer (some ⟨w1.heap.size, 0, none⟩)] #[])) 44)) := ((((Below.refl _ _).alloc (Nat.le_refl _) _).trans (hb1.mono (by simp))).alloc (by omega) _).alloc (by simp; omega) _
  have hres : IntRow ((w1.alloc (.cells (ints .u32 (H0.all.map U)) 38)).alloc (.cells (zcut (.func (Fn.func 18) #[.pointer (some ⟨w1.heap.size, 0, none⟩)] #[])) 44)) w.heap.size .u8 (dg H0 0) 25 := by
    refine IntRow.alloc (IntRow.alloc (IntRow.below (w := w.alloc (.cells #[Value.int IntKind.u8 0, Value.int IntKind.u8 0, Value.int IntKind.u8 0, Value.int IntKind.u8 0, Value.int IntKind.u8 0, Value.int IntKind.u8 0, Value.int IntKind.u8 0, Value.int IntKind.u8 0, Value.int IntKind.u8 0, Value.int IntKind.u8 0, Value.int IntKind.u8 0, Value.int IntKind.u8 0, Value.int IntKind.u8 0, Value.int IntKind.u8 0, Value.int IntKind.u8 0, Value.int IntKind.u8 0, Value.int IntKind.u8 0, Value.int IntKind.u8 0, Value.int IntKind.u8 0, Value.int IntKind.u8 0, Value.int IntKind.u8 0, Value.int IntKind.u8 0, Value.int IntKind.u8 0, Value.int IntKind.u8 0, Value.int IntKind.u8 0, Value.int IntKind.u8 0, Value.int IntKind.u8 0, Value.int IntKind.u8 0, Value.int IntKind.u8 0, Value.int IntKind.u8 0, Value.int IntKind.u8 0, Value.int IntKind.u8 0] 25)) ?_ hb1 (by simp)) _) _
    unfold IntRow; rw [dg_zero]; exact heap_alloc_new _ _
  have hcut : Cut w1.heap.size (w1.heap.size + 1) [] 0 ((w1.alloc (.cells (ints .u32 (H0.all.map U)) 38)).alloc (.cells (zcut (.func (Fn.func 18) #[.pointer (some ⟨w1.heap.size, 0, none⟩)] #[])) 44)) := by
    refine ⟨heap_alloc2_old _ _ _, List.replicate 64 0, holds_nil, ?_⟩
    exact heap_alloc2_new _ _ _
  have HBel := Lib.hid hbel
  have HRes := Lib.hid hres
  have HCut := Lib.hid hcut
  clear hbel hres hcut hb1
  generalize (w1.alloc (.cells (ints .u32 (H0.all.map U)) 38)).alloc (.cells (zcut (.func (Fn.func 18) #[.pointer (some ⟨w1.heap.size, 0, none⟩)] #[])) 44) = W at *
  generalize w1.heap.size = eb at *
  have he0 : eb ≠ 0 := by omega
  go_loopw [12] (fun i wr => ∃ k : Nat, k ≤ n ∧ i = .int .i64 k ∧ Cut eb (eb + 1) (ps.take k).flatten (ps.take k).flatten.length wr ∧ Kept (Two eb (eb + 1)) W wr) (fun i _ => n - (intOf i).toNat)
  case atStart => exact ⟨0, by omega, rfl, HCut.out, Kept.refl _ _⟩
  case round =>
    obtain ⟨k, hk, rfl, hcut, hkept⟩ := hrel
    have HC := Lib.hid hcut
    have HK := Lib.hid hkept
    clear hcut hkept
    have hbw : Below w.heap.size w wr := HBel.out.trans (HK.out.toBelow HBel.out.size (by intro j hj h; rcases h with h | h <;> omega))
    have HB := Lib.hid hbw
    have HRt := Lib.hid (HR.out.below hbw)
    clear hbw
    by_cases hlt : k < n
    · have hd : decide (k < n) = true := by simp; omega
      have k0 : (0 : Int) ≤ k := by omega
      have k1 : (k : Int) < n := by omega
      obtain ⟨hpl, hps⟩ := HP.out
      rcases hps with hps | ⟨b, off, rfl, hpc⟩
      · omega
      obtain ⟨a', m, c, hcell, hmc, hcm, hsr⟩ := hpc k hlt
      have hcw : wr.cell? ⟨b, off + k, none⟩ = some (.slice a' m c) := by
        rw [HB.out.cell (World.block_lt_of_cell? _ _ hcell)]; exact hcell
      have hflat : (ps.take (k + 1)).flatten = (ps.take k).flatten ++ ps.getD k [] := by
        rw [List.take_succ_eq_append_getElem (by omega), List.flatten_append, List.flatten_singleton, List.getD_eq_getElem?_getD, List.getElem?_eq_getElem (by omega)]; rfl
      have hbound : (ps.take k).flatten.length + m ≤ 1000000000 := by
        have h1 : (ps.take (k + 1)).flatten.length ≤ ps.flatten.length := by
          rw [← List.take_append_drop (k + 1) ps, List.flatten_append, List.length_append]
          simp
        rw [hflat, List.length_append, hsr.1] at h1
        have := HL.out
        omega
      have hs2 : SRow (Two eb (eb + 1)) wr a' m (ps.getD k []) := by
        have h1 := (hsr.kept (Kept.of_below HB.out)).imp (q := fun _ => False) (fun _ _ h => h)
        obtain ⟨q1, q2, q3⟩ := h1
        refine ⟨q1, q2, ?_⟩
        rcases q3 with q3 | ⟨b', o', rfl, _, q5⟩
        · exact Or.inl q3
        · by_cases hm0 : m = 0
          · exact Or.inl hm0
          · refine Or.inr ⟨b', o', rfl, ?_, q5⟩
            obtain ⟨_, _, r3⟩ := hsr
            rcases r3 with r3 | ⟨b2, o2, e2, _, r5⟩
            · exact absurd r3 hm0
            · have := World.block_lt_of_cell? _ _ (r5 0 (by omega))
              simp at e2 this
              intro h
              rcases h with h | h <;> omega
      have HF := Lib.hid hflat
      clear hflat hcell hpc hsr
      go_wp2_with fail
      refine (add_any (ps.take k).flatten (ps.getD k []) eb (eb + 1) a' m c _ hmc hcm hbound HRt.out he0 (by omega) (by omega) HC.out hs2).mono ?_
      rintro e w2 ⟨rfl, hcut2, hkept2⟩
      rw [← HF.out] at hcut2
      have HC2 := Lib.hid hcut2
      have HK2 := Lib.hid (HK.out.trans hkept2)
      clear hcut2 hkept2 hcw hs2 hpl
      go_wp2_with fail
      go_roundw
      case rel => exact ⟨k + 1, by omega, by go_num, HC2.out, HK2.out⟩
      case measure => simp [intOf]; omega
    · have hd : decide (k < n) = false := by simp; omega
      have hall : ps.take k = ps := List.take_of_length_le (by have := HP.out.1; omega)
      have hC2 := HC.out
      rw [hall] at hC2
      have HC2 := Lib.hid hC2
      clear hall hC2 HC
      obtain ⟨T, hTe⟩ : ∃ T, T = ps.flatten := ⟨_, rfl⟩
      rw [← hTe] at HC2 HL
      have HTe := Lib.hid hTe
      clear hTe
      have c66 : wr.cell? ⟨eb + 1, 66, none⟩ = some (.int .u64 (T.length : Int)) := by
        obtain ⟨_, bl, h1, h2⟩ := HC2.out
        exact h2.size h1.1
      go_wp2_with fail
      refine (padding_any T.length _ (by have := HL.out; omega)).mono ?_
      rintro e w2 ⟨rfl, hpad, hb2⟩
      clear c66
      have hlT := HL.out
      have hk2 : Kept (Two eb (eb + 1)) wr w2 := Kept.of_below hb2
      have hwsz := HBel.out.size
      have hKsz := HK.out.size
      have hebl : eb < wr.heap.size ∧ eb + 1 < wr.heap.size := by
        obtain ⟨h1, bl, _, h2⟩ := HC2.out
        exact ⟨h1.lt, h2.lt⟩
      have hcut3 : Cut eb (eb + 1) T T.length w2 := by
        obtain ⟨h1, bl, h2, h3⟩ := HC2.out
        refine ⟨h1.below hb2 hebl.1, bl, h2, ?_⟩
        unfold CutRow; rw [hb2.block _ hebl.2]; exact h3
      have hsp : SRow (Two eb (eb + 1)) w2 (some ⟨wr.heap.size, 0, none⟩) (fill T.length + 8) (pad T.length) := by
        refine ⟨pad_length _, pad_byte _, Or.inr ⟨wr.heap.size, 0, rfl, ?_, fun i hi => ?_⟩⟩
        · intro h
          rcases h with h | h <;> omega
        · rw [Nat.zero_add]; exact hpad.cell i (by rw [pad_length]; exact hi)
      have hfl : fill T.length ≤ 64 := by unfold fill; omega
      go_wp2_with fail
      refine (add_any T (pad T.length) eb (eb + 1) (some ⟨wr.heap.size, 0, none⟩) (fill T.length + 8) (fill T.length + 8) _ (Nat.le_refl _) (by omega) (by omega) (HRt.out.below hb2) he0 (by omega) (by omega) hcut3 hsp).mono ?_
      rintro e w3 ⟨rfl, hcut4, hk4⟩
      have hE4 := hcut4.1
      rw [padded_length, Nat.mul_div_cancel_left _ (by omega)] at hE4
      have hK5 := (HK.out.trans hk2).trans hk4
      have hres5 := HRes.out.kept hK5 (by intro h; rcases h with h | h <;> omega)
      have hbel5 : Below w.heap.size w w3 := HBel.out.trans (hK5.toBelow HBel.out.size (by intro j hj h; rcases h with h | h <;> omega))
      have HE4 := Lib.hid hE4
      have HB5 := Lib.hid hbel5
      have HR5 := Lib.hid hres5
      clear hcut3 hsp hpad hb2 hcut4 hk4 hE4 hK5 hk2 hres5 hbel5 hfl
      go_wp2_with fail
      refine (digest_any _ eb _ HE4.out).mono ?_
      rintro e w4 ⟨rfl, hb4⟩
      have hres6 := HR5.out.below hb4 (by have := HR5.out.lt; exact this)
      have hbel6 : Below w.heap.size w w4 := HB5.out.trans (hb4.mono HB5.out.size)
      have HS : Hid (digest (eat H0 (T ++ pad T.length) ((T.length + 8) / 64 + 1)) = sum T) := rfl
      have HD := Lib.hid (digest_length (eat H0 (T ++ pad T.length) ((T.length + 8) / 64 + 1)))
      generalize digest (eat H0 (T ++ pad T.length) ((T.length + 8) / 64 + 1)) = D at *
      have HT : Hid ((Tryd.prog.info? 25).map (·.size) = some (ints .u8 D).size) := by
        show _ = _
        rw [ints_size, HD.out]; kernel_rfl
      have hst : Sem.run Tryd.prog (storeCells ⟨w.heap.size, 0, none⟩ (ints .u8 D).toList) w4 = .ok () (w4.setRow w.heap.size (ints .u8 D)) := by
        have := run_storeCells_from (P := Tryd.prog) w.heap.size 25 (ints .u8 D).toList 0 (ints .u8 (dg H0 0)) w4 hres6 (by simp [ints_size, HD.out, dg_length H0 0 (by omega)]) (ints_one _ _)
        simpa using this
      have hz : (ints .u8 D).size = 32 := by rw [ints_size, HD.out]
      have HB6 := Lib.hid hbel6
      have HR6 := Lib.hid hres6
      clear hbel6 hres6 hb4
      go_wp2_with fail
      clear hst hz
      have hrow := setRow_heap w4 w.heap.size (ints .u8 (dg H0 0)) (ints .u8 D) 25 (0, 0) HR6.out
      refine bodyPost_ret (v := .agg (ints .u8 D)) (results_cell_row (p := 2) (ty := 25) rfl _ _ w.heap.size 25 (ints .u8 D) (0, 0) _ rfl hrow Tryd.underlying25 rfl HT.out) rfl ⟨by rw [HS.out, HTe.out], HB6.out.trans (below_setRow _ _ _)⟩
end Sha
end Go.Proofs.YtodbfkifendniaaDoor
