/- Of: the tag of any parts under any key. -/
import Derived.Test.YtodbfkifendniaaDoorHmacW4
import Derived.Deep.RegionWith
namespace Go.Proofs.YtodbfkifendniaaDoor
open Go.ChangeShapes Go.WideShapes Go.ChangeAt Go.RowKit
namespace Sha
theorem store_block_new (W : World) (l : List Int) (hl : l.length = 64) : Sem.run Tryd.prog (storeCells ⟨W.heap.size, 0, none⟩ (ints .u8 l).toList) (W.alloc (.cells #[Value.int IntKind.u8 0, Value.int IntKind.u8 0, Value.int IntKind.u8 0, Value.int IntKind.u8 0, Value.int IntKind.u8 0, Value.int IntKind.u8 0, Value.int IntKind.u8 0, Value.int IntKind.u8 0, Value.int IntKind.u8 0, Value.int IntKind.u8 0, Value.int IntKind.u8 0, Value.int IntKind.u8 0, Value.int IntKind.u8 0, Value.int IntKind.u8 0, Value.int IntKind.u8 0, Value.int IntKind.u8 0, Value.int IntKind.u8 0, Value.int IntKind.u8 0, Value.int IntKind.u8 0, Value.int IntKind.u8 0, Value.int IntKind.u8 0, Value.int IntKind.u8 0, Value.int IntKind.u8 0, Value.int IntKind.u8 0, Value.int IntKind.u8 0, Value.int IntKind.u8 0, Value.int IntKind.u8 0, Value.int IntKind.u8 0, Value.int IntKind.u8 0, Value.int IntKind.u8 0, Value.int IntKind.u8 0, Value.int IntKind.u8 0, Value.int IntKind.u8 0, Value.int IntKind.u8 0, Value.int IntKind.u8 0, Value.int IntKind.u8 0, Value.int IntKind.u8 0, Value.int IntKind.u8 0, Value.int IntKind.u8 0, Value.int IntKind.u8 0, Value.int IntKind.u8 0, Value.int IntKind.u8 0, Value.int IntKind.u8 0, Value.int IntKind.u8 0, Value.int IntKind.u8 0, Value.int IntKind.u8 0, Value.int IntKind.u8 0, Value.int IntKind.u8 0, Value.int IntKind.u8 0, Value.int IntKind.u8 0, Value.int IntKind.u8 0, Value.int IntKind.u8 0, Value.int IntKind.u8 0, Value.int IntKind.u8 0, Value.int IntKind.u8 0, Value.int IntKind.u8 0, Value.int IntKind.u8 0, Value.int IntKind.u8 0, Value.int IntKind.u8 0, Value.int IntKind.u8 0, Value.int IntKind.u8 0, Value.int IntKind.u8 0, Value.int IntKind.u8 0, Value.int IntKind.u8 0] 41)) = .ok () (W.alloc (.cells (ints .u8 l) 41)) :=
  run_storeCells_new W 41 _ _ (by rw [ints_size, hl]; kernel_rfl) (by rw [ints_size, hl]; rfl) (ints_all _ _)
theorem store_result {W : World} {b : Nat} (l : List Int) (h : W.heap[b]? = some (.cells #[Value.int IntKind.u8 0, Value.int IntKind.u8 0, Value.int IntKind.u8 0, Value.int IntKind.u8 0, Value.int IntKind.u8 0, Value.int IntKind.u8 0, Value.int IntKind.u8 0, Value.int IntKind.u8 0, Value.int IntKind.u8 0, Value.int IntKind.u8 0, Value.int IntKind.u8 0, Value.int IntKind.u8 0, Value.int IntKind.u8 0, Value.int IntKind.u8 0, Value.int IntKind.u8 0, Value.int IntKind.u8 0, Value.int IntKind.u8 0, Value.int IntKind.u8 0, Value.int IntKind.u8 0, Value.int IntKind.u8 0, Value.int IntKind.u8 0, Value.int IntKind.u8 0, Value.int IntKind.u8 0, Value.int IntKind.u8 0, Value.int IntKind.u8 0, Value.int IntKind.u8 0, Value.int IntKind.u8 0, Value.int IntKind.u8 0, Value.int IntKind.u8 0, Value.int IntKind.u8 0, Value.int IntKind.u8 0, Value.int IntKind.u8 0] 25 (0, 0))) (hl : l.length = 32) :
    Sem.run Tryd.prog (storeCells ⟨b, 0, none⟩ (ints .u8 l).toList) W = .ok () (W.setRow b (ints .u8 l)) := by
  rw [← dg_zero H0] at h
  have := run_storeCells_from (P := Tryd.prog) b 25 (ints .u8 l).toList 0 (ints .u8 (dg H0 0)) W h (by simp [ints_size, hl, dg_length H0 0 (by omega)]) (ints_one _ _)
  simpa using this
theorem srow_int {w : World} {b n : Nat} {l : List Int} {t : TypeId} (h : IntRow w b .u8 l t) (hl : l.length = n) (hby : ∀ z ∈ l, 0 ≤ z ∧ z ≤ 255) : SRow (fun _ => False) w (some ⟨b, 0, none⟩) n l :=
  ⟨hl, hby, Or.inr ⟨b, 0, rfl, fun h => h, fun i hi => by rw [Nat.zero_add]; exact h.cell i (by omega)⟩⟩
theorem PRow.below' {w w' : World} {a : Option Addr} {n : Nat} {ps : List (List Int)} (h : PRow w a n ps) {B : Nat} (hb : Below B w w') (hB : w.heap.size ≤ B) : PRow w' a n ps := by
  obtain ⟨h1, h2⟩ := h
  refine ⟨h1, ?_⟩
  rcases h2 with h2 | ⟨b, off, rfl, hc⟩
  · exact Or.inl h2
  · refine Or.inr ⟨b, off, rfl, fun i hi => ?_⟩
    obtain ⟨a', m, c, q1, q2, q3, q4⟩ := hc i hi
    refine ⟨a', m, c, ?_, q2, q3, q4.below' hb hB⟩
    rw [hb.cell (p := ⟨b, off + i, none⟩) (Nat.lt_of_lt_of_le (World.block_lt_of_cell? _ _ q1) hB)]; exact q1

set_option maxRecDepth 100000 in
set_option maxHeartbeats 2000000 in
theorem of_any (key : List Int) (ps : List (List Int)) (a pa : Option Addr) (n cap pn pc : Nat) (w : World) (hr : Roots w) (hs : SRow (fun _ => False) w a n key) (hc : n ≤ cap) (hcap : cap ≤ 9223372036854775807) (hn : n ≤ 900000000)
    (hp : PRow w pa pn ps) (hpn : pn ≤ 100000000) (hl : ps.flatten.length ≤ 800000000) :
    Calls Tryd.prog 13 #[.slice a n cap, .slice pa pn pc] w fun e w' => e = .returned (.agg (ints .u8 (tag key ps.flatten))) ∧ Below w.heap.size w w' := by
  have HR := Lib.hid hr
  have HS := Lib.hid hs
  have HP := Lib.hid hp
  have hb0 : Below w.heap.size w (w.alloc (.cells #[Value.int IntKind.u8 0, Value.int IntKind.u8 0, Value.int IntKind.u8 0, Value.int IntKind.u8 0, Value.int IntKind.u8 0, Value.int IntKind.u8 0, Value.int IntKind.u8 0, Value.int IntKind.u8 0, Value.int IntKind.u8 0, Value.int IntKind.u8 0, Value.int IntKind.u8 0, Value.int IntKind.u8 0, Value.int IntKind.u8 0, Value.int IntKind.u8 0, Value.int IntKind.u8 0, Value.int IntKind.u8 0, Value.int IntKind.u8 0, Value.int IntKind.u8 0, Value.int IntKind.u8 0, Value.int IntKind.u8 0, Value.int IntKind.u8 0, Value.int IntKind.u8 0, Value.int IntKind.u8 0, Value.int IntKind.u8 0, Value.int IntKind.u8 0, Value.int IntKind.u8 0, Value.int IntKind.u8 0, Value.int IntKind.u8 0, Value.int IntKind.u8 0, Value.int IntKind.u8 0, Value.int IntKind.u8 0, Value.int IntKind.u8 0] 25)) := (Below.refl _ _).alloc (Nat.le_refl _) _
  have HBk := Lib.hid (kb_byte key hs.2.1)
  clear hr hs hp
  go_enter Tryd.func13, Tryd.ntmps13
  go_wp2_with fail
  refine (keyBlock_any key a n cap _ (HR.out.below hb0) (HS.out.below' hb0 (Nat.le_refl _)) hc hcap hn).mono ?_
  rintro e w1 ⟨rfl, hb1⟩
  have hst1 := store_block_new w1 (kb key) (kb_length _)
  have hz1 : (ints .u8 (kb key)).size = 64 := by rw [ints_size, kb_length]
  go_wp2_with fail
  have hr0 : w1.heap[w.heap.size]? = some (.cells #[Value.int IntKind.u8 0, Value.int IntKind.u8 0, Value.int IntKind.u8 0, Value.int IntKind.u8 0, Value.int IntKind.u8 0, Value.int IntKind.u8 0, Value.int IntKind.u8 0, Value.int IntKind.u8 0, Value.int IntKind.u8 0, Value.int IntKind.u8 0, Value.int IntKind.u8 0, Value.int IntKind.u8 0, Value.int IntKind.u8 0, Value.int IntKind.u8 0, Value.int IntKind.u8 0, Value.int IntKind.u8 0, Value.int IntKind.u8 0, Value.int IntKind.u8 0, Value.int IntKind.u8 0, Value.int IntKind.u8 0, Value.int IntKind.u8 0, Value.int IntKind.u8 0, Value.int IntKind.u8 0, Value.int IntKind.u8 0, Value.int IntKind.u8 0, Value.int IntKind.u8 0, Value.int IntKind.u8 0, Value.int IntKind.u8 0, Value.int IntKind.u8 0, Value.int IntKind.u8 0, Value.int IntKind.u8 0, Value.int IntKind.u8 0] 25 (0, 0)) := by rw [hb1.block _ (by simp)]; exact heap_alloc_new _ _
  have hbw1 : Below w.heap.size w w1 := hb0.trans (hb1.mono (by simp))
  clear hb1 hst1 hz1 hb0
  have hk : (w1.alloc (.cells (ints .u8 (kb key)) 41)).heap[w1.heap.size]? = some (.cells (ints .u8 (kb key)) 41 (0, 0)) := heap_alloc_new _ _
  have hr1 : (w1.alloc (.cells (ints .u8 (kb key)) 41)).heap[w.heap.size]? = some (.cells #[Value.int IntKind.u8 0, Value.int IntKind.u8 0, Value.int IntKind.u8 0, Value.int IntKind.u8 0, Value.int IntKind.u8 0, Value.int IntKind.u8 0, Value.int IntKind.u8 0, Value.int IntKind.u8 0, Value.int IntKind.u8 0, Value.int IntKind.u8 0, Value.int IntKind.u8 0, Value.int IntKind.u8 0, Value.int IntKind.u8 0, Value.int IntKind.u8 0, Value.int IntKind.u8 0, Value.int IntKind.u8 0, Value.int IntKind.u8 0, Value.int IntKind.u8 0, Value.int IntKind.u8 0, Value.int IntKind.u8 0, Value.int IntKind.u8 0, Value.int IntKind.u8 0, Value.int IntKind.u8 0, Value.int IntKind.u8 0, Value.int IntKind.u8 0, Value.int IntKind.u8 0, Value.int IntKind.u8 0, Value.int IntKind.u8 0, Value.int IntKind.u8 0, Value.int IntKind.u8 0, Value.int IntKind.u8 0, Value.int IntKind.u8 0] 25 (0, 0)) := (Below.heap_alloc _ _ _ (lt_of_block hr0)).trans hr0
  have hbW : Below w.heap.size w (w1.alloc (.cells (ints .u8 (kb key)) 41)) := hbw1.alloc hbw1.size _
  have hkl := lt_of_block hk
  generalize w1.alloc (.cells (ints .u8 (kb key)) 41) = W at *
  generalize w1.heap.size = kk at *
  clear hr0 hbw1
  refine (turned_any (kb key) 54 kk _ (kb_length _) HBk.out hk).mono ?_
  rintro e w2 ⟨rfl, hrow2, hb2⟩
  have hk2 := (hb2.block _ hkl).trans hk
  have hr2 := (hb2.block _ (lt_of_block hr1)).trans hr1
  have hbw2 : Below w.heap.size w w2 := hbW.trans (hb2.mono hbW.size)
  have hs2 := srow_int hrow2 (by rw [turnB_length, kb_length]) (turnB_byte _ _)
  have hl2 := hrow2.lt
  have HK2 := Lib.hid hk2
  have HR2 := Lib.hid hr2
  have HB2 := Lib.hid hbw2
  have HS2 := Lib.hid hs2
  clear hk hr1 hbW hk2 hr2 hbw2 hs2 hrow2 hb2
  generalize W.heap.size = gt at *
  go_wp2_with fail
  have hb3 : Below w2.heap.size w2 ((w2.alloc (.cells #[.slice (some ⟨gt, 0, none⟩) 64 64] 22)).alloc (.cells #[.slice (some ⟨w2.heap.size, 0, none⟩) 1 1, .slice pa pn pc] 35)) := ((Below.refl _ _).alloc (Nat.le_refl _) _).alloc (by simp) _
  have hbw3 : Below w.heap.size w ((w2.alloc (.cells #[.slice (some ⟨gt, 0, none⟩) 64 64] 22)).alloc (.cells #[.slice (some ⟨w2.heap.size, 0, none⟩) 1 1, .slice pa pn pc] 35)) := HB2.out.trans (hb3.mono HB2.out.size)
  have e0 : ((w2.alloc (.cells #[.slice (some ⟨gt, 0, none⟩) 64 64] 22)).alloc (.cells #[.slice (some ⟨w2.heap.size, 0, none⟩) 1 1, .slice pa pn pc] 35)).heap[w2.heap.size + 1]? = some (.cells #[.slice (some ⟨w2.heap.size, 0, none⟩) 1 1, .slice pa pn pc] 35 (0, 0)) := heap_alloc2_new _ _ _
  have e1 : ((w2.alloc (.cells #[.slice (some ⟨gt, 0, none⟩) 64 64] 22)).alloc (.cells #[.slice (some ⟨w2.heap.size, 0, none⟩) 1 1, .slice pa pn pc] 35)).heap[w2.heap.size]? = some (.cells #[.slice (some ⟨gt, 0, none⟩) 64 64] 22 (0, 0)) := heap_alloc2_old _ _ _
  refine (concat_any (w2.heap.size + 1) w2.heap.size gt pn pc pa (turnB (kb key) 54) ps _ hpn (by rw [cell_of_row _ _ _ _ _ _ e0]; rfl) (by rw [cell_of_row _ _ _ _ _ _ e0]; rfl) (by rw [cell_of_row _ _ _ _ _ _ e1]; rfl) (HS2.out.below' hb3 (Nat.le_refl _)) (HP.out.below' hbw3 (Nat.le_refl _))).mono ?_
  rintro e w3 ⟨g3, cap3, rfl, hp3, hb4⟩
  have hbb : Below w2.heap.size w2 w3 := hb3.trans (hb4.mono (by simp; omega))
  have hbw4 : Below w.heap.size w w3 := HB2.out.trans (hbb.mono HB2.out.size)
  clear hb3 hbw3 e0 e1 hb4
  go_wp2_with fail
  refine (sum_any (turnB (kb key) 54 :: ps) _ (1 + pn) cap3 _ (by omega) (by have := turnB_length (kb key) 54; have := kb_length key; simp only [List.flatten_cons, List.length_append]; omega) (HR.out.below hbw4) hp3).mono ?_
  rintro e w4 ⟨rfl, hb5⟩
  rw [show (turnB (kb key) 54 :: ps).flatten = turnB (kb key) 54 ++ ps.flatten from by simp]
  obtain ⟨I, hI⟩ : ∃ I, I = turnB (kb key) 54 ++ ps.flatten := ⟨_, rfl⟩
  rw [← hI]
  have HI := Lib.hid hI
  clear hI
  have hbb5 : Below w2.heap.size w2 w4 := hbb.trans (hb5.mono hbb.size)
  have hst2 := store_digest_new w4 I
  have hz2 := sum_size I
  have hbA : Below w2.heap.size w2 (w4.alloc (.cells (ints .u8 (sum I)) 25)) := hbb5.alloc hbb5.size _
  have HKa := Lib.hid ((hbA.block _ (lt_of_block HK2.out)).trans HK2.out)
  have HRa := Lib.hid ((hbA.block _ (lt_of_block HR2.out)).trans HR2.out)
  have HBa := Lib.hid (HB2.out.trans (hbA.mono HB2.out.size))
  have HDa := Lib.hid (heap_alloc_new w4 (.cells (ints .u8 (sum I)) 25))
  have hlD : w4.heap.size < (w4.alloc (.cells (ints .u8 (sum I)) 25)).heap.size := by simp
  clear hbb hbw4 hp3 hb5 hbb5 hbA HS2 HK2 HR2 HB2
  go_wp2_with fail
  clear hst2 hz2
  generalize w4.alloc (.cells (ints .u8 (sum I)) 25) = V at *
  generalize w4.heap.size = dd at *
  have T92 : Calls Tryd.prog 24 #[.int .u8 92, .pointer (some ⟨kk, 0, none⟩)] V.drew fun e w' => e = .returned (.slice (some ⟨V.heap.size, 0, none⟩) 64 64) ∧ SRow (fun _ => False) w' (some ⟨V.heap.size, 0, none⟩) 64 (turnB (kb key) 92) ∧ Below V.heap.size V w' := by
    refine (turned_any (kb key) 92 kk V.drew (kb_length _) HBk.out HKa.out).mono ?_
    rintro e w' ⟨rfl, hrow, hb⟩
    exact ⟨rfl, srow_int hrow (by rw [turnB_length, kb_length]) (turnB_byte _ _), (Below.refl _ _).drew.trans hb⟩
  have SumC : ∀ w' : World, SRow (fun _ => False) w' (some ⟨V.heap.size, 0, none⟩) 64 (turnB (kb key) 92) → Below V.heap.size V w' → Calls Tryd.prog 11 #[.slice (some ⟨w'.heap.size, 0, none⟩) 2 2] (w'.alloc (.cells #[.slice (some ⟨V.heap.size, 0, none⟩) 64 64, .slice (some ⟨dd, 0, none⟩) 32 32] 22)) fun e w'' => e = .returned (.agg (ints .u8 (tag key ps.flatten))) ∧ Below V.heap.size V w'' := by
    intro w' hs hb
    have hb1 : Below V.heap.size V (w'.alloc (.cells #[.slice (some ⟨V.heap.size, 0, none⟩) 64 64, .slice (some ⟨dd, 0, none⟩) 32 32] 22)) := hb.alloc hb.size _
    have hD : SRow (fun _ => False) V (some ⟨dd, 0, none⟩) 32 (sum I) := srow_int (t := 25) HDa.out (sum_length _) (sum_byte _)
    refine (sum_any [turnB (kb key) 92, sum I] _ 2 2 _ (by omega) (by have := turnB_length (kb key) 92; have := kb_length key; have := sum_length I; simp only [List.flatten_cons, List.flatten_nil, List.length_append, List.length_nil]; omega) ((HR.out.below HBa.out).below hb1) (prow_two w' _ _ 64 64 32 32 _ _ 22 (0, 0) (by omega) (by omega) (by omega) (by omega) hs (hD.below' hb (Nat.le_refl _)))).mono ?_
    rintro e w'' ⟨rfl, hb2⟩
    refine ⟨?_, hb1.trans (hb2.mono hb1.size)⟩
    rw [show ([turnB (kb key) 92, sum I] : List (List Int)).flatten = turnB (kb key) 92 ++ sum I from by simp, HI.out]
    rfl
  have HT := Lib.hid T92
  have HC := Lib.hid SumC
  have hz := sum_size (turnB (kb key) 92 ++ sum I)
  have htag : sum (turnB (kb key) 92 ++ sum I) = tag key ps.flatten := by rw [HI.out]; rfl
  rw [htag] at hz
  have HTy := Lib.hid (sized32 (tag key ps.flatten) (tag_length _ _))
  have HTl := Lib.hid (tag_length key ps.flatten)
  clear T92 SumC htag
  obtain ⟨tg, htg⟩ : ∃ tg, tg = tag key ps.flatten := ⟨_, rfl⟩
  rw [← htg] at HC hz HTy HTl
  have HTg := Lib.hid htg
  clear htg
  have hsl : ∀ X : World, (Instr.sliceAt 25 (.pointer (some ⟨dd, 0, none⟩)) none none none).run Tryd.prog X = .ok (.slice (some ⟨dd, 0, none⟩) 32 32) X := fun X => by kernel_rfl
  go_region_with (first
    | (go_at_call 24; with_reducible refine HT.out.mono ?_; rintro e w5 ⟨rfl, hs5, hb5⟩; have HS5 := Lib.hid hs5; have HB5 := Lib.hid hb5; clear hs5 hb5)
    | (go_at_call 11; with_reducible refine (HC.out _ HS5.out HB5.out).mono ?_; rintro e w6 ⟨rfl, hb6⟩; have HB6 := Lib.hid hb6; have hst := store_result tg ((hb6.block _ (lt_of_block HRa.out)).trans HRa.out) HTl.out; clear hb6))
  go_wp2_with fail
  have hrow := setRow_heap w6 w.heap.size _ (ints .u8 tg) 25 (0, 0) ((HB6.out.block _ (lt_of_block HRa.out)).trans HRa.out)
  exact bodyPost_ret (v := .agg (ints .u8 tg)) (results_cell_row (p := 4) (ty := 25) rfl _ _ w.heap.size 25 (ints .u8 tg) (0, 0) _ rfl hrow Tryd.underlying25 rfl HTy.out) rfl ⟨by rw [HTg.out], (HBa.out.trans (HB6.out.mono HBa.out.size)).trans (below_setRow _ _ _)⟩
end Sha
end Go.Proofs.YtodbfkifendniaaDoor
