/- The document's own answer: the tag. -/
import Derived.Test.YtodbfkifendniaaDoorHmacR1
import Derived.Deep.RegionLaw
namespace Go.Proofs.YtodbfkifendniaaDoor
open Go.ChangeShapes Go.WideShapes Go.ChangeAt Go.RowKit
namespace Sha
/-- an append whose run is known, as one step of a region that draws its order -/
theorem step_append_run {P : Program} {ops : Array Oper} {o : Oper} {a : Act} {w : World} {K : Act → World → Prop} {Q : Exit → Act → World → Prop} {E : Prop} (hgd : o.guard = none) (s x : Operand) (t t' : TypeId)
    (ho : o.op = .call { callee := .builtin .append, args := #[s, x], argTypes := #[t, t'] }) (vs vx v : Value) (w1 : World) (ty : TypeId) (hty : o.type = ty) (hs : a.eval s = vs) (hx : a.eval x = vx) (hrun : (Builtin.append_ #[t, t'] ty #[vs, vx]).run P w = .ok v w1)
    (h : K (a.put o.dst v) w1) : if Region.wanted o (yielded ops a.tmps) = true then Oper.wp P o a w K Q else E := by
  have hw : Region.wanted o (yielded ops a.tmps) = true := by simp [Region.wanted, hgd]
  rw [if_pos hw]
  subst hty
  unfold Oper.wp
  simp only [execOp, ho, resolve, invoke, builtin, Sem.run_bind, Sem.run_pure, Result.andThen_ok, List.map_toArray, List.map_cons, List.map_nil, hs, hx, hrun]
  exact h

set_option maxRecDepth 100000 in
set_option maxHeartbeats 2000000 in
theorem rof_any (key text : List Int) (a ta : Option Addr) (n cap m tc : Nat) (w : World) (hn : n ≤ 10000) (hm : m ≤ 10000) (hnil : a = none → cap = 0) (hk : SRow (fun _ => False) w a n key) (ht : SRow (fun _ => False) w ta m text) :
    Calls Tryd.prog 14 #[.slice a n cap, .slice ta m tc] w fun e w' => e = .returned (.agg (ints .u8 (tag key text))) ∧ Below w.heap.size w w' := by
  have HK := Lib.hid hk
  have HT := Lib.hid ht
  have HNil := Lib.hid hnil
  clear hk ht hnil
  have hb0 : Below w.heap.size w (w.alloc (.cells #[Value.int IntKind.u8 0, Value.int IntKind.u8 0, Value.int IntKind.u8 0, Value.int IntKind.u8 0, Value.int IntKind.u8 0, Value.int IntKind.u8 0, Value.int IntKind.u8 0, Value.int IntKind.u8 0, Value.int IntKind.u8 0, Value.int IntKind.u8 0, Value.int IntKind.u8 0, Value.int IntKind.u8 0, Value.int IntKind.u8 0, Value.int IntKind.u8 0, Value.int IntKind.u8 0, Value.int IntKind.u8 0, Value.int IntKind.u8 0, Value.int IntKind.u8 0, Value.int IntKind.u8 0, Value.int IntKind.u8 0, Value.int IntKind.u8 0, Value.int IntKind.u8 0, Value.int IntKind.u8 0, Value.int IntKind.u8 0, Value.int IntKind.u8 0, Value.int IntKind.u8 0, Value.int IntKind.u8 0, Value.int IntKind.u8 0, Value.int IntKind.u8 0, Value.int IntKind.u8 0, Value.int IntKind.u8 0, Value.int IntKind.u8 0] 25)) := (Below.refl _ _).alloc (Nat.le_refl _) _
  go_enter Tryd.func14, Tryd.ntmps14
  go_wp2_with fail
  refine (rkey_any key 54 a n cap _ (by omega) (by omega) HNil.out (HK.out.below' hb0 (Nat.le_refl _))).mono ?_
  rintro e w2 ⟨g2, c2, rfl, hO2, hb2⟩
  have hbw2 : Below w.heap.size w w2 := hb0.trans (hb2.mono (by simp))
  have hr2 : w2.heap[w.heap.size]? = some (.cells #[Value.int IntKind.u8 0, Value.int IntKind.u8 0, Value.int IntKind.u8 0, Value.int IntKind.u8 0, Value.int IntKind.u8 0, Value.int IntKind.u8 0, Value.int IntKind.u8 0, Value.int IntKind.u8 0, Value.int IntKind.u8 0, Value.int IntKind.u8 0, Value.int IntKind.u8 0, Value.int IntKind.u8 0, Value.int IntKind.u8 0, Value.int IntKind.u8 0, Value.int IntKind.u8 0, Value.int IntKind.u8 0, Value.int IntKind.u8 0, Value.int IntKind.u8 0, Value.int IntKind.u8 0, Value.int IntKind.u8 0, Value.int IntKind.u8 0, Value.int IntKind.u8 0, Value.int IntKind.u8 0, Value.int IntKind.u8 0, Value.int IntKind.u8 0, Value.int IntKind.u8 0, Value.int IntKind.u8 0, Value.int IntKind.u8 0, Value.int IntKind.u8 0, Value.int IntKind.u8 0, Value.int IntKind.u8 0, Value.int IntKind.u8 0] 25 (0, 0)) := by rw [hb2.block _ (by simp)]; exact heap_alloc_new _ _
  obtain ⟨g3, c3, w3, hrun3, hO3, hb3⟩ := app_bytes (c := tc) hO2 (HT.out.below' hbw2 (Nat.le_refl _)) (by omega) hb2.size
  have hr3 : w3.heap[w.heap.size]? = some (.cells #[Value.int IntKind.u8 0, Value.int IntKind.u8 0, Value.int IntKind.u8 0, Value.int IntKind.u8 0, Value.int IntKind.u8 0, Value.int IntKind.u8 0, Value.int IntKind.u8 0, Value.int IntKind.u8 0, Value.int IntKind.u8 0, Value.int IntKind.u8 0, Value.int IntKind.u8 0, Value.int IntKind.u8 0, Value.int IntKind.u8 0, Value.int IntKind.u8 0, Value.int IntKind.u8 0, Value.int IntKind.u8 0, Value.int IntKind.u8 0, Value.int IntKind.u8 0, Value.int IntKind.u8 0, Value.int IntKind.u8 0, Value.int IntKind.u8 0, Value.int IntKind.u8 0, Value.int IntKind.u8 0, Value.int IntKind.u8 0, Value.int IntKind.u8 0, Value.int IntKind.u8 0, Value.int IntKind.u8 0, Value.int IntKind.u8 0, Value.int IntKind.u8 0, Value.int IntKind.u8 0, Value.int IntKind.u8 0, Value.int IntKind.u8 0] 25 (0, 0)) := by rw [hb3.block _ (by simp)]; exact hr2
  have hbw3 : Below w.heap.size w w3 := hbw2.trans (hb3.mono (by simp))
  have hIb : ∀ z ∈ turnB (kb key) 54 ++ text, 0 ≤ z ∧ z ≤ 255 := by
    intro z hz
    rcases List.mem_append.1 hz with h | h
    · exact turnB_byte _ _ z h
    · exact HT.out.2.1 z h
  have HS3 := Lib.hid (srow_of_own hO3 hIb)
  have HR3 := Lib.hid hr3
  have HB3 := Lib.hid hbw3
  clear hb0 hO2 hb2 hbw2 hr2 hO3 hb3 hr3 hbw3 hIb
  go_wp2_with (at_builtin; refine wpList_append_run rfl (.tmp 7) (.tmp 8) 22 22 rfl _ _ _ w3 22 rfl rfl rfl hrun3 ?_)
  clear hrun3
  refine (rsum_any (turnB (kb key) 54 ++ text) _ (64 + m) c3 w3 (by omega) (fun h => by cases h) HS3.out).mono ?_
  rintro e w4 ⟨rfl, hb4⟩
  obtain ⟨I, hI⟩ : ∃ I, I = turnB (kb key) 54 ++ text := ⟨_, rfl⟩
  rw [← hI]
  have HI := Lib.hid hI
  clear hI
  have hst := store_digest_new w4 I
  have hz := sum_size I
  have hbA : Below w3.heap.size w3 (w4.alloc (.cells (ints .u8 (sum I)) 25)) := B_alloc hb4 _
  have HRV := Lib.hid (R_below hbA HR3.out)
  have HBV := Lib.hid (HB3.out.trans (hbA.mono HB3.out.size))
  have HDV := Lib.hid (heap_alloc_new w4 (.cells (ints .u8 (sum I)) 25))
  clear hb4 hbA HS3 HR3 HB3
  go_wp2_with fail
  clear hst hz
  generalize w4.alloc (.cells (ints .u8 (sum I)) 25) = V at *
  generalize w4.heap.size = dd at *
  have HB92 : Hid (Calls Tryd.prog 27 #[.slice a n cap, .int .u8 92] V.drew (BlockPost key 92 V)) := by
    refine (rkey_any key 92 a n cap V.drew (by omega) (by omega) HNil.out (HK.out.below' (B_drew HBV.out) (Nat.le_refl _))).mono ?_
    rintro e w' ⟨g, c, rfl, hO, hb⟩
    exact ⟨g, c, rfl, hO, (Below.refl _ _).drew.trans hb⟩
  have HApp : Hid (∀ (X : World) (g c : Nat), Own X V.heap.size g 64 c (turnB (kb key) 92) → Below V.heap.size V X → ∃ g' c' Y, (Builtin.append_ #[22, 22] 22 #[.slice (some ⟨g, 0, none⟩) 64 c, .slice (some ⟨dd, 0, none⟩) 32 32]).run Tryd.prog X = .ok (.slice (some ⟨g', 0, none⟩) 96 c') Y ∧ SRow (fun _ => False) Y (some ⟨g', 0, none⟩) 96 (turnB (kb key) 92 ++ sum I) ∧ Below V.heap.size V Y) := by
    intro X g c hO hX
    have hD : SRow (fun _ => False) V (some ⟨dd, 0, none⟩) 32 (sum I) := srow_int (t := 25) HDV.out (sum_length _) (sum_byte _)
    obtain ⟨g', c', Y, h1, h2, h3⟩ := app_bytes (c := 32) hO (hD.below' hX (Nat.le_refl _)) (by omega) hX.size
    exact ⟨g', c', Y, h1, srow_of_own h2 (by
      intro z hz
      rcases List.mem_append.1 hz with h | h
      · exact turnB_byte _ _ z h
      · exact sum_byte _ z h), hX.trans h3⟩
  obtain ⟨tg, htg⟩ : ∃ tg, tg = tag key text := ⟨_, rfl⟩
  have HTg := Lib.hid htg
  have HTs : Hid (sum (turnB (kb key) 92 ++ sum I) = tg) := by show _ = _; rw [htg, HI.out]; rfl
  have HTl : Hid (tg.length = 32) := by show _ = _; rw [htg, tag_length]
  have hz : (ints .u8 tg).size = 32 := by rw [ints_size, HTl.out]
  have HTy := Lib.hid (sized32 tg HTl.out)
  clear htg
  go_region_law (first
    | (refine step_append_run rfl (.tmp 12) (.tmp 13) 22 22 rfl _ _ _ w7 22 rfl rfl rfl hrun7 ?_; clear hrun7)
    | (go_simp; go_at_call 27; refine HB92.out.mono ?_; rintro e w6 ⟨g6, c6, rfl, hO6, hb6⟩; obtain ⟨g7, c7, w7, hrun7, hS7, hb7⟩ := HApp.out _ _ _ hO6 hb6; have HS7 := Lib.hid hS7; have HB7 := Lib.hid hb7; clear hO6 hb6 hS7 hb7)
    | (go_simp; go_at_call 26; refine (rsum_any _ _ 96 _ _ (by omega) (fun h => by cases h) HS7.out).mono ?_; rintro e w8 ⟨rfl, hb8⟩; rw [HTs.out]; have HB8 := Lib.hid (HB7.out.trans (hb8.mono HB7.out.size)); have hst := store_result tg (R_below HB8.out HRV.out) HTl.out; clear hb8))
  go_wp2_with fail
  have hrow := setRow_heap w8 w.heap.size _ (ints .u8 tg) 25 (0, 0) (R_below HB8.out HRV.out)
  exact bodyPost_ret (v := .agg (ints .u8 tg)) (results_cell_row (p := 4) (ty := 25) rfl _ _ w.heap.size 25 (ints .u8 tg) (0, 0) _ rfl hrow Tryd.underlying25 rfl HTy.out) rfl ⟨by rw [HTg.out], (HBV.out.trans (HB8.out.mono HBV.out.size)).trans (below_setRow _ _ _)⟩
end Sha
end Go.Proofs.YtodbfkifendniaaDoor
