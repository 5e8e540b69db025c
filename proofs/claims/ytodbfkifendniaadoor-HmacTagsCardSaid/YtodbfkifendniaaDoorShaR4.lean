/- The document's own answer: the sum. -/
import Derived.Test.YtodbfkifendniaaDoorShaR3
namespace Go.Proofs.YtodbfkifendniaaDoor
open Go.ChangeShapes Go.WideShapes Go.ChangeAt Go.RowKit
namespace Sha
theorem eat_block (s : S) (P : List Int) (k : Nat) : eat s P (k + 1) = block (eat s P k) ((P.drop (64 * k)).take 64) := rfl
theorem be4 (x : W) : be 4 x.toNat = [U x / 16777216, U x / 65536 % 256, U x / 256 % 256, U x % 256] := by
  have h := x.isLt
  have e1 : ((x.toNat / 16777216 % 256 : Nat) : Int) = U x / 16777216 := by unfold U; omega
  have e2 : ((x.toNat / 65536 % 256 : Nat) : Int) = U x / 65536 % 256 := by unfold U; omega
  have e3 : ((x.toNat / 256 % 256 : Nat) : Int) = U x / 256 % 256 := by unfold U; omega
  have e4 : ((x.toNat / 1 % 256 : Nat) : Int) = U x % 256 := by unfold U; omega
  rw [← e1, ← e2, ← e3, ← e4]; rfl
theorem dig_lits (r : S) : (#[.int .u8 (U r.a / 16777216), .int .u8 (U r.a / 65536 % 256), .int .u8 (U r.a / 256 % 256), .int .u8 (U r.a % 256), .int .u8 (U r.b / 16777216), .int .u8 (U r.b / 65536 % 256), .int .u8 (U r.b / 256 % 256), .int .u8 (U r.b % 256), .int .u8 (U r.c / 16777216), .int .u8 (U r.c / 65536 % 256), .int .u8 (U r.c / 256 % 256), .int .u8 (U r.c % 256), .int .u8 (U r.d / 16777216), .int .u8 (U r.d / 65536 % 256), .int .u8 (U r.d / 256 % 256), .int .u8 (U r.d % 256), .int .u8 (U r.e / 16777216), .int .u8 (U r.e / 65536 % 256), .int .u8 (U r.e / 256 % 256), .int .u8 (U r.e % 256), .int .u8 (U r.f / 16777216), .int .u8 (U r.f / 65536 % 256), .int .u8 (U r.f / 256 % 256), .int .u8 (U r.f % 256), .int .u8 (U r.g / 16777216), .int .u8 (U r.g / 65536 % 256), .int .u8 (U r.g / 256 % 256), .int .u8 (U r.g % 256), .int .u8 (U r.h / 16777216), .int .u8 (U r.h / 65536 % 256), .int .u8 (U r.h / 256 % 256), .int .u8 (U r.h % 256)] : Array Value) = ints .u8 (digest r) := by
  unfold digest
  simp only [S.all, List.flatMap_cons, List.flatMap_nil, be4]
  rfl
theorem slice_bytes (W : World) (g L cap lo hi : Nat) (a b : Int) (ha : a = lo) (hb : b = hi) (h1 : lo ≤ hi) (h2 : hi ≤ cap) (h3 : lo < cap) :
    (Instr.slice 22 (.slice (some ⟨g, 0, none⟩) L cap) (some (.int .i64 a)) (some (.int .i64 b)) none).run Tryd.prog W = .ok (.slice (some ⟨g, lo, none⟩) (hi - lo) (cap - lo)) W := by
  subst ha; subst hb
  have ht : Tryd.prog.underlying 22 = some (.slice (Tryd.prog.elem 22)) := by kernel_rfl
  have hs : (sizeOf (Tryd.prog.elem 22)).run Tryd.prog W = .ok 1 W := by kernel_rfl
  rw [run_slice_lh W 22 _ L cap ht .i64 .i64 (lo : Int) (hi : Int) (by omega) (by omega) (by omega), hs]
  simp [Result.andThen, sliced, Addr.add, show ¬ cap = lo from by omega]
  omega
theorem store_eight {w w' : World} {b : Nat} {l : List Int} (hr : IntRow w b .u32 l 37) {B : Nat} (hb : Below B w w') (hlt : b < B) (hl : l.length = 8) (r : S) :
    Sem.run Tryd.prog (storeCells ⟨b, 0, none⟩ (ints .u32 (r.all.map U)).toList) w' = .ok () (w'.setRow b (ints .u32 (r.all.map U))) := by
  have := run_storeCells_from (P := Tryd.prog) b 37 (ints .u32 (r.all.map U)).toList 0 (ints .u32 l) w' (hr.below hb hlt) (by simp [ints_size, S.all, hl]) (ints_one _ _)
  simpa [ints_size, hl, S.all] using this

set_option maxRecDepth 100000 in
set_option maxHeartbeats 2000000 in
theorem rsum_any (l : List Int) (a : Option Addr) (n cap : Nat) (w : World) (hn : n ≤ 100000) (hnil : a = none → cap = 0) (hrow : SRow (fun _ => False) w a n l) :
    Calls Tryd.prog 26 #[.slice a n cap] w fun e w' => e = .returned (.agg (ints .u8 (sum l))) ∧ Below w.heap.size w w' := by
  have HRow := Lib.hid hrow
  have HNil := Lib.hid hnil
  have HL := Lib.hid hrow.1
  clear hrow hnil
  go_enter Tryd.func26, Tryd.ntmps26
  go_wp2_with fail
  have hA : Below w.heap.size w ((w.alloc (.cells #[Value.int IntKind.u8 0, Value.int IntKind.u8 0, Value.int IntKind.u8 0, Value.int IntKind.u8 0, Value.int IntKind.u8 0, Value.int IntKind.u8 0, Value.int IntKind.u8 0, Value.int IntKind.u8 0, Value.int IntKind.u8 0, Value.int IntKind.u8 0, Value.int IntKind.u8 0, Value.int IntKind.u8 0, Value.int IntKind.u8 0, Value.int IntKind.u8 0, Value.int IntKind.u8 0, Value.int IntKind.u8 0, Value.int IntKind.u8 0, Value.int IntKind.u8 0, Value.int IntKind.u8 0, Value.int IntKind.u8 0, Value.int IntKind.u8 0, Value.int IntKind.u8 0, Value.int IntKind.u8 0, Value.int IntKind.u8 0, Value.int IntKind.u8 0, Value.int IntKind.u8 0, Value.int IntKind.u8 0, Value.int IntKind.u8 0, Value.int IntKind.u8 0, Value.int IntKind.u8 0, Value.int IntKind.u8 0, Value.int IntKind.u8 0] 25)).alloc (.cells #[.int .u32 1779033703, .int .u32 3144134277, .int .u32 1013904242, .int .u32 2773480762, .int .u32 1359893119, .int .u32 2600822924, .int .u32 528734635, .int .u32 1541459225] 37)) := ((Below.refl _ _).alloc (Nat.le_refl _) _).alloc (by simp) _
  refine (padded_any l a n cap _ hn HNil.out (HRow.out.below hA (Nat.le_refl _))).mono ?_
  rintro e w1 ⟨g, cap1, rfl, hcap1, hg1, hS, hb1⟩
  have hs1 := hb1.size
  simp at hs1
  have hg2 : w.heap.size + 2 ≤ g := by simpa using hg1
  clear hg1
  have hnbb : (l.length + 8) / 64 + 1 ≤ 2000 := by have := HL.out; omega
  have hR0 : IntRow w1 w.heap.size .u8 (dg H0 0) 25 := by
    refine IntRow.below (w := (w.alloc (.cells #[Value.int IntKind.u8 0, Value.int IntKind.u8 0, Value.int IntKind.u8 0, Value.int IntKind.u8 0, Value.int IntKind.u8 0, Value.int IntKind.u8 0, Value.int IntKind.u8 0, Value.int IntKind.u8 0, Value.int IntKind.u8 0, Value.int IntKind.u8 0, Value.int IntKind.u8 0, Value.int IntKind.u8 0, Value.int IntKind.u8 0, Value.int IntKind.u8 0, Value.int IntKind.u8 0, Value.int IntKind.u8 0, Value.int IntKind.u8 0, Value.int IntKind.u8 0, Value.int IntKind.u8 0, Value.int IntKind.u8 0, Value.int IntKind.u8 0, Value.int IntKind.u8 0, Value.int IntKind.u8 0, Value.int IntKind.u8 0, Value.int IntKind.u8 0, Value.int IntKind.u8 0, Value.int IntKind.u8 0, Value.int IntKind.u8 0, Value.int IntKind.u8 0, Value.int IntKind.u8 0, Value.int IntKind.u8 0, Value.int IntKind.u8 0] 25)).alloc (.cells #[.int .u32 1779033703, .int .u32 3144134277, .int .u32 1013904242, .int .u32 2773480762, .int .u32 1359893119, .int .u32 2600822924, .int .u32 528734635, .int .u32 1541459225] 37)) ?_ hb1 (by simp; omega)
    unfold IntRow; rw [dg_zero]; exact heap_alloc2_old _ _ _
  have hR1 : IntRow w1 (w.heap.size + 1) .u32 (H0.all.map U) 37 := by
    refine IntRow.below (w := (w.alloc (.cells #[Value.int IntKind.u8 0, Value.int IntKind.u8 0, Value.int IntKind.u8 0, Value.int IntKind.u8 0, Value.int IntKind.u8 0, Value.int IntKind.u8 0, Value.int IntKind.u8 0, Value.int IntKind.u8 0, Value.int IntKind.u8 0, Value.int IntKind.u8 0, Value.int IntKind.u8 0, Value.int IntKind.u8 0, Value.int IntKind.u8 0, Value.int IntKind.u8 0, Value.int IntKind.u8 0, Value.int IntKind.u8 0, Value.int IntKind.u8 0, Value.int IntKind.u8 0, Value.int IntKind.u8 0, Value.int IntKind.u8 0, Value.int IntKind.u8 0, Value.int IntKind.u8 0, Value.int IntKind.u8 0, Value.int IntKind.u8 0, Value.int IntKind.u8 0, Value.int IntKind.u8 0, Value.int IntKind.u8 0, Value.int IntKind.u8 0, Value.int IntKind.u8 0, Value.int IntKind.u8 0, Value.int IntKind.u8 0, Value.int IntKind.u8 0] 25)).alloc (.cells #[.int .u32 1779033703, .int .u32 3144134277, .int .u32 1013904242, .int .u32 2773480762, .int .u32 1359893119, .int .u32 2600822924, .int .u32 528734635, .int .u32 1541459225] 37)) ?_ hb1 (by simp)
    exact heap_alloc2_new _ _ _
  have hB1 : Below w.heap.size w w1 := hA.trans (hb1.mono (by simp; omega))
  have HS := Lib.hid hS
  have HR0 := Lib.hid hR0
  have HR1 := Lib.hid hR1
  have HB1 := Lib.hid hB1
  have HPl := Lib.hid (padded_length l)
  have HPs : Hid (sum l = digest (eat H0 (l ++ pad l.length) ((l.length + 8) / 64 + 1))) := rfl
  have hpb : ∀ z ∈ l ++ pad l.length, 0 ≤ z ∧ z ≤ 255 := hS.2.1
  have HPb := Lib.hid hpb
  clear hA hb1 hS hR0 hR1 hB1 hpb
  generalize l ++ pad l.length = P at *
  generalize (l.length + 8) / 64 + 1 = nb at *
  have hLnb : P.length = 64 * nb := HPl.out
  rw [hLnb] at HS hcap1 ⊢
  clear hLnb
  go_wp2_with fail
  go_loopw [5] (fun i wr => ∃ k : Nat, k ≤ nb ∧ i = .int .i64 (64 * (k : Int)) ∧ IntRow wr (w.heap.size + 1) .u32 ((eat H0 P k).all.map U) 37 ∧ Kept (fun b => b = w.heap.size + 1) w1 wr) (fun i _ => 64 * nb - (intOf i).toNat)
  case atStart => exact ⟨0, by omega, rfl, HR1.out, Kept.refl _ _⟩
  case round =>
    obtain ⟨k, hk, rfl, hr, hkept⟩ := hrel
    have HR := Lib.hid hr
    have HK := Lib.hid hkept
    clear hr hkept
    by_cases hlt : k < nb
    · have hd : decide (64 * (k : Int) < 64 * (nb : Int)) = true := by simp; omega
      have hd2 : decide (k < nb) = true := by simp; omega
      have k0 : (0 : Int) ≤ k := by omega
      have k1 : (k : Int) ≤ 2000 := by omega
      have hsl := fun W : World => slice_bytes W g (64 * nb) cap1 (64 * k) (64 * k + 64) (64 * (k : Int)) (64 * (k : Int) + 64) (by omega) (by omega) (by omega) (by omega) (by omega)
      simp only [show 64 * k + 64 - 64 * k = 64 from by omega] at hsl
      have hPl := HPl.out
      have hbl : ((P.drop (64 * k)).take 64).length = 64 := by rw [List.length_take, List.length_drop]; omega
      have hbb : ∀ z ∈ (P.drop (64 * k)).take 64, 0 ≤ z ∧ z ≤ 255 := fun z hz => HPb.out z (List.mem_of_mem_drop (List.mem_of_mem_take hz))
      have hcell : ∀ i, i < 64 → wr.drew.cell? ⟨g, 64 * k + i, none⟩ = some (.int .u8 (((P.drop (64 * k)).take 64).getD i 0)) := fun i hi => by
        obtain ⟨_, _, h3⟩ := HS.out
        rcases h3 with h3 | ⟨b', o', e, _, hc⟩
        · omega
        · simp only [Option.some.injEq, Addr.mk.injEq] at e
          obtain ⟨rfl, rfl, _⟩ := e
          have h4 := hc (64 * k + i) (by omega)
          rw [Nat.zero_add] at h4
          have h5 : wr.cell? ⟨g, 64 * k + i, none⟩ = w1.cell? ⟨g, 64 * k + i, none⟩ := World.cell?_of_block (HK.out.block g (World.block_lt_of_cell? _ _ h4) (by omega))
          show wr.cell? ⟨g, 64 * k + i, none⟩ = _
          rw [h5, h4]
          simp [List.getD, hi]
      have hrd : IntRow wr.drew (w.heap.size + 1) .u32 ((eat H0 P k).all.map U) 37 := HR.out
      have HCall := Lib.hid (rblock_any (eat H0 P k) ((P.drop (64 * k)).take 64) g (64 * k) (cap1 - 64 * k) wr.drew hbl hbb hcell)
      rw [← eat_block] at HCall
      have HRd := Lib.hid hrd
      have c0 := HR.out.cell 0 (by simp [S.all])
      have c1 := HR.out.cell 1 (by simp [S.all])
      have c2 := HR.out.cell 2 (by simp [S.all])
      have c3 := HR.out.cell 3 (by simp [S.all])
      have c4 := HR.out.cell 4 (by simp [S.all])
      have c5 := HR.out.cell 5 (by simp [S.all])
      have c6 := HR.out.cell 6 (by simp [S.all])
      have c7 := HR.out.cell 7 (by simp [S.all])
      generalize eat H0 P k = r at *
      generalize hr2 : eat H0 P (k + 1) = r2 at *
      have HR2 := Lib.hid hr2
      clear hr2
      change wr.cell? ⟨w.heap.size + 1, 0, none⟩ = some (.int .u32 (U r.a)) at c0
      change wr.cell? ⟨w.heap.size + 1, 1, none⟩ = some (.int .u32 (U r.b)) at c1
      change wr.cell? ⟨w.heap.size + 1, 2, none⟩ = some (.int .u32 (U r.c)) at c2
      change wr.cell? ⟨w.heap.size + 1, 3, none⟩ = some (.int .u32 (U r.d)) at c3
      change wr.cell? ⟨w.heap.size + 1, 4, none⟩ = some (.int .u32 (U r.e)) at c4
      change wr.cell? ⟨w.heap.size + 1, 5, none⟩ = some (.int .u32 (U r.f)) at c5
      change wr.cell? ⟨w.heap.size + 1, 6, none⟩ = some (.int .u32 (U r.g)) at c6
      change wr.cell? ⟨w.heap.size + 1, 7, none⟩ = some (.int .u32 (U r.h)) at c7
      have hz8 : (ints .u32 (r2.all.map U)).size = 8 := by rw [ints_size]; simp [S.all]
      have q1 : IntKind.i64.wrap (64 * (k : Int) + 64) = 64 * (k : Int) + 64 := IntWalk.i64_in _ (by omega)
      clear hPl hbl hbb hcell hrd
      go_wp2_with fail
      go_region_with (go_at_call 34; ((refine (HCall.out).mono ?_); rintro e w2 ⟨rfl, hb2⟩; have hst2 := store_eight HRd.out hb2 HRd.out.lt (by simp [S.all]) r2))
      have hlt1 : w.heap.size + 1 < wr.heap.size := HR.out.lt
      have hrow2 : IntRow (w2.setRow (w.heap.size + 1) (ints .u32 (r2.all.map U))) (w.heap.size + 1) .u32 (r2.all.map U) 37 := setRow_heap _ _ _ _ _ _ (HRd.out.below hb2 HRd.out.lt)
      have hk2 : Kept (fun b => b = w.heap.size + 1) wr.drew w2 := Kept.of_below hb2
      have hk3 : Kept (fun b => b = w.heap.size + 1) w1 (w2.setRow (w.heap.size + 1) (ints .u32 (r2.all.map U))) := ((HK.out.drew).trans hk2).setRow rfl _
      have HRow2 := Lib.hid hrow2
      have HK3 := Lib.hid hk3
      clear hrow2 hk2 hk3 hst2 hb2 c0 c1 c2 c3 c4 c5 c6 c7 hsl q1 hz8
      go_wp2_with fail
      go_roundw
      case rel => exact ⟨k + 1, by omega, by congr 1, by rw [HR2.out]; exact HRow2.out, HK3.out⟩
      case measure => simp [intOf]; omega
    · have hd : decide (64 * (k : Int) < 64 * (nb : Int)) = false := by simp; omega
      have hd2 : decide (k < nb) = false := by simp; omega
      obtain rfl : k = nb := by omega
      have hlt1 : w.heap.size + 1 < wr.heap.size := HR.out.lt
      have c0 := HR.out.cell 0 (by simp [S.all])
      have c1 := HR.out.cell 1 (by simp [S.all])
      have c2 := HR.out.cell 2 (by simp [S.all])
      have c3 := HR.out.cell 3 (by simp [S.all])
      have c4 := HR.out.cell 4 (by simp [S.all])
      have c5 := HR.out.cell 5 (by simp [S.all])
      have c6 := HR.out.cell 6 (by simp [S.all])
      have c7 := HR.out.cell 7 (by simp [S.all])
      generalize eat H0 P k = r at *
      change wr.cell? ⟨w.heap.size + 1, 0, none⟩ = some (.int .u32 (U r.a)) at c0
      change wr.cell? ⟨w.heap.size + 1, 1, none⟩ = some (.int .u32 (U r.b)) at c1
      change wr.cell? ⟨w.heap.size + 1, 2, none⟩ = some (.int .u32 (U r.c)) at c2
      change wr.cell? ⟨w.heap.size + 1, 3, none⟩ = some (.int .u32 (U r.d)) at c3
      change wr.cell? ⟨w.heap.size + 1, 4, none⟩ = some (.int .u32 (U r.e)) at c4
      change wr.cell? ⟨w.heap.size + 1, 5, none⟩ = some (.int .u32 (U r.f)) at c5
      change wr.cell? ⟨w.heap.size + 1, 6, none⟩ = some (.int .u32 (U r.g)) at c6
      change wr.cell? ⟨w.heap.size + 1, 7, none⟩ = some (.int .u32 (U r.h)) at c7
      obtain ⟨u1, v1⟩ := (⟨U_lo r.a, U_hi r.a⟩ : 0 ≤ U r.a ∧ U r.a < 4294967296)
      obtain ⟨u2, v2⟩ := (⟨U_lo r.b, U_hi r.b⟩ : 0 ≤ U r.b ∧ U r.b < 4294967296)
      obtain ⟨u3, v3⟩ := (⟨U_lo r.c, U_hi r.c⟩ : 0 ≤ U r.c ∧ U r.c < 4294967296)
      obtain ⟨u4, v4⟩ := (⟨U_lo r.d, U_hi r.d⟩ : 0 ≤ U r.d ∧ U r.d < 4294967296)
      obtain ⟨u5, v5⟩ := (⟨U_lo r.e, U_hi r.e⟩ : 0 ≤ U r.e ∧ U r.e < 4294967296)
      obtain ⟨u6, v6⟩ := (⟨U_lo r.f, U_hi r.f⟩ : 0 ≤ U r.f ∧ U r.f < 4294967296)
      obtain ⟨u7, v7⟩ := (⟨U_lo r.g, U_hi r.g⟩ : 0 ≤ U r.g ∧ U r.g < 4294967296)
      obtain ⟨u8, v8⟩ := (⟨U_lo r.h, U_hi r.h⟩ : 0 ≤ U r.h ∧ U r.h < 4294967296)
      go_wp2_with fail
      refine wp_loop_rounds 33 ?_
      iterate 32 (rw [rounds_succ]; go_wp2_with fail)
      clear c0 c1 c2 c3 c4 c5 c6 c7
      rw [dig_lits r]
      have hres : IntRow wr w.heap.size .u8 (dg H0 0) 25 := HR0.out.kept HK.out (by omega)
      have HT : Hid ((Tryd.prog.info? 25).map (·.size) = some (ints .u8 (digest r)).size) := by
        show _ = _
        rw [ints_size, digest_length]; kernel_rfl
      have hres2 : IntRow (wr.alloc (.cells (ints .u8 (digest r)) 25)) w.heap.size .u8 (dg H0 0) 25 := hres.alloc _
      have hst : Sem.run Tryd.prog (storeCells ⟨w.heap.size, 0, none⟩ (ints .u8 (digest r)).toList) (wr.alloc (.cells (ints .u8 (digest r)) 25)) = .ok () ((wr.alloc (.cells (ints .u8 (digest r)) 25)).setRow w.heap.size (ints .u8 (digest r))) := by
        have := run_storeCells_from (P := Tryd.prog) w.heap.size 25 (ints .u8 (digest r)).toList 0 (ints .u8 (dg H0 0)) (wr.alloc (.cells (ints .u8 (digest r)) 25)) hres2 (by simp [ints_size, digest_length, dg_length H0 0 (by omega)]) (ints_one _ _)
        simpa using this
      have hz : (ints .u8 (digest r)).size = 32 := by rw [ints_size, digest_length]
      have HA : Hid ((wr.alloc (.cells (ints .u8 (digest r)) 25)).heap[wr.heap.size]? = some (.cells (ints .u8 (digest r)) 25 (0, 0))) := heap_alloc_new _ _
      have hrow := setRow_heap (wr.alloc (.cells (ints .u8 (digest r)) 25)) w.heap.size (ints .u8 (dg H0 0)) (ints .u8 (digest r)) 25 (0, 0) hres2
      have HRw := Lib.hid hrow
      have hB : Below w.heap.size w wr := HB1.out.trans (HK.out.toBelow HB1.out.size (by intro j hj h; omega))
      have HBl := Lib.hid hB
      clear hres hres2 hrow hB
      rw [rounds_succ]
      go_wp2_with (with_reducible refine wpList_load_row rfl 25 (.tmp 6) rfl wr.heap.size rfl 25 (ints .u8 (digest r)) (0, 0) _ HA.out Tryd.underlying25 rfl HT.out ?_)
      refine bodyPost_ret (v := .agg (ints .u8 (digest r))) (results_cell_row (p := 2) (ty := 25) rfl _ _ w.heap.size 25 (ints .u8 (digest r)) (0, 0) _ rfl HRw.out Tryd.underlying25 rfl HT.out) rfl ⟨by rw [HPs.out], (HBl.out.alloc HBl.out.size _).trans (below_setRow _ _ _)⟩
end Sha
end Go.Proofs.YtodbfkifendniaaDoor
