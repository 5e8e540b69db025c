/- Proved: MemWords, in its full form: of any bytes, any list of regions, any place: MemWords answers true, and its arguments read afterwards as they read before. Without conditions. (Made by tools/gen_memwords.py.) -/
import Derived.Test.YthpimoinognkhaaMemOwnNo
import Derived.Laws.BytesArg
import Derived.Laws.IdiomStrings
namespace Go.Proofs.Ythpimoinognkhaa
open Go.ChangeShapes Go.WideShapes Go.ChangeAt Go.RowKit
namespace Ram
namespace Words
set_option linter.unusedVariables false
set_option linter.unusedSimpArgs false
set_option maxHeartbeats 4000000
set_option maxRecDepth 100000
theorem get_two (B : List Int) (a h k : Nat) : get B a (h + k) = get B a h ++ get B (a + h) k := by
  unfold get
  rw [List.take_add, List.drop_drop]
theorem or_shift (lo hi : Int) (k : Nat) (hk : k ≤ 16) (h0 : 0 ≤ lo) (h1 : lo < ((2 ^ k : Nat) : Int)) (g0 : 0 ≤ hi) (g1 : hi < ((2 ^ k : Nat) : Int)) : bits .or .u32 lo (hi * ((2 ^ k : Nat) : Int)) = lo + hi * ((2 ^ k : Nat) : Int) := by
  obtain ⟨A, rfl⟩ := Int.eq_ofNat_of_zero_le h0
  obtain ⟨X, rfl⟩ := Int.eq_ofNat_of_zero_le g0
  have hle : 2 ^ k ≤ 65536 := Nat.le_trans (Nat.pow_le_pow_right (n := 2) (by omega) hk) (by decide)
  have hA : A < 2 ^ k := by omega
  have hX : X < 2 ^ k := by omega
  have hm : X * 2 ^ k < 4294967296 := by
    calc X * 2 ^ k ≤ 65535 * 65536 := Nat.mul_le_mul (by omega) hle
      _ < 4294967296 := by decide
  have hb := (bits_nat .u32 32 (by decide) (fun n h0 h1 => by simp only [IntKind.wrap, IntKind.bits, IntKind.signed]; exact Int.emod_eq_of_lt h0 h1) A (X * 2 ^ k) (by omega) (by omega)).2
  rw [← Int.natCast_mul, hb, Nat.or_comm, Nat.mul_comm X, ← Nat.two_pow_add_eq_or_of_lt hA X]
  push_cast
  omega
theorem lets_fewer {l : List Rg} {a n a' n' : Nat} {r : Int} {L : Nat} (h : lets l a n r L = true) (h0 : 0 < n') (h1 : a ≤ a') (h2 : a' + n' ≤ a + n) : lets l a' n' r L = true := by
  have hle := lets_le h
  unfold lets at *
  simp only [Bool.and_eq_true, decide_eq_true_eq] at *
  exact ⟨fnd_fewer h.1 (by omega) (by omega) (by omega), by omega⟩
/-- bytes, told as a string -/
theorem row_string {w : World} {a : Option Addr} {n : Nat} (cap : Nat) {l : List Int} {p : Nat → Prop} (h : SRow p w a n l) (h0 : 0 < n) :
    (convert 35 9 (.slice a n cap)).run Try.prog w = .ok (.string (strOfNums l)) w := by
  obtain ⟨h1, h2, h3⟩ := h
  rcases h3 with rfl | ⟨b, off, rfl, _, hc⟩
  · omega
  · exact run_convert_bytes_arg w 35 5 Try.underlying35 Try.underlying5 b off n cap l h1 hc 9 Try.underlying9
theorem mid_row {p : Nat → Prop} {w : World} {b off n : Nat} {l : List Int} (h : SRow p w (some ⟨b, off, none⟩) n l) (a k : Nat) (hk : a + k ≤ n) : SRow p w (some ⟨b, off + a, none⟩) k (get l a k) := by
  obtain ⟨h1, h2, h3⟩ := h
  refine ⟨get_len _ _ _ (by omega), get_by h2, ?_⟩
  rcases h3 with h3 | ⟨b', off', e, hp, hc⟩
  · exact .inl (by omega)
  · simp only [Option.some.injEq, Addr.mk.injEq] at e
    obtain ⟨rfl, rfl, _⟩ := e
    refine .inr ⟨b, off + a, rfl, hp, fun i hi => ?_⟩
    rw [Nat.add_assoc, hc (a + i) (by omega), get_at _ _ _ _ hi]
theorem srow_drew {p : Nat → Prop} {w : World} {a : Option Addr} {n : Nat} {l : List Int} (h : SRow p w a n l) (q : Nat) : SRow p (w.drewN q) a n l := h.below (below_drewN (Below.refl w.heap.size w) q) (Nat.le_refl _)
theorem walk (W : World) (ab : Option Addr) (nb cb : Nat) (B : List Int) (hb : SRow (fun k => W.heap.size ≤ k) W ab nb B) (hbc : nb ≤ cb ∧ cb ≤ 9223372036854775807) (ar : Option Addr) (nr cr : Nat) (l : List Rg) (hr : RRow (fun k => W.heap.size ≤ k) W ar nr l) (hrc : nr ≤ cr ∧ cr ≤ 9223372036854775807)
    (a : Int) (ha : 0 ≤ a ∧ a ≤ 4294967295) :
    Calls Try.prog 5 #[.slice ab nb cb, .slice ar nr cr, .int .u32 a] W fun e w' => e = .returned (.bool true) ∧ Below W.heap.size W w' := by
  obtain ⟨a, rfl⟩ := Int.eq_ofNat_of_zero_le ha.1
  by_cases h3 : nb ≤ 3000
  rotate_left
  · have e3 : decide ((3000 : Int) < (nb : Int)) = true := by simp; omega
    clear hb hr
    go_enter Try.func5, Try.ntmps5
    go_wp2_with (go_at_call 6; refine (known_any W).mono ?_; rintro e w1 ⟨rfl, hb1⟩)
    go_ret
    exact ⟨rfl, hb1⟩
  by_cases h5 : nr ≤ 50
  rotate_left
  · have e3 : decide ((3000 : Int) < (nb : Int)) = false := by simp; omega
    have e5 : decide ((50 : Int) < (nr : Int)) = true := by simp; omega
    clear hb hr
    go_enter Try.func5, Try.ntmps5
    go_wp2_with (go_at_call 6; refine (known_any W).mono ?_; rintro e w1 ⟨rfl, hb1⟩)
    go_ret
    exact ⟨rfl, hb1⟩
  have hB := hb.1
  have HBy := Lib.hid hb.2.1
  have e3 : decide ((3000 : Int) < (nb : Int)) = false := by simp; omega
  have e5 : decide ((50 : Int) < (nr : Int)) = false := by simp; omega
  have x1 : IntKind.u32.wrap (nb : Int) = nb := by simp [IntKind.wrap, IntKind.bits, IntKind.signed]; omega
  have x2 : IntKind.u64.wrap (a : Int) = a := by simp [IntKind.wrap, IntKind.bits, IntKind.signed]; omega
  have x3 : IntKind.u64.wrap (nb : Int) = nb := by simp [IntKind.wrap, IntKind.bits, IntKind.signed]; omega
  have x4 : IntKind.u64.wrap ((a : Int) + 8) = a + 8 := by simp [IntKind.wrap, IntKind.bits, IntKind.signed]; omega
  have hbT : ∀ {X Y : World}, Below W.heap.size W X → Below X.heap.size X Y → Below W.heap.size W Y := fun h k => h.trans (k.mono h.size)
  have HSB := Lib.hid (fun (X : World) (h : Below W.heap.size W X) => hb.kept (Kept.below h))
  have HRB := Lib.hid (fun (X : World) (h : Below W.heap.size W X) => hr.kept (Kept.below h))
  have HBL := Lib.hid hB
  clear hb hr hB
  go_enter Try.func5, Try.ntmps5
  go_wp2_with fail
  refine (known_any W).mono ?_
  rintro e w1 ⟨rfl, hb1⟩
  have HB := Lib.hid hb1
  clear hb1
  go_wp2_with fail
  refine (new_any nb (by omega) w1).mono ?_
  rintro e w2 ⟨g, d, rfl, hg, hd, hm, hb1⟩
  have HG : Hid (W.heap.size ≤ g ∧ W.heap.size ≤ d) := ⟨by have := HB.out.size; omega, by have := HB.out.size; omega⟩
  have HB2 := Lib.hid (hbT HB.out hb1)
  have HM := Lib.hid hm
  clear hg hd hm hb1 HB
  go_wp2_with fail
  refine (put_any HM.out 0 nb cb (by omega) (by omega) (l := B) ((HSB.out w2 HB2.out).imp fun k _ hk => by have := HG.out; omega)).mono ?_
  rintro e w3 ⟨rfl, hm, hk⟩
  have HB3 := Lib.hid (HB2.out.trans (hk.toBelow HB2.out.size (fun k hk e => by have := HG.out; omega)))
  rw [put_zeros HBL.out] at hm
  have HM3 := Lib.hid hm
  clear hm hk HM HB2
  rw [List.length_replicate, range_all]
  go_wp2_with fail
  have HNew := Lib.hid (heap_alloc_new w3 (.cells #[.int .u8 4, .int .u8 2] 5))
  have HB4 : Hid (Below W.heap.size W (w3.alloc (.cells #[.int .u8 4, .int .u8 2] 5))) := HB3.out.alloc HB3.out.size _
  have HM4 : Hid (Ram 57 (w3.alloc (.cells #[.int .u8 4, .int .u8 2] 5)) g d B) := HM3.out.below (below_alloc _ _) (Nat.le_refl _)
  clear HM3
  obtain ⟨q, hq⟩ : ∃ q, w3.heap.size = q := ⟨_, rfl⟩
  rw [hq] at HNew ⊢
  clear hq HB3
  generalize w3.alloc (.cells #[.int .u8 4, .int .u8 2] 5) = w4 at *
  go_loopw [47] (fun i wr => ∃ k : Nat, k ≤ 2 ∧ i = .int .i64 k ∧ Below w4.heap.size w4 wr) (fun i _ => 2 - (intOf i).toNat)
  case atStart => exact ⟨0, by omega, rfl, Below.refl _ _⟩
  case round =>
    obtain ⟨k, hk, rfl, hbel⟩ := hrel
    have HBl := Lib.hid hbel
    have HBW := Lib.hid (hbT HB4.out hbel)
    have HMr := Lib.hid (HM4.out.below hbel (Nat.le_refl _))
    have HRr := Lib.hid (HRB.out wr (hbT HB4.out hbel))
    have hrow := (hbel.block q (lt_of_block HNew.out)).trans HNew.out
    have k00 : wr.cell? ⟨q, 0, none⟩ = some (.int .u8 4) := by rw [cell_of_row _ _ _ _ _ _ hrow]; rfl
    have k01 : wr.cell? ⟨q, 1, none⟩ = some (.int .u8 2) := by rw [cell_of_row _ _ _ _ _ _ hrow]; rfl
    clear hbel hrow
    match k, hk with
    | 0, _ =>
      have y1 : IntKind.u8.wrap 2 = 2 := by decide
      have y2 : IntKind.u32.wrap 2 = 2 := by decide
      have y3 : IntKind.u8.wrap 16 = 16 := by decide
      have hld : Calls Try.prog 17 #[.pointer (some ⟨g, 0, none⟩), .slice ar nr cr, .int .u32 (a : Int), .int .u8 4] wr (LoadP (loadM B l a 4) (wordE l a 4 1 B.length) wr) := load_any (cr := cr) HMr.out HRr.out (by omega) a 4 (by omega) (by omega)
      cases hl : lets l a 4 1 nb with
      | false =>
        rw [show wordE l a 4 1 B.length = 60 from by rw [HBL.out]; unfold wordE boundsE; rw [hl]; rfl] at hld
        have HLD := Lib.hid hld
        clear hld hl
        generalize loadM B l a 4 = X at *
        go_wp2_with (go_at_call 17; refine HLD.out.mono ?_; rintro e w7 ⟨rfl, hb1⟩)
        go_roundw
        case rel => exact ⟨0 + 1, by omega, by go_num, HBl.out.trans (hb1.mono HBl.out.size)⟩
        case measure => simp [intOf]
      | true =>
        have hle := lets_le hl
        have h1 := lets_fewer hl (show 0 < 2 by omega) (Nat.le_refl a) (by omega)
        have h2 := lets_fewer hl (show 0 < 2 by omega) (show a ≤ a + 2 by omega) (by omega)
        have y4 : IntKind.u32.wrap ((a : Int) + 2) = a + 2 := by simp [IntKind.wrap, IntKind.bits, IntKind.signed]; omega
        have f0 : loadM B l a 4 = un (get B a 4) := by unfold loadM; rw [HBL.out, hl]; rfl
        have f1 : loadM B l a 2 = un (get B a 2) := by unfold loadM; rw [HBL.out, h1]; rfl
        have f2 : loadM B l (a + 2) 2 = un (get B (a + 2) 2) := by unfold loadM; rw [HBL.out, h2]; rfl
        have r1 := un_range (get B a 2) (get_by HBy.out)
        have r2 := un_range (get B (a + 2) 2) (get_by HBy.out)
        rw [get_len _ _ _ (by rw [HBL.out]; omega)] at r1 r2
        have hx : un (get B a 4) = un (get B a 2) + un (get B (a + 2) 2) * 65536 := by
          rw [get_two B a 2 2, un_append, get_len _ _ _ (by rw [HBL.out]; omega), Int.mul_comm]; rfl
        have e0 : wordE l a 4 1 B.length = 0 := by rw [HBL.out]; unfold wordE boundsE; rw [hl]; rfl
        have e1 : wordE l a 2 1 B.length = 0 := by rw [HBL.out]; unfold wordE boundsE; rw [h1]; rfl
        have e2 : wordE l (a + 2) 2 1 B.length = 0 := by rw [HBL.out]; unfold wordE boundsE; rw [h2]; rfl
        rw [f0, hx, e0] at hld
        have HLD := Lib.hid hld
        have HL1 : Hid (∀ X, Below wr.heap.size wr X → Calls Try.prog 17 #[.pointer (some ⟨g, 0, none⟩), .slice ar nr cr, .int .u32 (a : Int), .int .u8 2] X (LoadP (un (get B a 2)) 0 X)) := fun X hX => by
          have := load_any (cr := cr) (HMr.out.below hX (Nat.le_refl _)) (HRB.out X (hbT HBW.out hX)) (by omega) a 2 (by omega) (by omega)
          rw [f1, e1] at this
          exact this
        have HL2 : Hid (∀ X, Below wr.heap.size wr X → Calls Try.prog 17 #[.pointer (some ⟨g, 0, none⟩), .slice ar nr cr, .int .u32 ((a : Int) + 2), .int .u8 2] X (LoadP (un (get B (a + 2) 2)) 0 X)) := fun X hX => by
          have := load_any (cr := cr) (HMr.out.below hX (Nat.le_refl _)) (HRB.out X (hbT HBW.out hX)) (by omega) (a + 2) 2 (by omega) (by omega)
          rw [f2, e2] at this
          exact this
        clear hld hl h1 h2 f0 f1 f2 e0 e1 e2 hx hle
        generalize un (get B a 2) = lo at *
        generalize un (get B (a + 2) 2) = hi at *
        have r1' : 0 ≤ lo ∧ lo < 65536 := r1
        have r2' : 0 ≤ hi ∧ hi < 65536 := r2
        have hor : bits .or .u32 lo (hi * 65536) = lo + hi * 65536 := or_shift lo hi 16 (by omega) r1'.1 r1'.2 r2'.1 r2'.2
        have hmod : hi * 65536 % 4294967296 = hi * 65536 := Int.emod_eq_of_lt (by omega) (by omega)
        have hwr : IntKind.u32.wrap (hi * 65536) = hi * 65536 := by simp [IntKind.wrap, IntKind.bits, IntKind.signed]; exact hmod
        clear r1 r2 r1' r2'
        go_wp2_with fail
        refine HLD.out.mono ?_
        rintro e w7 ⟨rfl, hb7⟩
        go_wp2_with fail
        refine (HL1.out w7 hb7).mono ?_
        rintro e w8 ⟨rfl, hb8⟩
        have hb9 := hb7.trans (hb8.mono hb7.size)
        go_wp2_with fail
        refine (HL2.out w8 hb9).mono ?_
        rintro e w9 ⟨rfl, hb10⟩
        have hb11 := hb9.trans (hb10.mono hb9.size)
        go_wp2_with fail
        go_roundw
        case rel => exact ⟨0 + 1, by omega, by go_num, HBl.out.trans (hb11.mono HBl.out.size)⟩
        case measure => simp [intOf]
    | 1, _ =>
      have y1 : IntKind.u8.wrap 1 = 1 := by decide
      have y2 : IntKind.u32.wrap 1 = 1 := by decide
      have y3 : IntKind.u8.wrap 8 = 8 := by decide
      have hld : Calls Try.prog 17 #[.pointer (some ⟨g, 0, none⟩), .slice ar nr cr, .int .u32 (a : Int), .int .u8 2] wr (LoadP (loadM B l a 2) (wordE l a 2 1 B.length) wr) := load_any (cr := cr) HMr.out HRr.out (by omega) a 2 (by omega) (by omega)
      cases hl : lets l a 2 1 nb with
      | false =>
        rw [show wordE l a 2 1 B.length = 60 from by rw [HBL.out]; unfold wordE boundsE; rw [hl]; rfl] at hld
        have HLD := Lib.hid hld
        clear hld hl
        generalize loadM B l a 2 = X at *
        go_wp2_with (go_at_call 17; refine HLD.out.mono ?_; rintro e w7 ⟨rfl, hb1⟩)
        go_roundw
        case rel => exact ⟨1 + 1, by omega, by go_num, HBl.out.trans (hb1.mono HBl.out.size)⟩
        case measure => simp [intOf]
      | true =>
        have hle := lets_le hl
        have h1 := lets_fewer hl (show 0 < 1 by omega) (Nat.le_refl a) (by omega)
        have h2 := lets_fewer hl (show 0 < 1 by omega) (show a ≤ a + 1 by omega) (by omega)
        have y4 : IntKind.u32.wrap ((a : Int) + 1) = a + 1 := by simp [IntKind.wrap, IntKind.bits, IntKind.signed]; omega
        have f0 : loadM B l a 2 = un (get B a 2) := by unfold loadM; rw [HBL.out, hl]; rfl
        have f1 : loadM B l a 1 = un (get B a 1) := by unfold loadM; rw [HBL.out, h1]; rfl
        have f2 : loadM B l (a + 1) 1 = un (get B (a + 1) 1) := by unfold loadM; rw [HBL.out, h2]; rfl
        have r1 := un_range (get B a 1) (get_by HBy.out)
        have r2 := un_range (get B (a + 1) 1) (get_by HBy.out)
        rw [get_len _ _ _ (by rw [HBL.out]; omega)] at r1 r2
        have hx : un (get B a 2) = un (get B a 1) + un (get B (a + 1) 1) * 256 := by
          rw [get_two B a 1 1, un_append, get_len _ _ _ (by rw [HBL.out]; omega), Int.mul_comm]; rfl
        have e0 : wordE l a 2 1 B.length = 0 := by rw [HBL.out]; unfold wordE boundsE; rw [hl]; rfl
        have e1 : wordE l a 1 1 B.length = 0 := by rw [HBL.out]; unfold wordE boundsE; rw [h1]; rfl
        have e2 : wordE l (a + 1) 1 1 B.length = 0 := by rw [HBL.out]; unfold wordE boundsE; rw [h2]; rfl
        rw [f0, hx, e0] at hld
        have HLD := Lib.hid hld
        have HL1 : Hid (∀ X, Below wr.heap.size wr X → Calls Try.prog 17 #[.pointer (some ⟨g, 0, none⟩), .slice ar nr cr, .int .u32 (a : Int), .int .u8 1] X (LoadP (un (get B a 1)) 0 X)) := fun X hX => by
          have := load_any (cr := cr) (HMr.out.below hX (Nat.le_refl _)) (HRB.out X (hbT HBW.out hX)) (by omega) a 1 (by omega) (by omega)
          rw [f1, e1] at this
          exact this
        have HL2 : Hid (∀ X, Below wr.heap.size wr X → Calls Try.prog 17 #[.pointer (some ⟨g, 0, none⟩), .slice ar nr cr, .int .u32 ((a : Int) + 1), .int .u8 1] X (LoadP (un (get B (a + 1) 1)) 0 X)) := fun X hX => by
          have := load_any (cr := cr) (HMr.out.below hX (Nat.le_refl _)) (HRB.out X (hbT HBW.out hX)) (by omega) (a + 1) 1 (by omega) (by omega)
          rw [f2, e2] at this
          exact this
        clear hld hl h1 h2 f0 f1 f2 e0 e1 e2 hx hle
        generalize un (get B a 1) = lo at *
        generalize un (get B (a + 1) 1) = hi at *
        have r1' : 0 ≤ lo ∧ lo < 256 := r1
        have r2' : 0 ≤ hi ∧ hi < 256 := r2
        have hor : bits .or .u32 lo (hi * 256) = lo + hi * 256 := or_shift lo hi 8 (by omega) r1'.1 r1'.2 r2'.1 r2'.2
        have hmod : hi * 256 % 4294967296 = hi * 256 := Int.emod_eq_of_lt (by omega) (by omega)
        have hwr : IntKind.u32.wrap (hi * 256) = hi * 256 := by simp [IntKind.wrap, IntKind.bits, IntKind.signed]; exact hmod
        clear r1 r2 r1' r2'
        go_wp2_with fail
        refine HLD.out.mono ?_
        rintro e w7 ⟨rfl, hb7⟩
        go_wp2_with fail
        refine (HL1.out w7 hb7).mono ?_
        rintro e w8 ⟨rfl, hb8⟩
        have hb9 := hb7.trans (hb8.mono hb7.size)
        go_wp2_with fail
        refine (HL2.out w8 hb9).mono ?_
        rintro e w9 ⟨rfl, hb10⟩
        have hb11 := hb9.trans (hb10.mono hb9.size)
        go_wp2_with fail
        go_roundw
        case rel => exact ⟨1 + 1, by omega, by go_num, HBl.out.trans (hb11.mono HBl.out.size)⟩
        case measure => simp [intOf]
    | 2, _ =>
      have hft := fetch_any (cr := cr) HMr.out HRr.out (by omega) a (by omega)
      rw [HBL.out] at hft
      have HF : Hid ((fnd l a 8 4).isSome = true → lets l a 8 4 nb = decide (a + 8 ≤ nb)) := fun h => by unfold lets; rw [show ((8 : Nat) : Int) = 8 from rfl, h]; simp
      have HF0 : Hid ((fnd l a 8 4).isSome = false → lets l a 8 4 nb = false) := fun h => by unfold lets; rw [show ((8 : Nat) : Int) = 8 from rfl, h]; rfl
      have HFi := Lib.hid (fun X (hX : Below wr.heap.size wr X) => find_any (c := cr) (HRB.out X (hbT HBW.out hX)) (by omega) a 8 4 (by omega) (by omega) (by omega))
      cases hl : lets l a 8 4 nb with
      | false =>
        rw [show boundsE l a 8 4 nb = 60 from by unfold boundsE; rw [hl]; rfl, show fetchM B l a = [] from by unfold fetchM; rw [HBL.out, hl]; rfl] at hft
        have HFT := Lib.hid hft
        unfold FindP at HFi
        rw [hl] at HF
        clear hft hl HF0
        generalize fnd l a 8 4 = o at *
        cases o with
        | none =>
          clear HF
          go_wp2_with fail
          refine HFT.out.mono ?_
          rintro e w7 ⟨v, rfl, ht, hb7⟩
          obtain rfl := ht.none
          clear ht
          go_wp2_with fail
          refine (HFi.out w7 hb7).mono ?_
          rintro e w8 ⟨rfl, hb8⟩
          have hb9 := hb7.trans (hb8.mono hb7.size)
          go_wp2_with fail
          go_quiet (fail)
          go_wp2_with fail
          go_ret
          exact ⟨rfl, below_drewN (hbT HBW.out hb9) _⟩
        | some oi =>
          have hf : decide ((a : Int) + 8 ≤ (nb : Int)) = false := by have := HF.out rfl; simp at this; simp; omega
          clear HF
          go_wp2_with fail
          refine HFT.out.mono ?_
          rintro e w7 ⟨v, rfl, ht, hb7⟩
          obtain rfl := ht.none
          clear ht
          go_wp2_with fail
          refine (HFi.out w7 hb7).mono ?_
          rintro e w8 ⟨rfl, hb8⟩
          have hb9 := hb7.trans (hb8.mono hb7.size)
          go_wp2_with fail
          go_quiet (fail)
          go_wp2_with fail
          go_ret
          exact ⟨rfl, below_drewN (hbT HBW.out hb9) _⟩
      | true =>
        have hle := lets_le hl
        rw [show boundsE l a 8 4 nb = 0 from by unfold boundsE; rw [hl]; rfl, show fetchM B l a = get B a 8 from by unfold fetchM; rw [HBL.out, hl]; rfl] at hft
        have HFT := Lib.hid hft
        unfold FindP at HFi
        obtain ⟨oi, hoi⟩ : ∃ oi, fnd l a 8 4 = some oi := by
          cases ho : fnd l a 8 4 with
          | some oi => exact ⟨oi, rfl⟩
          | none => rw [ho] at HF0; have := HF0.out rfl; rw [hl] at this; cases this
        rw [hoi] at HFi
        have hf : decide ((a : Int) + 8 ≤ (nb : Int)) = true := by simp; omega
        have HGL : Hid ((get B a 8).length = 8) := get_len _ _ _ (by rw [HBL.out]; exact hle)
        obtain ⟨_, _, hrow⟩ := HSB.out wr HBW.out
        obtain ⟨rb, off, rfl, _, _⟩ := hrow.resolve_left (by omega)
        have hmid := fun X (hX : Below W.heap.size W X) => mid_row (HSB.out X hX) a 8 hle
        have HMid := Lib.hid hmid
        have p0 : (0 : Int) ≤ a := by omega
        have p1 : (a : Int) ≤ a + 8 := by omega
        have p2 : (a : Int) + 8 ≤ cb := by omega
        have p3 : ¬ cb = a := by omega
        have p4 : IntKind.u32.wrap ((a : Int) + 8) = a + 8 := by simp [IntKind.wrap, IntKind.bits, IntKind.signed]; omega
        have hsz : ∀ W, (sizeOf (Try.prog.elem 35)).run Try.prog W = .ok 1 W := fun W => by kernel_rfl
        clear hft hl HF HF0 hoi hrow hmid
        generalize get B a 8 = G at *
        go_wp2_with fail
        refine HFT.out.mono ?_
        rintro e w7 ⟨v, rfl, ht, hb7⟩
        obtain ⟨av, rfl, hv⟩ := ht.row
        rw [HGL.out]
        obtain ⟨kb, rfl, _, hkb⟩ := hv (by rintro rfl; have := HGL.out; simp at this)
        have HKb := Lib.hid hkb
        have HTy := Lib.hid ((HMid.out wr HBW.out).2.1)
        clear ht hv hkb
        go_wp2_with fail
        refine (HFi.out w7 hb7).mono ?_
        rintro e w8 ⟨rfl, hb8⟩
        have hb9 := hb7.trans (hb8.mono hb7.size)
        have hc1 : ∀ q, (convert 35 9 (.slice (some ⟨kb, 0, none⟩) 8 8)).run Try.prog (w8.drewN q) = .ok (.string (strOfNums G)) (w8.drewN q) := fun q => by
          have hrow : w8.heap[kb]? = some (.cells (ints .u8 G) 5 (0, 0)) := (hb8.block kb (lt_of_block HKb.out)).trans HKb.out
          have := low_row w8 kb G 5 hrow HTy.out
          rw [HGL.out] at this
          exact row_string 8 (srow_drew this q) (by omega)
        have hc2 : ∀ q, (convert 35 9 (.slice (some ⟨rb, off + a, none⟩) 8 (cb - a))).run Try.prog (w8.drewN q) = .ok (.string (strOfNums G)) (w8.drewN q) := fun q =>
          row_string (cb - a) (srow_drew (HMid.out w8 (hbT HBW.out hb9)) q) (by omega)
        generalize strOfNums G = S at *
        go_wp2_with fail
        go_quiet (fail)
        go_wp2_with fail
        go_ret
        exact ⟨rfl, below_drewN (hbT HBW.out hb9) _⟩
/-- what the walk gives, for every argument -/
theorem lifted (os : Os) (started : os.Started) (H : Type) (enc : TypeId × Value → H) :
    ReturnsInHanded {} Try.checked os 5 .any (Rows.memWordsSpec.pre6 enc Try.prog Try.f5 Rows.memWordsRow.domain false) (Rows.memWordsSpec.post enc Try.prog Try.f5 false true false false) := by
  refine returnsInHanded_of_change (C := Try.checked) own started (by kernel_rfl) Try.func5
    (ChangeSpec.witness6 (enc := enc) (C := Try.checked) false ⟨#[], #[.slice none 0 0, .slice none 0 0, .int .u32 0], []⟩ 8 (by kernel_rfl) (by kernel_rfl) (by kernel_rfl) (by kernel_rfl)) ?_
  intro W base args ds gs before hval0 hW hcnd _
  have hval : ∀ (j : Nat) t v, Try.f5.params[j]? = some t → args[j]? = some v → Value.okWide Try.prog W .any base t v := hval0
  have hW' := hW
  obtain ⟨p, q, hA0, hV, rfl, hfz, hnd⟩ := hW
  have hA : DataW.TrodAll enc Try.prog W 0 (fun _ => true) true Try.f5.params.toList args.toList ds p := hA0
  rw [Try.params5] at hA hval
  obtain ⟨v0, vs0, d0, ds0, p0, q0, hargs, rfl, rfl, h0, r0⟩ := trodAll_cons hA
  obtain ⟨v1, vs1, d1, ds1, p1, q1, rfl, rfl, rfl, h1, r1⟩ := trodAll_cons r0
  obtain ⟨v2, vs2, d2, ds2, p2, q2, rfl, rfl, rfl, h2, r2⟩ := trodAll_cons r1
  obtain ⟨rfl, rfl, rfl⟩ := trodAll_nil r2
  obtain rfl : args = #[v0, v1, v2] := by cases args; simp_all
  obtain ⟨rfl, rfl⟩ := trodVars_none hV
  have k0 := h0
  have lt0 : ∀ x ∈ p0, x.block < W.heap.size := by obtain ⟨m, hm⟩ := k0; exact DataW.trod_lt m _ _ _ hm
  obtain ⟨a0, len0, cap0, rfl⟩ := okWide_slice Try.underlying35 (hval 0 35 v0 rfl rfl)
  obtain ⟨z0, w0, nc0⟩ : ∃ l, SRow (fun k => W.heap.size ≤ k) W a0 len0 l ∧ len0 ≤ cap0 ∧ cap0 ≤ 9223372036854775807 := by
    obtain ⟨fuel, hf⟩ := h0
    obtain ⟨a, n, c, l, hcs, h1, h2, h3⟩ := open_bytes hf
    simp [Value.cells] at hcs
    obtain ⟨rfl, rfl, rfl⟩ := hcs
    exact ⟨l, h3, h1, h2⟩
  have k1 := h1
  have lt1 : ∀ x ∈ p1, x.block < W.heap.size := by obtain ⟨m, hm⟩ := k1; exact DataW.trod_lt m _ _ _ hm
  obtain ⟨a1, len1, cap1, rfl⟩ := okWide_slice Try.underlying23 (hval 1 23 v1 rfl rfl)
  obtain ⟨z1, w1, nc1⟩ : ∃ l, RRow (fun k => W.heap.size ≤ k) W a1 len1 l ∧ len1 ≤ cap1 ∧ cap1 ≤ 9223372036854775807 := by
    obtain ⟨fuel, hf⟩ := h1
    obtain ⟨a, n, c, l, hcs, h1, h2, h3⟩ := open_regions hf
    simp [Value.cells] at hcs
    obtain ⟨rfl, rfl, rfl⟩ := hcs
    exact ⟨l, h3, h1, h2⟩
  obtain ⟨z2, rfl, rfl, rfl, w2⟩ := open_int Try.underlying22 (hval 2 22 v2 rfl rfl) h2
  have b2 : 0 ≤ z2 ∧ z2 ≤ 4294967295 := by simp [Lit.wf, IntKind.min, IntKind.max, IntKind.signed, IntKind.bits] at w2; omega
  clear hA0 hval0
  refine (walk W a0 len0 cap0 z0 w0 nc0 a1 len1 cap1 z1 w1 nc1 z2 b2).mono fun e W' ⟨he, bel⟩ => ?_
  subst he
  exact ⟨_, rfl, _, _, _, [], _, [], hW', trodAll_mk1 (shut_bool Try.underlying4 _), (trodAll_cons_mk (Below.trod laidOut (by kernel_rfl) (of_decide_eq_true (by kernel_rfl)) k0 bel lt0) (trodAll_cons_mk (Below.trod laidOut (by kernel_rfl) (of_decide_eq_true (by kernel_rfl)) k1 bel lt1) (trodAll_cons_mk (shut_int Try.underlying22 w2) trodAll_mk0))), rfl, bel.frame _, fun h => by cases h⟩

theorem proved : Rows.MemWordsSaid :=
  OpenClaim.holds_of_wide 5 Try.f5 rfl rfl rfl rfl rfl rfl rfl ⟨rfl, rfl, rfl, rfl, rfl⟩ rfl rfl rfl rfl rfl (by kernel_rfl) Try.func5 (by kernel_rfl)
    (of_decide_eq_true (by kernel_rfl)) (by unfold Func.isWrapper; first | (rw [if_pos (by decide +kernel)]; kernel_rfl) | (rw [if_neg (by decide +kernel)]; exact ⟨rfl, rfl⟩))
    (fun os started H enc _ => lifted os started H enc)
#print axioms proved
end Words
end Ram
end Go.Proofs.Ythpimoinognkhaa
