/- Slices of bytes as strings; the layer's own test. -/
import Derived.Test.YtimhppgepiikbaaWireD7
import Derived.Laws.BytesArg
import Derived.Laws.IdiomStrings
namespace Go.Proofs.Ytimhppgepiikbaa
open Go.ChangeShapes Go.WideShapes Go.ChangeAt Go.RowKit
namespace Wire
set_option linter.unusedVariables false
theorem row_string {w : World} {a : Option Addr} {n : Nat} (cap : Nat) {l : List Int} {p : Nat → Prop} (h : SRow p w a n l) :
    (convert 26 9 (.slice a n cap)).run Try.prog w = .ok (.string (strOfNums l)) w := by
  obtain ⟨h1, h2, h3⟩ := h
  rcases h3 with rfl | ⟨b, off, rfl, _, hc⟩
  · have hl : l = [] := List.eq_nil_of_length_eq_zero h1
    subst hl
    cases a with
    | none => rw [run_convert_bytes_nil w 26 5 Try.underlying26 Try.underlying5 0 cap 9 Try.underlying9]; rfl
    | some x =>
      rw [run_convert_bytes_string w 26 9 5 _ 0 cap Try.underlying26 Try.underlying5 Try.underlying9]
      have hl := run_loadCells_list (P := Try.prog) w x [] (fun j v hj => by simp at hj)
      rw [run_bytesToString w x 0 cap [] (by simpa using hl)]
      rfl
  · exact run_convert_bytes_arg w 26 5 Try.underlying26 Try.underlying5 b off n cap l h1 hc 9 Try.underlying9

theorem well_nil (w : World) : Calls Try.prog 49 #[.pointer none] w fun r w' => r = .returned (.bool false) ∧ w = w' := by
  go_enter Try.func49, Try.ntmps49
  go_wp2_with fail
  go_ret
  exact ⟨rfl, rfl⟩
theorem number_nil (w : World) (n m : Int) : Calls Try.prog 37 #[.pointer none, .int .u64 n, .int .i64 m] w fun r w' => r = .returned (.tuple #[]) ∧ w = w' := by
  go_enter Try.func37, Try.ntmps37
  go_wp2_with fail
  refine (well_nil w).mono ?_
  rintro r w1 ⟨rfl, rfl⟩
  go_wp2_with fail
  refine bodyPost_ret (results_none rfl _ _ _) rfl ?_
  exact ⟨rfl, rfl⟩
theorem u8w_nil (w : World) : Calls Try.prog 25 #[.pointer none, .int .u8 1] w fun r w' => r = .returned (.tuple #[]) ∧ w = w' := by
  go_enter Try.func25, Try.ntmps25
  go_wp2_with fail
  refine (number_nil w _ _).mono ?_
  rintro r w1 ⟨rfl, rfl⟩
  go_wp2_with fail
  go_end0
  exact ⟨rfl, rfl⟩
theorem done_nil (w : World) : Calls Try.prog 8 #[.pointer none] w fun r w' => r = .returned (.tuple #[.slice none 0 0, .int .i64 2]) ∧ w = w' := by
  go_enter Try.func8, Try.ntmps8
  go_wp2_with fail
  go_ret2
  exact ⟨rfl, rfl⟩
/-- a new writer -/
theorem wst_new {w : World} {B : Nat} (hB : B ≤ w.heap.size) : WSt none B w.heap.size (w.alloc (.cells #[.slice none 0 0, .int .i64 0] 29)) ([], 0) :=
  wat_err (fun u x e => by cases e) (heap_alloc_new _ _) hB (by omega)
/-- bytes laid out, as a slice -/
theorem srow_new (w : World) (p : Nat → Prop) (l : List Int) (hp : ¬ p w.heap.size) (hby : ∀ z ∈ l, 0 ≤ z ∧ z ≤ 255) : SRow p (w.alloc (.cells (bv l).toArray 5)) (some ⟨w.heap.size, 0, none⟩) l.length l := by
  refine ⟨rfl, hby, Or.inr ⟨w.heap.size, 0, rfl, hp, fun i hi => ?_⟩⟩
  rw [cell_of_row _ _ _ _ _ _ (heap_alloc_new w _)]
  simp [bv, hi]
theorem srow_guest {u B g : Nat} {w : World} {s : List Int × Int} {b : List Int} (h : WSt (some (u, .cells (bv b).toArray 5 (0, 0))) B g w s) (hb : ∀ z ∈ b, 0 ≤ z ∧ z ≤ 255) : SRow (fun _ => False) w (some ⟨u, 0, none⟩) b.length b := by
  obtain ⟨_, _, _, _, _, _, _, _, _, hq⟩ := h
  have hu := (hq u _ rfl).1
  refine ⟨rfl, hb, Or.inr ⟨u, 0, rfl, fun h => h, fun i hi => ?_⟩⟩
  rw [cell_of_row _ _ _ _ _ _ hu]
  simp [bv, hi]
/-- a new block is a guest, where there was none -/
theorem WSt.guest {B g : Nat} {w : World} {s : List Int × Int} (h : WSt none B g w s) (o : Obj) : WSt (some (w.heap.size, o)) B g (w.alloc o) s := by
  obtain ⟨va, vn, vc, h1, h2, h3, h4, h5, h6, _⟩ := h
  have hlt := lt_of_block h1
  refine ⟨va, vn, vc, (Below.heap_alloc _ _ _ hlt).trans h1, h2, h3.alloc _, h4, h5, h6, fun u x e => ?_⟩
  simp only [Option.some.injEq, Prod.mk.injEq] at e
  obtain ⟨rfl, rfl⟩ := e
  refine ⟨heap_alloc_new _ _, by omega, fun hh => ?_⟩
  have := (World.ownsRow.lt h3 _ hh.symm).2
  omega
theorem WSt.alone {gu : Option (Nat × Obj)} {B g : Nat} {w : World} {s : List Int × Int} (h : WSt gu B g w s) : WSt none B g w s := by
  obtain ⟨va, vn, vc, h1, h2, h3, h4, h5, h6, _⟩ := h
  exact ⟨va, vn, vc, h1, h2, h3, h4, h5, h6, fun u x e => by cases e⟩
theorem put_guest {u : Nat} (B g : Nat) (w : World) (s : List Int × Int) (b : List Int) (hB : B ≤ w.heap.size) (hn : b.length ≤ 9223372036854775807) (hb0 : ∀ z ∈ b, 0 ≤ z ∧ z ≤ 255) (h : WSt (some (u, .cells (bv b).toArray 5 (0, 0))) B g w s) :
    Calls Try.prog 40 #[.pointer (some ⟨g, 0, none⟩), .slice (some ⟨u, 0, none⟩) b.length b.length, .func (.func 25) #[] #[]] w fun r w' => r = .returned (.tuple #[]) ∧ WSt (some (u, .cells (bv b).toArray 5 (0, 0))) B g w' (nums s b) ∧ Below B w w' := by
  have HS := Lib.hid h
  have HB0 := Lib.hid hb0
  obtain ⟨n, hnn⟩ : ∃ n, n = b.length := ⟨_, rfl⟩
  have HNn := Lib.hid hnn
  rw [← hnn] at hn
  rw [← hnn]
  clear h hb0 hnn
  go_enter Try.func40, Try.ntmps40
  go_wp2_with fail
  go_loopw [10] (fun i wr => ∃ k : Nat, k ≤ n ∧ i = .int .i64 k ∧ WSt (some (u, .cells (bv b).toArray 5 (0, 0))) B g wr (nums s (b.take k)) ∧ Below B w wr) (fun i _ => n - (intOf i).toNat)
  case atStart => exact ⟨0, by omega, rfl, HS.out, Below.refl _ _⟩
  case round =>
    obtain ⟨k, hk, rfl, hw, hbel⟩ := hrel
    have HW := Lib.hid hw
    have HB := Lib.hid hbel
    clear hw hbel HS
    by_cases hlt : k < n
    · have k0 : (0 : Int) ≤ k := by omega
      have k1 : (k : Int) < n := by omega
      have hd : decide ((k : Int) < (n : Int)) = true := by simp; omega
      obtain ⟨hlen, hby, hrow⟩ := srow_guest HW.out HB0.out
      replace hlen : b.length = n := HNn.out.symm
      rw [← HNn.out] at hrow
      rcases hrow with hrow | ⟨bb, off, ebb, _, hc⟩
      · omega
      simp only [Option.some.injEq, Addr.mk.injEq] at ebb
      obtain ⟨rfl, rfl, _⟩ := ebb
      have hcell := hc k hlt
      rw [Nat.zero_add] at hcell
      have hz := hby (b.getD k 0) (by simp [show k < b.length from by omega])
      have HT : Hid (nums s (b.take (k + 1)) = num (nums s (b.take k)) (b.getD k 0) 1) := by
        show _ = _
        unfold nums
        rw [List.take_succ_eq_append_getElem (by omega), List.foldl_append]
        simp [show k < b.length from by omega]
      have HN : Hid (∀ j, ¬ (nums s (b.take k)).2 = 0 → nums s (b.take k ++ j) = nums s (b.take k)) := by
        intro j hj
        unfold nums
        rw [List.foldl_append]
        exact nums_err _ _ hj
      generalize b.getD k 0 = z at *
      obtain ⟨z0, z1⟩ := hz
      obtain ⟨v, hv⟩ := HW.out.cells
      have HV := Lib.hid hv
      have HL := Lib.hid hlen
      clear hc hby hlen hv
      generalize hS : nums s (b.take k) = S at *
      have HSt := Lib.hid hS
      clear hS
      obtain ⟨bl, e⟩ := S
      simp only at HV
      by_cases he : e = 0
      · have hde : decide (e = 0) = true := by simpa using he
        have HE := Lib.hid he
        clear he
        go_wp2_with fail
        refine (well_any g wr _ e HV.out).mono ?_
        rintro r w1 ⟨rfl, rfl⟩
        go_wp2_with fail
        refine (u8_any B g wr (bl, e) z z0 z1 (Nat.le_trans hB HB.out.size) HW.out).mono ?_
        rintro r w1 ⟨rfl, h1, h2⟩
        have H1 := Lib.hid h1
        have H2 := Lib.hid (HB.out.trans h2)
        clear h1 h2
        go_wp2_with fail
        go_roundw
        case rel => exact ⟨k + 1, by omega, by go_num, by rw [HT.out]; exact H1.out, H2.out⟩
        case measure => simp [intOf]; omega
      · have hde : decide (e = 0) = false := by simpa using he
        have HA : Hid (nums s b = (bl, e)) := by
          show _ = _
          have := HN.out (b.drop k) he
          rwa [List.take_append_drop] at this
        clear he
        go_wp2_with fail
        refine (well_any g wr _ e HV.out).mono ?_
        rintro r w1 ⟨rfl, rfl⟩
        go_wp2_with fail
        refine bodyPost_ret (results_none rfl _ _ _) rfl ?_
        exact ⟨rfl, by rw [HA.out]; exact HW.out, HB.out⟩
    · have hd : decide ((k : Int) < (n : Int)) = false := by simp; omega
      have HA : Hid (b.take k = b) := List.take_of_length_le (by have := HNn.out; omega)
      go_wp2_with fail
      go_end0
      exact ⟨rfl, by have := HW.out; rwa [HA.out] at this, HB.out⟩
theorem bytes_guest {u : Nat} (B g : Nat) (w : World) (s : List Int × Int) (b : List Int) (hB : B ≤ w.heap.size) (hn : b.length ≤ 9223372036854775807) (hb0 : ∀ z ∈ b, 0 ≤ z ∧ z ≤ 255) (h : WSt (some (u, .cells (bv b).toArray 5 (0, 0))) B g w s) :
    Calls Try.prog 20 #[.pointer (some ⟨g, 0, none⟩), .slice (some ⟨u, 0, none⟩) b.length b.length] w fun r w' => r = .returned (.tuple #[]) ∧ WSt (some (u, .cells (bv b).toArray 5 (0, 0))) B g w' (bytesS s b) ∧ Below B w w' := by
  have HS := Lib.hid h
  have HB0 := Lib.hid hb0
  have hw := wrap32_range b.length
  have HW := Lib.hid hw
  clear h hw hb0
  go_enter Try.func20, Try.ntmps20
  go_wp2_with fail
  refine (u32_any B g w s _ HW.out.1 HW.out.2 hB HS.out).mono ?_
  rintro r w1 ⟨rfl, h1, h2⟩
  have H1 := Lib.hid h1
  have H2 := Lib.hid h2
  clear h1 h2
  go_wp2_with fail
  refine (put_guest B g w1 _ b (Nat.le_trans hB H2.out.size) hn HB0.out H1.out).mono ?_
  rintro r w2 ⟨rfl, h1, h2⟩
  go_wp2_with fail
  go_end0
  exact ⟨rfl, by unfold bytesS; rw [← wrap32_eq]; exact h1, H2.out.trans h2⟩
theorem put2 {u : Nat} (B g : Nat) (w : World) (s : List Int × Int) (b : List Int) (hB : B ≤ w.heap.size) (hl : b.length = 2) (hb0 : ∀ z ∈ b, 0 ≤ z ∧ z ≤ 255) (h : WSt (some (u, .cells (bv b).toArray 5 (0, 0))) B g w s) :
    Calls Try.prog 24 #[.pointer (some ⟨g, 0, none⟩), .slice (some ⟨u, 0, none⟩) 2 2, .func (.func 25) #[] #[]] w fun r w' => r = .returned (.tuple #[]) ∧ WSt (some (u, .cells (bv b).toArray 5 (0, 0))) B g w' (nums (num s 2 2) b) ∧ Below B w w' := by
  have HS := Lib.hid h
  have HB0 := Lib.hid hb0
  have HL := Lib.hid hl
  have hP : ∀ w1, B ≤ w1.heap.size → WSt (some (u, .cells (bv b).toArray 5 (0, 0))) B g w1 (num s 2 2) → Calls Try.prog 40 #[.pointer (some ⟨g, 0, none⟩), .slice (some ⟨u, 0, none⟩) 2 2, .func (.func 25) #[] #[]] w1 fun r w' => r = .returned (.tuple #[]) ∧ WSt (some (u, .cells (bv b).toArray 5 (0, 0))) B g w' (nums (num s 2 2) b) ∧ Below B w1 w' := by
    intro w1 h1 h2
    have := put_guest B g w1 _ b h1 (by omega) hb0 h2
    rw [hl] at this
    exact this
  have HP := Lib.hid hP
  clear h hb0 hl hP
  have hq : ∀ W : World, (binOp .eql 53 (.func (.func 25) #[] #[]) .nilFunc).run Try.prog W = .ok (.bool false) W := fun _ => by kernel_rfl
  go_enter Try.func24, Try.ntmps24
  go_wp2_with fail
  refine (u16_any B g w s 2 (by omega) (by omega) hB HS.out).mono ?_
  rintro r w1 ⟨rfl, h1, h2⟩
  have H1 := Lib.hid h1
  have H2 := Lib.hid h2
  clear h1 h2
  go_wp2_with fail
  refine (HP.out w1 (Nat.le_trans hB H2.out.size) H1.out).mono ?_
  rintro r w2 ⟨rfl, h1, h2⟩
  go_wp2_with fail
  go_end0
  exact ⟨rfl, h1, H2.out.trans h2⟩
theorem take2 {q : Nat → Prop} (g : Nat) (w : World) (h : RSt q g w ⟨[2, 0, 1, 2], 0, 0⟩) :
    Calls Try.prog 26 #[.pointer (some ⟨g, 0, none⟩), .int .i64 2, .func (.func 22) #[] #[]] w fun r w' => ∃ b vc, r = .returned (.slice (some ⟨b, 0, none⟩) 2 vc) ∧ w'.cell? ⟨b, 1, none⟩ = some (.int .u8 2) ∧ Kept (· = g) w w' := by
  have hC := count16_any g w _ 2 h
  have e : RS.count ⟨[2, 0, 1, 2], 0, 0⟩ 2 2 = (2, ⟨[2, 0, 1, 2], 2, 0⟩) := by rfl
  rw [e] at hC
  have HC := Lib.hid hC
  clear hC h e
  have hq : ∀ W : World, (binOp .eql 56 (.func (.func 22) #[] #[]) .nilFunc).run Try.prog W = .ok (.bool false) W := fun _ => by kernel_rfl
  go_enter Try.func26, Try.ntmps26
  go_wp2_with fail
  refine HC.out.mono ?_
  rintro r w1 ⟨rfl, h1, h2⟩
  have H1 := Lib.hid h1
  have H2 := Lib.hid h2
  clear h1 h2
  go_wp2_with fail
  refine (take8_any g w1 [2, 0, 1, 2] 2 2 H1.out (by simp)).mono ?_
  rintro r w2 ⟨va, vc, rfl, h3, h4, h5⟩
  have H3 := Lib.hid h3
  have H5 := Lib.hid (H2.out.trans h5)
  clear h3 h4 h5
  go_wp2_with fail
  go_ret
  obtain ⟨_, h6⟩ := H3.out
  rcases h6 with ⟨h6, h7⟩ | ⟨g', cap, cur, e1, e2, e3, e4, e5, e6, e7⟩
  · cases h7
  · simp only [Value.slice.injEq] at e1
    obtain ⟨rfl, _, rfl⟩ := e1
    refine ⟨g', vc, rfl, ?_, H5.out⟩
    rw [cell_of_row _ _ _ _ _ _ e3]
    have : (cur.toList.take 2)[1]? = some (.int .u8 2) := by
      have h8 : cur.toList.take 2 = bv [1, 2] := by simpa using e7
      rw [h8]; rfl
    rw [List.getElem?_take_of_lt (by omega)] at this
    simpa using this
set_option maxHeartbeats 4000000 in
theorem known_any (w : World) : Calls Try.prog 5 #[] w fun r w' => r = .returned (.bool true) ∧ Below w.heap.size w w' := by
  go_enter Try.func5, Try.ntmps5
  go_wp2_with fail
  have hW0 := wst_new (w := w) (Nat.le_refl w.heap.size)
  have hB0 : Below w.heap.size w (w.alloc (.cells #[.slice none 0 0, .int .i64 0] 29)) := (Below.refl _ _).alloc (Nat.le_refl _) _
  refine (u16_any w.heap.size w.heap.size _ _ 258 (by omega) (by omega) hB0.size hW0).mono ?_
  rintro r w1 ⟨rfl, h1, h2⟩
  have H1 := Lib.hid (show WSt none w.heap.size w.heap.size w1 ([2, 1], 0) from h1)
  have B1 := Lib.hid (hB0.trans h2)
  clear h1 h2 hW0 hB0
  go_wp2_with fail
  refine (i32_any w.heap.size w.heap.size w1 _ (-1) B1.out.size H1.out).mono ?_
  rintro r w2 ⟨rfl, h1, h2⟩
  have H2 := Lib.hid (show WSt none w.heap.size w.heap.size w2 ([2, 1, 255, 255, 255, 255], 0) from h1)
  have B2 := Lib.hid (B1.out.trans h2)
  clear h1 h2 H1 B1
  go_wp2_with fail
  have hB3 : Below w.heap.size w (w2.alloc (.cells #[.int .u8 7, .int .u8 8] 5)) := B2.out.alloc B2.out.size _
  have hg3 : WSt (some (w2.heap.size, .cells (bv [7, 8]).toArray 5 (0, 0))) w.heap.size w.heap.size (w2.alloc (.cells #[.int .u8 7, .int .u8 8] 5)) ([2, 1, 255, 255, 255, 255], 0) := H2.out.guest _
  refine (bytes_guest w.heap.size w.heap.size _ _ [7, 8] hB3.size (by decide) (by simp) hg3).mono ?_
  rintro r w3 ⟨rfl, h1, h2⟩
  have H3 := Lib.hid (show WSt none w.heap.size w.heap.size w3 ([2, 1, 255, 255, 255, 255, 2, 0, 0, 0, 7, 8], 0) from h1.alone)
  have B3 := Lib.hid (hB3.trans h2)
  clear h1 h2 hB3 hg3 H2 B2
  go_wp2_with fail
  refine (done_any _ _ w3 _ H3.out (fun h => absurd rfl h)).mono ?_
  rintro r w4 ⟨v, rfl, a, n, c, rfl, h1, h2, h3, h4, h5⟩
  have hs4 := row_string c h1
  have e4 : strOfNums [2, 1, 255, 255, 255, 255, 2, 0, 0, 0, 7, 8] = ⟨#[2, 1, 255, 255, 255, 255, 2, 0, 0, 0, 7, 8]⟩ := by decide
  rw [e4] at hs4
  have B4 := Lib.hid (B3.out.trans (h5.mono B3.out.size))
  clear h1 h2 h3 h4 h5 e4 H3 B3
  go_wp2_with fail
  clear hs4
  have hb5 : Below w4.heap.size w4 (w4.alloc (.cells #[.int .u8 1, .int .u8 2] 5)) := (Below.refl _ _).alloc (Nat.le_refl _) _
  refine (from_any (fun _ => False) _ _ 2 2 [1, 2] (srow_new w4 (fun _ => False) [1, 2] (fun h => h) (by simp)) (by omega) (fun h => by cases h)).mono ?_
  rintro r w5 ⟨g1, rfl, hg1, h1, h2⟩
  have hz5 : w4.heap.size ≤ g1 := by simp at hg1; omega
  have B5 := Lib.hid (B4.out.trans ((hb5.trans (h2.mono (by simp))).mono B4.out.size))
  have H5 := Lib.hid h1
  have Hg1 : Hid (w.heap.size ≤ g1) := Nat.le_trans B4.out.size hz5
  clear hb5 hg1 h1 h2 hz5
  go_wp2_with fail
  refine (ru16_any g1 w5 _ H5.out).mono ?_
  rintro r w6 ⟨rfl, h1, h2⟩
  rw [show RS.num ⟨[1, 2], 0, 0⟩ 2 = (513, ⟨[1, 2], 2, 0⟩) from rfl] at h1 ⊢
  have H6 := Lib.hid h1
  have B6 := Lib.hid (B5.out.trans (h2.toBelow B5.out.size (fun k hk e => by have := Hg1.out; omega)))
  clear h1 h2 H5 B4 B5
  go_wp2_with fail
  refine (ru8_any g1 w6 _ H6.out).mono ?_
  rintro r w7 ⟨rfl, h1, h2⟩
  rw [show RS.num ⟨[1, 2], 2, 0⟩ 1 = (0, ⟨[1, 2], 2, 40⟩) from rfl] at h1 ⊢
  have H7 := Lib.hid h1
  have B7 := Lib.hid (B6.out.trans (h2.toBelow B6.out.size (fun k hk e => by have := Hg1.out; omega)))
  clear h1 h2 H6 B6
  go_wp2_with fail
  refine (rerr_any g1 w7 _ H7.out).mono ?_
  rintro r w8 ⟨rfl, rfl⟩
  go_wp2_with fail
  refine (rat_any g1 w7 _ H7.out).mono ?_
  rintro r w8 ⟨rfl, rfl⟩
  go_wp2_with fail
  have hb8 : Below w7.heap.size w7 (w7.alloc (.cells #[.int .u8 2, .int .u8 0, .int .u8 0, .int .u8 0, .int .u8 1] 5)) := (Below.refl _ _).alloc (Nat.le_refl _) _
  refine (from_any (fun _ => False) _ _ 5 5 [2, 0, 0, 0, 1] (srow_new w7 (fun _ => False) [2, 0, 0, 0, 1] (fun h => h) (by simp)) (by omega) (fun h => by cases h)).mono ?_
  rintro r w8 ⟨g2, rfl, hg2, h1, h2⟩
  have hz8 : w7.heap.size ≤ g2 := by simp at hg2; omega
  have B8 := Lib.hid (B7.out.trans ((hb8.trans (h2.mono (by simp))).mono B7.out.size))
  have H8 := Lib.hid h1
  have Hg2 : Hid (w.heap.size ≤ g2) := Nat.le_trans B7.out.size hz8
  clear hb8 hg2 h1 h2 hz8 H7 B7
  go_wp2_with fail
  refine (rbytes_any g2 w8 _ 1 H8.out).mono ?_
  rw [show RS.bytes ⟨[2, 0, 0, 0, 1], 0, 0⟩ 1 = ([], ⟨[2, 0, 0, 0, 1], 4, 42⟩) from rfl]
  rintro r w9 ⟨va, vn, vc, rfl, h1, _, _, _, h2, h3, _⟩
  obtain rfl : vn = 0 := h1.1.symm
  have H9 := Lib.hid h2
  have B9 := Lib.hid (B8.out.trans (h3.toBelow B8.out.size (fun k hk e => by have := Hg2.out; omega)))
  clear h1 h2 h3 H8 B8
  go_wp2_with fail
  refine (rerr_any g2 w9 _ H9.out).mono ?_
  rintro r w10 ⟨rfl, rfl⟩
  go_wp2_with fail
  have hWa := wst_new (w := w9) (Nat.le_refl w9.heap.size)
  have hb10 : Below w9.heap.size w9 (w9.alloc (.cells #[.slice none 0 0, .int .i64 0] 29)) := (Below.refl _ _).alloc (Nat.le_refl _) _
  have ea : (w9.alloc (.cells #[.slice none 0 0, .int .i64 0] 29)).heap.size = w9.heap.size + 1 := by simp
  have hga : WSt (some (w9.heap.size + 1, .cells (bv [1, 2]).toArray 5 (0, 0))) w9.heap.size w9.heap.size ((w9.alloc (.cells #[.slice none 0 0, .int .i64 0] 29)).alloc (.cells #[.int .u8 1, .int .u8 2] 5)) ([], 0) := by
    rw [← ea]
    exact hWa.guest _
  have hb11 : Below w9.heap.size w9 ((w9.alloc (.cells #[.slice none 0 0, .int .i64 0] 29)).alloc (.cells #[.int .u8 1, .int .u8 2] 5)) := hb10.alloc hb10.size _
  clear ea
  refine (put2 w9.heap.size w9.heap.size _ _ [1, 2] hb11.size rfl (by simp) hga).mono ?_
  rintro r w11 ⟨rfl, h1, h2⟩
  have H11 := Lib.hid (show WSt none w9.heap.size w9.heap.size w11 ([2, 0, 1, 2], 0) from h1.alone)
  have B11 := Lib.hid (B9.out.trans ((hb11.trans h2).mono B9.out.size))
  clear h1 h2 hWa hb10 hga hb11 H9 B9
  go_wp2_with fail
  refine (done_any _ _ w11 _ H11.out (fun h => absurd rfl h)).mono ?_
  rintro r w12 ⟨v, rfl, a2, n2, c2, rfl, h1, h2, h3, h4, h5⟩
  have H12 := Lib.hid h1
  have Hnil : Hid (a2 = none → n2 = 0 ∧ c2 = 0) := fun h => ⟨by have := h4 h; omega, h4 h⟩
  have hn2 : n2 = 4 := h1.1.symm
  have B12 := Lib.hid (B11.out.trans (h5.mono B11.out.size))
  subst hn2
  clear h1 h2 h3 h4 h5 H11 B11
  go_wp2_with fail
  refine (from_any _ w12 a2 4 c2 [2, 0, 1, 2] H12.out (by omega) Hnil.out).mono ?_
  rintro r w13 ⟨g3, rfl, hg3, h1, h2⟩
  have H13 := Lib.hid h1
  have hs13 : SRow (· = g3) w12 a2 4 [2, 0, 1, 2] := H12.out.imp (fun k hk e => by omega)
  have HS13 := Lib.hid (hs13.kept (Kept.of_below h2))
  have B13 := Lib.hid (B12.out.trans (h2.mono B12.out.size))
  have Hg3 : Hid (w12.heap.size ≤ g3) := hg3
  have Hz12 := Lib.hid B12.out.size
  clear hg3 h1 h2 H12 B12 hs13
  go_wp2_with fail
  refine (take2 g3 w13 H13.out).mono ?_
  rintro r w14 ⟨lb, lc, rfl, hc14, hk14⟩
  have hs14 := row_string c2 (HS13.out.kept hk14)
  have e14 : strOfNums [2, 0, 1, 2] = ⟨#[2, 0, 1, 2]⟩ := by decide
  rw [e14] at hs14
  have B14 := Lib.hid (B13.out.trans (hk14.toBelow B13.out.size (fun k hk e => by have := Hg3.out; have := Hz12.out; omega)))
  clear hk14 e14 HS13 B13 H13
  go_wp2_with fail
  refine (u8w_nil w14).mono ?_
  rintro r w15 ⟨rfl, rfl⟩
  go_wp2_with fail
  refine (done_nil w14).mono ?_
  rintro r w15 ⟨rfl, rfl⟩
  go_wp2_with fail
  refine (ru32_nil w14).mono ?_
  rintro r w15 ⟨rfl, rfl⟩
  go_wp2_with fail
  refine (rat_nil w14).mono ?_
  rintro r w15 ⟨rfl, rfl⟩
  go_wp2_with fail
  refine (rerr_nil w14).mono ?_
  rintro r w15 ⟨rfl, rfl⟩
  go_wp2_with fail
  refine (rend_nil w14).mono ?_
  rintro r w15 ⟨rfl, rfl⟩
  go_wp2_with fail
  refine (rbytes_nil w14).mono ?_
  rintro r w15 ⟨rfl, rfl⟩
  go_wp2_with fail
  go_ret
  exact ⟨rfl, B14.out⟩
end Wire
end Go.Proofs.Ytimhppgepiikbaa
