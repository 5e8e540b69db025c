/- The document's memory: Load, Store, Fetch. (Made by tools/gen_memr4.py.) -/
import Derived.Test.YthpimoinognkhaaMemR3
import Derived.Test.YthpimoinognkhaaMemW6
namespace Go.Proofs.Ythpimoinognkhaa
open Go.ChangeShapes Go.WideShapes Go.ChangeAt Go.RowKit
namespace Ram
set_option linter.unusedVariables false
set_option linter.unusedSimpArgs false
theorem un_drop (L : List Int) (j : Nat) (h : j < L.length) : un (L.drop j) = L.getD j 0 + 256 * un (L.drop (j + 1)) := by
  rw [List.drop_eq_getElem_cons h]
  simp [un, List.getD, h]
theorem low_snoc (k : Nat) (x : Int) : low (k + 1) x = low k x ++ [x / 256 ^ k % 256] := by
  induction k generalizing x with
  | zero => simp [low]
  | succ k ih =>
    rw [show low (k + 1 + 1) x = x % 256 :: low (k + 1) (x / 256) from rfl, ih]
    rw [show low (k + 1) x = x % 256 :: low k (x / 256) from rfl]
    rw [Int.pow_succ, Int.mul_comm, ← Int.ediv_ediv_of_nonneg (by omega)]
    rfl
section
variable {p : Nat → Prop} {g d : Nat} {bs : List Int} {w : World} {ar : Option Addr} {nr cr : Nat} {l : List Rg}
set_option maxHeartbeats 1000000 in
set_option maxRecDepth 100000 in
theorem rload_at1 (h : Ram 48 w g d bs) (hr : RRow p w ar nr l) (hnr : nr ≤ 1000000) (a : Nat) (ha : a ≤ 4294967295) :
    Calls Try.prog 18 #[.pointer (some ⟨g, 0, none⟩), .slice ar nr cr, .int .u32 (a : Int), .int .u8 1] w fun e w' => e = .returned (.tuple #[.int .u32 (if lets l a 1 1 bs.length then un (get bs a 1) else 0), .int .i64 (if lets l a 1 1 bs.length then 0 else 60)]) ∧ Below w.heap.size w w' := by
  have w2 : IntKind.u32.wrap 1 = 1 := by decide
  have w3 : IntKind.i64.wrap 1 = 1 := by decide
  have w5 : IntKind.i64.wrap (a : Int) = a := IntWalk.i64_in _ (by omega)
  have HM : Hid (Calls Try.prog 31 #[.pointer (some ⟨g, 0, none⟩), .slice ar nr cr, .int .u32 (a : Int), .int .u32 1, .int .u8 1] w fun e w' => e = .returned (.bool (lets l a 1 1 bs.length)) ∧ Below w.heap.size w w') := may_any (cr := cr) h hr hnr a 1 1 ha (by omega) (by omega)
  cases hc : lets l a 1 1 bs.length with
  | false =>
    rw [hc] at HM
    clear h hr hc
    go_enter Try.func18, Try.ntmps18
    go_wp2_with (go_at_call 31; with_reducible refine HM.out.mono ?_; rintro e w3 ⟨rfl, hb⟩)
    refine bodyPost_ret (v := .tuple #[.int .u32 0, .int .i64 60]) (by simp [results, Try.f18, go_sem]) rfl ?_
    exact ⟨rfl, hb⟩
  | true =>
    rw [hc] at HM
    have hle := lets_le hc
    have hne : bs ≠ [] := by rintro rfl; simp at hle
    have HP : Hid (∀ W, Below w.heap.size w W → ∃ c, W.cell? ⟨g, 0, none⟩ = some (.slice (some ⟨d, 0, none⟩) bs.length c) ∧ ∀ i, i < bs.length → W.cell? ⟨d, i, none⟩ = some (.int .u8 (bs.getD i 0))) := by
      intro W hb
      obtain ⟨c, p0, p1, p2, p3⟩ := (h.below hb (Nat.le_refl _)).parts hne
      exact ⟨c, p0, fun i hi => row_cell p2 i hi⟩
    have HG : Hid ((get bs a 1).length = 1) := get_len _ _ _ hle
    have HB : Hid (∀ z ∈ get bs a 1, 0 ≤ z ∧ z ≤ 255) := get_by h.1
    have HAt : Hid (∀ i, i < 1 → (get bs a 1).getD i 0 = bs.getD (a + i) 0) := fun i hi => get_at bs a 1 i hi
    have h26 := h.2.1
    clear h hr hc hne
    generalize get bs a 1 = G at *
    generalize bs.length = L at *
    go_enter Try.func18, Try.ntmps18
    go_wp2_with (go_at_call 31; with_reducible refine HM.out.mono ?_; rintro e w3 ⟨rfl, hb⟩)
    have HP3 := Lib.hid (HP.out w3 hb)
    go_loop [10, 11] (fun x i => ∃ k : Nat, k ≤ 1 ∧ i = .int .i64 ((k : Int) - 1) ∧ x = .int .u32 (un (G.drop k))) (fun _ i => (intOf i + 1).toNat)
    case atStart => exact ⟨1, by omega, by go_num, by rw [List.drop_of_length_le (by rw [HG.out]; omega)]; rfl⟩
    case round =>
      obtain ⟨k, hk, rfl, rfl⟩ := hrel
      by_cases hlt : 0 < k
      · obtain ⟨j, rfl⟩ : ∃ j, k = j + 1 := ⟨k - 1, by omega⟩
        have ej : (((j + 1 : Nat) : Int) - 1) = (j : Int) := by omega
        rw [ej]
        clear ej
        have hd : decide ((0 : Int) ≤ (j : Int)) = true := by simp
        obtain ⟨c, p0, p1⟩ := HP3.out
        have p2 := p1 (a + j) (by omega)
        rw [← HAt.out j (by omega)] at p2
        have HU : Hid (un (G.drop j) = G.getD j 0 + 256 * un (G.drop (j + 1))) := un_drop G j (by rw [HG.out]; omega)
        have hz : 0 ≤ G.getD j 0 ∧ G.getD j 0 ≤ 255 := HB.out _ (by simp [List.getD, show j < G.length by rw [HG.out]; omega])
        have hr := un_range (G.drop (j + 1)) (fun z hz => HB.out z (List.mem_of_mem_drop hz))
        have hr2 : un (G.drop (j + 1)) < 16777216 := by
          refine Int.lt_of_lt_of_le hr.2 ?_
          have : (G.drop (j + 1)).length ≤ 3 := by rw [List.length_drop, HG.out]; omega
          have h3 : 256 ^ (G.drop (j + 1)).length ≤ 16777216 := Nat.le_trans (Nat.pow_le_pow_right (n := 256) (by omega) this) (by decide)
          have e := Int.natCast_pow 256 (G.drop (j + 1)).length
          generalize (G.drop (j + 1)).length = q at *
          have e2 : ((256 ^ q : Nat) : Int) ≤ 16777216 := by omega
          rw [e] at e2
          exact e2
        have hr1 := hr.1
        clear hr p1
        have v1 : IntKind.i64.wrap ((a : Int) + j) = (a : Int) + j := IntWalk.i64_in _ (by omega)
        have a0 : (0 : Int) ≤ (a : Int) + j := by omega
        have a1 : (a : Int) + j < (L : Int) := by omega
        have t1 : ((a : Int) + j).toNat = a + j := by omega
        have v2 : IntKind.i64.wrap ((j : Int) - 1) = (j : Int) - 1 := IntWalk.i64_in _ (by omega)
        generalize G.getD j 0 = z at *
        generalize un (G.drop (j + 1)) = u at *
        have v3 : IntKind.u32.wrap (256 * u) = 256 * u := by simp [IntKind.wrap, IntKind.bits, IntKind.signed]; omega
        have v4 : IntKind.u32.wrap (256 * u + z) = 256 * u + z := by simp [IntKind.wrap, IntKind.bits, IntKind.signed]; omega
        have v5 : IntKind.u32.wrap z = z := by simp [IntKind.wrap, IntKind.bits, IntKind.signed]; omega
        go_wp2_with fail
        go_round
        case rel => exact ⟨j, by omega, rfl, by rw [HU.out, Int.add_comm]⟩
        case measure => simp [intOf] <;> omega
      · obtain rfl : k = 0 := by omega
        go_wp2_with fail
        refine bodyPost_ret (v := .tuple #[.int .u32 (un G), .int .i64 0]) (by simp [results, Try.f18, go_sem]) rfl ?_
        exact ⟨rfl, hb⟩
set_option maxHeartbeats 1000000 in
set_option maxRecDepth 100000 in
theorem rstore_at1 (h : Ram 48 w g d bs) (hr : RRow p w ar nr l) (hnr : nr ≤ 1000000) (a : Nat) (x : Int) (ha : a ≤ 4294967295) (hx : 0 ≤ x ∧ x ≤ 4294967295) :
    Calls Try.prog 20 #[.pointer (some ⟨g, 0, none⟩), .slice ar nr cr, .int .u32 (a : Int), .int .u8 1, .int .u32 x] w (DoneP 48 g d (if lets l a 1 2 bs.length then put bs a (low 1 x) else bs) (if lets l a 1 2 bs.length then 0 else 60) w) := by
  have w2 : IntKind.u32.wrap 1 = 1 := by decide
  have w3 : IntKind.i64.wrap 1 = 1 := by decide
  have w5 : IntKind.i64.wrap (a : Int) = a := IntWalk.i64_in _ (by omega)
  have HM : Hid (Calls Try.prog 31 #[.pointer (some ⟨g, 0, none⟩), .slice ar nr cr, .int .u32 (a : Int), .int .u32 1, .int .u8 2] w fun e w' => e = .returned (.bool (lets l a 1 2 bs.length)) ∧ Below w.heap.size w w') := may_any (cr := cr) h hr hnr a 1 2 ha (by omega) (by omega)
  have HR := Lib.hid h
  cases hc : lets l a 1 2 bs.length with
  | false =>
    rw [hc] at HM
    clear h hr hc
    go_enter Try.func20, Try.ntmps20
    go_wp2_with (go_at_call 31; with_reducible refine HM.out.mono ?_; rintro e w3 ⟨rfl, hb⟩)
    go_ret
    exact ⟨rfl, HR.out.below hb (Nat.le_refl _), Kept.of_below hb⟩
  | true =>
    rw [hc] at HM
    have hle := lets_le hc
    have h26 := h.2.1
    clear h hr hc
    go_enter Try.func20, Try.ntmps20
    go_wp2_with (go_at_call 31; with_reducible refine HM.out.mono ?_; rintro e w3 ⟨rfl, hb⟩)
    have HB3 := Lib.hid hb
    clear hb
    go_loopw [4, 11] (fun y i wr => ∃ k : Nat, k ≤ 1 ∧ i = .int .i64 k ∧ y = .int .u32 (x / 256 ^ k) ∧ Ram 48 wr g d (put bs a (low k x)) ∧ Kept (· = d) w wr) (fun _ i _ => 1 - (intOf i).toNat)
    case atStart => exact ⟨0, by omega, rfl, by simp, by rw [show low 0 x = [] from rfl, put_nil]; exact HR.out.below HB3.out (Nat.le_refl _), Kept.of_below HB3.out⟩
    case round =>
      obtain ⟨k, hk, rfl, rfl, hram, hkept⟩ := hrel
      have HRam := Lib.hid hram
      have HK := Lib.hid hkept
      clear hram hkept
      by_cases hlt : k < 1
      · have k0 : (0 : Int) ≤ k := by omega
        have k1 : (k : Int) < 1 := by omega
        have hd : decide ((k : Int) < 1) = true := by simp; omega
        have hlen : (put bs a (low k x)).length = bs.length := put_len _ _ _ (by rw [low_len]; omega)
        have hne : put bs a (low k x) ≠ [] := by intro e; rw [e] at hlen; simp at hlen; omega
        obtain ⟨c0, q0, q1, q2, q3⟩ := HRam.out.parts hne
        have HS2 : Hid (put bs a (low (k + 1) x) = (put bs a (low k x)).set (a + k) (x / 256 ^ k % 256)) := by
          show _ = _
          rw [low_snoc, put_snoc _ _ _ _ (by rw [low_len]; omega), low_len]
        have g2 := row_cell q2 (a + k) (by omega)
        have f2 := row_free q2 (a + k)
        rw [hlen] at q0 q3
        have hp : (0 : Int) < 256 ^ k := Int.pow_pos (by omega)
        have y0 : 0 ≤ x / 256 ^ k := Int.ediv_nonneg hx.1 (by omega)
        have y1 : x / 256 ^ k ≤ x := Int.ediv_le_self _ hx.1
        have HD : Hid (x / 256 ^ (k + 1) = x / 256 ^ k / 256) := by show _ = _; rw [Int.pow_succ, Int.ediv_ediv_of_nonneg (by omega)]
        have HP := Lib.hid (HRam.out.set (a + k) (x / 256 ^ k % 256) (by omega) (by omega))
        have v1 : IntKind.i64.wrap ((a : Int) + k) = (a : Int) + k := IntWalk.i64_in _ (by omega)
        have a0 : (0 : Int) ≤ (a : Int) + k := by omega
        have a1 : (a : Int) + k < (bs.length : Int) := by omega
        have t1 : ((a : Int) + k).toNat = a + k := by omega
        have y2 : x / 256 ^ k ≤ 4294967295 := by omega
        clear q2 hne hlen hp y1 q1
        generalize (put bs a (low k x)).getD (a + k) 0 = old at *
        generalize x / 256 ^ k = y at *
        have v6 : IntKind.u8.wrap (y % 256) = y % 256 := by simp [IntKind.wrap, IntKind.bits, IntKind.signed]
        go_wp2_with fail
        go_roundw
        case rel => exact ⟨k + 1, by omega, by go_num, by rw [HD.out], by rw [HS2.out]; exact HP.out, HK.out.setCell (.inl rfl) _⟩
        case measure => simp [intOf]; omega
      · have hd : decide ((k : Int) < 1) = false := by simp; omega
        obtain rfl : k = 1 := by omega
        go_wp2_with fail
        go_ret
        exact ⟨rfl, HRam.out, HK.out⟩
set_option maxHeartbeats 1000000 in
set_option maxRecDepth 100000 in
theorem rload_at2 (h : Ram 48 w g d bs) (hr : RRow p w ar nr l) (hnr : nr ≤ 1000000) (a : Nat) (ha : a ≤ 4294967295) :
    Calls Try.prog 18 #[.pointer (some ⟨g, 0, none⟩), .slice ar nr cr, .int .u32 (a : Int), .int .u8 2] w fun e w' => e = .returned (.tuple #[.int .u32 (if lets l a 2 1 bs.length then un (get bs a 2) else 0), .int .i64 (if lets l a 2 1 bs.length then 0 else 60)]) ∧ Below w.heap.size w w' := by
  have w2 : IntKind.u32.wrap 2 = 2 := by decide
  have w3 : IntKind.i64.wrap 2 = 2 := by decide
  have w5 : IntKind.i64.wrap (a : Int) = a := IntWalk.i64_in _ (by omega)
  have HM : Hid (Calls Try.prog 31 #[.pointer (some ⟨g, 0, none⟩), .slice ar nr cr, .int .u32 (a : Int), .int .u32 2, .int .u8 1] w fun e w' => e = .returned (.bool (lets l a 2 1 bs.length)) ∧ Below w.heap.size w w') := may_any (cr := cr) h hr hnr a 2 1 ha (by omega) (by omega)
  cases hc : lets l a 2 1 bs.length with
  | false =>
    rw [hc] at HM
    clear h hr hc
    go_enter Try.func18, Try.ntmps18
    go_wp2_with (go_at_call 31; with_reducible refine HM.out.mono ?_; rintro e w3 ⟨rfl, hb⟩)
    refine bodyPost_ret (v := .tuple #[.int .u32 0, .int .i64 60]) (by simp [results, Try.f18, go_sem]) rfl ?_
    exact ⟨rfl, hb⟩
  | true =>
    rw [hc] at HM
    have hle := lets_le hc
    have hne : bs ≠ [] := by rintro rfl; simp at hle
    have HP : Hid (∀ W, Below w.heap.size w W → ∃ c, W.cell? ⟨g, 0, none⟩ = some (.slice (some ⟨d, 0, none⟩) bs.length c) ∧ ∀ i, i < bs.length → W.cell? ⟨d, i, none⟩ = some (.int .u8 (bs.getD i 0))) := by
      intro W hb
      obtain ⟨c, p0, p1, p2, p3⟩ := (h.below hb (Nat.le_refl _)).parts hne
      exact ⟨c, p0, fun i hi => row_cell p2 i hi⟩
    have HG : Hid ((get bs a 2).length = 2) := get_len _ _ _ hle
    have HB : Hid (∀ z ∈ get bs a 2, 0 ≤ z ∧ z ≤ 255) := get_by h.1
    have HAt : Hid (∀ i, i < 2 → (get bs a 2).getD i 0 = bs.getD (a + i) 0) := fun i hi => get_at bs a 2 i hi
    have h26 := h.2.1
    clear h hr hc hne
    generalize get bs a 2 = G at *
    generalize bs.length = L at *
    go_enter Try.func18, Try.ntmps18
    go_wp2_with (go_at_call 31; with_reducible refine HM.out.mono ?_; rintro e w3 ⟨rfl, hb⟩)
    have HP3 := Lib.hid (HP.out w3 hb)
    go_loop [10, 11] (fun x i => ∃ k : Nat, k ≤ 2 ∧ i = .int .i64 ((k : Int) - 1) ∧ x = .int .u32 (un (G.drop k))) (fun _ i => (intOf i + 1).toNat)
    case atStart => exact ⟨2, by omega, by go_num, by rw [List.drop_of_length_le (by rw [HG.out]; omega)]; rfl⟩
    case round =>
      obtain ⟨k, hk, rfl, rfl⟩ := hrel
      by_cases hlt : 0 < k
      · obtain ⟨j, rfl⟩ : ∃ j, k = j + 1 := ⟨k - 1, by omega⟩
        have ej : (((j + 1 : Nat) : Int) - 1) = (j : Int) := by omega
        rw [ej]
        clear ej
        have hd : decide ((0 : Int) ≤ (j : Int)) = true := by simp
        obtain ⟨c, p0, p1⟩ := HP3.out
        have p2 := p1 (a + j) (by omega)
        rw [← HAt.out j (by omega)] at p2
        have HU : Hid (un (G.drop j) = G.getD j 0 + 256 * un (G.drop (j + 1))) := un_drop G j (by rw [HG.out]; omega)
        have hz : 0 ≤ G.getD j 0 ∧ G.getD j 0 ≤ 255 := HB.out _ (by simp [List.getD, show j < G.length by rw [HG.out]; omega])
        have hr := un_range (G.drop (j + 1)) (fun z hz => HB.out z (List.mem_of_mem_drop hz))
        have hr2 : un (G.drop (j + 1)) < 16777216 := by
          refine Int.lt_of_lt_of_le hr.2 ?_
          have : (G.drop (j + 1)).length ≤ 3 := by rw [List.length_drop, HG.out]; omega
          have h3 : 256 ^ (G.drop (j + 1)).length ≤ 16777216 := Nat.le_trans (Nat.pow_le_pow_right (n := 256) (by omega) this) (by decide)
          have e := Int.natCast_pow 256 (G.drop (j + 1)).length
          generalize (G.drop (j + 1)).length = q at *
          have e2 : ((256 ^ q : Nat) : Int) ≤ 16777216 := by omega
          rw [e] at e2
          exact e2
        have hr1 := hr.1
        clear hr p1
        have v1 : IntKind.i64.wrap ((a : Int) + j) = (a : Int) + j := IntWalk.i64_in _ (by omega)
        have a0 : (0 : Int) ≤ (a : Int) + j := by omega
        have a1 : (a : Int) + j < (L : Int) := by omega
        have t1 : ((a : Int) + j).toNat = a + j := by omega
        have v2 : IntKind.i64.wrap ((j : Int) - 1) = (j : Int) - 1 := IntWalk.i64_in _ (by omega)
        generalize G.getD j 0 = z at *
        generalize un (G.drop (j + 1)) = u at *
        have v3 : IntKind.u32.wrap (256 * u) = 256 * u := by simp [IntKind.wrap, IntKind.bits, IntKind.signed]; omega
        have v4 : IntKind.u32.wrap (256 * u + z) = 256 * u + z := by simp [IntKind.wrap, IntKind.bits, IntKind.signed]; omega
        have v5 : IntKind.u32.wrap z = z := by simp [IntKind.wrap, IntKind.bits, IntKind.signed]; omega
        go_wp2_with fail
        go_round
        case rel => exact ⟨j, by omega, rfl, by rw [HU.out, Int.add_comm]⟩
        case measure => simp [intOf] <;> omega
      · obtain rfl : k = 0 := by omega
        go_wp2_with fail
        refine bodyPost_ret (v := .tuple #[.int .u32 (un G), .int .i64 0]) (by simp [results, Try.f18, go_sem]) rfl ?_
        exact ⟨rfl, hb⟩
set_option maxHeartbeats 1000000 in
set_option maxRecDepth 100000 in
theorem rstore_at2 (h : Ram 48 w g d bs) (hr : RRow p w ar nr l) (hnr : nr ≤ 1000000) (a : Nat) (x : Int) (ha : a ≤ 4294967295) (hx : 0 ≤ x ∧ x ≤ 4294967295) :
    Calls Try.prog 20 #[.pointer (some ⟨g, 0, none⟩), .slice ar nr cr, .int .u32 (a : Int), .int .u8 2, .int .u32 x] w (DoneP 48 g d (if lets l a 2 2 bs.length then put bs a (low 2 x) else bs) (if lets l a 2 2 bs.length then 0 else 60) w) := by
  have w2 : IntKind.u32.wrap 2 = 2 := by decide
  have w3 : IntKind.i64.wrap 2 = 2 := by decide
  have w5 : IntKind.i64.wrap (a : Int) = a := IntWalk.i64_in _ (by omega)
  have HM : Hid (Calls Try.prog 31 #[.pointer (some ⟨g, 0, none⟩), .slice ar nr cr, .int .u32 (a : Int), .int .u32 2, .int .u8 2] w fun e w' => e = .returned (.bool (lets l a 2 2 bs.length)) ∧ Below w.heap.size w w') := may_any (cr := cr) h hr hnr a 2 2 ha (by omega) (by omega)
  have HR := Lib.hid h
  cases hc : lets l a 2 2 bs.length with
  | false =>
    rw [hc] at HM
    clear h hr hc
    go_enter Try.func20, Try.ntmps20
    go_wp2_with (go_at_call 31; with_reducible refine HM.out.mono ?_; rintro e w3 ⟨rfl, hb⟩)
    go_ret
    exact ⟨rfl, HR.out.below hb (Nat.le_refl _), Kept.of_below hb⟩
  | true =>
    rw [hc] at HM
    have hle := lets_le hc
    have h26 := h.2.1
    clear h hr hc
    go_enter Try.func20, Try.ntmps20
    go_wp2_with (go_at_call 31; with_reducible refine HM.out.mono ?_; rintro e w3 ⟨rfl, hb⟩)
    have HB3 := Lib.hid hb
    clear hb
    go_loopw [4, 11] (fun y i wr => ∃ k : Nat, k ≤ 2 ∧ i = .int .i64 k ∧ y = .int .u32 (x / 256 ^ k) ∧ Ram 48 wr g d (put bs a (low k x)) ∧ Kept (· = d) w wr) (fun _ i _ => 2 - (intOf i).toNat)
    case atStart => exact ⟨0, by omega, rfl, by simp, by rw [show low 0 x = [] from rfl, put_nil]; exact HR.out.below HB3.out (Nat.le_refl _), Kept.of_below HB3.out⟩
    case round =>
      obtain ⟨k, hk, rfl, rfl, hram, hkept⟩ := hrel
      have HRam := Lib.hid hram
      have HK := Lib.hid hkept
      clear hram hkept
      by_cases hlt : k < 2
      · have k0 : (0 : Int) ≤ k := by omega
        have k1 : (k : Int) < 2 := by omega
        have hd : decide ((k : Int) < 2) = true := by simp; omega
        have hlen : (put bs a (low k x)).length = bs.length := put_len _ _ _ (by rw [low_len]; omega)
        have hne : put bs a (low k x) ≠ [] := by intro e; rw [e] at hlen; simp at hlen; omega
        obtain ⟨c0, q0, q1, q2, q3⟩ := HRam.out.parts hne
        have HS2 : Hid (put bs a (low (k + 1) x) = (put bs a (low k x)).set (a + k) (x / 256 ^ k % 256)) := by
          show _ = _
          rw [low_snoc, put_snoc _ _ _ _ (by rw [low_len]; omega), low_len]
        have g2 := row_cell q2 (a + k) (by omega)
        have f2 := row_free q2 (a + k)
        rw [hlen] at q0 q3
        have hp : (0 : Int) < 256 ^ k := Int.pow_pos (by omega)
        have y0 : 0 ≤ x / 256 ^ k := Int.ediv_nonneg hx.1 (by omega)
        have y1 : x / 256 ^ k ≤ x := Int.ediv_le_self _ hx.1
        have HD : Hid (x / 256 ^ (k + 1) = x / 256 ^ k / 256) := by show _ = _; rw [Int.pow_succ, Int.ediv_ediv_of_nonneg (by omega)]
        have HP := Lib.hid (HRam.out.set (a + k) (x / 256 ^ k % 256) (by omega) (by omega))
        have v1 : IntKind.i64.wrap ((a : Int) + k) = (a : Int) + k := IntWalk.i64_in _ (by omega)
        have a0 : (0 : Int) ≤ (a : Int) + k := by omega
        have a1 : (a : Int) + k < (bs.length : Int) := by omega
        have t1 : ((a : Int) + k).toNat = a + k := by omega
        have y2 : x / 256 ^ k ≤ 4294967295 := by omega
        clear q2 hne hlen hp y1 q1
        generalize (put bs a (low k x)).getD (a + k) 0 = old at *
        generalize x / 256 ^ k = y at *
        have v6 : IntKind.u8.wrap (y % 256) = y % 256 := by simp [IntKind.wrap, IntKind.bits, IntKind.signed]
        go_wp2_with fail
        go_roundw
        case rel => exact ⟨k + 1, by omega, by go_num, by rw [HD.out], by rw [HS2.out]; exact HP.out, HK.out.setCell (.inl rfl) _⟩
        case measure => simp [intOf]; omega
      · have hd : decide ((k : Int) < 2) = false := by simp; omega
        obtain rfl : k = 2 := by omega
        go_wp2_with fail
        go_ret
        exact ⟨rfl, HRam.out, HK.out⟩
set_option maxHeartbeats 1000000 in
set_option maxRecDepth 100000 in
theorem rload_at4 (h : Ram 48 w g d bs) (hr : RRow p w ar nr l) (hnr : nr ≤ 1000000) (a : Nat) (ha : a ≤ 4294967295) :
    Calls Try.prog 18 #[.pointer (some ⟨g, 0, none⟩), .slice ar nr cr, .int .u32 (a : Int), .int .u8 4] w fun e w' => e = .returned (.tuple #[.int .u32 (if lets l a 4 1 bs.length then un (get bs a 4) else 0), .int .i64 (if lets l a 4 1 bs.length then 0 else 60)]) ∧ Below w.heap.size w w' := by
  have w2 : IntKind.u32.wrap 4 = 4 := by decide
  have w3 : IntKind.i64.wrap 4 = 4 := by decide
  have w5 : IntKind.i64.wrap (a : Int) = a := IntWalk.i64_in _ (by omega)
  have HM : Hid (Calls Try.prog 31 #[.pointer (some ⟨g, 0, none⟩), .slice ar nr cr, .int .u32 (a : Int), .int .u32 4, .int .u8 1] w fun e w' => e = .returned (.bool (lets l a 4 1 bs.length)) ∧ Below w.heap.size w w') := may_any (cr := cr) h hr hnr a 4 1 ha (by omega) (by omega)
  cases hc : lets l a 4 1 bs.length with
  | false =>
    rw [hc] at HM
    clear h hr hc
    go_enter Try.func18, Try.ntmps18
    go_wp2_with (go_at_call 31; with_reducible refine HM.out.mono ?_; rintro e w3 ⟨rfl, hb⟩)
    refine bodyPost_ret (v := .tuple #[.int .u32 0, .int .i64 60]) (by simp [results, Try.f18, go_sem]) rfl ?_
    exact ⟨rfl, hb⟩
  | true =>
    rw [hc] at HM
    have hle := lets_le hc
    have hne : bs ≠ [] := by rintro rfl; simp at hle
    have HP : Hid (∀ W, Below w.heap.size w W → ∃ c, W.cell? ⟨g, 0, none⟩ = some (.slice (some ⟨d, 0, none⟩) bs.length c) ∧ ∀ i, i < bs.length → W.cell? ⟨d, i, none⟩ = some (.int .u8 (bs.getD i 0))) := by
      intro W hb
      obtain ⟨c, p0, p1, p2, p3⟩ := (h.below hb (Nat.le_refl _)).parts hne
      exact ⟨c, p0, fun i hi => row_cell p2 i hi⟩
    have HG : Hid ((get bs a 4).length = 4) := get_len _ _ _ hle
    have HB : Hid (∀ z ∈ get bs a 4, 0 ≤ z ∧ z ≤ 255) := get_by h.1
    have HAt : Hid (∀ i, i < 4 → (get bs a 4).getD i 0 = bs.getD (a + i) 0) := fun i hi => get_at bs a 4 i hi
    have h26 := h.2.1
    clear h hr hc hne
    generalize get bs a 4 = G at *
    generalize bs.length = L at *
    go_enter Try.func18, Try.ntmps18
    go_wp2_with (go_at_call 31; with_reducible refine HM.out.mono ?_; rintro e w3 ⟨rfl, hb⟩)
    have HP3 := Lib.hid (HP.out w3 hb)
    go_loop [10, 11] (fun x i => ∃ k : Nat, k ≤ 4 ∧ i = .int .i64 ((k : Int) - 1) ∧ x = .int .u32 (un (G.drop k))) (fun _ i => (intOf i + 1).toNat)
    case atStart => exact ⟨4, by omega, by go_num, by rw [List.drop_of_length_le (by rw [HG.out]; omega)]; rfl⟩
    case round =>
      obtain ⟨k, hk, rfl, rfl⟩ := hrel
      by_cases hlt : 0 < k
      · obtain ⟨j, rfl⟩ : ∃ j, k = j + 1 := ⟨k - 1, by omega⟩
        have ej : (((j + 1 : Nat) : Int) - 1) = (j : Int) := by omega
        rw [ej]
        clear ej
        have hd : decide ((0 : Int) ≤ (j : Int)) = true := by simp
        obtain ⟨c, p0, p1⟩ := HP3.out
        have p2 := p1 (a + j) (by omega)
        rw [← HAt.out j (by omega)] at p2
        have HU : Hid (un (G.drop j) = G.getD j 0 + 256 * un (G.drop (j + 1))) := un_drop G j (by rw [HG.out]; omega)
        have hz : 0 ≤ G.getD j 0 ∧ G.getD j 0 ≤ 255 := HB.out _ (by simp [List.getD, show j < G.length by rw [HG.out]; omega])
        have hr := un_range (G.drop (j + 1)) (fun z hz => HB.out z (List.mem_of_mem_drop hz))
        have hr2 : un (G.drop (j + 1)) < 16777216 := by
          refine Int.lt_of_lt_of_le hr.2 ?_
          have : (G.drop (j + 1)).length ≤ 3 := by rw [List.length_drop, HG.out]; omega
          have h3 : 256 ^ (G.drop (j + 1)).length ≤ 16777216 := Nat.le_trans (Nat.pow_le_pow_right (n := 256) (by omega) this) (by decide)
          have e := Int.natCast_pow 256 (G.drop (j + 1)).length
          generalize (G.drop (j + 1)).length = q at *
          have e2 : ((256 ^ q : Nat) : Int) ≤ 16777216 := by omega
          rw [e] at e2
          exact e2
        have hr1 := hr.1
        clear hr p1
        have v1 : IntKind.i64.wrap ((a : Int) + j) = (a : Int) + j := IntWalk.i64_in _ (by omega)
        have a0 : (0 : Int) ≤ (a : Int) + j := by omega
        have a1 : (a : Int) + j < (L : Int) := by omega
        have t1 : ((a : Int) + j).toNat = a + j := by omega
        have v2 : IntKind.i64.wrap ((j : Int) - 1) = (j : Int) - 1 := IntWalk.i64_in _ (by omega)
        generalize G.getD j 0 = z at *
        generalize un (G.drop (j + 1)) = u at *
        have v3 : IntKind.u32.wrap (256 * u) = 256 * u := by simp [IntKind.wrap, IntKind.bits, IntKind.signed]; omega
        have v4 : IntKind.u32.wrap (256 * u + z) = 256 * u + z := by simp [IntKind.wrap, IntKind.bits, IntKind.signed]; omega
        have v5 : IntKind.u32.wrap z = z := by simp [IntKind.wrap, IntKind.bits, IntKind.signed]; omega
        go_wp2_with fail
        go_round
        case rel => exact ⟨j, by omega, rfl, by rw [HU.out, Int.add_comm]⟩
        case measure => simp [intOf] <;> omega
      · obtain rfl : k = 0 := by omega
        go_wp2_with fail
        refine bodyPost_ret (v := .tuple #[.int .u32 (un G), .int .i64 0]) (by simp [results, Try.f18, go_sem]) rfl ?_
        exact ⟨rfl, hb⟩
set_option maxHeartbeats 1000000 in
set_option maxRecDepth 100000 in
theorem rstore_at4 (h : Ram 48 w g d bs) (hr : RRow p w ar nr l) (hnr : nr ≤ 1000000) (a : Nat) (x : Int) (ha : a ≤ 4294967295) (hx : 0 ≤ x ∧ x ≤ 4294967295) :
    Calls Try.prog 20 #[.pointer (some ⟨g, 0, none⟩), .slice ar nr cr, .int .u32 (a : Int), .int .u8 4, .int .u32 x] w (DoneP 48 g d (if lets l a 4 2 bs.length then put bs a (low 4 x) else bs) (if lets l a 4 2 bs.length then 0 else 60) w) := by
  have w2 : IntKind.u32.wrap 4 = 4 := by decide
  have w3 : IntKind.i64.wrap 4 = 4 := by decide
  have w5 : IntKind.i64.wrap (a : Int) = a := IntWalk.i64_in _ (by omega)
  have HM : Hid (Calls Try.prog 31 #[.pointer (some ⟨g, 0, none⟩), .slice ar nr cr, .int .u32 (a : Int), .int .u32 4, .int .u8 2] w fun e w' => e = .returned (.bool (lets l a 4 2 bs.length)) ∧ Below w.heap.size w w') := may_any (cr := cr) h hr hnr a 4 2 ha (by omega) (by omega)
  have HR := Lib.hid h
  cases hc : lets l a 4 2 bs.length with
  | false =>
    rw [hc] at HM
    clear h hr hc
    go_enter Try.func20, Try.ntmps20
    go_wp2_with (go_at_call 31; with_reducible refine HM.out.mono ?_; rintro e w3 ⟨rfl, hb⟩)
    go_ret
    exact ⟨rfl, HR.out.below hb (Nat.le_refl _), Kept.of_below hb⟩
  | true =>
    rw [hc] at HM
    have hle := lets_le hc
    have h26 := h.2.1
    clear h hr hc
    go_enter Try.func20, Try.ntmps20
    go_wp2_with (go_at_call 31; with_reducible refine HM.out.mono ?_; rintro e w3 ⟨rfl, hb⟩)
    have HB3 := Lib.hid hb
    clear hb
    go_loopw [4, 11] (fun y i wr => ∃ k : Nat, k ≤ 4 ∧ i = .int .i64 k ∧ y = .int .u32 (x / 256 ^ k) ∧ Ram 48 wr g d (put bs a (low k x)) ∧ Kept (· = d) w wr) (fun _ i _ => 4 - (intOf i).toNat)
    case atStart => exact ⟨0, by omega, rfl, by simp, by rw [show low 0 x = [] from rfl, put_nil]; exact HR.out.below HB3.out (Nat.le_refl _), Kept.of_below HB3.out⟩
    case round =>
      obtain ⟨k, hk, rfl, rfl, hram, hkept⟩ := hrel
      have HRam := Lib.hid hram
      have HK := Lib.hid hkept
      clear hram hkept
      by_cases hlt : k < 4
      · have k0 : (0 : Int) ≤ k := by omega
        have k1 : (k : Int) < 4 := by omega
        have hd : decide ((k : Int) < 4) = true := by simp; omega
        have hlen : (put bs a (low k x)).length = bs.length := put_len _ _ _ (by rw [low_len]; omega)
        have hne : put bs a (low k x) ≠ [] := by intro e; rw [e] at hlen; simp at hlen; omega
        obtain ⟨c0, q0, q1, q2, q3⟩ := HRam.out.parts hne
        have HS2 : Hid (put bs a (low (k + 1) x) = (put bs a (low k x)).set (a + k) (x / 256 ^ k % 256)) := by
          show _ = _
          rw [low_snoc, put_snoc _ _ _ _ (by rw [low_len]; omega), low_len]
        have g2 := row_cell q2 (a + k) (by omega)
        have f2 := row_free q2 (a + k)
        rw [hlen] at q0 q3
        have hp : (0 : Int) < 256 ^ k := Int.pow_pos (by omega)
        have y0 : 0 ≤ x / 256 ^ k := Int.ediv_nonneg hx.1 (by omega)
        have y1 : x / 256 ^ k ≤ x := Int.ediv_le_self _ hx.1
        have HD : Hid (x / 256 ^ (k + 1) = x / 256 ^ k / 256) := by show _ = _; rw [Int.pow_succ, Int.ediv_ediv_of_nonneg (by omega)]
        have HP := Lib.hid (HRam.out.set (a + k) (x / 256 ^ k % 256) (by omega) (by omega))
        have v1 : IntKind.i64.wrap ((a : Int) + k) = (a : Int) + k := IntWalk.i64_in _ (by omega)
        have a0 : (0 : Int) ≤ (a : Int) + k := by omega
        have a1 : (a : Int) + k < (bs.length : Int) := by omega
        have t1 : ((a : Int) + k).toNat = a + k := by omega
        have y2 : x / 256 ^ k ≤ 4294967295 := by omega
        clear q2 hne hlen hp y1 q1
        generalize (put bs a (low k x)).getD (a + k) 0 = old at *
        generalize x / 256 ^ k = y at *
        have v6 : IntKind.u8.wrap (y % 256) = y % 256 := by simp [IntKind.wrap, IntKind.bits, IntKind.signed]
        go_wp2_with fail
        go_roundw
        case rel => exact ⟨k + 1, by omega, by go_num, by rw [HD.out], by rw [HS2.out]; exact HP.out, HK.out.setCell (.inl rfl) _⟩
        case measure => simp [intOf]; omega
      · have hd : decide ((k : Int) < 4) = false := by simp; omega
        obtain rfl : k = 4 := by omega
        go_wp2_with fail
        go_ret
        exact ⟨rfl, HRam.out, HK.out⟩
theorem rload_any (h : Ram 48 w g d bs) (hr : RRow p w ar nr l) (hnr : nr ≤ 1000000) (a n : Nat) (ha : a ≤ 4294967295) (hn : n ≤ 255) :
    Calls Try.prog 18 #[.pointer (some ⟨g, 0, none⟩), .slice ar nr cr, .int .u32 (a : Int), .int .u8 (n : Int)] w (LoadP (loadM bs l a n) (wordE l a n 1 bs.length) w) := by
  by_cases hw : n = 1 ∨ n = 2 ∨ n = 4
  · rcases hw with rfl | rfl | rfl
    · exact (rload_at1 h hr hnr a ha).mono fun e w' h => h
    · exact (rload_at2 h hr hnr a ha).mono fun e w' h => h
    · exact (rload_at4 h hr hnr a ha).mono fun e w' h => h
  · have e1 : ¬ ((n : Int) = 1) := by omega
    have e2 : ¬ ((n : Int) = 2) := by omega
    have e4 : ¬ ((n : Int) = 4) := by omega
    have b1 : ((n : Int) != 1) = true := by simpa using e1
    have b2 : ((n : Int) != 2) = true := by simpa using e2
    have b4 : ((n : Int) != 4) = true := by simpa using e4
    clear e1 e2 e4
    have HB : Hid (wordB n = false) := by show _ = _; unfold wordB; exact decide_eq_false hw
    have HE : Hid (wordE l a n 1 bs.length = 2) := by show _ = _; unfold wordE; rw [HB.out]; rfl
    have HL : Hid (loadM bs l a n = 0) := by show _ = _; unfold loadM; rw [HB.out]; rfl
    clear h hr hw
    go_enter Try.func18, Try.ntmps18
    go_wp2_with fail
    refine bodyPost_ret (v := .tuple #[.int .u32 0, .int .i64 2]) (by simp [results, Try.f18, go_sem]) rfl ?_
    exact ⟨by rw [HE.out, HL.out], Below.refl _ _⟩
theorem rstore_any (h : Ram 48 w g d bs) (hr : RRow p w ar nr l) (hnr : nr ≤ 1000000) (a n : Nat) (x : Int) (ha : a ≤ 4294967295) (hn : n ≤ 255) (hx : 0 ≤ x ∧ x ≤ 4294967295) :
    Calls Try.prog 20 #[.pointer (some ⟨g, 0, none⟩), .slice ar nr cr, .int .u32 (a : Int), .int .u8 (n : Int), .int .u32 x] w (DoneP 48 g d (storeM bs l a n x) (wordE l a n 2 bs.length) w) := by
  by_cases hw : n = 1 ∨ n = 2 ∨ n = 4
  · rcases hw with rfl | rfl | rfl
    · exact (rstore_at1 h hr hnr a x ha hx).mono fun e w' h => h
    · exact (rstore_at2 h hr hnr a x ha hx).mono fun e w' h => h
    · exact (rstore_at4 h hr hnr a x ha hx).mono fun e w' h => h
  · have e1 : ¬ ((n : Int) = 1) := by omega
    have e2 : ¬ ((n : Int) = 2) := by omega
    have e4 : ¬ ((n : Int) = 4) := by omega
    have b1 : ((n : Int) != 1) = true := by simpa using e1
    have b2 : ((n : Int) != 2) = true := by simpa using e2
    have b4 : ((n : Int) != 4) = true := by simpa using e4
    clear e1 e2 e4
    have HB : Hid (wordB n = false) := by show _ = _; unfold wordB; exact decide_eq_false hw
    have HE : Hid (wordE l a n 2 bs.length = 2) := by show _ = _; unfold wordE; rw [HB.out]; rfl
    have HL : Hid (storeM bs l a n x = bs) := by show _ = _; unfold storeM; rw [HB.out]; rfl
    have HR := Lib.hid h
    clear h hr hw
    go_enter Try.func20, Try.ntmps20
    go_wp2_with fail
    go_ret
    exact ⟨by rw [HE.out]; rfl, by rw [HL.out]; exact HR.out, Kept.refl _ _⟩
theorem rfetch_any (h : Ram 48 w g d bs) (hr : RRow p w ar nr l) (hnr : nr ≤ 1000000) (a : Nat) (ha : a ≤ 4294967295) :
    Calls Try.prog 22 #[.pointer (some ⟨g, 0, none⟩), .slice ar nr cr, .int .u32 (a : Int)] w (RowsP (fetchM bs l a) (boundsE l a 8 4 bs.length) w) := by
  have HM : Hid (Calls Try.prog 31 #[.pointer (some ⟨g, 0, none⟩), .slice ar nr cr, .int .u32 (a : Int), .int .u32 8, .int .u8 4] w fun e w' => e = .returned (.bool (lets l a 8 4 bs.length)) ∧ Below w.heap.size w w') := may_any (cr := cr) h hr hnr a 8 4 ha (by omega) (by omega)
  cases hc : lets l a 8 4 bs.length with
  | false =>
    have HE : Hid (boundsE l a 8 4 bs.length = 60) := by show _ = _; unfold boundsE; rw [hc]; rfl
    have HF : Hid (fetchM bs l a = []) := by show _ = _; unfold fetchM; rw [hc]; rfl
    rw [hc] at HM
    clear h hr hc
    go_enter Try.func22, Try.ntmps22
    go_wp2_with (go_at_call 31; with_reducible refine HM.out.mono ?_; rintro e w3 ⟨rfl, hb⟩)
    refine bodyPost_ret (v := .tuple #[.slice none 0 0, .int .i64 60]) (by simp [results, Try.f22, go_sem]) rfl ?_
    exact ⟨_, _, _, by rw [HE.out], by rw [HF.out]; exact srow_none _ _ _, hb⟩
  | true =>
    have hle := lets_le hc
    have HE : Hid (boundsE l a 8 4 bs.length = 0) := by show _ = _; unfold boundsE; rw [hc]; rfl
    have HF : Hid (fetchM bs l a = getM bs a 8) := by
      show _ = _; unfold fetchM getM; rw [hc, show there a 8 bs.length = true from by unfold there; exact decide_eq_true (.inr hle)]
    have HR : Hid (rangeE a 8 bs.length = 0) := rangeE_ok (by unfold there; exact decide_eq_true (.inr hle))
    have HG : Hid (∀ W, Below w.heap.size w W → Calls Try.prog 16 #[.pointer (some ⟨g, 0, none⟩), .int .u32 (a : Int), .int .u32 8] W (RowsP (getM bs a 8) (rangeE a 8 bs.length) W)) := fun W hb => rget_any (h.below hb (Nat.le_refl _)) a 8 ha (by omega)
    rw [hc] at HM
    rw [HR.out] at HG
    clear h hr hc hle
    go_enter Try.func22, Try.ntmps22
    go_wp2_with (first
      | (go_at_call 31; with_reducible refine HM.out.mono ?_; rintro e w3 ⟨rfl, hb⟩)
      | (go_at_call 16; refine (HG.out w3 hb).mono ?_; rintro e w4 ⟨x, m, c, rfl, hs, hb2⟩))
    refine bodyPost_ret (v := .tuple #[.slice x m c, .int .i64 0]) (by simp [results, Try.f22, go_sem]) rfl ?_
    exact ⟨x, m, c, by rw [HE.out], by rw [HF.out]; exact hs, hb.trans (hb2.mono hb.size)⟩
end
end Ram
end Go.Proofs.Ythpimoinognkhaa
