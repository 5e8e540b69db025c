/- The document's memory: Put, Zero. -/
import Derived.Test.YthpimoinognkhaaMemR1
import Derived.Deep.RegionHeld3
namespace Go.Proofs.Ythpimoinognkhaa
open Go.ChangeShapes Go.WideShapes Go.ChangeAt Go.RowKit
namespace Ram
set_option linter.unusedVariables false
set_option linter.unusedSimpArgs false
section
variable {p : Nat → Prop} {g d : Nat} {bs : List Int} {w : World} {ar : Option Addr} {nr cr : Nat} {l : List Rg}
/-- what a memory that is not empty looks like -/
theorem Ram.parts {T : TypeId} (h : Ram T w g d bs) (h0 : bs ≠ []) : ∃ c, w.cell? ⟨g, 0, none⟩ = some (.slice (some ⟨d, 0, none⟩) bs.length c) ∧ d ≠ g ∧ w.heap[d]? = some (.cells (ints .u8 bs) 5 (0, 0)) ∧ bs.length ≤ 262144 := by
  obtain ⟨h1, h2, h3, h4, ad, c, h5, h6, h7, h8⟩ := h
  obtain ⟨e1, rfl, e3⟩ := h8.resolve_left h0
  exact ⟨c, by rw [cell_of_row _ _ _ _ _ _ h5]; rfl, e1, e3, h2⟩
theorem cell_set_other {X : World} {b1 b2 : Nat} {o1 o2 : Nat} {v u : Value} (h : X.cell? ⟨b1, o1, none⟩ = some v) (hn : b2 ≠ b1) : (X.setCell ⟨b2, o2, none⟩ u).drew.cell? ⟨b1, o1, none⟩ = some v := by
  show (X.setCell ⟨b2, o2, none⟩ u).cell? ⟨b1, o1, none⟩ = some v
  rw [World.cell?_of_block (Below.heap_setCell _ _ _ _ (by simpa using hn.symm))]
  exact h
theorem Ram.set {T : TypeId} (h : Ram T w g d bs) (j : Nat) (z : Int) (hj : j < bs.length) (hz : 0 ≤ z ∧ z ≤ 255) : Ram T (w.setCell ⟨d, j, none⟩ (.int .u8 z)) g d (bs.set j z) := by
  have h0 : bs ≠ [] := by rintro rfl; simp at hj
  obtain ⟨c, _, _, hd, _⟩ := h.parts h0
  refine h.put h0 ((Kept.refl (· = d) _).setCell (.inl rfl) _) (by simp) (fun y hy => ?_) ?_
  · rcases List.mem_or_eq_of_mem_set hy with hy | rfl
    · exact h.1 y hy
    · exact hz
  · rw [row_setCell hd, ints_set]
theorem Ram.drew' {T : TypeId} (h : Ram T w g d bs) : Ram T w.drew g d bs := h
set_option maxHeartbeats 1000000 in
theorem rput_any (h : Ram 48 w g d bs) (a n c : Nat) (ha : a ≤ 4294967295) (hn : n ≤ 9223372036854775807) {ab : Option Addr} {b : List Int} (hl : SRow (· = d) w ab n b) :
    Calls Try.prog 14 #[.pointer (some ⟨g, 0, none⟩), .int .u32 (a : Int), .slice ab n c] w (DoneP 48 g d (putM bs a b) (rangeE a n bs.length) w) := by
  have w1 : IntKind.u64.wrap (a : Int) = a := by simp [IntKind.wrap, IntKind.bits, IntKind.signed]; omega
  have w2 : IntKind.u64.wrap (n : Int) = n := by simp [IntKind.wrap, IntKind.bits, IntKind.signed]; omega
  have w5 : IntKind.i64.wrap (a : Int) = a := IntWalk.i64_in _ (by omega)
  have HT := Lib.hid (there_any h a n ha hn)
  have hll : b.length = n := hl.1
  cases hc : there a n bs.length with
  | false =>
    rw [hc] at HT
    have HE : Hid (rangeE a n bs.length = 5) := by show _ = _; unfold rangeE; rw [hc]; rfl
    have HM : Hid (putM bs a b = bs) := by show _ = _; unfold putM; rw [hll, hc]; rfl
    have HR := Lib.hid h
    clear h hl hc
    go_enter Try.func14, Try.ntmps14
    go_wp2_with (go_at_call 27; refine HT.out.mono ?_; rintro e w3 ⟨rfl, rfl⟩)
    go_ret
    exact ⟨by rw [HE.out]; rfl, by rw [HM.out]; exact HR.out, Kept.refl _ _⟩
  | true =>
    have hle : n ≠ 0 → a + n ≤ bs.length := there_le hc
    rw [hc] at HT
    have HE := Lib.hid (rangeE_ok hc)
    have HM : Hid (putM bs a b = put bs a b) := by show _ = _; unfold putM; rw [hll, hc]; rfl
    have HLe := Lib.hid hle
    have HR := Lib.hid h
    have HB := Lib.hid hl
    have HL := Lib.hid hll
    have HN : Hid (n ≤ 262144) := by
      show _ ≤ _
      have := h.2.1
      by_cases h0 : n = 0
      · omega
      · have := hle h0; omega
    clear h hl hc hle hll
    go_enter Try.func14, Try.ntmps14
    go_wp2_with (go_at_call 27; refine HT.out.mono ?_; rintro e w3 ⟨rfl, rfl⟩)
    go_loopw [7] (fun i wr => ∃ k : Nat, k ≤ n ∧ i = .int .i64 k ∧ Ram 48 wr g d (put bs a (b.take k)) ∧ Kept (· = d) w3 wr) (fun i _ => n - (intOf i).toNat)
    case atStart => exact ⟨0, by omega, rfl, by rw [List.take_zero, put_nil]; exact HR.out, Kept.refl _ _⟩
    case round =>
      obtain ⟨k, hk, rfl, hram, hkept⟩ := hrel
      have HRam := Lib.hid hram
      have HK := Lib.hid hkept
      clear hram hkept
      by_cases hlt : k < n
      · have k0 : (0 : Int) ≤ k := by omega
        have k1 : (k : Int) < n := by omega
        have hd : decide ((k : Int) < (n : Int)) = true := by simp; omega
        have hfit := HLe.out (by omega)
        have hn2 := HN.out
        have htl : (b.take k).length = k := by rw [List.length_take, HL.out]; omega
        have hlen : (put bs a (b.take k)).length = bs.length := put_len _ _ _ (by rw [htl]; omega)
        have hne : put bs a (b.take k) ≠ [] := by intro e; rw [e] at hlen; simp at hlen; omega
        obtain ⟨c0, q0, q1, q2, q3⟩ := HRam.out.parts hne
        obtain ⟨hbl, hby, hrow⟩ := HB.out.kept HK.out
        obtain ⟨rb, off, rfl, hrb, hcell⟩ := hrow.resolve_left (by omega)
        have g1 := hcell k hlt
        have hz : 0 ≤ b.getD k 0 ∧ b.getD k 0 ≤ 255 := hby _ (by simp [List.getD, show k < b.length by omega])
        have HS2 : Hid (put bs a (b.take (k + 1)) = (put bs a (b.take k)).set (a + k) (b.getD k 0)) := by
          show _ = _
          have hkb : k < b.length := by rw [HL.out]; exact hlt
          rw [List.take_succ_eq_append_getElem hkb, put_snoc _ _ _ _ (by rw [htl]; omega), htl]
          simp [List.getD, hkb]
        have g2 := row_cell q2 (a + k) (by omega)
        have f2 := row_free q2 (a + k)
        rw [hlen] at q0 q3
        have HP := Lib.hid (HRam.out.set (a + k) (b.getD k 0) (by omega) hz)
        have v1 : IntKind.i64.wrap ((a : Int) + k) = (a : Int) + k := IntWalk.i64_in _ (by omega)
        have a0 : (0 : Int) ≤ (a : Int) + k := by omega
        have a1 : (a : Int) + k < (bs.length : Int) := by omega
        have t1 : ((a : Int) + k).toNat = a + k := by omega
        clear q2 hbl hby hrow hcell hne htl hlen hfit
        generalize (put bs a (b.take k)).getD (a + k) 0 = old at *
        generalize b.getD k 0 = z at *
        have HS : Hid (∀ u : Value, (wr.setCell ⟨d, a + k, none⟩ u).drew.cell? ⟨g, 0, none⟩ = some (.slice (some ⟨d, 0, none⟩) bs.length c0) ∧ (wr.setCell ⟨d, a + k, none⟩ u).drew.cell? ⟨rb, off + k, none⟩ = some (.int .u8 z)) :=
          fun u => ⟨cell_set_other q0 q1, cell_set_other g1 (fun e => hrb e.symm)⟩
        have HQ := Lib.hid q1
        have HQ2 := Lib.hid hrb
        clear q1 hrb
        go_wp2_with fail
        go_region_held3 (fun w' => w'.cell? ⟨g, 0, none⟩ = some (.slice (some ⟨d, 0, none⟩) bs.length c0) ∧ w'.cell? ⟨rb, off + k, none⟩ = some (.int .u8 z)) (first | exact HS.out _ | go_keep) (fail)
        go_wp2_with fail
        go_roundw
        case rel => exact ⟨k + 1, by omega, by go_num, by rw [HS2.out]; exact HP.out.drew', (HK.out.setCell (.inl rfl) _).drew⟩
        case measure => simp [intOf]; omega
      · have hd : decide ((k : Int) < (n : Int)) = false := by simp; omega
        obtain rfl : k = n := by omega
        go_wp2_with fail
        go_ret
        have e := HRam.out
        rw [List.take_of_length_le (by rw [HL.out]; omega)] at e
        exact ⟨by rw [HE.out]; rfl, by rw [HM.out]; exact e, HK.out⟩
theorem rzero_any (h : Ram 48 w g d bs) (a n : Nat) (ha : a ≤ 4294967295) (hn : n ≤ 4294967295) :
    Calls Try.prog 12 #[.pointer (some ⟨g, 0, none⟩), .int .u32 (a : Int), .int .u32 (n : Int)] w (DoneP 48 g d (zeroM bs a n) (rangeE a n bs.length) w) := by
  have w1 : IntKind.u64.wrap (a : Int) = a := by simp [IntKind.wrap, IntKind.bits, IntKind.signed]; omega
  have w2 : IntKind.u64.wrap (n : Int) = n := by simp [IntKind.wrap, IntKind.bits, IntKind.signed]; omega
  have HT := Lib.hid (there_any h a n ha (by omega))
  cases hc : there a n bs.length with
  | false =>
    rw [hc] at HT
    have HE : Hid (rangeE a n bs.length = 5) := by show _ = _; unfold rangeE; rw [hc]; rfl
    have HM : Hid (zeroM bs a n = bs) := by show _ = _; unfold zeroM; rw [hc]; rfl
    have HR := Lib.hid h
    clear h hc
    go_enter Try.func12, Try.ntmps12
    go_wp2_with (go_at_call 27; refine HT.out.mono ?_; rintro e w3 ⟨rfl, rfl⟩)
    go_ret
    exact ⟨by rw [HE.out]; rfl, by rw [HM.out]; exact HR.out, Kept.refl _ _⟩
  | true =>
    rw [hc] at HT
    have hN : n ≤ 262144 := by
      have h2 := h.2.1
      by_cases h0 : n = 0
      · omega
      · have := there_le hc h0; omega
    have hmk := fun W => run_make_zeros W .u32 n (by omega)
    have HM : Hid (zeroM bs a n = putM bs a (List.replicate n 0)) := by
      show _ = _; unfold zeroM putM; rw [List.length_replicate]
    have HP : Hid (Calls Try.prog 14 #[.pointer (some ⟨g, 0, none⟩), .int .u32 (a : Int), .slice (some ⟨w.heap.size, 0, none⟩) n n] (w.alloc (.cells (ints .u8 (List.replicate n 0)) 5)) (DoneP 48 g d (putM bs a (List.replicate n 0)) (rangeE a n bs.length) (w.alloc (.cells (ints .u8 (List.replicate n 0)) 5)))) := by
      refine rput_any (h.below (below_alloc _ _) (Nat.le_refl _)) a n n ha (by omega) (b := List.replicate n 0) ⟨by simp, rep_by n, .inr ⟨_, 0, rfl, ?_, fun i hi => ?_⟩⟩
      · intro e; have := h.2.2.2.1; omega
      · rw [Nat.zero_add]; exact row_cell (heap_alloc_new _ _) i (by simpa using hi)
    rw [HM.out]
    clear h hc hN HM
    generalize List.replicate n (0 : Int) = Z at *
    go_enter Try.func12, Try.ntmps12
    go_wp2_with (first
      | (go_at_call 27; refine HT.out.mono ?_; rintro e w3 ⟨rfl, rfl⟩)
      | rw [hmk]
      | (go_at_call 14; refine HP.out.mono ?_; rintro e w4 ⟨rfl, hr, hk⟩))
    go_ret
    exact ⟨rfl, hr, ((Kept.refl (· = d) _).alloc _).trans hk⟩
end
end Ram
end Go.Proofs.Ythpimoinognkhaa
