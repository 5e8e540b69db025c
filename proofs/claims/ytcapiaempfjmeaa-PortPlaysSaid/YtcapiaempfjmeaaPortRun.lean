/- run: a script's calls, one behind the other. -/
import Derived.Test.YtcapiaempfjmeaaPortOpen
import Derived.Deep.DeepCutAuto
import Derived.Deep.CutBlock
namespace Go.Proofs.Ytcapiaempfjmeaa
open Go.ChangeShapes Go.WideShapes Go.ChangeAt Go.RowKit
namespace Prt
set_option linter.unusedVariables false
set_option linter.unusedSimpArgs false
theorem cells5 {X : World} {V : Nat} {v0 v1 v2 v3 v4 : Value} {t : TypeId} {fr : Nat × Nat} (h : X.heap[V]? = some (.cells #[v0, v1, v2, v3, v4] t fr)) :
    X.cell? ⟨V, 0, none⟩ = some v0 ∧ X.cell? ⟨V, 1, none⟩ = some v1 ∧ X.cell? ⟨V, 2, none⟩ = some v2 ∧ X.cell? ⟨V, 3, none⟩ = some v3 ∧ X.cell? ⟨V, 4, none⟩ = some v4 :=
  ⟨by rw [cell_of_row _ _ _ _ _ _ h]; rfl, by rw [cell_of_row _ _ _ _ _ _ h]; rfl, by rw [cell_of_row _ _ _ _ _ _ h]; rfl, by rw [cell_of_row _ _ _ _ _ _ h]; rfl, by rw [cell_of_row _ _ _ _ _ _ h]; rfl⟩
theorem runL_next (c : Bool) (l : List Bx) (D : List Dv) (k : Nat) (h : k < D.length) : runL c l (D.take (k + 1)) = doL c (runL c l (D.take k)) D[k]! := by
  unfold runL
  rw [List.take_add_one, List.foldl_append, List.getElem?_eq_getElem h, getElem!_pos D k h]
  rfl
set_option maxHeartbeats 4000000 in
set_option maxRecDepth 100000 in
theorem run_any {w : World} {g : Nat} {l : List Bx} (h : Pt w g l) {ad : Option Addr} {nd cd : Nat} {D : List Dv} (hd : DRow (fun k => k = g) w ad nd D) (hn : nd ≤ 9223372036854775807) (c : Bool) :
    Calls Try.prog 27 #[.pointer (some ⟨g, 0, none⟩), .slice ad nd cd, .bool c] w (VoidP g (runL c l D) w) := by
  have HD := Lib.hid hd
  have HLen : Hid (D.length = nd) := hd.1
  have HG : Hid (g < w.heap.size) := h.lt
  have HH := Lib.hid h
  clear h hd
  go_enter Try.func27, Try.ntmps27
  go_wp2_with fail
  go_loopw [10] (fun i wr => ∃ k : Nat, k ≤ nd ∧ i = .int .i64 k ∧ Pt wr g (runL c l (D.take k)) ∧ Kept (fun k => k = g) w wr) (fun i _ => nd - (intOf i).toNat)
  case atStart => exact ⟨0, by omega, rfl, HH.out, Kept.refl _ _⟩
  case round =>
    clear HH
    obtain ⟨k, hk, rfl, hp, hkw⟩ := hrel
    have HP := Lib.hid hp
    have HK := Lib.hid hkw
    by_cases hlt : k < nd
    · have k0 : (0 : Int) ≤ k := by omega
      have k1 : (k : Int) < nd := by omega
      have hdd : decide ((k : Int) < (nd : Int)) = true := decide_eq_true (by omega)
      have hd2 : decide (k < nd) = true := decide_eq_true hlt
      obtain ⟨b, off, rfl, _, hrow⟩ := (HD.out.kept hkw).2.resolve_left (by omega)
      obtain ⟨c0, c1, c2, c3, c4⟩ := hrow k hlt
      have HNx := Lib.hid (runL_next c l D k (by rw [HLen.out]; exact hlt))
      clear hp hkw hrow
      generalize D[k]! = y at *
      generalize runL c l (D.take k) = L at *
      obtain ⟨kd, part, port, word, x, ⟨_, _, _, _, hx⟩⟩ := y
      simp only at c0 c1 c2 c3 c4
      have HVb := Lib.hid (heap_alloc_new wr (.cells #[.int .i64 kd, .int .i64 part, .int .i64 port, .int .i64 word, .int .u32 x] 35))
      have HPa := Lib.hid (HP.out.below (below_alloc wr (.cells #[.int .i64 kd, .int .i64 part, .int .i64 port, .int .i64 word, .int .u32 x] 35)) (Nat.le_refl _))
      have HKa : Hid (Kept (fun k => k = g) w (wr.alloc (.cells #[.int .i64 kd, .int .i64 part, .int .i64 port, .int .i64 word, .int .u32 x] 35))) := HK.out.alloc _
      clear HP HK
      go_upto_block 2 with fail
      clear c0 c1 c2 c3 c4
      obtain ⟨V, hV⟩ : ∃ V, wr.heap.size = V := ⟨_, rfl⟩
      rw [hV] at HVb ⊢
      generalize wr.alloc (.cells #[.int .i64 kd, .int .i64 part, .int .i64 port, .int .i64 word, .int .u32 x] 35) = X0 at *
      clear hV
      · have hkd : kd = 2 ∨ kd = 3 ∨ kd = 4 ∨ kd = 5 ∨ kd = 6 ∨ (kd ≠ 2 ∧ kd ≠ 3 ∧ kd ≠ 4 ∧ kd ≠ 5 ∧ kd ≠ 6) := by omega
        rcases hkd with rfl | rfl | rfl | rfl | rfl | ⟨hk2, hk3, hk4, hk5, hk6⟩
        · have HN2 : Hid (runL c l (D.take (k + 1)) = putL L part port word x) := HNx.out.trans (by simp [doL])
          as_aux_lemma =>
            obtain ⟨d0, d1, d2, d3, d4⟩ := cells5 HVb.out
            go_wp2_with (go_at_call 15; refine (put_any HPa.out part port word x hx).mono ?_; rintro e w2 ⟨rfl, hp, hk⟩)
            go_roundw
            case rel => exact ⟨k + 1, by omega, by go_num, by rw [HN2.out]; exact hp, HKa.out.trans hk⟩
            case measure => simp [intOf]; omega
        · have HN2 : Hid (runL c l (D.take (k + 1)) = sendL L part port) := HNx.out.trans (by simp [doL])
          as_aux_lemma =>
            obtain ⟨d0, d1, d2, d3, d4⟩ := cells5 HVb.out
            go_wp2_with (go_at_call 17; refine (send_any HPa.out part port).mono ?_; rintro e w2 ⟨rfl, hp, hk⟩)
            go_roundw
            case rel => exact ⟨k + 1, by omega, by go_num, by rw [HN2.out]; exact hp, HKa.out.trans hk⟩
            case measure => simp [intOf]; omega
        · cases c with
          | true =>
            · have HN2 : Hid (runL true l (D.take (k + 1)) = comL L) := HNx.out.trans (by simp [doL])
              as_aux_lemma =>
                obtain ⟨d0, d1, d2, d3, d4⟩ := cells5 HVb.out
                go_wp2_with (go_at_call 19; refine (Commit_any HPa.out).mono ?_; rintro e w2 ⟨rfl, hp, hk⟩)
                go_roundw
                case rel => exact ⟨k + 1, by omega, by go_num, by rw [HN2.out]; exact hp, HKa.out.trans hk⟩
                case measure => simp [intOf]; omega
          | false =>
            · have HN2 : Hid (runL false l (D.take (k + 1)) = L) := HNx.out.trans (by simp [doL])
              as_aux_lemma =>
                obtain ⟨d0, d1, d2, d3, d4⟩ := cells5 HVb.out
                go_wp2_with fail
                go_roundw
                case rel => exact ⟨k + 1, by omega, by go_num, by rw [HN2.out]; exact HPa.out, HKa.out⟩
                case measure => simp [intOf]; omega
        · have HN2 : Hid (runL c l (D.take (k + 1)) = byL unsB part L) := HNx.out.trans (by simp [doL])
          as_aux_lemma =>
            obtain ⟨d0, d1, d2, d3, d4⟩ := cells5 HVb.out
            go_wp2_with (go_at_call 21; refine (Unsend_any HPa.out part).mono ?_; rintro e w2 ⟨rfl, hp, hk⟩)
            go_roundw
            case rel => exact ⟨k + 1, by omega, by go_num, by rw [HN2.out]; exact hp, HKa.out.trans hk⟩
            case measure => simp [intOf]; omega
        · have HN2 : Hid (runL c l (D.take (k + 1)) = byL dropB part L) := HNx.out.trans (by simp [doL])
          as_aux_lemma =>
            obtain ⟨d0, d1, d2, d3, d4⟩ := cells5 HVb.out
            go_wp2_with (go_at_call 23; refine (Drop_any HPa.out part).mono ?_; rintro e w2 ⟨rfl, hp, hk⟩)
            go_roundw
            case rel => exact ⟨k + 1, by omega, by go_num, by rw [HN2.out]; exact hp, HKa.out.trans hk⟩
            case measure => simp [intOf]; omega
        · have HN2 : Hid (runL c l (D.take (k + 1)) = L) := HNx.out.trans (by simp [doL, hk2, hk3, hk4, hk5, hk6])
          as_aux_lemma =>
            obtain ⟨d0, d1, d2, d3, d4⟩ := cells5 HVb.out
            have z2 : (kd == 2) = false := by simpa using hk2
            have z3 : (kd == 3) = false := by simpa using hk3
            have z4 : (kd == 4) = false := by simpa using hk4
            have z5 : (kd == 5) = false := by simpa using hk5
            have z6 : (kd == 6) = false := by simpa using hk6
            clear hk2 hk3 hk4 hk5 hk6
            go_wp2_with fail
            go_roundw
            case rel => exact ⟨k + 1, by omega, by go_num, by rw [HN2.out]; exact HPa.out, HKa.out⟩
            case measure => simp [intOf]; omega
    · have hdd : decide ((k : Int) < (nd : Int)) = false := decide_eq_false (by omega)
      have hd2 : decide (k < nd) = false := decide_eq_false hlt
      have HE : Hid (D.take k = D) := List.take_of_length_le (by rw [HLen.out]; omega)
      go_wp2_with fail
      go_end0
      have hp := HP.out
      rw [HE.out] at hp
      exact ⟨rfl, hp, HK.out⟩
end Prt
end Go.Proofs.Ytcapiaempfjmeaa
