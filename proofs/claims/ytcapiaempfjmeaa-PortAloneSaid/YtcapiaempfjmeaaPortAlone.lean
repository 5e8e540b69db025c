/- The statement PortAlone holds: whatever definitions, whatever script and whatever port are handed in, the call answers true, and what was handed in reads as it did. No condition. -/
import Derived.Test.YtcapiaempfjmeaaPortLess
namespace Go.Proofs.Ytcapiaempfjmeaa
open Go.ChangeShapes Go.WideShapes Go.ChangeAt Go.RowKit
namespace Prt
namespace Alone
set_option linter.unusedVariables false
set_option linter.unusedSimpArgs false
set_option maxHeartbeats 4000000
set_option maxRecDepth 100000
theorem walk (W : World) (a0 : Option Addr) (n0 c0 : Nat) (l : List Df) (h0 : FRow (fun k => W.heap.size ≤ k) W a0 n0 l) (hc0 : n0 ≤ c0 ∧ c0 ≤ 9223372036854775807)
    (a1 : Option Addr) (n1 c1 : Nat) (D : List Dv) (h1 : DRow (fun k => W.heap.size ≤ k) W a1 n1 D) (hc1 : n1 ≤ c1 ∧ c1 ≤ 9223372036854775807) (n : Int) (hn : -9223372036854775808 ≤ n ∧ n ≤ 9223372036854775807) :
    Calls Try.prog 5 #[.slice a0 n0 c0, .slice a1 n1 c1, .int .i64 n] W fun e w' => e = .returned (.bool true) ∧ Below W.heap.size W w' := by
  have hbT : ∀ {X Y : World}, Below W.heap.size W X → Below X.heap.size X Y → Below W.heap.size W Y := fun h k => h.trans (k.mono h.size)
  have HF := Lib.hid (fun (X : World) (h : Below W.heap.size W X) => h0.kept (Kept.below h))
  have HD := Lib.hid (fun (X : World) (h : Below W.heap.size W X) => h1.kept (Kept.below h))
  have HL : Hid (l.length = n0) := h0.1
  have HDl : Hid (D.length = n1) := h1.1
  clear h0 h1
  by_cases g1 : 100 < n0
  · have e1 : decide ((100 : Int) < (n0 : Int)) = true := decide_eq_true (by omega)
    go_enter Try.func5, Try.ntmps5
    go_wp2_with (go_at_call 6; refine (known_any W).mono ?_; rintro e w1 ⟨rfl, hb1⟩)
    go_ret
    exact ⟨rfl, hb1⟩
  have e1 : decide ((100 : Int) < (n0 : Int)) = false := decide_eq_false (by omega)
  by_cases g2 : 1000 < n1
  · have e2 : decide ((1000 : Int) < (n1 : Int)) = true := decide_eq_true (by omega)
    go_enter Try.func5, Try.ntmps5
    go_wp2_with (go_at_call 6; refine (known_any W).mono ?_; rintro e w1 ⟨rfl, hb1⟩)
    go_ret
    exact ⟨rfl, hb1⟩
  have e2 : decide ((1000 : Int) < (n1 : Int)) = false := decide_eq_false (by omega)
  by_cases g3 : n < 0
  · have e3 : decide (n < (0 : Int)) = true := decide_eq_true (by omega)
    go_enter Try.func5, Try.ntmps5
    go_wp2_with (go_at_call 6; refine (known_any W).mono ?_; rintro e w1 ⟨rfl, hb1⟩)
    go_ret
    exact ⟨rfl, hb1⟩
  have e3 : decide (n < (0 : Int)) = false := decide_eq_false (by omega)
  obtain ⟨m, rfl⟩ := Int.eq_ofNat_of_zero_le (show 0 ≤ n by omega)
  by_cases g4 : n0 ≤ m
  · have e4 : decide ((n0 : Int) ≤ (m : Int)) = true := decide_eq_true (by omega)
    have e5 : decide (n0 ≤ m) = true := decide_eq_true g4
    go_enter Try.func5, Try.ntmps5
    go_wp2_with (go_at_call 6; refine (known_any W).mono ?_; rintro e w1 ⟨rfl, hb1⟩)
    go_ret
    exact ⟨rfl, hb1⟩
  have e4 : decide ((n0 : Int) ≤ (m : Int)) = false := decide_eq_false (by omega)
  have e5 : decide (n0 ≤ m) = false := decide_eq_false g4
  cases hm : mayL l with
  | false =>
    have HM := Lib.hid hm
    clear hm
    go_enter Try.func5, Try.ntmps5
    go_wp2_with (go_at_call 6; refine (known_any W).mono ?_; rintro e w1 ⟨rfl, hb1⟩)
    refine (new_no (c := c0) (HF.out _ hb1) (by omega) HM.out).mono ?_
    rintro e w2 ⟨rfl, hb⟩
    have hb2 := hbT hb1 hb
    clear hb hb1
    go_wp2_with fail
    refine (new_no (c := c0) (HF.out _ hb2) (by omega) HM.out).mono ?_
    rintro e w3 ⟨rfl, hb⟩
    have hb3 := hbT hb2 hb
    go_wp2_with fail
    go_ret
    exact ⟨rfl, hb3⟩
  | true =>
    have HM := Lib.hid hm
    clear hm
    go_enter Try.func5, Try.ntmps5
    go_wp2_with (go_at_call 6; refine (known_any W).mono ?_; rintro e w1 ⟨rfl, hb1⟩)
    refine (new_any (c := c0) (HF.out _ hb1) (by omega) HM.out).mono ?_
    rintro e w2 ⟨ga, rfl, hga, hpa, hb⟩
    have HB2 := Lib.hid (hbT hb1 hb)
    have HPa := Lib.hid hpa
    have HGa : Hid (W.heap.size ≤ ga) := Nat.le_trans hb1.size hga
    clear hb hb1 hga hpa
    go_wp2_with fail
    refine (new_any (c := c0) (HF.out _ HB2.out) (by omega) HM.out).mono ?_
    rintro e w3 ⟨gb, rfl, hgb, hpb, hb⟩
    have HGb : Hid (W.heap.size ≤ ga ∧ W.heap.size ≤ gb ∧ ga < gb) := ⟨HGa.out, Nat.le_trans HB2.out.size hgb, Nat.lt_of_lt_of_le HPa.out.lt hgb⟩
    obtain ⟨L0, hL0⟩ : ∃ L0, l.map newB = L0 := ⟨_, rfl⟩
    have HLl : Hid (L0.length = n0) := by show _ = _; rw [← hL0, List.length_map]; exact HL.out
    rw [hL0] at hpb HPa
    have HLS : Hid (LS W ga gb L0 w3.heap.size (.slice none 0 0) [] w3) := ⟨HPa.out.below hb (Nat.le_refl _), hpb, hbT HB2.out hb, World.ownsRow_nil _ _ _ _, (hbT HB2.out hb).size, Nat.lt_of_lt_of_le HPa.out.lt hb.size, hpb.lt, Nat.le_refl _⟩
    clear hb hgb hpb HPa HB2 hL0 HGa
    obtain ⟨B, hB⟩ : ∃ B, w3.heap.size = B := ⟨_, rfl⟩
    rw [hB] at HLS
    clear hB
    obtain ⟨i0, z, hi, hz0, hz1, hz2, hzs⟩ := infoD
    go_wp2_with fail
    go_loopw [11, 59] (fun v i wr => ∃ (k : Nat) (va : Option Addr) (vn vc : Nat), k ≤ n1 ∧ i = .int .i64 k ∧ v = .slice va vn vc ∧ LS W ga gb L0 B (.slice va vn vc) ((D.take k).filter fun y => !other m y) wr) (fun _ i _ => n1 - (intOf i).toNat)
    case atStart => exact ⟨0, none, 0, 0, by omega, rfl, rfl, HLS.out⟩
    case round =>
      clear HLS
      obtain ⟨k, va, vn, vc, hk, rfl, rfl, hls⟩ := hrel
      have HLS := Lib.hid hls
      clear hls
      by_cases hlt : k < n1
      · have k0 : (0 : Int) ≤ k := by omega
        have k1 : (k : Int) < n1 := by omega
        have hdd : decide ((k : Int) < (n1 : Int)) = true := decide_eq_true (by omega)
        have hd2 : decide (k < n1) = true := decide_eq_true hlt
        obtain ⟨b, off, rfl, _, hrow⟩ := (HD.out _ HLS.out.bel).2.resolve_left (by omega)
        obtain ⟨q0, q1, q2, q3, q4⟩ := hrow k hlt
        have HNx : Hid ((D.take (k + 1)).filter (fun y => !other m y) = (D.take k).filter (fun y => !other m y) ++ (if other m D[k]! = true then [] else [D[k]!])) := by
          show _ = _
          rw [List.take_add_one, List.filter_append, List.getElem?_eq_getElem (by rw [HDl.out]; exact hlt), getElem!_pos D k (by rw [HDl.out]; exact hlt)]
          congr 1
          show List.filter _ [_] = _
          rw [List.filter_cons]
          cases other m (D[k]'(by rw [HDl.out]; exact hlt)) <;> rfl
        have HLe : Hid (((D.take k).filter (fun y => !other m y)).length ≤ k) := by
          have h1 := List.length_filter_le (fun y => !other m y) (D.take k)
          have h2 := List.length_take_le k D
          exact Nat.le_trans h1 h2
        clear hrow
        generalize (D.take k).filter (fun y => !other m y) = less at *
        generalize D[k]! = y at *
        obtain ⟨kd, part, port, word, x, hy⟩ := y
        simp only at q0 q1 q2 q3 q4
        obtain ⟨oth, ho⟩ : ∃ o, other m ⟨kd, part, port, word, x, hy⟩ = o := ⟨_, rfl⟩
        rw [ho] at HNx
        have HVb := Lib.hid (heap_alloc_new wr (.cells #[.int .i64 kd, .int .i64 part, .int .i64 port, .int .i64 word, .int .u32 x] 35))
        have HLa := Lib.hid (HLS.out.below (below_alloc wr (.cells #[.int .i64 kd, .int .i64 part, .int .i64 port, .int .i64 word, .int .u32 x] 35)))
        clear HLS
        have hcase : (kd = 2 ∨ kd = 3 ∨ (kd ≠ 2 ∧ kd ≠ 3)) := by omega
        by_cases hpo : port = (m : Int)
        · have zp : (port != (m : Int)) = false := by simpa using hpo
          rcases hcase with rfl | rfl | ⟨hk2, hk3⟩
          · obtain rfl : oth = false := by rw [← ho]; simp [other, hpo]
            clear ho hpo
            have HN2 : Hid ((D.take (k + 1)).filter (fun y => !other m y) = less ++ [⟨2, part, port, word, x, hy⟩]) := HNx.out
            have HLb := Lib.hid (HLa.out.below (below_alloc _ (.cells #[.int .i64 2, .int .i64 part, .int .i64 port, .int .i64 word, .int .u32 x] 35)))
            have HR : Hid (((wr.alloc (.cells #[.int .i64 2, .int .i64 part, .int .i64 port, .int .i64 word, .int .u32 x] 35)).alloc (.cells #[.int .i64 2, .int .i64 part, .int .i64 port, .int .i64 word, .int .u32 x] 35)).heap[wr.heap.size + 1]? = some (.cells #[.int .i64 2, .int .i64 part, .int .i64 port, .int .i64 word, .int .u32 x] 35 (0, 0))) := heap_alloc2_new _ _ _
            have HNw : Hid (∀ j u, (encV ⟨2, part, port, word, x, hy⟩)[j]? = some u → ((wr.alloc (.cells #[.int .i64 2, .int .i64 part, .int .i64 port, .int .i64 word, .int .u32 x] 35)).alloc (.cells #[.int .i64 2, .int .i64 part, .int .i64 port, .int .i64 word, .int .u32 x] 35)).cell? ((⟨wr.heap.size + 1, 0, none⟩ : Addr).add j) = some u) := fun j u hu => by
              rw [Addr.add_mid, Nat.zero_add, cell_of_row _ _ _ _ _ _ HR.out]
              simpa [encV] using hu
            go_wp2_with (at_builtin; refine wpList_append_own _ rfl _ _ 23 rfl B 35 i0 z 5 40 Try.underlying23 hi hz0 hz1 hz2 hzs (by decide) (.slice va vn vc) less.length (less.flatMap encV) ?_ HLb.out.own ⟨wr.heap.size + 1, 0, none⟩ 1 1 (encV ⟨2, part, port, word, x, hy⟩) ?_ rfl HNw.out (encV_one _) (by have := HLe.out; unfold maxLen; omega) (by have := HLe.out; omega) HLb.out.sz ?_; (kernel_rfl); (kernel_rfl))
            intro v' w' hown hgrow hnil
            obtain ⟨va', vn', vc', rfl⟩ := own_slice hown
            go_wp2_with fail
            go_roundw
            case rel => exact ⟨k + 1, va', vn', vc', by omega, by go_num, rfl, by rw [HN2.out]; exact HLb.out.grown hgrow (by rw [List.flatMap_append, List.length_append]; simpa using hown)⟩
            case measure => simp [intOf]; omega
          · obtain rfl : oth = false := by rw [← ho]; simp [other, hpo]
            clear ho hpo
            have HN2 : Hid ((D.take (k + 1)).filter (fun y => !other m y) = less ++ [⟨3, part, port, word, x, hy⟩]) := HNx.out
            have HLb := Lib.hid (HLa.out.below (below_alloc _ (.cells #[.int .i64 3, .int .i64 part, .int .i64 port, .int .i64 word, .int .u32 x] 35)))
            have HR : Hid (((wr.alloc (.cells #[.int .i64 3, .int .i64 part, .int .i64 port, .int .i64 word, .int .u32 x] 35)).alloc (.cells #[.int .i64 3, .int .i64 part, .int .i64 port, .int .i64 word, .int .u32 x] 35)).heap[wr.heap.size + 1]? = some (.cells #[.int .i64 3, .int .i64 part, .int .i64 port, .int .i64 word, .int .u32 x] 35 (0, 0))) := heap_alloc2_new _ _ _
            have HNw : Hid (∀ j u, (encV ⟨3, part, port, word, x, hy⟩)[j]? = some u → ((wr.alloc (.cells #[.int .i64 3, .int .i64 part, .int .i64 port, .int .i64 word, .int .u32 x] 35)).alloc (.cells #[.int .i64 3, .int .i64 part, .int .i64 port, .int .i64 word, .int .u32 x] 35)).cell? ((⟨wr.heap.size + 1, 0, none⟩ : Addr).add j) = some u) := fun j u hu => by
              rw [Addr.add_mid, Nat.zero_add, cell_of_row _ _ _ _ _ _ HR.out]
              simpa [encV] using hu
            go_wp2_with (at_builtin; refine wpList_append_own _ rfl _ _ 23 rfl B 35 i0 z 5 40 Try.underlying23 hi hz0 hz1 hz2 hzs (by decide) (.slice va vn vc) less.length (less.flatMap encV) ?_ HLb.out.own ⟨wr.heap.size + 1, 0, none⟩ 1 1 (encV ⟨3, part, port, word, x, hy⟩) ?_ rfl HNw.out (encV_one _) (by have := HLe.out; unfold maxLen; omega) (by have := HLe.out; omega) HLb.out.sz ?_; (kernel_rfl); (kernel_rfl))
            intro v' w' hown hgrow hnil
            obtain ⟨va', vn', vc', rfl⟩ := own_slice hown
            go_wp2_with fail
            go_roundw
            case rel => exact ⟨k + 1, va', vn', vc', by omega, by go_num, rfl, by rw [HN2.out]; exact HLb.out.grown hgrow (by rw [List.flatMap_append, List.length_append]; simpa using hown)⟩
            case measure => simp [intOf]; omega
          · obtain rfl : oth = false := by rw [← ho]; simp [other, hk2, hk3]
            have z2 : (kd == 2) = false := by simpa using hk2
            have z3 : (kd == 3) = false := by simpa using hk3
            clear ho hpo hk2 hk3
            have HN2 : Hid ((D.take (k + 1)).filter (fun y => !other m y) = less ++ [⟨kd, part, port, word, x, hy⟩]) := HNx.out
            have HLb := Lib.hid (HLa.out.below (below_alloc _ (.cells #[.int .i64 kd, .int .i64 part, .int .i64 port, .int .i64 word, .int .u32 x] 35)))
            have HR : Hid (((wr.alloc (.cells #[.int .i64 kd, .int .i64 part, .int .i64 port, .int .i64 word, .int .u32 x] 35)).alloc (.cells #[.int .i64 kd, .int .i64 part, .int .i64 port, .int .i64 word, .int .u32 x] 35)).heap[wr.heap.size + 1]? = some (.cells #[.int .i64 kd, .int .i64 part, .int .i64 port, .int .i64 word, .int .u32 x] 35 (0, 0))) := heap_alloc2_new _ _ _
            have HNw : Hid (∀ j u, (encV ⟨kd, part, port, word, x, hy⟩)[j]? = some u → ((wr.alloc (.cells #[.int .i64 kd, .int .i64 part, .int .i64 port, .int .i64 word, .int .u32 x] 35)).alloc (.cells #[.int .i64 kd, .int .i64 part, .int .i64 port, .int .i64 word, .int .u32 x] 35)).cell? ((⟨wr.heap.size + 1, 0, none⟩ : Addr).add j) = some u) := fun j u hu => by
              rw [Addr.add_mid, Nat.zero_add, cell_of_row _ _ _ _ _ _ HR.out]
              simpa [encV] using hu
            go_wp2_with (at_builtin; refine wpList_append_own _ rfl _ _ 23 rfl B 35 i0 z 5 40 Try.underlying23 hi hz0 hz1 hz2 hzs (by decide) (.slice va vn vc) less.length (less.flatMap encV) ?_ HLb.out.own ⟨wr.heap.size + 1, 0, none⟩ 1 1 (encV ⟨kd, part, port, word, x, hy⟩) ?_ rfl HNw.out (encV_one _) (by have := HLe.out; unfold maxLen; omega) (by have := HLe.out; omega) HLb.out.sz ?_; (kernel_rfl); (kernel_rfl))
            intro v' w' hown hgrow hnil
            obtain ⟨va', vn', vc', rfl⟩ := own_slice hown
            go_wp2_with fail
            go_roundw
            case rel => exact ⟨k + 1, va', vn', vc', by omega, by go_num, rfl, by rw [HN2.out]; exact HLb.out.grown hgrow (by rw [List.flatMap_append, List.length_append]; simpa using hown)⟩
            case measure => simp [intOf]; omega
        · have zp : (port != (m : Int)) = true := by simpa using hpo
          rcases hcase with rfl | rfl | ⟨hk2, hk3⟩
          · obtain rfl : oth = true := by rw [← ho]; simp [other, hpo]
            clear ho hpo
            have HN2 : Hid ((D.take (k + 1)).filter (fun y => !other m y) = less) := HNx.out.trans (List.append_nil _)
            go_wp2_with fail
            go_roundw
            case rel => exact ⟨k + 1, va, vn, vc, by omega, by go_num, rfl, by rw [HN2.out]; exact HLa.out⟩
            case measure => simp [intOf]; omega
          · obtain rfl : oth = true := by rw [← ho]; simp [other, hpo]
            clear ho hpo
            have HN2 : Hid ((D.take (k + 1)).filter (fun y => !other m y) = less) := HNx.out.trans (List.append_nil _)
            go_wp2_with fail
            go_roundw
            case rel => exact ⟨k + 1, va, vn, vc, by omega, by go_num, rfl, by rw [HN2.out]; exact HLa.out⟩
            case measure => simp [intOf]; omega
          · obtain rfl : oth = false := by rw [← ho]; simp [other, hk2, hk3]
            have z2 : (kd == 2) = false := by simpa using hk2
            have z3 : (kd == 3) = false := by simpa using hk3
            clear ho hpo hk2 hk3
            have HN2 : Hid ((D.take (k + 1)).filter (fun y => !other m y) = less ++ [⟨kd, part, port, word, x, hy⟩]) := HNx.out
            have HLb := Lib.hid (HLa.out.below (below_alloc _ (.cells #[.int .i64 kd, .int .i64 part, .int .i64 port, .int .i64 word, .int .u32 x] 35)))
            have HR : Hid (((wr.alloc (.cells #[.int .i64 kd, .int .i64 part, .int .i64 port, .int .i64 word, .int .u32 x] 35)).alloc (.cells #[.int .i64 kd, .int .i64 part, .int .i64 port, .int .i64 word, .int .u32 x] 35)).heap[wr.heap.size + 1]? = some (.cells #[.int .i64 kd, .int .i64 part, .int .i64 port, .int .i64 word, .int .u32 x] 35 (0, 0))) := heap_alloc2_new _ _ _
            have HNw : Hid (∀ j u, (encV ⟨kd, part, port, word, x, hy⟩)[j]? = some u → ((wr.alloc (.cells #[.int .i64 kd, .int .i64 part, .int .i64 port, .int .i64 word, .int .u32 x] 35)).alloc (.cells #[.int .i64 kd, .int .i64 part, .int .i64 port, .int .i64 word, .int .u32 x] 35)).cell? ((⟨wr.heap.size + 1, 0, none⟩ : Addr).add j) = some u) := fun j u hu => by
              rw [Addr.add_mid, Nat.zero_add, cell_of_row _ _ _ _ _ _ HR.out]
              simpa [encV] using hu
            go_wp2_with (at_builtin; refine wpList_append_own _ rfl _ _ 23 rfl B 35 i0 z 5 40 Try.underlying23 hi hz0 hz1 hz2 hzs (by decide) (.slice va vn vc) less.length (less.flatMap encV) ?_ HLb.out.own ⟨wr.heap.size + 1, 0, none⟩ 1 1 (encV ⟨kd, part, port, word, x, hy⟩) ?_ rfl HNw.out (encV_one _) (by have := HLe.out; unfold maxLen; omega) (by have := HLe.out; omega) HLb.out.sz ?_; (kernel_rfl); (kernel_rfl))
            intro v' w' hown hgrow hnil
            obtain ⟨va', vn', vc', rfl⟩ := own_slice hown
            go_wp2_with fail
            go_roundw
            case rel => exact ⟨k + 1, va', vn', vc', by omega, by go_num, rfl, by rw [HN2.out]; exact HLb.out.grown hgrow (by rw [List.flatMap_append, List.length_append]; simpa using hown)⟩
            case measure => simp [intOf]; omega
      · have hdd : decide ((k : Int) < (n1 : Int)) = false := decide_eq_false (by omega)
        have hd2 : decide (k < n1) = false := decide_eq_false hlt
        have HE : Hid (D.take k = D) := List.take_of_length_le (by rw [HDl.out]; omega)
        have hls := HLS.out
        rw [HE.out] at hls
        have HLS := Lib.hid hls
        clear hls
        generalize hless : D.filter (fun y => !other m y) = less at *
        have HLess := Lib.hid hless
        obtain ⟨a2, cc2, he2, hrow⟩ := drow_own HLS.out.own
        obtain ⟨rfl, rfl, rfl⟩ : a2 = va ∧ vn = less.length ∧ cc2 = vc := by cases he2; exact ⟨rfl, rfl, rfl⟩
        have HRow := Lib.hid hrow
        have HLe : Hid (less.length ≤ 1000) := by
          have h1 := List.length_filter_le (fun y => !other m y) D
          have h2 := HDl.out
          have h3 := HLess.out
          show _ ≤ _
          rw [← h3]
          omega
        clear hrow hless
        have hmL : m < L0.length := by rw [HLl.out]; omega
        go_wp2_with fail
        refine (run_any HLS.out.p1 (cd := c1) ((HD.out _ HLS.out.bel).imp fun k _ e => by have := HGb.out; omega) (by omega) true).mono ?_
        rintro e w5 ⟨rfl, hp5, hk5⟩
        have HP5 := Lib.hid hp5
        have HQ5 := Lib.hid (HLS.out.p2.kept hk5 (by have := HGb.out; omega))
        have HB5 := Lib.hid (HLS.out.bel.trans (hk5.toBelow HLS.out.bel.size (fun k hk e => by have := HGb.out; omega)))
        have HRow5 := Lib.hid ((HRow.out.imp (q := fun k => k = ga ∨ k = gb) (fun k _ e => by have := HLS.out.h1; have := HLS.out.h2; omega)).kept (hk5.mono fun k _ e => .inl e))
        clear hp5 hk5 HLS HRow
        go_wp2_with fail
        refine (run_any HQ5.out (cd := cc2) (HRow5.out.imp fun k _ e => .inr e) (by have := HLe.out; omega) true).mono ?_
        rintro e w6 ⟨rfl, hp6, hk6⟩
        have HP6 := Lib.hid (HP5.out.kept hk6 (by have := HGb.out; omega))
        have HQ6 := Lib.hid hp6
        have HB6 := Lib.hid (HB5.out.trans (hk6.toBelow HB5.out.size (fun k hk e => by have := HGb.out; omega)))
        have HAl := Lib.hid (alone m D L0 hmL)
        rw [HLess.out] at HAl
        clear hp6 hk6 HP5 HQ5 HB5 HRow5
        have hm1 := message_any HP6.out (k := m) (by rw [runL_len]; exact hmL)
        rw [HAl.out] at hm1
        have HM1 := Lib.hid hm1
        have HM2 := Lib.hid (fun X (hb : Below w6.heap.size w6 X) => message_any (HQ6.out.below hb (Nat.le_refl _)) (k := m) (by rw [runL_len]; exact hmL))
        clear hm1 hmL
        generalize (runL true L0 less)[m]! = bx at *
        go_wp2_with fail
        refine HM1.out.mono ?_
        rintro e w7 ⟨xa, xn, xc, rfl, hxn, hx16, hrx, hbx⟩
        have HXn := Lib.hid hxn
        clear hxn
        go_wp2_with fail
        refine (HM2.out _ hbx).mono ?_
        rintro e w8 ⟨ya, yn, yc, rfl, hyn, hy16, hry, hby⟩
        obtain rfl : xn = yn := HXn.out.trans hyn.symm
        clear hyn
        have HSm := Lib.hid (same_any (c := xc) (d := yc) (hrx.below hby (Nat.le_refl _)) hry (by omega))
        have HB8 := Lib.hid (HB6.out.trans ((hbx.trans (hby.mono hbx.size)).mono HB6.out.size))
        clear hrx hry hbx hby HM1 HM2 HP6 HQ6 HB6
        generalize bx.age = ag at *
        go_wp2_with (go_at_call 29; refine HSm.out.mono ?_; rintro e w9 ⟨rfl, hb9⟩)
        go_ret
        exact ⟨rfl, hbT HB8.out hb9⟩
/-- what the walk gives, for every argument -/
theorem lifted (os : Os) (started : os.Started) (H : Type) (enc : TypeId × Value → H) :
    ReturnsInHanded {} Try.checked os 5 .any (Rows.portAloneSpec.pre6 enc Try.prog Try.f5 Rows.portAloneRow.domain false) (Rows.portAloneSpec.post enc Try.prog Try.f5 false true false false) := by
  refine returnsInHanded_of_change (C := Try.checked) own started (by kernel_rfl) Try.func5
    (ChangeSpec.witness6 (enc := enc) (C := Try.checked) false ⟨#[], #[.slice none 0 0, .slice none 0 0, .int .i64 0], []⟩ 8 (by kernel_rfl) (by kernel_rfl) (by kernel_rfl) (by kernel_rfl)) ?_
  intro W base args ds gs before hval0 hW hcnd _
  have hval : ∀ (j : Nat) t v, Try.f5.params[j]? = some t → args[j]? = some v → Value.okWide Try.prog W .any base t v := hval0
  have hW' := hW
  obtain ⟨p, q, hA0, hV, rfl, hfz, hnd⟩ := hW
  have hA : DataW.TrodAll enc Try.prog W 0 (fun _ => true) true Try.f5.params.toList args.toList ds p := hA0
  rw [Try.params5] at hA hval
  obtain ⟨v0, vs0, d0, ds0, p0, q0, hargs, rfl, rfl, h0, r0⟩ := trodAll_cons hA
  obtain ⟨v1, vs1, d1, ds1, p1, q1, rfl, rfl, rfl, h1, r1⟩ := trodAll_cons r0
  obtain ⟨v2, vs2, d2, ds2, p2, q2, rfl, rfl, rfl, h2, r2⟩ := trodAll_cons r1
  obtain ⟨rfl, rfl, rfl⟩ := trodAll_nil r2
  obtain rfl : args = #[v0, v1, v2] := by cases args; simp_all
  obtain ⟨rfl, rfl⟩ := trodVars_none hV
  have k0 := h0
  have lt0 : ∀ x ∈ p0, x.block < W.heap.size := by obtain ⟨m, hm⟩ := k0; exact DataW.trod_lt m _ _ _ hm
  obtain ⟨a0, len0, cap0, rfl⟩ := okWide_slice Try.underlying22 (hval 0 22 v0 rfl rfl)
  obtain ⟨z0, w0, nc0⟩ : ∃ l, FRow (fun k => W.heap.size ≤ k) W a0 len0 l ∧ len0 ≤ cap0 ∧ cap0 ≤ 9223372036854775807 := by
    obtain ⟨fuel, hf⟩ := h0
    obtain ⟨a, n, c, l, hcs, h1, h2, h3⟩ := open_defs hf
    simp [Value.cells] at hcs
    obtain ⟨rfl, rfl, rfl⟩ := hcs
    exact ⟨l, h3, h1, h2⟩
  have k1 := h1
  have lt1 : ∀ x ∈ p1, x.block < W.heap.size := by obtain ⟨m, hm⟩ := k1; exact DataW.trod_lt m _ _ _ hm
  obtain ⟨a1, len1, cap1, rfl⟩ := okWide_slice Try.underlying23 (hval 1 23 v1 rfl rfl)
  obtain ⟨z1, w1, nc1⟩ : ∃ l, DRow (fun k => W.heap.size ≤ k) W a1 len1 l ∧ len1 ≤ cap1 ∧ cap1 ≤ 9223372036854775807 := by
    obtain ⟨fuel, hf⟩ := h1
    obtain ⟨a, n, c, l, hcs, h1, h2, h3⟩ := open_dos hf
    simp [Value.cells] at hcs
    obtain ⟨rfl, rfl, rfl⟩ := hcs
    exact ⟨l, h3, h1, h2⟩
  obtain ⟨z2, rfl, rfl, rfl, w2⟩ := open_int Try.underlying3 (hval 2 3 v2 rfl rfl) h2
  have b2 : -9223372036854775808 ≤ z2 ∧ z2 ≤ 9223372036854775807 := by simp [Lit.wf, IntKind.min, IntKind.max, IntKind.signed, IntKind.bits] at w2; omega
  clear hA0 hval0
  refine (walk W a0 len0 cap0 z0 w0 nc0 a1 len1 cap1 z1 w1 nc1 z2 b2).mono fun e W' ⟨he, bel⟩ => ?_
  subst he
  exact ⟨_, rfl, _, _, _, [], _, [], hW', trodAll_mk1 (shut_bool Try.underlying4 _), (trodAll_cons_mk (Below.trod laidOut (by kernel_rfl) (of_decide_eq_true (by kernel_rfl)) k0 bel lt0) (trodAll_cons_mk (Below.trod laidOut (by kernel_rfl) (of_decide_eq_true (by kernel_rfl)) k1 bel lt1) (trodAll_cons_mk (shut_int Try.underlying3 w2) trodAll_mk0))), rfl, bel.frame _, fun h => by cases h⟩

theorem proved : Rows.PortAloneSaid :=
  OpenClaim.holds_of_wide 5 Try.f5 rfl rfl rfl rfl rfl rfl rfl ⟨rfl, rfl, rfl, rfl, rfl⟩ rfl rfl rfl rfl rfl (by kernel_rfl) Try.func5 (by kernel_rfl)
    (of_decide_eq_true (by kernel_rfl)) (by unfold Func.isWrapper; first | (rw [if_pos (by decide +kernel)]; kernel_rfl) | (rw [if_neg (by decide +kernel)]; exact ⟨rfl, rfl⟩))
    (fun os started H enc _ => lifted os started H enc)
#print axioms proved
end Alone
end Prt
end Go.Proofs.Ytcapiaempfjmeaa
