/- The statement RightsApart holds: whatever two lists, whatever memory and whatever byte are handed in, the call answers true, and what was handed in reads as it did. No condition. -/
import Derived.Test.YtekicfaakjbmhaaRightsBits
import Derived.Test.YtekicfaakjbmhaaRightsKnown
import Derived.Test.YtekicfaakjbmhaaRightsOpen
namespace Go.Proofs.Ytekicfaakjbmhaa.rightsApart
open Go.ChangeShapes Go.WideShapes Go.ChangeAt Go.RowKit Rights
set_option linter.unusedVariables false
set_option linter.unusedSimpArgs false
set_option maxHeartbeats 8000000 in
set_option maxRecDepth 100000 in
theorem walk (w : World) (a : Option Addr) (n c : Nat) (l : List Rg) (h : RRow w a n l) (a' : Option Addr) (n' c' : Nat) (l' : List Rg) (h' : RRow w a' n' l') (m : Int) (hm : 0 ≤ m ∧ m ≤ 4294967295) (t : Int) (ht : 0 ≤ t ∧ t ≤ 4294967295) :
    Calls Try.prog 5 #[.slice a n c, .slice a' n' c', .int .u32 m, .int .u32 t] w fun e w' => e = .returned (.bool true) ∧ Below w.heap.size w w' := by
  have HR := Lib.hid h
  have HR' := Lib.hid h'
  clear h h'
  go_enter Try.func5, Try.ntmps5
  go_wp2_with fail
  refine (known_any _).mono ?_
  rintro e W0 ⟨rfl, hb⟩
  have HB := Lib.hid hb
  clear hb
  go_wp2_with fail
  refine (check_any (HR.out.below HB.out) m hm).mono ?_
  rintro e W1 ⟨⟨z, rfl, hgood⟩, hb⟩
  have HB1 := Lib.hid (HB.out.trans (hb.mono HB.out.size))
  clear hb HB
  by_cases hz : z ≠ 0
  · have hzz : (z == 0) = false := by simpa using hz
    clear hgood
    go_wp2_with fail
    exact bodyPost_ret (v := .bool true) (by simp [results, Try.f5, go_sem]) rfl ⟨rfl, HB1.out⟩
  have hz : z = 0 := by omega
  have HG := Lib.hid (hgood hz)
  have hn : n ≤ 1000000 := by have := HG.out.len; have := HR.out.1; omega
  subst hz
  clear hgood
  go_wp2_with fail
  refine (check_any (HR'.out.below HB1.out) m hm).mono ?_
  rintro e W2 ⟨⟨z, rfl, hgood⟩, hb⟩
  have HB2 := Lib.hid (HB1.out.trans (hb.mono HB1.out.size))
  clear hb HB1
  by_cases hz : z ≠ 0
  · have hzz : (z == 0) = false := by simpa using hz
    go_wp2_with fail
    exact bodyPost_ret (v := .bool true) (by simp [results, Try.f5, go_sem]) rfl ⟨rfl, HB2.out⟩
  have hz : z = 0 := by omega
  have hn' : n' ≤ 1000000 := by have := (hgood hz).len; have := HR'.out.1; omega
  clear hgood
  subst hz
  go_wp2_with fail
  refine (find_any (HR.out.below HB2.out) hn t 1 2 ht (by decide) (by decide)).mono ?_
  rintro e W3 ⟨rfl, hb⟩
  have HB3 := Lib.hid (HB2.out.trans (hb.mono HB2.out.size))
  clear hb HB2
  have HWb : Hid ((fnd l t 1 2).isSome = true → t < m) := writes_below HG.out
  have HAl : Hid (∀ r, apart l l' = true → (fnd l t 1 2).isSome = true → (fnd l' t 1 r).isSome = true → False) := fun r => apart_alone
  have HCm := apart_comm l l'
  generalize fi (fnd l t 1 2) = fa at *
  generalize (fnd l t 1 2).isSome = wr at *
  have hwt : wr = true → decide (m ≤ t) = false := fun h => by have := HWb.out h; simp; omega
  have hcase : wr = false ∨ (wr = true ∧ decide (m ≤ t) = false) := by
    cases wr with
    | false => exact .inl rfl
    | true => exact .inr ⟨rfl, hwt rfl⟩
  clear hwt HWb
  rcases hcase with rfl | ⟨rfl, hmt⟩
  all_goals
    go_wp2_with fail
    have HV0 := Lib.hid (World.alloc_heap_new W3 (.cells #[.int .u8 1, .int .u8 2, .int .u8 4] 5))
    have HB4 : Hid (Below w.heap.size w (W3.alloc (.cells #[.int .u8 1, .int .u8 2, .int .u8 4] 5))) := HB3.out.alloc HB3.out.size _
    obtain ⟨U, hU⟩ : ∃ U, W3.heap.size = U := ⟨_, rfl⟩
    rw [hU] at HV0 ⊢
    generalize W3.alloc (.cells #[.int .u8 1, .int .u8 2, .int .u8 4] 5) = V at *
    go_loopw [41] (fun i wr => ∃ j : Nat, j ≤ 3 ∧ i = .int .i64 j ∧ Below V.heap.size V wr) (fun i _ => 3 - (intOf i).toNat)
    case atStart => exact ⟨0, by omega, rfl, Below.refl _ _⟩
    case round =>
      obtain ⟨j, hj, rfl, hbel⟩ := hrel
      have HBv := Lib.hid hbel
      have HB5 := Lib.hid (HB4.out.trans (hbel.mono HB4.out.size))
      have hV := (hbel.block _ (lt_of_block HV0.out)).trans HV0.out
      have x0 : wr.cell? ⟨U, 0, none⟩ = some (.int .u8 1) := by simp [World.cell?, hV]
      have x1 : wr.cell? ⟨U, 1, none⟩ = some (.int .u8 2) := by simp [World.cell?, hV]
      have x2 : wr.cell? ⟨U, 2, none⟩ = some (.int .u8 4) := by simp [World.cell?, hV]
      clear hbel hV
      rcases (show j = 0 ∨ j = 1 ∨ j = 2 ∨ j = 3 from by omega) with rfl | rfl | rfl | rfl
      · go_wp2_with fail
        refine (find_any (HR'.out.below HB5.out) hn' t 1 1 ht (by decide) (by decide)).mono ?_
        rintro e w1 ⟨rfl, hb⟩
        have HB6 := Lib.hid (HB5.out.trans (hb.mono HB5.out.size))
        have HB6v := Lib.hid (HBv.out.trans (hb.mono HBv.out.size))
        clear hb
        go_wp2_with fail
        refine (apart_any (HR.out.below HB6.out) (HR'.out.below HB6.out) hn hn').mono ?_
        rintro e w2 ⟨rfl, hb⟩
        have HB7 := Lib.hid (HB6v.out.trans (hb.mono HB6v.out.size))
        clear hb
        cases hap : apart l l' with
        | false =>
          go_wp2_with fail
          go_roundw
          case rel => exact ⟨1, by omega, by first | rfl | go_num | simp, HB7.out⟩
          case measure => simp [intOf]
        | true =>
          cases hs : (fnd l' t 1 1).isSome with
          | true =>
            first
              | exact (HAl.out _ hap trivial hs).elim
              | exact (HAl.out _ hap rfl hs).elim
              | (go_wp2_with fail
                 go_roundw
                 case rel => exact ⟨1, by omega, by first | rfl | go_num | simp, HB7.out⟩
                 case measure => simp [intOf])
          | false =>
            go_wp2_with fail
            go_roundw
            case rel => exact ⟨1, by omega, by first | rfl | go_num | simp, HB7.out⟩
            case measure => simp [intOf]
      · go_wp2_with fail
        refine (find_any (HR'.out.below HB5.out) hn' t 1 2 ht (by decide) (by decide)).mono ?_
        rintro e w1 ⟨rfl, hb⟩
        have HB6 := Lib.hid (HB5.out.trans (hb.mono HB5.out.size))
        have HB6v := Lib.hid (HBv.out.trans (hb.mono HBv.out.size))
        clear hb
        go_wp2_with fail
        refine (apart_any (HR.out.below HB6.out) (HR'.out.below HB6.out) hn hn').mono ?_
        rintro e w2 ⟨rfl, hb⟩
        have HB7 := Lib.hid (HB6v.out.trans (hb.mono HB6v.out.size))
        clear hb
        cases hap : apart l l' with
        | false =>
          go_wp2_with fail
          go_roundw
          case rel => exact ⟨2, by omega, by first | rfl | go_num | simp, HB7.out⟩
          case measure => simp [intOf]
        | true =>
          cases hs : (fnd l' t 1 2).isSome with
          | true =>
            first
              | exact (HAl.out _ hap trivial hs).elim
              | exact (HAl.out _ hap rfl hs).elim
              | (go_wp2_with fail
                 go_roundw
                 case rel => exact ⟨2, by omega, by first | rfl | go_num | simp, HB7.out⟩
                 case measure => simp [intOf])
          | false =>
            go_wp2_with fail
            go_roundw
            case rel => exact ⟨2, by omega, by first | rfl | go_num | simp, HB7.out⟩
            case measure => simp [intOf]
      · go_wp2_with fail
        refine (find_any (HR'.out.below HB5.out) hn' t 1 4 ht (by decide) (by decide)).mono ?_
        rintro e w1 ⟨rfl, hb⟩
        have HB6 := Lib.hid (HB5.out.trans (hb.mono HB5.out.size))
        have HB6v := Lib.hid (HBv.out.trans (hb.mono HBv.out.size))
        clear hb
        go_wp2_with fail
        refine (apart_any (HR.out.below HB6.out) (HR'.out.below HB6.out) hn hn').mono ?_
        rintro e w2 ⟨rfl, hb⟩
        have HB7 := Lib.hid (HB6v.out.trans (hb.mono HB6v.out.size))
        clear hb
        cases hap : apart l l' with
        | false =>
          go_wp2_with fail
          go_roundw
          case rel => exact ⟨3, by omega, by first | rfl | go_num | simp, HB7.out⟩
          case measure => simp [intOf]
        | true =>
          cases hs : (fnd l' t 1 4).isSome with
          | true =>
            first
              | exact (HAl.out _ hap trivial hs).elim
              | exact (HAl.out _ hap rfl hs).elim
              | (go_wp2_with fail
                 go_roundw
                 case rel => exact ⟨3, by omega, by first | rfl | go_num | simp, HB7.out⟩
                 case measure => simp [intOf])
          | false =>
            go_wp2_with fail
            go_roundw
            case rel => exact ⟨3, by omega, by first | rfl | go_num | simp, HB7.out⟩
            case measure => simp [intOf]
      · go_wp2_with fail
        refine (apart_any (HR.out.below HB5.out) (HR'.out.below HB5.out) hn hn').mono ?_
        rintro e w1 ⟨rfl, hb⟩
        have HB6 := Lib.hid (HB5.out.trans (hb.mono HB5.out.size))
        clear hb
        go_wp2_with fail
        refine (apart_any (HR'.out.below HB6.out) (HR.out.below HB6.out) hn' hn).mono ?_
        rintro e w2 ⟨rfl, hb⟩
        have HB7 := Lib.hid (HB6.out.trans (hb.mono HB6.out.size))
        clear hb
        rw [HCm]
        generalize apart l l' = ap
        cases ap
        all_goals
          go_wp2_with fail
          exact bodyPost_ret (v := .bool true) (by simp [results, Try.f5, go_sem]) rfl ⟨rfl, HB7.out⟩
/-- what the walk gives, for every argument -/
theorem lifted (os : Os) (started : os.Started) (H : Type) (enc : TypeId × Value → H) :
    ReturnsInHanded {} Try.checked os 5 .any (Rows.rightsApartSpec.pre6 enc Try.prog Try.f5 Rows.rightsApartRow.domain false) (Rows.rightsApartSpec.post enc Try.prog Try.f5 false true false false) := by
  refine returnsInHanded_of_change (C := Try.checked) own started (by kernel_rfl) Try.func5
    (ChangeSpec.witness6 (enc := enc) (C := Try.checked) false ⟨#[], #[.slice none 0 0, .slice none 0 0, .int .u32 0, .int .u32 0], []⟩ 8 (by kernel_rfl) (by kernel_rfl) (by kernel_rfl) (by kernel_rfl)) ?_
  intro W base args ds gs before hval0 hW hcnd _
  have hval : ∀ (j : Nat) t v, Try.f5.params[j]? = some t → args[j]? = some v → Value.okWide Try.prog W .any base t v := hval0
  have hW' := hW
  obtain ⟨p, q, hA0, hV, rfl, hfz, hnd⟩ := hW
  have hA : DataW.TrodAll enc Try.prog W 0 (fun _ => true) true Try.f5.params.toList args.toList ds p := hA0
  rw [Try.params5] at hA hval
  obtain ⟨v0, vs0, d0, ds0, p0, q0, hargs, rfl, rfl, h0, r0⟩ := trodAll_cons hA
  obtain ⟨v1, vs1, d1, ds1, p1, q1, rfl, rfl, rfl, h1, r1⟩ := trodAll_cons r0
  obtain ⟨v2, vs2, d2, ds2, p2, q2, rfl, rfl, rfl, h2, r2⟩ := trodAll_cons r1
  obtain ⟨v3, vs3, d3, ds3, p3, q3, rfl, rfl, rfl, h3, r3⟩ := trodAll_cons r2
  obtain ⟨rfl, rfl, rfl⟩ := trodAll_nil r3
  obtain rfl : args = #[v0, v1, v2, v3] := by cases args; simp_all
  obtain ⟨rfl, rfl⟩ := trodVars_none hV
  have k0 := h0
  have lt0 : ∀ x ∈ p0, x.block < W.heap.size := by obtain ⟨m, hm⟩ := k0; exact DataW.trod_lt m _ _ _ hm
  obtain ⟨a0, len0, cap0, rfl⟩ := okWide_slice Try.underlying29 (hval 0 29 v0 rfl rfl)
  obtain ⟨z0, w0⟩ : ∃ l, RRow W a0 len0 l := by
    obtain ⟨fuel, hf⟩ := h0
    obtain ⟨a, n, c, l, hcs, h1, h2, h3⟩ := open_regions hf
    simp [Value.cells] at hcs
    obtain ⟨rfl, rfl, rfl⟩ := hcs
    exact ⟨l, h3⟩
  have k1 := h1
  have lt1 : ∀ x ∈ p1, x.block < W.heap.size := by obtain ⟨m, hm⟩ := k1; exact DataW.trod_lt m _ _ _ hm
  obtain ⟨a1, len1, cap1, rfl⟩ := okWide_slice Try.underlying29 (hval 1 29 v1 rfl rfl)
  obtain ⟨z1, w1⟩ : ∃ l, RRow W a1 len1 l := by
    obtain ⟨fuel, hf⟩ := h1
    obtain ⟨a, n, c, l, hcs, h1, h2, h3⟩ := open_regions hf
    simp [Value.cells] at hcs
    obtain ⟨rfl, rfl, rfl⟩ := hcs
    exact ⟨l, h3⟩
  obtain ⟨z2, rfl, rfl, rfl, w2⟩ := open_int Try.underlying22 (hval 2 22 v2 rfl rfl) h2
  have b2 : 0 ≤ z2 ∧ z2 ≤ 4294967295 := by simp [Lit.wf, IntKind.min, IntKind.max, IntKind.signed, IntKind.bits] at w2; omega
  obtain ⟨z3, rfl, rfl, rfl, w3⟩ := open_int Try.underlying22 (hval 3 22 v3 rfl rfl) h3
  have b3 : 0 ≤ z3 ∧ z3 ≤ 4294967295 := by simp [Lit.wf, IntKind.min, IntKind.max, IntKind.signed, IntKind.bits] at w3; omega
  clear hA0 hval0
  refine (walk W a0 len0 cap0 z0 w0 a1 len1 cap1 z1 w1 z2 b2 z3 b3).mono fun e W' ⟨he, bel⟩ => ?_
  subst he
  exact ⟨_, rfl, _, _, _, [], _, [], hW', trodAll_mk1 (shut_bool Try.underlying4 _), (trodAll_cons_mk (Below.trod laidOut (by kernel_rfl) (of_decide_eq_true (by kernel_rfl)) k0 bel lt0) (trodAll_cons_mk (Below.trod laidOut (by kernel_rfl) (of_decide_eq_true (by kernel_rfl)) k1 bel lt1) (trodAll_cons_mk (shut_int Try.underlying22 w2) (trodAll_cons_mk (shut_int Try.underlying22 w3) trodAll_mk0)))), rfl, bel.frame _, fun h => by cases h⟩

theorem proved : Rows.RightsApartSaid :=
  OpenClaim.holds_of_wide 5 Try.f5 rfl rfl rfl rfl rfl rfl rfl ⟨rfl, rfl, rfl, rfl, rfl⟩ rfl rfl rfl rfl rfl (by kernel_rfl) Try.func5 (by kernel_rfl)
    (of_decide_eq_true (by kernel_rfl)) (by unfold Func.isWrapper; first | (rw [if_pos (by decide +kernel)]; kernel_rfl) | (rw [if_neg (by decide +kernel)]; exact ⟨rfl, rfl⟩))
    (fun os started H enc _ => lifted os started H enc)
#print axioms proved
end Go.Proofs.Ytekicfaakjbmhaa.rightsApart
