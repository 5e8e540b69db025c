/- The statement ShaSums holds: whatever the input, the call answers true, and what was handed in reads as it did. Under the statement's own reading alone: the primes' table is as the program's text lays it. -/
import Derived.Test.YtfnlahodmilepaaDoorShaR4
import Derived.Deep.Matrix
import Derived.SizedLaws
namespace Go.Proofs.YtfnlahodmilepaaDoor.shaSums
open Go.ChangeShapes Go.WideShapes Go.ChangeAt Go.RowKit Sha

/-- parts that came in: as PRow, and a nil part has no room -/
def PRowN (w : World) (a : Option Addr) (n : Nat) (ps : List (List Int)) : Prop :=
  ps.length = n ∧ (n = 0 ∨ ∃ b off, a = some ⟨b, off, none⟩ ∧ ∀ i, i < n → ∃ a' m c, w.cell? ⟨b, off + i, none⟩ = some (.slice a' m c) ∧ m ≤ c ∧ c ≤ 140737488351232 ∧ SRow (fun _ => False) w a' m (ps.getD i []) ∧ (a' = none → c = 0))
theorem PRowN.prow {w : World} {a : Option Addr} {n : Nat} {ps : List (List Int)} (h : PRowN w a n ps) : PRow w a n ps := by
  obtain ⟨h1, h2⟩ := h
  refine ⟨h1, ?_⟩
  rcases h2 with h2 | ⟨b, off, rfl, hc⟩
  · exact Or.inl h2
  · refine Or.inr ⟨b, off, rfl, fun i hi => ?_⟩
    obtain ⟨a', m, c, q1, q2, q3, q4, _⟩ := hc i hi
    exact ⟨a', m, c, q1, q2, by omega, q4⟩
theorem own_row {w : World} {base n : Nat} {l : List Int} {va : Option Addr} {vc : Nat} (ho : w.ownsRow base 5 1 (.slice va n vc) n (bv l)) (hby : ∀ z ∈ l, 0 ≤ z ∧ z ≤ 255) : SRow (fun _ => False) w va n l ∧ (va = none → vc = 0) ∧ n ≤ vc := by
  rcases ho.2 with ⟨h, h0⟩ | ⟨g, cap, cur, hv, _, _, hc, _⟩
  · simp only [Value.slice.injEq] at h
    obtain ⟨rfl, _, rfl⟩ := h
    have := ho.1
    rw [bv_length] at this
    exact ⟨⟨by omega, hby, Or.inl h0⟩, (fun _ => rfl), by omega⟩
  · simp only [Value.slice.injEq] at hv
    obtain ⟨rfl, _, rfl⟩ := hv
    exact ⟨srow_of_own ho hby, (fun h => by cases h), hc⟩
theorem mem_weightsAll {H : Type} {P : Program} {e : TypeId} {n : Nat} {d : DataW H} : ∀ {l : List (DataW H)}, d ∈ l → n ∈ d.weights P e → n ∈ DataW.weightsAll P e l
  | [], h, _ => by cases h
  | x :: r, h, hn => by
    rcases List.mem_cons.1 h with rfl | h
    · exact List.mem_append_left _ hn
    · exact List.mem_append_right _ (mem_weightsAll h hn)
theorem len_lits {H : Type} (k : IntKind) (zs : List Int) (n B : Nat) : ((_root_.Go.ChangeShapes.lits (H := H) k (zs.take n)).length + (_root_.Go.ChangeShapes.lits (H := H) k (zs.drop n)).length) * B = zs.length * B := by
  congr 1
  simp [_root_.Go.ChangeShapes.lits]
  omega
theorem own_form {w : World} {base n : Nat} {v : Value} {xs : List Value} (ho : w.ownsRow base 5 1 v n xs) : ∃ va vc, v = .slice va n vc := by
  rcases ho.2 with ⟨h, h0⟩ | ⟨g, cap, cur, hv, _⟩
  · exact ⟨none, 0, by rw [h, h0]⟩
  · exact ⟨_, _, hv⟩

set_option maxRecDepth 100000 in
set_option maxHeartbeats 1000000 in
theorem walk (a0 : Option Addr) (len0 cap0 : Nat) (ps : List (List Int)) (w : World) (hr : Roots w) (hm : len0 ≤ 9223372036854775807) (w0 : PRowN w a0 len0 ps) :
    Calls Tryd.prog 4 #[.slice a0 len0 cap0] w fun e w' => e = .returned (.bool true) ∧ Below w.heap.size w w' := by
  have HP := Lib.hid w0
  have HR := Lib.hid hr
  clear w0 hr
  by_cases hbig : 100 < len0
  · go_enter Tryd.func4, Tryd.ntmps4
    go_wp2_with fail
    refine (works_any _ HR.out).mono ?_
    rintro e w1 ⟨rfl, hb1⟩
    go_wp2_with fail
    go_ret
    exact ⟨rfl, hb1⟩
  · obtain ⟨i0, hi, hz0, hz1, hz2⟩ := info_parts infoByte
    have HI := Lib.hid hi
    have HZ0 := Lib.hid hz0
    have HZ1 := Lib.hid hz1
    have HZ2 := Lib.hid hz2
    clear hi hz0 hz1 hz2
    go_enter Tryd.func4, Tryd.ntmps4
    go_wp2_with fail
    go_loopw [3, 12] (fun v i wr => ∃ (k t : Nat) (va : Option Addr) (vc : Nat), k ≤ len0 ∧ t ≤ 5000 ∧ i = .int .i64 k ∧ v = .slice va t vc ∧ (ps.take k).flatten.length = t ∧ wr.ownsRow w.heap.size 5 1 (.slice va t vc) t (bv (ps.take k).flatten) ∧ (∀ z ∈ (ps.take k).flatten, 0 ≤ z ∧ z ≤ 255) ∧ Below w.heap.size w wr) (fun _ i _ => len0 - (intOf i).toNat)
    case atStart => exact ⟨0, 0, none, 0, by omega, by omega, rfl, rfl, rfl, World.ownsRow_nil _ _ _ _, by simp, Below.refl _ _⟩
    case round =>
      obtain ⟨k, t, va, vc, hk, ht, rfl, rfl, hfl, hown, hby, hbel⟩ := hrel
      have HF := Lib.hid hfl
      have HO := Lib.hid hown
      have HBy := Lib.hid hby
      have HB := Lib.hid hbel
      clear hfl hown hby hbel
      by_cases hlt : k < len0
      · have hd : decide (k < len0) = true := by simp; omega
        have k0 : (0 : Int) ≤ k := by omega
        have k1 : (k : Int) < len0 := by omega
        obtain ⟨hpl, hps⟩ := HP.out
        rcases hps with hps | ⟨b, off, rfl, hpc⟩
        · omega
        obtain ⟨a', m, c, hcell, hmc, hcm, hsr, hnn⟩ := hpc k hlt
        have hcw : wr.cell? ⟨b, off + k, none⟩ = some (.slice a' m c) := by
          rw [HB.out.cell (World.block_lt_of_cell? _ _ hcell)]; exact hcell
        have hflat : (ps.take (k + 1)).flatten = (ps.take k).flatten ++ ps.getD k [] := by
          rw [List.take_succ_eq_append_getElem (by omega), List.flatten_append, List.flatten_singleton, List.getD_eq_getElem?_getD, List.getElem?_eq_getElem (by omega)]; rfl
        have HFt := Lib.hid hflat
        have HSr := Lib.hid hsr
        have HNn := Lib.hid hnn
        clear hflat hcell hpc hsr hpl hnn
        by_cases hover : 5000 < m + t
        · have hd2 : decide ((5000 : Int) < (m : Int) + (t : Int)) = true := by simp; omega
          go_wp2_with fail
          refine (works_any _ (HR.out.below HB.out)).mono ?_
          rintro e w1 ⟨rfl, hb1⟩
          have HB1 := Lib.hid (HB.out.trans (hb1.mono HB.out.size))
          clear hb1
          go_wp2_with fail
          go_ret
          exact ⟨rfl, HB1.out⟩
        · have hd2 : decide ((5000 : Int) < (m : Int) + (t : Int)) = false := by simp; omega
          have HBz : Hid (∀ z ∈ (ps.take (k + 1)).flatten, 0 ≤ z ∧ z ≤ 255) := by
            intro z hz
            rw [HFt.out] at hz
            rcases List.mem_append.1 hz with hz | hz
            · exact HBy.out z hz
            · exact HSr.out.2.1 z hz
          have HLn : Hid ((ps.take (k + 1)).flatten.length = t + m) := by show _ = _; rw [HFt.out, List.length_append, HF.out, HSr.out.1]
          cases a' with
          | none =>
            have hm0 : m = 0 := by have := HNn.out rfl; omega
            have HX : Hid (Value.slice none m c = .slice none 0 0) := by show _ = _; rw [hm0, HNn.out rfl]
            have HP0 : Hid (ps.getD k [] = []) := List.eq_nil_of_length_eq_zero (HSr.out.1.trans hm0)
            have HM0 := Lib.hid hm0
            clear hm0
            go_wp2_with (at_builtin; refine wpList_append_own_none rfl (.tmp 23) (.tmp 24) 28 rfl w.heap.size 5 i0 1 Tryd.underlying28 HI.out (.slice va t vc) t (bv (ps.take k).flatten) rfl HO.out HX.out ?_)
            go_roundw
            case rel =>
              refine ⟨k + 1, t, va, vc, by omega, by omega, by go_num, rfl, ?_, ?_, HBz.out, HB.out⟩
              · rw [HLn.out, HM0.out, Nat.add_zero]
              · rw [HFt.out, HP0.out, List.append_nil]; exact HO.out
            case measure => simp [intOf]; omega
          | some ad =>
            have hnews : ∀ j u, (bv (ps.getD k []))[j]? = some u → wr.cell? (ad.add j) = some u := by
              intro j u hu
              have hj : j < (ps.getD k []).length := by have := (List.getElem?_eq_some_iff.1 hu).1; rwa [bv_length] at this
              have hS2 := HSr.out.below HB.out (Nat.le_refl _)
              rcases hS2.2.2 with h3 | ⟨b', o', e, _, hc⟩
              · have := HSr.out.1; omega
              · simp only [Option.some.injEq] at e
                subst e
                exact news_of_srow hS2 j u hu
            have HNw := Lib.hid hnews
            clear hnews
            go_wp2_with (at_builtin; refine wpList_append_own _ rfl (.tmp 23) (.tmp 24) 28 rfl w.heap.size 5 i0 (.int .u8 0) 1 1 Tryd.underlying28 HI.out HZ0.out HZ1.out HZ2.out rfl (by decide) (.slice va t vc) t (bv (ps.take k).flatten) rfl HO.out ad m c (bv (ps.getD k [])) rfl (by rw [bv_length, Nat.mul_one]; exact HSr.out.1) HNw.out (bv_one _) (by unfold maxLen; omega) (by omega) HB.out.size ?_; intro v1 w1 hown1 hgrow1 hnil1)
            obtain ⟨va1, vc1, rfl⟩ := own_form hown1
            have HO1 := Lib.hid hown1
            have HB1 := Lib.hid (Below.grown HB.out hgrow1 HB.out.size (fun j hj => (HO.out.lt j hj).1))
            clear hown1 hgrow1 hnil1
            go_wp2_with fail
            go_roundw
            case rel =>
              refine ⟨k + 1, t + m, va1, vc1, by omega, by omega, by go_num, rfl, HLn.out, ?_, HBz.out, HB1.out⟩
              rw [HFt.out, ← bv_append]; exact HO1.out
            case measure => simp [intOf]; omega
      · have hd : decide (k < len0) = false := by simp; omega
        have hall : ps.take k = ps := List.take_of_length_le (by have := HP.out.1; omega)
        obtain ⟨hs2, hn2, hc2⟩ := own_row HO.out HBy.out
        have hf2 := HF.out
        rw [hall] at hs2 hf2
        have HS2 := Lib.hid hs2
        have HN2 := Lib.hid hn2
        have HF2 := Lib.hid hf2
        clear hall hs2 hn2 hf2 hc2
        go_wp2_with fail
        refine (sum_any ps a0 len0 cap0 _ hm (by have := HF2.out; omega) (HR.out.below HB.out) (HP.out.prow.below HB.out (Nat.le_refl _))).mono ?_
        rintro e w1 ⟨rfl, hb1⟩
        have HB1 := Lib.hid (HB.out.trans (hb1.mono HB.out.size))
        have HS3 := Lib.hid (HS2.out.below hb1 (Nat.le_refl _))
        clear hb1
        generalize ps.flatten = T at *
        go_wp2_with fail
        refine (rsum_any T va t vc _ (by omega) HN2.out HS3.out).mono ?_
        rintro e w2 ⟨rfl, hb2⟩
        have HB2 := Lib.hid (HB1.out.trans (hb2.mono HB1.out.size))
        clear hb2
        go_wp2_with (with_reducible refine wpList_eql rfl (.tmp 28) (.tmp 30) rfl (sum T) (sum_length _) rfl rfl ?_)
        refine (works_any _ (HR.out.below HB2.out)).mono ?_
        rintro e w3 ⟨rfl, hb3⟩
        have HB3 := Lib.hid (HB2.out.trans (hb3.mono HB2.out.size))
        clear hb3
        go_wp2_with fail
        go_ret
        exact ⟨rfl, HB3.out⟩

/-- what the walk gives, for every argument, in every world that holds the table -/
theorem contract (H : Type) (enc : TypeId × Value → H) (W : World) (base : Nat) (args : Array Value) (ds gs : List (DataW H)) (before : List MemPlace)
    (hval : ∀ (j : Nat) t v, Tryd.f4.params[j]? = some t → args[j]? = some v → Value.okWide Tryd.prog W .any base t v)
    (hW : DataW.Whole enc Tryd.prog Tryd.f4.params.toList Rows.shaSumsSpec.vars false W args.toList ds gs before) (hsz : (DataW.weightsEach Tryd.prog (Tryd.f4.params.toList ++ (OpenSpec.ofChange Rows.shaSumsSpec).bare.plain.varTypes Tryd.prog) (ds ++ gs)).all (· ≤ reachBytes) = true) (hL : laidMetH Tryd.prog Rows.shaSumsRow.laid W) :
    Calls Tryd.prog 4 args W fun e W' => ∃ v, e = .returned v ∧ Rows.shaSumsSpec.post enc Tryd.prog Tryd.f4 false true false false W args v W' := by
  have hW' := hW
  obtain ⟨p, q, hA0, hV, rfl, hfz, hnd⟩ := hW
  have hA : DataW.TrodAll enc Tryd.prog W 0 (fun _ => true) true Tryd.f4.params.toList args.toList ds p := hA0
  rw [Tryd.params4] at hA hval hsz
  obtain ⟨v0, vs0, d0, ds0, p0, q0, hargs, rfl, rfl, h0, r0⟩ := trodAll_cons hA
  obtain ⟨rfl, rfl, rfl⟩ := trodAll_nil r0
  obtain rfl : args = #[v0] := by cases args; simp_all
  obtain ⟨rfl, rfl⟩ := trodVars_none hV
  obtain ⟨a0, len0, cap0, rfl⟩ := okWide_slice Tryd.underlying27 (hval 0 27 v0 rfl rfl)
  have k0 := h0
  have lt0 : ∀ x ∈ p0, x.block < W.heap.size := by obtain ⟨m, hm⟩ := k0; exact DataW.trod_lt m _ _ _ hm
  obtain ⟨ps, hm0, w0⟩ : ∃ ps, len0 ≤ 9223372036854775807 ∧ PRowN W a0 len0 ps := by
    obtain ⟨fuel, hf⟩ := h0
    rcases Deep.open_int_rows Tryd.underlying27 Tryd.underlying28 Tryd.underlying5 (by kernel_rfl) (by kernel_rfl) hf with ⟨hcs, _⟩ | ⟨x, len, cap, A, L, C, Z, hcs, _, hl, hm, hxe, hrows⟩
    · simp [Value.cells] at hcs
      obtain ⟨rfl, rfl, rfl⟩ := hcs
      exact ⟨[], by omega, rfl, Or.inl rfl⟩
    · simp [Value.cells] at hcs
      obtain ⟨rfl, rfl, rfl⟩ := hcs
      unfold maxLen at hm
      simp only [Prod.mk.injEq] at hxe
      have hd0 := hxe.1
      have hCr : ∀ i, i < len0 → A i ≠ none → C i ≤ 140737488351232 := fun i hi hAi => by
        obtain ⟨_, r2, _, r4, _, _, _⟩ := hrows i (by omega)
        have hmem : (C i) * Tryd.prog.bytesOf 5 ∈ d0.weights Tryd.prog 27 := by
          rw [hd0]
          simp only [DataW.weights, Tryd.underlying27]
          refine List.mem_cons_of_mem _ (List.mem_append_left _ (mem_weightsAll (List.mem_map.2 ⟨i, List.mem_range.2 hi, rfl⟩) ?_))
          cases hA : A i with
          | none => exact absurd hA hAi
          | some ad =>
            simp only [Deep.intRow, DataW.weights, Tryd.underlying28]
            refine List.mem_cons.2 (Or.inl ?_)
            rw [len_lits]
            rw [r4]
        have hin := DataW.weights_mem_each (P := Tryd.prog) (ts := [27] ++ (OpenSpec.ofChange Rows.shaSumsSpec).bare.plain.varTypes Tryd.prog) (ds := [d0] ++ []) (j := 0) (t := 27) (d := d0) rfl rfl _ hmem
        have hle := List.all_eq_true.1 hsz _ (by simpa using hin)
        have hb5 : Tryd.prog.bytesOf 5 = 1 := by kernel_rfl
        rw [hb5, Nat.mul_one] at hle
        exact of_decide_eq_true hle
      refine ⟨(List.range len0).map fun r => (Z r).take (L r), by omega, by simp, ?_⟩
      by_cases h00 : len0 = 0
      · exact Or.inl h00
      · obtain ⟨b, off, spot⟩ := x
        have hspot : spot = none := by simpa [Addr.add] using World.cell?_spot (hrows 0 (by omega)).1
        subst hspot
        refine Or.inr ⟨b, off, rfl, fun i hi => ?_⟩
        obtain ⟨r1, r2, r3, r4, r5, r6, r7⟩ := hrows i (by omega)
        unfold maxLen at r3
        have hci : C i ≤ 140737488351232 := by
          by_cases hAi : A i = none
          · have := r6 hAi; omega
          · exact hCr i hi hAi
        refine ⟨A i, L i, C i, ?_, r2, hci, ?_, r6⟩
        · rw [← Addr.add_mid b off i]; exact r1
        · have e : ((List.range len0).map fun r => (Z r).take (L r)).getD i [] = (Z i).take (L i) := by simp [List.getD, hi]
          rw [e]
          cases hA : A i with
          | none =>
            have h6 := r6 hA
            have hL0 : L i = 0 := by omega
            rw [hL0]
            exact ⟨by simp, by simp, Or.inl rfl⟩
          | some ad =>
            refine IsRow.row (cap := C i) (Or.inr ⟨ad, rfl, r2, by unfold maxLen; omega, r4, fun c hc => ?_, r5⟩)
            exact (r7 ad hA).2 c (by omega)
  clear hA0
  refine (walk a0 len0 cap0 ps W (roots hL) hm0 w0).mono fun e W' ⟨he, bel⟩ => ?_
  subst he
  exact ⟨_, rfl, _, _, _, [], _, [], hW', trodAll_mk1 (shut_bool Tryd.underlying4 _), (trodAll_cons_mk (Below.trod laidOut (by kernel_rfl) (of_decide_eq_true (by kernel_rfl)) k0 bel lt0) trodAll_mk0), rfl, bel.frame _, fun h => by cases h⟩

theorem reads (os : Os) {H : Type} (enc : TypeId × Value → H) : ∃ places, DataW.whole enc Tryd.prog ((laidWorld os).forCall (fun _ _ => 0) ⟨#[], #[.slice none 0 0], []⟩).memory Tryd.f4.params.toList Rows.shaSumsSpec.vars false #[Value.slice none 0 0].toList 8 = some ([.nil], [], places) :=
  ⟨[], by kernel_rfl⟩

set_option maxRecDepth 100000 in
theorem lifted (os : Os) (started : os.Started) (H : Type) (enc : TypeId × Value → H) (F : Stop.Interp) :
    ReturnsInHanded {} Tryd.checked os 4 .any ((OpenSpec.ofChange Rows.shaSumsSpec).preRow enc Tryd.prog Tryd.f4 Rows.shaSumsRow.domain false Rows.shaSumsRow.laid) (((OpenSpec.ofChange Rows.shaSumsSpec).at F).post enc Tryd.prog Tryd.f4 false true false false) := by
  obtain ⟨places, hx⟩ := reads os enc
  refine returnsInHanded_of_row (C := Tryd.checked) (s := OpenSpec.ofChange Rows.shaSumsSpec) own started (by kernel_rfl) Tryd.func4
    (witness_row_at (enc := enc) (C := Tryd.checked) false (laidWorld os) #[.slice none 0 0] rfl (by kernel_rfl) (by kernel_rfl) (by kernel_rfl)
      (OpenSpec.preRow_of_cond 8 hx (by kernel_rfl) (fun k hk => by cases hk) (by kernel_rfl) (laid_met os _))) ?_
  intro W base args ds gs before hval hW _ _ hsz hL _ _
  exact contract H enc W base args ds gs before hval hW hsz hL

theorem said : Rows.ShaSumsSaid :=
  OpenClaim.holds_of_cond 4 Tryd.f4 rfl rfl rfl rfl rfl rfl rfl ⟨rfl, rfl, rfl, rfl, rfl⟩ rfl rfl rfl rfl rfl (by kernel_rfl) Tryd.func4 (by kernel_rfl)
    (of_decide_eq_true (by kernel_rfl)) (by unfold Func.isWrapper; first | (rw [if_pos (by decide +kernel)]; kernel_rfl) | (rw [if_neg (by decide +kernel)]; exact ⟨rfl, rfl⟩))
    (fun os started H enc _ F => by rw [OpenClaim.pre_eq_preRow]; exact lifted os started H enc F)

theorem plain (f : FuncId) (fn : Func) (hf : Tryd.pinned.checked.prog.funcNamed "tappet/tappetlaw02.ShaSums" = some f) (hfn : Tryd.pinned.checked.prog.funcs[f]? = some fn) :
    false = Tryd.pinned.checked.prog.looks [] ∧ ∀ (j : Nat) t, fn.params[j]? = some t → Tryd.pinned.checked.prog.wantsStandIn t = false := by
  obtain rfl : f = 4 := Option.some.inj ((show Tryd.prog.funcNamed "tappet/tappetlaw02.ShaSums" = some 4 by kernel_rfl).symm.trans hf) |>.symm
  obtain rfl : fn = Tryd.f4 := (Option.some.inj (Tryd.func4.symm.trans hfn)).symm
  refine ⟨by kernel_rfl, fun j t ht => ?_⟩
  rw [Tryd.params4] at ht
  have hm := Array.mem_of_getElem? ht
  simp at hm
  subst hm
  exact (show Tryd.prog.wantsStandIn 27 = false by kernel_rfl)

theorem proved : Rows.ShaSumsCardSaid :=
  Claim7.holds_tied_plain_at .later [] _ _ _ _ said (fun _ h => by cases h) (by kernel_rfl) (fun _ h => by cases h) shaSums_row_tie rfl ⟨rfl, rfl⟩ (by kernel_rfl) rfl plain (by kernel_rfl)
#print axioms proved
end Go.Proofs.YtfnlahodmilepaaDoor.shaSums
