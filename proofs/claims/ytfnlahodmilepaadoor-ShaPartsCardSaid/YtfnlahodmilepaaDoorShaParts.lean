/- The statement ShaParts holds: whatever the input, the call answers true, and what was handed in reads as it did. Under the statement's own reading alone: the primes' table is as the program's text lays it. -/
import Derived.Test.YtfnlahodmilepaaDoorShaArgs
import Derived.Deep.AppendLies
import Derived.Deep.RegionLaw
namespace Go.Proofs.YtfnlahodmilepaaDoor.shaParts
open Go.ChangeShapes Go.WideShapes Go.ChangeAt Go.RowKit Sha

/-- slice values that read as these parts -/
def PList (w : World) (xs : List Value) (ps : List (List Int)) : Prop :=
  xs.length = ps.length ∧ ∀ i, i < ps.length → ∃ a' m c, xs[i]? = some (.slice a' m c) ∧ m ≤ c ∧ c ≤ 9223372036854775807 ∧ SRow (fun _ => False) w a' m (ps.getD i [])
theorem PList.snoc {w : World} {xs : List Value} {ps : List (List Int)} (h : PList w xs ps) {a : Option Addr} {m c : Nat} {l : List Int} (h1 : m ≤ c) (h2 : c ≤ 9223372036854775807) (h3 : SRow (fun _ => False) w a m l) : PList w (xs ++ [.slice a m c]) (ps ++ [l]) := by
  obtain ⟨q1, q2⟩ := h
  refine ⟨by simp [q1], fun i hi => ?_⟩
  by_cases e : i < ps.length
  · obtain ⟨a', m', c', r1, r2, r3, r4⟩ := q2 i e
    refine ⟨a', m', c', ?_, r2, r3, ?_⟩
    · rw [List.getElem?_append_left (by omega)]; exact r1
    · rw [List.getD_eq_getElem?_getD, List.getElem?_append_left e, ← List.getD_eq_getElem?_getD]; exact r4
  · have hi' : i = ps.length := by simp at hi; omega
    subst hi'
    refine ⟨a, m, c, ?_, h1, h2, ?_⟩
    · rw [List.getElem?_append_right (by omega), q1]; simp
    · rw [List.getD_eq_getElem?_getD, List.getElem?_append_right (by omega)]; simpa using h3
theorem PList.prow {w w' : World} {xs : List Value} {ps : List (List Int)} (h : PList w xs ps) {base n : Nat} {v : Value} {a : Option Addr} {c : Nat} (hv : v = .slice a n c) (ho : w'.ownsRow base 28 1 v n xs) (hb : Below w.heap.size w w') : PRow w' a n ps := by
  obtain ⟨q1, q2⟩ := h
  obtain ⟨o1, o2⟩ := ho
  refine ⟨by omega, ?_⟩
  rcases o2 with ⟨rfl, h0⟩ | ⟨g, cap, cur, rfl, _, hg, _, _, hcs, htk⟩
  · exact Or.inl h0
  · simp only [Value.slice.injEq] at hv
    obtain ⟨rfl, _, _⟩ := hv
    refine Or.inr ⟨g, 0, rfl, fun i hi => ?_⟩
    obtain ⟨a', m, c', r1, r2, r3, r4⟩ := q2 i (by omega)
    refine ⟨a', m, c', ?_, r2, r3, r4.below hb (Nat.le_refl _)⟩
    rw [Nat.zero_add, cell_of_row _ _ _ _ _ _ hg, ← r1, ← htk, List.getElem?_take_of_lt (by omega)]
    simp

theorem min_two (z : Int) (r : Nat) (h : 0 ≤ z) : ∃ m : Nat, m ≤ r ∧ ∀ W, (Builtin.min_ #[3, 3] 3 #[.int .i64 z, .int .i64 r]).run Tryd.prog W = .ok (.int .i64 m) W := by
  obtain ⟨n, rfl⟩ := Int.eq_ofNat_of_zero_le h
  by_cases e : n < r
  · exact ⟨n, by omega, fun W => by simp [go_sem]; omega⟩
  · exact ⟨r, Nat.le_refl _, fun W => by simp [go_sem]; omega⟩
theorem info28 : (Tryd.prog.info? 28).map (fun i => (i.zero, i.size, i.bytes)) = some (some (.slice none 0 0), 1, 24) := by kernel_rfl

set_option maxRecDepth 100000 in
set_option maxHeartbeats 1000000 in
theorem walk (a0 : Option Addr) (len0 cap0 : Nat) (z0 : List Int) (a1 : Option Addr) (len1 cap1 : Nat) (z1 : List Int) (w : World) (hr : Roots w) (w0 : IsRow .u8 w a0 len0 cap0 z0) (w1 : IsRow .u16 w a1 len1 cap1 z1) :
    Calls Tryd.prog 5 #[.slice a0 len0 cap0, .slice a1 len1 cap1] w fun e w' => e = .returned (.bool true) ∧ Below w.heap.size w w' := by
  obtain ⟨hlen, hcap⟩ := w0.len
  obtain ⟨hlen1, hcap1⟩ := w1.len
  have hrow := w0.row
  generalize z0.take len0 = l at *
  have HRow := Lib.hid hrow
  have HW1 := Lib.hid w1
  have HR := Lib.hid hr
  clear w0 w1 hrow hr
  by_cases hbig : 20000 < len0 ∨ 100 < len1
  · by_cases b1 : 20000 < len0
    · go_enter Tryd.func5, Tryd.ntmps5
      go_wp2_with fail
      refine (works_any _ HR.out).mono ?_
      rintro e w1 ⟨rfl, hb1⟩
      go_wp2_with fail
      go_ret
      exact ⟨rfl, hb1⟩
    · have b3 : 100 < len1 := by omega
      go_enter Tryd.func5, Tryd.ntmps5
      go_wp2_with fail
      refine (works_any _ HR.out).mono ?_
      rintro e w1 ⟨rfl, hb1⟩
      go_wp2_with fail
      go_ret
      exact ⟨rfl, hb1⟩
  · have c1 : ¬ 20000 < len0 := by omega
    have c2 : ¬ 100 < len1 := by omega
    have d1 : decide ((20000 : Int) < (len0 : Int)) = false := by simp; omega
    have d2 : decide ((100 : Int) < (len1 : Int)) = false := by simp; omega
    clear hbig
    obtain ⟨i0, hi, hz0, hz1, hz2⟩ := info_parts info28
    have HI := Lib.hid hi
    have HZ0 := Lib.hid hz0
    have HZ1 := Lib.hid hz1
    have HZ2 := Lib.hid hz2
    clear hi hz0 hz1 hz2
    go_enter Tryd.func5, Tryd.ntmps5
    go_wp2_with fail
    go_loopw [5, 6, 22] (fun v p i wr => ∃ k r c : Nat, ∃ (a' : Option Addr) (xs : List Value) (ps : List (List Int)) (lr : List Int), k ≤ len1 ∧ i = .int .i64 k ∧ p = .slice a' r c ∧ r ≤ c ∧ c ≤ cap0 ∧ r ≤ len0 ∧ SRow (fun _ => False) w a' r lr ∧ ps.length = k ∧ ps.flatten ++ lr = l ∧ PList w xs ps ∧ wr.ownsRow w.heap.size 28 1 v k xs ∧ Below w.heap.size w wr) (fun _ _ i _ => len1 - (intOf i).toNat)
    case atStart =>
      exact ⟨0, len0, cap0, a0, [], [], l, by omega, rfl, rfl, hlen, Nat.le_refl _, Nat.le_refl _, HRow.out, rfl, rfl, ⟨rfl, fun i hi => by simp at hi⟩, ⟨rfl, Or.inl ⟨rfl, rfl⟩⟩, Below.refl _ _⟩
    case round =>
      obtain ⟨k, r, c, a', xs, ps, lr, hk, rfl, rfl, hrc, hcc, hrl, hS, hpl, hfl, hP, hown, hbel⟩ := hrel
      have HS := Lib.hid hS
      have HPl := Lib.hid hpl
      have HFl := Lib.hid hfl
      have HP := Lib.hid hP
      have HOwn := Lib.hid hown
      have HB := Lib.hid hbel
      clear hS hpl hfl hP hown hbel
      by_cases hlt : k < len1
      · have hd : decide (k < len1) = true := by simp; omega
        have k0 : (0 : Int) ≤ k := by omega
        have k1 : (k : Int) < len1 := by omega
        rcases HW1.out with ⟨_, h0, _, _⟩ | ⟨x, rfl, _, _, hzl, hzc, hzw⟩
        · omega
        obtain ⟨b, off, spot⟩ := x
        have hspot : spot = none := by simpa [Addr.add] using World.cell?_spot (hzc 0 (by omega))
        subst hspot
        have hcell := hzc k (by omega)
        rw [Addr.add_mid b off k] at hcell
        have hcw : _ := (HB.out.cell (World.block_lt_of_cell? _ _ hcell)).trans hcell
        have hzr : 0 ≤ z1.getD k 0 ∧ z1.getD k 0 ≤ 65535 := by
          have := hzw (z1.getD k 0) (by simp [List.getD, show k < z1.length from by omega])
          simpa [Lit.wf, IntKind.min, IntKind.max, IntKind.signed, IntKind.bits] using this
        generalize z1.getD k 0 = z at *
        obtain ⟨y0, y1⟩ := hzr
        clear hzc hzw hcell
        obtain ⟨m, hmr, hmin⟩ := min_two z r y0
        obtain ⟨ah, hsh, hSh⟩ := head_of HS.out m (m : Int) rfl hmr hrc
        obtain ⟨ar, hsr, hSr⟩ := rest_of HS.out m hmr hrc
        have HSh := Lib.hid hSh
        have HSr := Lib.hid hSr
        clear hSh hSr
        go_wp2_with fail
        clear hcw hmin
        go_region_law (refine step_append_lies _ rfl (.tmp 31) (.tmp 35) 27 rfl w.heap.size 28 i0 (.slice none 0 0) 1 24 Tryd.underlying27 HI.out HZ0.out HZ1.out HZ2.out rfl (by decide) u5 k xs rfl (HOwn.out.alloc _) ⟨wr.heap.size, 0, none⟩ 1 1 [.slice ah m c] rfl rfl (World.news_of_block (w := wr.alloc (.cells #[.slice ah m c] 28)) (heap_alloc_new _ _)) (by simp [Value.oneCell']) (by omega) (by unfold maxLen; omega) (by omega) (by have := HB.out.size; simp; omega) _ rfl ?_; intro g cap' w2 hown2 hgrow hat hlt2)
        have HOwn2 := Lib.hid hown2
        have hbel2 : Below w.heap.size w w2 := by
          refine Below.grown ((HB.out.alloc HB.out.size _).drew) hgrow (by have := HB.out.size; simp; omega) (fun j hj => ?_)
          rcases HOwn.out.2 with ⟨rfl, _⟩ | ⟨g', _, _, rfl, hg', _⟩
          · simp [Value.ownBlock] at hj
          · simp [Value.ownBlock] at hj; omega
        have HB2 := Lib.hid hbel2
        clear hown2 hgrow hat hlt2 hbel2 hsh hsr
        go_wp2_with fail
        go_roundw
        case rel =>
          refine ⟨k + 1, r - m, c - m, ar, xs ++ [.slice ah m c], ps ++ [lr.take m], lr.drop m, by omega, by go_num, rfl, by omega, by omega, by omega, HSr.out, by simp [HPl.out], ?_, HP.out.snoc (by omega) (by omega) HSh.out, HOwn2.out, HB2.out⟩
          rw [List.flatten_append, List.flatten_singleton, List.append_assoc, List.take_append_drop]
          exact HFl.out
        case measure => simp [intOf]; omega
      · have hd : decide (k < len1) = false := by simp; omega
        go_wp2_with (at_builtin; refine wpList_append_lies _ rfl (.tmp 41) (.tmp 43) 27 rfl w.heap.size 28 i0 (.slice none 0 0) 1 24 Tryd.underlying27 HI.out HZ0.out HZ1.out HZ2.out rfl (by decide) u5 k xs rfl (HOwn.out.alloc _) ⟨wr.heap.size, 0, none⟩ 1 1 [.slice a' r c] rfl rfl (World.news_of_block (w := wr.alloc (.cells #[.slice a' r c] 28)) (heap_alloc_new _ _)) (by simp [Value.oneCell']) (by omega) (by unfold maxLen; omega) (by omega) (by have := HB.out.size; simp; omega) _ rfl ?_; intro g cap' w2 hown2 hgrow hat hlt2)
        have hbel2 : Below w.heap.size w w2 := by
          refine Below.grown (HB.out.alloc HB.out.size _) hgrow (by have := HB.out.size; simp; omega) (fun j hj => ?_)
          rcases HOwn.out.2 with ⟨rfl, _⟩ | ⟨g', _, _, rfl, hg', _⟩
          · simp [Value.ownBlock] at hj
          · simp [Value.ownBlock] at hj; omega
        have hPR : PRow w2 (some ⟨g, 0, none⟩) (k + 1) (ps ++ [lr]) := (HP.out.snoc hrc (by omega) HS.out).prow rfl hown2 hbel2
        have hfl : (ps ++ [lr]).flatten = l := by rw [List.flatten_append, List.flatten_singleton]; exact HFl.out
        have hll := HRow.out.1
        refine (sum_any (ps ++ [lr]) _ (k + 1) cap' _ (by omega) (by rw [hfl]; omega) (HR.out.below hbel2) hPR).mono ?_
        rintro e w3 ⟨rfl, hb3⟩
        rw [hfl]
        have hbel3 : Below w.heap.size w w3 := hbel2.trans (hb3.mono hbel2.size)
        clear hown2 hgrow hat hlt2 hbel2 hPR hfl hb3 hll
        go_wp2_with fail
        refine (sumA HR.out HRow.out hlen hcap (by omega) hbel3).mono ?_
        rintro e w4 ⟨rfl, hbel4⟩
        go_wp2_with (with_reducible refine wpList_eql rfl (.tmp 45) (.tmp 48) rfl (sum l) (sum_length _) rfl rfl ?_)
        refine (works_any _ (HR.out.below hbel4)).mono ?_
        rintro e w5 ⟨rfl, hb5⟩
        have hbel5 : Below w.heap.size w w5 := hbel4.trans (hb5.mono hbel4.size)
        go_wp2_with fail
        go_ret
        exact ⟨rfl, hbel5⟩

/-- what the walk gives, for every argument, in every world that holds the table -/
theorem contract (H : Type) (enc : TypeId × Value → H) (W : World) (base : Nat) (args : Array Value) (ds gs : List (DataW H)) (before : List MemPlace)
    (hval : ∀ (j : Nat) t v, Tryd.f5.params[j]? = some t → args[j]? = some v → Value.okWide Tryd.prog W .any base t v)
    (hW : DataW.Whole enc Tryd.prog Tryd.f5.params.toList Rows.shaPartsSpec.vars false W args.toList ds gs before) (hL : laidMetH Tryd.prog Rows.shaPartsRow.laid W) :
    Calls Tryd.prog 5 args W fun e W' => ∃ v, e = .returned v ∧ Rows.shaPartsSpec.post enc Tryd.prog Tryd.f5 false true false false W args v W' := by
  have hW' := hW
  obtain ⟨p, q, hA0, hV, rfl, hfz, hnd⟩ := hW
  have hA : DataW.TrodAll enc Tryd.prog W 0 (fun _ => true) true Tryd.f5.params.toList args.toList ds p := hA0
  rw [Tryd.params5] at hA hval
  obtain ⟨v0, vs0, d0, ds0, p0, q0, hargs, rfl, rfl, h0, r0⟩ := trodAll_cons hA
  obtain ⟨v1, vs1, d1, ds1, p1, q1, rfl, rfl, rfl, h1, r1⟩ := trodAll_cons r0
  obtain ⟨rfl, rfl, rfl⟩ := trodAll_nil r1
  obtain rfl : args = #[v0, v1] := by cases args; simp_all
  obtain ⟨rfl, rfl⟩ := trodVars_none hV
  obtain ⟨a0, len0, cap0, rfl⟩ := okWide_slice Tryd.underlying28 (hval 0 28 v0 rfl rfl)
  obtain ⟨a1, len1, cap1, rfl⟩ := okWide_slice Tryd.underlying31 (hval 1 31 v1 rfl rfl)
  have k0 := h0
  have k1 := h1
  have lt0 : ∀ x ∈ p0, x.block < W.heap.size := by obtain ⟨m, hm⟩ := k0; exact DataW.trod_lt m _ _ _ hm
  have lt1 : ∀ x ∈ p1, x.block < W.heap.size := by obtain ⟨m, hm⟩ := k1; exact DataW.trod_lt m _ _ _ hm
  obtain ⟨z0, w0⟩ : ∃ zs, IsRow .u8 W a0 len0 cap0 zs := by
    obtain ⟨fuel, hf⟩ := h0
    rcases open_ints Tryd.underlying28 Tryd.underlying5 (by kernel_rfl) hf with ⟨hcs, _⟩ | ⟨x, l, c, zs, hcs, _, hl, hm, hz, _, hcell, hwz⟩
    · simp [Value.cells] at hcs
      obtain ⟨rfl, rfl, rfl⟩ := hcs
      exact ⟨[], .inl ⟨rfl, rfl, rfl, rfl⟩⟩
    · simp [Value.cells] at hcs
      obtain ⟨rfl, rfl, rfl⟩ := hcs
      exact ⟨zs, .inr ⟨_, rfl, hl, hm, by simpa using hz, hcell, hwz⟩⟩
  obtain ⟨z1, w1⟩ : ∃ zs, IsRow .u16 W a1 len1 cap1 zs := by
    obtain ⟨fuel, hf⟩ := h1
    rcases open_ints Tryd.underlying31 Tryd.underlying32 (by kernel_rfl) hf with ⟨hcs, _⟩ | ⟨x, l, c, zs, hcs, _, hl, hm, hz, _, hcell, hwz⟩
    · simp [Value.cells] at hcs
      obtain ⟨rfl, rfl, rfl⟩ := hcs
      exact ⟨[], .inl ⟨rfl, rfl, rfl, rfl⟩⟩
    · simp [Value.cells] at hcs
      obtain ⟨rfl, rfl, rfl⟩ := hcs
      exact ⟨zs, .inr ⟨_, rfl, hl, hm, by simpa using hz, hcell, hwz⟩⟩
  clear hA0
  refine (walk a0 len0 cap0 z0 a1 len1 cap1 z1 W (roots hL) w0 w1).mono fun e W' ⟨he, bel⟩ => ?_
  subst he
  exact ⟨_, rfl, _, _, _, [], _, [], hW', trodAll_mk1 (shut_bool Tryd.underlying4 _), (trodAll_cons_mk (Below.trod laidOut (by kernel_rfl) (of_decide_eq_true (by kernel_rfl)) k0 bel lt0) (trodAll_cons_mk (Below.trod laidOut (by kernel_rfl) (of_decide_eq_true (by kernel_rfl)) k1 bel lt1) trodAll_mk0)), rfl, bel.frame _, fun h => by cases h⟩

theorem reads (os : Os) {H : Type} (enc : TypeId × Value → H) : ∃ places, DataW.whole enc Tryd.prog ((laidWorld os).forCall (fun _ _ => 0) ⟨#[], #[.slice none 0 0, .slice none 0 0], []⟩).memory Tryd.f5.params.toList Rows.shaPartsSpec.vars false #[Value.slice none 0 0, Value.slice none 0 0].toList 8 = some ([.nil, .nil], [], places) :=
  ⟨[], by kernel_rfl⟩

set_option maxRecDepth 100000 in
theorem lifted (os : Os) (started : os.Started) (H : Type) (enc : TypeId × Value → H) (F : Stop.Interp) :
    ReturnsInHanded {} Tryd.checked os 5 .any ((OpenSpec.ofChange Rows.shaPartsSpec).preRow enc Tryd.prog Tryd.f5 Rows.shaPartsRow.domain false Rows.shaPartsRow.laid) (((OpenSpec.ofChange Rows.shaPartsSpec).at F).post enc Tryd.prog Tryd.f5 false true false false) := by
  obtain ⟨places, hx⟩ := reads os enc
  refine returnsInHanded_of_row (C := Tryd.checked) (s := OpenSpec.ofChange Rows.shaPartsSpec) own started (by kernel_rfl) Tryd.func5
    (witness_row_at (enc := enc) (C := Tryd.checked) false (laidWorld os) #[.slice none 0 0, .slice none 0 0] rfl (by kernel_rfl) (by kernel_rfl) (by kernel_rfl)
      (OpenSpec.preRow_of_cond 8 hx (by kernel_rfl) (fun k hk => by cases hk) (by kernel_rfl) (laid_met os _))) ?_
  intro W base args ds gs before hval hW _ _ _ hL _ _
  exact contract H enc W base args ds gs before hval hW hL

theorem said : Rows.ShaPartsSaid :=
  OpenClaim.holds_of_cond 5 Tryd.f5 rfl rfl rfl rfl rfl rfl rfl ⟨rfl, rfl, rfl, rfl, rfl⟩ rfl rfl rfl rfl rfl (by kernel_rfl) Tryd.func5 (by kernel_rfl)
    (of_decide_eq_true (by kernel_rfl)) (by unfold Func.isWrapper; first | (rw [if_pos (by decide +kernel)]; kernel_rfl) | (rw [if_neg (by decide +kernel)]; exact ⟨rfl, rfl⟩))
    (fun os started H enc _ F => by rw [OpenClaim.pre_eq_preRow]; exact lifted os started H enc F)

theorem plain (f : FuncId) (fn : Func) (hf : Tryd.pinned.checked.prog.funcNamed "tappet/tappetlaw02.ShaParts" = some f) (hfn : Tryd.pinned.checked.prog.funcs[f]? = some fn) :
    false = Tryd.pinned.checked.prog.looks [] ∧ ∀ (j : Nat) t, fn.params[j]? = some t → Tryd.pinned.checked.prog.wantsStandIn t = false := by
  obtain rfl : f = 5 := Option.some.inj ((show Tryd.prog.funcNamed "tappet/tappetlaw02.ShaParts" = some 5 by kernel_rfl).symm.trans hf) |>.symm
  obtain rfl : fn = Tryd.f5 := (Option.some.inj (Tryd.func5.symm.trans hfn)).symm
  refine ⟨by kernel_rfl, fun j t ht => ?_⟩
  rw [Tryd.params5] at ht
  have hm := Array.mem_of_getElem? ht
  simp at hm
  rcases hm with rfl | rfl
  · exact (show Tryd.prog.wantsStandIn 28 = false by kernel_rfl)
  · exact (show Tryd.prog.wantsStandIn 31 = false by kernel_rfl)

theorem proved : Rows.ShaPartsCardSaid :=
  Claim7.holds_tied_plain_at .later [] _ _ _ _ said (fun _ h => by cases h) (by kernel_rfl) (fun _ h => by cases h) shaParts_row_tie rfl ⟨rfl, rfl⟩ (by kernel_rfl) rfl plain (by kernel_rfl)
#print axioms proved
end Go.Proofs.YtfnlahodmilepaaDoor.shaParts
