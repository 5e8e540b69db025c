/- The program's answers: cost.along, cost.From, cost.Worst. -/
import Derived.Test.YtjoiogdckbaeaaaDoorCostC
import Derived.Test.YtjoiogdckbaeaaaDoorCostA
import Derived.Test.YtjoiogdckbaeaaaDoorCostV
import Derived.Test.YtjoiogdckbaeaaaDoorFlowP4
namespace Go.Proofs.YtjoiogdckbaeaaaDoor
open Go.ChangeShapes Go.WideShapes Go.ChangeAt Go.RowKit
namespace Cst
open Isa Flw
open Goes
open Rights (Kept)
set_option linter.unusedVariables false
set_option linter.unusedSimpArgs false
/-- what stands behind j rounds, from the order's end on -/
structure Back (l : List Iv) (T : List Nat) (j : Nat) (W : List Nat) : Prop where
  len : W.length = l.length
  val : ∀ x, x < l.length → wf W x = if x ∈ T.drop (T.length - j) then ws l x else 0
theorem Back.start (l : List Iv) (T : List Nat) : Back l T 0 (List.replicate l.length 0) := by
  refine ⟨by simp, fun x hx => ?_⟩
  rw [Nat.sub_zero, List.drop_length, if_neg (by simp)]
  unfold wf
  rw [List.getD_eq_getElem?_getD, List.getElem?_replicate, if_pos hx]; rfl
theorem Back.step {l : List Iv} (hf : Fine l) (hw : ∀ i ∈ l, i.wf) (hfr : Free l) {T : List Nat} (ht : Flw.Told l T) (ha : allT l T = true) {j : Nat} {W : List Nat} (h : Back l T j W) (hj : j < T.length) {x : Nat} (hx : T[T.length - 1 - j]? = some x) :
    Come l x ∧ (bestF (wf W) (behL l x)).2 + 1 = ws l x ∧ Back l T (j + 1) (W.set x (ws l x)) := by
  have hmem := List.mem_of_getElem? hx
  have hc := comeB_iff.1 (ht.come x hmem)
  have hxl := ht.lt x hmem
  have hd : T.drop (T.length - (j + 1)) = x :: T.drop (T.length - j) := by
    obtain ⟨hlt, e⟩ := List.getElem?_eq_some_iff.1 hx
    rw [show T.length - (j + 1) = T.length - 1 - j by omega, List.drop_eq_getElem_cons hlt, e, show T.length - 1 - j + 1 = T.length - j by omega]
  refine ⟨hc, ?_, by rw [List.length_set]; exact h.len, fun y hy => ?_⟩
  · rw [best_most, ws_eq hf hw hfr hc, Nat.add_comm]
    congr 1
    refine maxL_congr fun m hm => ?_
    have hcm := Come.step hc hm
    have hml := come_lt hf hw hcm
    have hmT := allT_true.1 ha m hml (comeB_iff.2 hcm)
    obtain ⟨i, hi⟩ := List.getElem?_of_mem hmT
    have hlt := ht.edge _ _ _ _ hx hi hm
    rw [h.val m hml, if_pos]
    refine List.mem_of_getElem? (i := i - (T.length - j)) ?_
    rw [List.getElem?_drop, show T.length - j + (i - (T.length - j)) = i by omega]
    exact hi
  · rw [wf_set (by rw [h.len]; exact hxl), hd]
    by_cases e : x = y
    · subst e; rw [if_pos rfl, if_pos (by simp)]
    · rw [if_neg e, h.val y hy]
      by_cases q : y ∈ T.drop (T.length - j)
      · rw [if_pos q, if_pos (by simp [q])]
      · rw [if_neg q, if_neg (by simp only [List.mem_cons, not_or]; exact ⟨fun z => e z.symm, q⟩)]
theorem Back.done {l : List Iv} (hf : Fine l) (hw : ∀ i ∈ l, i.wf) (hfr : Free l) {T : List Nat} (ht : Flw.Told l T) (ha : allT l T = true) {W : List Nat} (h : Back l T T.length W) : W = frW l := by
  have hE := (fr_of hf hfr).1
  unfold frW
  rw [if_pos hE]
  apply List.ext_getElem
  · rw [h.len]; simp
  · intro i h1 h2
    have hi : i < l.length := by rw [← h.len]; exact h1
    have e : W[i] = wf W i := by unfold wf; rw [List.getD_eq_getElem?_getD, List.getElem?_eq_getElem h1]; rfl
    simp only [List.getElem_map, List.getElem_range]
    rw [e, h.val i hi, Nat.sub_self, List.drop_zero]
    by_cases q : comeB l i = true
    · rw [if_pos q, if_pos (allT_true.1 ha i hi q)]
    · rw [if_neg q, if_neg (fun z => q (ht.come i z))]
theorem urow_own {V : World} {O n S : Nat} {Bl : List Nat} (h : URow V O Bl) (hl : Bl.length = n) (hS : S ≤ O) (hn : n ≤ 1000000) : V.ownsRow S 23 1 (.slice (some ⟨O, 0, none⟩) n n) n (u32s Bl) := by
  have e : (u32s Bl).length = n := by simp [u32s, hl]
  refine ⟨by omega, .inr ⟨O, n, (u32s Bl).toArray, rfl, hS, h, Nat.le_refl _, by unfold maxLen; omega, by simp [e], ?_⟩⟩
  rw [Nat.mul_one, List.toList_toArray]
  exact List.take_of_length_le (by omega)
theorem along_any (sl sw : Value) (a : Option Addr) (n c : Nat) (a2 : Option Addr) (n2 c2 : Nat) (w : World) (h1 : sl = .slice a n c) (h2 : sw = .slice a2 n2 c2) :
    Calls Tryd.prog 48 #[sl, sw] w fun e w' => e = .returned (.func (.func 65) #[] #[.pointer (some ⟨w.heap.size, 0, none⟩), .pointer (some ⟨w.heap.size + 1, 0, none⟩)]) ∧
      Box w' w.heap.size 22 sl ∧ Box w' (w.heap.size + 1) 26 sw ∧ Kept (fun _ => False) w w' ∧ w'.heap.size = w.heap.size + 2 := by
  subst h1
  subst h2
  have HP : Hid (Box ((w.alloc (.cells #[.slice a n c] 22)).alloc (.cells #[.slice a2 n2 c2] 26)) w.heap.size 22 (.slice a n c) ∧ Box ((w.alloc (.cells #[.slice a n c] 22)).alloc (.cells #[.slice a2 n2 c2] 26)) (w.heap.size + 1) 26 (.slice a2 n2 c2) ∧ Kept (fun _ => False) w ((w.alloc (.cells #[.slice a n c] 22)).alloc (.cells #[.slice a2 n2 c2] 26)) ∧ ((w.alloc (.cells #[.slice a n c] 22)).alloc (.cells #[.slice a2 n2 c2] 26)).heap.size = w.heap.size + 2) := by
    refine ⟨(Box.new w _ _).kept ((Kept.refl (fun _ => False) _).alloc _) (fun x => x), ?_, ((Kept.refl _ w).alloc _).alloc _, by rw [World.size_alloc, World.size_alloc]⟩
    have := Box.new (w.alloc (.cells #[.slice a n c] 22)) 26 (.slice a2 n2 c2)
    rwa [World.size_alloc] at this
  go_enter Tryd.func48, Tryd.ntmps48
  go_wp2_with fail
  go_ret
  exact ⟨rfl, HP.out⟩
set_option maxRecDepth 100000 in
set_option maxHeartbeats 12800000 in
theorem from_any : FromC := by
  intro l a n c w hT hnc hcm h
  have hln : l.length = n := h.1
  have HCk := Lib.hid (check_any l a n c w hT hnc hcm h)
  have HOr := Lib.hid (fun W (hb : Below w.heap.size w W) => order_any l a n c W (hT.below hb (Nat.le_refl _)) hnc hcm (h.below hb (Nat.le_refl _)))
  have HRow := Lib.hid h
  clear hT h
  by_cases hE : chkE l = 0
  case neg =>
    have HR := Lib.hid (fr_bad hE)
    have hne : (chkE l != 0) = true := by simpa using hE
    clear hE
    generalize chkE l = E at *
    generalize chkN l = K at *
    go_enter Tryd.func26, Tryd.ntmps26
    go_wp2_with fail
    refine HCk.out.mono ?_
    rintro e w1 ⟨rfl, hb1⟩
    go_wp2_with fail
    refine bodyPost_ret (v := .tuple #[.slice none 0 0, .int .i64 (K : Nat), .int .i64 E]) (by simp [results, Tryd.f26, go_sem]) rfl ?_
    obtain ⟨e1, e2, e3⟩ := HR.out
    exact ⟨⟨_, tup3 ⟨e2.symm, e1.symm⟩, by rw [e3]; exact World.ownsRow_nil _ _ _ _⟩, hb1⟩
  have hf := fine_of hE
  have hc0 : chkN l = 0 := (chk_of hf).2
  rw [hE, hc0] at HCk
  have hn16 : n ≤ 16384 := by have := hf.most; omega
  have hn0 : 0 < n := by have := hf.some; omega
  have HF := Lib.hid hf
  have HL := Lib.hid hln
  by_cases hok : (ordA l).2 = true
  case neg =>
    have hfe : frE l ≠ 0 := fun q => hok (free_order hf HRow.out.2.1 (fr_free q).2)
    obtain ⟨x1, x2, x3, x4, x5, x6⟩ := not_free hf hfe
    have hokf : (ordA l).2 = false := by simpa using hok
    rw [hokf] at HOr
    have HLe := Lib.hid (fun W (hb : Below w.heap.size w W) => least_any l a n c W hf (HRow.out.below hb (Nat.le_refl _)) x3)
    have HR : Hid (fromP l w (.returned (.tuple #[.slice none 0 0, .int .i64 (lpK l : Nat), .int .i64 130])) = fromP l w (.returned (.tuple #[.slice none 0 0, .int .i64 (lpK l : Nat), .int .i64 130]))) := rfl
    have HX : Hid (∀ w', Below w.heap.size w w' → fromP l w (.returned (.tuple #[.slice none 0 0, .int .i64 (lpK l : Nat), .int .i64 130])) w') := fun w' hb => by
      refine ⟨⟨_, tup3 ⟨x2.symm, x1.symm⟩, ?_⟩, hb⟩
      rw [x5]; exact World.ownsRow_nil _ _ _ _
    clear hE hf hc0 hok hfe x1 x2 x3 x4 x5 x6 hokf HR
    generalize lpK l = K at *
    go_enter Tryd.func26, Tryd.ntmps26
    go_wp2_with fail
    refine HCk.out.mono ?_
    rintro e w1 ⟨rfl, hb1⟩
    have HB1 := Lib.hid hb1
    clear hb1
    go_wp2_with fail
    refine (HOr.out w1 HB1.out).mono ?_
    rintro e w2 ⟨v, rfl, ho, hb2⟩
    obtain ⟨va, vc, rfl, _, _⟩ := own_shape ho
    have HB2 := Lib.hid (HB1.out.trans (hb2.mono HB1.out.size))
    clear hb2 ho
    go_wp2_with fail
    refine (HLe.out w2 HB2.out).mono ?_
    rintro e w3 ⟨rfl, hb3⟩
    have HB3 := Lib.hid (HB2.out.trans (hb3.mono HB2.out.size))
    clear hb3
    go_wp2_with fail
    refine bodyPost_ret (v := .tuple #[.slice none 0 0, .int .i64 (K : Nat), .int .i64 130]) (by simp [results, Tryd.f26, go_sem]) rfl ?_
    exact HX.out _ HB3.out
  have hfr : Free l := order_free hf HRow.out.2.1 hok
  obtain ⟨hfe, hfn⟩ := fr_of hf hfr
  obtain ⟨ht, ha⟩ := ord_told hok
  rw [hok] at HOr
  generalize (ordA l).1 = T at *
  have htl : T.length ≤ n := by have := told_len ht; omega
  have HFr := Lib.hid hfr
  have HTo := Lib.hid ht
  have HAl := Lib.hid ha
  have HX : Hid (∀ v w', w'.ownsRow w.heap.size 23 1 v (frW l).length (u32s (frW l)) → Below w.heap.size w w' → fromP l w (.returned (.tuple #[v, .int .i64 0, .int .i64 0])) w') := fun v w' ho hb => ⟨⟨v, tup3 (a := 0) ⟨hfn.symm, hfe.symm⟩, ho⟩, hb⟩
  have HSt := Lib.hid (fun j W (h : Back l T j W) (hj : j < T.length) x hx => h.step hf HRow.out.2.1 hfr ht ha hj (x := x) hx)
  have HDo := Lib.hid (fun W (h : Back l T T.length W) => h.done hf HRow.out.2.1 hfr ht ha)
  have HSm := Lib.hid (fun x (hx : Come l x) => ws_le hf HRow.out.2.1 hfr hx)
  have hmk := fun W => run_make_u32 W n (by omega)
  clear hE hc0 hok hfe hfn ht ha hfr
  go_enter Tryd.func26, Tryd.ntmps26
  go_wp2_with fail
  refine HCk.out.mono ?_
  rintro e w1 ⟨rfl, hb1⟩
  have HB1 := Lib.hid hb1
  clear hb1 HCk
  go_wp2_with fail
  refine (HOr.out w1 HB1.out).mono ?_
  rintro e w2 ⟨v, rfl, ho, hb2⟩
  unfold numsP at ho
  obtain ⟨va, vc, rfl, hvc, hvm, hnr⟩ := own_nrow ho
  have HB2 := Lib.hid (HB1.out.trans (hb2.mono HB1.out.size))
  have HT2 := Lib.hid hnr
  clear hb2 ho hnr HOr HB1
  go_upto_region 8 with fail
  clear hmk
  obtain ⟨O, hO⟩ : ∃ O, w2.heap.size = O := ⟨_, rfl⟩
  have HR3 : Hid (URow (w2.alloc (.cells (u32s (List.replicate n 0)).toArray 23)) O (List.replicate n 0)) := by show URow _ _ _; rw [← hO]; exact alloc_new w2 _
  have HB3 : Hid (Below O w2 (w2.alloc (.cells (u32s (List.replicate n 0)).toArray 23))) := by show Below _ _ _; rw [← hO]; exact (Below.refl _ w2).alloc (Nat.le_refl _) _
  have HOw : Hid (w.heap.size ≤ O) := by show _ ≤ _; rw [← hO]; exact HB2.out.size
  have HBel : Hid (∀ W, Below O w2 W → Below w.heap.size w W) := fun W hb => HB2.out.trans (hb.mono HOw.out)
  have HTr : Hid (∀ W, Below O w2 W → NRow W va T.length T) := fun W hb => HT2.out.below hb (by omega)
  rw [hO]
  clear HB2 HT2
  generalize w2.alloc (.cells (u32s (List.replicate n 0)).toArray 23) = W3 at *
  go_wp2_with fail
  refine (along_any (.slice a n c) (.slice (some ⟨O, 0, none⟩) n n) a n c (some ⟨O, 0, none⟩) n n W3 rfl rfl).mono ?_
  rintro e W4 ⟨rfl, hbx, hby, hk4, hz4⟩
  obtain ⟨A, hA⟩ : ∃ A, W3.heap.size = A := ⟨_, rfl⟩
  rw [hA] at hbx hby hz4 ⊢
  have HOA : Hid (O < A) := by show _ < _; rw [← hA]; exact HR3.out.lt
  have HBx := Lib.hid hbx
  have HBy := Lib.hid hby
  have HR4 : Hid (URow W4 O (List.replicate n 0)) := hk4.same HR3.out (fun x => x)
  have HB4 : Hid (Below O w2 W4) := HB3.out.trans (below_of hk4 (by have := HOA.out; omega) (fun _ x => x.elim))
  clear hbx hby hk4 hz4 hA HR3 HB3 hO
  obtain ⟨tl, htl2⟩ : ∃ tl, T.length = tl := ⟨_, rfl⟩
  rw [htl2] at htl hvc HTr ⊢
  have HTl := Lib.hid htl2
  clear htl2
  go_wp2_with fail
  go_loopw [41] (fun i wr => ∃ (j : Nat) (W : List Nat), j ≤ tl ∧ i = .int .i64 (j : Nat) ∧ Back l T j W ∧ URow wr O W ∧ Box wr A 22 (.slice a n c) ∧ Box wr (A + 1) 26 (.slice (some ⟨O, 0, none⟩) n n) ∧ Below O w2 wr) (fun i _ => tl - (intOf i).toNat)
  case atStart => exact ⟨0, _, by omega, rfl, by have := Back.start l T; rwa [HL.out] at this, HR4.out, HBx.out, HBy.out, HB4.out⟩
  case round =>
    obtain ⟨j, W, hj, rfl, hbk, hr, hx, hy, hb⟩ := hrel
    have HBk := Lib.hid hbk
    have HR := Lib.hid hr
    have HX5 := Lib.hid hx
    have HY5 := Lib.hid hy
    have HB := Lib.hid hb
    have hWn : W.length = n := by rw [hbk.len]; exact hln
    clear hbk hx hy HR4 HB4 HBx HBy
    by_cases hlt : j < tl
    · have hd : decide ((j : Int) < (tl : Int)) = true := decide_eq_true (by omega)
      have w1 : IntKind.i64.wrap ((tl : Int) - 1) = ((tl - 1 : Nat) : Int) := by simp [IntKind.wrap, IntKind.bits, IntKind.signed]; omega
      have w3 : IntKind.i64.wrap (((tl - 1 : Nat) : Int) - (j : Int)) = ((tl - 1 - j : Nat) : Int) := by simp [IntKind.wrap, IntKind.bits, IntKind.signed]; omega
      obtain ⟨q, hq⟩ : ∃ q, tl - 1 - j = q := ⟨_, rfl⟩
      have hqt : q < tl := by omega
      have q0 : (0 : Int) ≤ q := by omega
      have q1 : (q : Int) < tl := by omega
      rw [hq] at w3
      obtain ⟨bt, ot, rfl, hct⟩ := (HTr.out wr hb).at q hqt
      have hTq : T[q]? = some (T.getD q 0) := by rw [List.getD_eq_getElem?_getD, List.getElem?_eq_getElem (by rw [HTl.out]; exact hqt)]; rfl
      obtain ⟨x, hx⟩ : ∃ x, T.getD q 0 = x := ⟨_, rfl⟩
      rw [hx] at hct hTq
      obtain ⟨hcx, hbx, hbk2⟩ := HSt.out j W HBk.out (by rw [HTl.out]; exact hlt) x (by rw [HTl.out, hq]; exact hTq)
      have hxl := come_lt hf HRow.out.2.1 hcx
      have hxn : x < n := by omega
      have hwl := HSm.out x hcx
      obtain ⟨u, hu⟩ : ∃ u, ws l x = u := ⟨_, rfl⟩
      rw [hu] at hbx hbk2 hwl
      have HOn := Lib.hid (onward_any l a n c wr hf (HRow.out.below (HBel.out wr hb) (Nat.le_refl _)) A (A + 1) O n W x hxn HX5.out HY5.out (fun m hm => hr.at (by omega)) hr.lt)
      have HBk2 := Lib.hid hbk2
      have hwu : IntKind.u32.wrap (((bestF (wf W) (behL l x)).2 : Int) + 1) = ((u : Nat) : Int) := by simp [IntKind.wrap, IntKind.bits, IntKind.signed]; omega
      have x0 : (0 : Int) ≤ x := by omega
      have x1 : (x : Int) < n := by omega
      generalize (bestF (wf W) (behL l x)).2 = gr at *
      generalize (bestF (wf W) (behL l x)).1 = to_ at *
      have HQ := Lib.hid hq
      clear hq hTq hx hcx hbx hbk2 hxl hwl hu hr hb
      go_wp2_with fail
      refine HOn.out.mono ?_
      rintro e W5 ⟨rfl, hb5⟩
      have HR5 := Lib.hid (HR.out.below hb5 (Nat.le_refl _))
      have hsz : O ≤ wr.heap.size := by have := HR.out.lt; omega
      have HB5 := Lib.hid (HB.out.trans (hb5.mono hsz))
      have HX6 := Lib.hid (HX5.out.below hb5 (Nat.le_refl _))
      have HY6 := Lib.hid (HY5.out.below hb5 (Nat.le_refl _))
      have qx := HR5.out.at (k := x) (by omega)
      have fx := HR5.out.free x
      have ks : Kept (fun k => k = O) W5 (W5.setCell ⟨O, x, none⟩ (.int .u32 ((u : Nat) : Int))) := kept_set _ _ _ _ rfl
      have HR7 := Lib.hid (HR5.out.set x u)
      have HX7 := Lib.hid (HX6.out.kept ks (by have := HOA.out; omega))
      have HY7 := Lib.hid (HY6.out.kept ks (by have := HOA.out; omega))
      have HB7 : Hid (Below O w2 (W5.setCell ⟨O, x, none⟩ (.int .u32 ((u : Nat) : Int)))) := HB5.out.setCell (p := ⟨O, x, none⟩) (Nat.le_refl _) _
      generalize wf W x = z5 at *
      clear hb5 ks hsz HOn hct w1 w3 q0 q1
      go_wp2_with fail
      exact ⟨⟨j + 1, _, by omega, by simp, HBk2.out, HR7.out, HX7.out, HY7.out, HB7.out⟩, by simp [intOf]; omega⟩
    · obtain rfl : j = tl := by omega
      have hd : decide ((j : Int) < (j : Int)) = false := decide_eq_false (by omega)
      have hWf : W = frW l := HDo.out W (by rw [HTl.out]; exact HBk.out)
      have hown := urow_own hr hWn HOw.out (by omega)
      have HOwn : Hid (wr.ownsRow w.heap.size 23 1 (.slice (some ⟨O, 0, none⟩) n n) (frW l).length (u32s (frW l))) := by rw [← hWf, hWn]; exact hown
      have HBw := Lib.hid (HBel.out wr hb)
      clear hWf hown hr hb hlt
      go_wp2_with fail
      refine bodyPost_ret (v := .tuple #[.slice (some ⟨O, 0, none⟩) n n, .int .i64 0, .int .i64 0]) (by simp [results, Tryd.f26, go_sem]) rfl ?_
      exact HX.out _ _ HOwn.out HBw.out
set_option maxHeartbeats 3200000 in
theorem worst_any : WorstC := by
  intro l a n c w hT hnc hcm h
  have hln : l.length = n := h.1
  have HFr := Lib.hid (from_any l a n c w hT hnc hcm h)
  unfold fromP at HFr
  clear hT h
  by_cases hE : frE l = 0
  case neg =>
    have hne : (frE l != 0) = true := by simpa using hE
    have hz : wz l = 0 := by unfold wz; rw [if_neg hE]
    rw [hz]
    clear hE hz
    generalize frE l = E at *
    generalize frN l = K at *
    go_enter Tryd.func11, Tryd.ntmps11
    go_wp2_with fail
    refine HFr.out.mono ?_
    rintro e w1 ⟨⟨v, rfl, ho⟩, hb1⟩
    obtain ⟨va, vc, rfl, _, _⟩ := own_shape ho
    clear ho
    go_wp2_with fail
    refine bodyPost_ret (v := .tuple #[.int .u32 0, .int .i64 (K : Nat), .int .i64 E]) (by simp [results, Tryd.f11, go_sem]) rfl ?_
    exact ⟨rfl, hb1⟩
  obtain ⟨hf, hfr⟩ := fr_free hE
  have hn0 : 0 < n := by have := hf.some; omega
  have hn16 : n ≤ 16384 := by have := hf.most; omega
  have hfn := (fr_of hf hfr).2
  have hz : wz l = ws l 0 := by unfold wz; rw [if_pos hE]
  have hlw : (frW l).length = n := by unfold frW; rw [if_pos hE]; simp [hln]
  have h0 : wf (frW l) 0 = ws l 0 := by rw [frW_at hE (by omega), if_pos (comeB_iff.2 .zero)]
  rw [hE, hfn, hlw] at HFr
  rw [hE, hfn, hz, ← h0]
  have HLw := Lib.hid hlw
  obtain ⟨x, hx⟩ : ∃ x, wf (frW l) 0 = x := ⟨_, rfl⟩
  rw [hx]
  have HXx := Lib.hid hx
  clear hE hf hfr hfn hz hlw h0 hx
  generalize frW l = W at *
  go_enter Tryd.func11, Tryd.ntmps11
  go_wp2_with fail
  refine HFr.out.mono ?_
  rintro e w1 ⟨⟨v, rfl, ho⟩, hb1⟩
  obtain ⟨g, cap, rfl, hg0, hg1⟩ := own_some ho hn0
  obtain ⟨a0, c0, e0, hcl, hcm2⟩ := own_shape ho
  injection e0 with e1 e2 e3
  subst e1
  subst e3
  clear e2
  have hu : UO w.heap.size g cap n W w1 := ho
  have q0 := hu.at hn0
  rw [HXx.out] at q0
  have n0 : (0 : Int) < n := by omega
  have HB1 := Lib.hid hb1
  clear ho hu hb1 HFr
  go_wp2_with fail
  refine bodyPost_ret (v := .tuple #[.int .u32 (x : Nat), .int .i64 0, .int .i64 0]) (by simp [results, Tryd.f11, go_sem]) rfl ?_
  exact ⟨rfl, HB1.out⟩
end Cst
end Go.Proofs.YtjoiogdckbaeaaaDoor
