/- The document's own answers: the order. -/
import Derived.Test.YteingehdkpfpcaaDoorFlowR3
import Derived.Test.YteingehdkpfpcaaDoorFlowMath3
namespace Go.Proofs.YteingehdkpfpcaaDoor
open Go.ChangeShapes Go.WideShapes Go.ChangeAt Go.RowKit
namespace Flw
open Isa
set_option linter.unusedVariables false
set_option linter.unusedSimpArgs false
theorem infoN : (Tryd.prog.info? 3).map (fun i => (i.zero, i.size, i.bytes)) = some (some (.int .i64 0), 1, 8) := by kernel_rfl
/-- a row of numbers is no row of bools -/
theorem nums_set {S : Nat} {T : List Nat} {w : World} {v : Value} (h : numsP S T w v) {o : Nat} {B : List Bool} (hb : BRow w o B) (k : Nat) (u : Value) : numsP S T (w.setCell ⟨o, k, none⟩ u) v := by
  refine ⟨h.1, ?_⟩
  rcases h.2 with h2 | ⟨g, cap, cur, e, h1, hg, r⟩
  · exact .inl h2
  · refine .inr ⟨g, cap, cur, e, h1, ?_, r⟩
    rw [setCell_blk w g o k u (fun e => by
      have h' : w.heap[o]? = some (.cells (bls B).toArray 4 (0, 0)) := hb
      rw [← e, hg] at h'
      simp at h')]
    exact hg
theorem nums_below {S : Nat} {T : List Nat} {w w' : World} {v : Value} (h : numsP S T w v) {B : Nat} (hb : Below B w w') (hB : w.heap.size ≤ B) : numsP S T w' v := own_below h hb hB
theorem nums_mono {S S' : Nat} {T : List Nat} {w : World} {v : Value} (h : numsP S T w v) (hS : S' ≤ S) : numsP S' T w v := by
  refine ⟨h.1, ?_⟩
  rcases h.2 with h2 | ⟨g, cap, cur, e, h1, r⟩
  · exact .inl h2
  · exact .inr ⟨g, cap, cur, e, Nat.le_trans hS h1, r⟩
theorem nums_shape {S : Nat} {T : List Nat} {w : World} {v : Value} (h : numsP S T w v) : ∃ a c, v = .slice a T.length c := by
  obtain ⟨a, c, rfl, _, _⟩ := own_shape h
  exact ⟨a, c, rfl⟩
/-- one more -/
theorem nums_add {S : Nat} {T : List Nat} {w : World} {a : Option Addr} {c : Nat} (h : numsP S T w (.slice a T.length c)) (hS : S ≤ w.heap.size) (hT : T.length ≤ 1000000) (k : Nat) :
    ∃ g cap w', (Builtin.append_ #[29, 29] 29 #[.slice a T.length c, .slice (some ⟨w.heap.size, 0, none⟩) 1 1]).run Tryd.prog (w.alloc (.cells #[.int .i64 (k : Int)] 3)) = .ok (.slice (some ⟨g, 0, none⟩) (T.length + 1 : Nat) cap) w' ∧
      numsP S (T ++ [k]) w' (.slice (some ⟨g, 0, none⟩) (T.length + 1 : Nat) cap) ∧ Below S w w' := by
  obtain ⟨g, cap, w', h1, h2, h3⟩ := app_el Tryd.underlying29 infoN rfl (by decide) (by decide) h hS (by omega) [.int .i64 (k : Int)] rfl (by intro u hu; simp at hu; subst hu; rfl) 29
  refine ⟨g, cap, w', h1, ?_, h3⟩
  unfold numsP
  rw [List.length_append, List.length_singleton]
  exact own_off h2 (by unfold nums; rw [List.map_append]; rfl)
def lenV : Value → Nat
  | .slice _ n _ => n
  | _ => 0
set_option maxRecDepth 100000 in
set_option maxHeartbeats 12800000 in
theorem rorder_any (l : List Iv) (a : Option Addr) (n c : Nat) (hf : Fine l) (w : World) (h : IRow w a n l) : Calls Tryd.prog 15 #[.slice a n c] w fun e w' =>
    ∃ v, e = .returned (.tuple #[v, .bool (ordA l).2]) ∧ numsP w.heap.size (ordA l).1 w' v ∧ Below w.heap.size w w' := by
  have hln : l.length = n := h.1
  have HL := Lib.hid hln
  have hn16 : n ≤ 16384 := by have := hf.most; omega
  have HBe := Lib.hid (fun W (hb : Below w.heap.size w W) k (hk : k < n) => rbehind_any l a n c (by omega) k hk W (h.below hb (Nat.le_refl _)))
  have HCo := Lib.hid (rcome_any l a n c hf w h)
  have HMx := Lib.hid (fun (k : Nat) (hk : k < n) m (hm : m ∈ behL l k) => beh_lt hf h.2.1 (by omega) hm)
  have HOd := Lib.hid (Od.start hf)
  have HTl := Lib.hid (fun T (ht : Told l T) => told_len ht)
  rw [hln] at HOd HTl
  clear h hf hln
  go_enter Tryd.func15, Tryd.ntmps15
  go_wp2_with fail
  refine HCo.out.mono ?_
  rintro e w1 ⟨I, rfl, hI, hrI, hb1⟩
  have hmk := run_make_bools w1 n (by omega)
  have HRD := Lib.hid (brow_new w1 (List.replicate n false))
  have HRI := Lib.hid (hrI.below ((Below.refl w1.heap.size w1).alloc (Nat.le_refl _) (.cells (bls (List.replicate n false)).toArray 4)) (Nat.le_refl _))
  have HB1 := Lib.hid (hb1.alloc hb1.size (.cells (bls (List.replicate n false)).toArray 4))
  have HID : Hid (I < w1.heap.size) := hrI.lt
  have HDw0 := hb1.size
  have HSz : Hid (w1.heap.size < (w1.alloc (.cells (bls (List.replicate n false)).toArray 4)).heap.size) := by
    show _ < _
    rw [World.size_alloc]; omega
  clear hI hrI hb1 HCo
  go_upto_region 3 with fail
  clear hmk
  generalize w1.alloc (.cells (bls (List.replicate n false)).toArray 4) = w2 at *
  generalize w1.heap.size = D at *
  rw [← tB_nil] at HRD
  obtain ⟨S, hS⟩ : ∃ S, w2.heap.size = S := ⟨_, rfl⟩
  have HS : Hid (w.heap.size ≤ S) := by show _ ≤ _; have := HB1.out.size; omega
  rw [hS] at HSz
  have HSe := Lib.hid hS
  have HB2 : Hid (Below S w2 w2) := by show Below S w2 w2; rw [← hS]; exact Below.refl _ _
  clear hS
  have HDw : Hid (w.heap.size ≤ D) := HDw0
  clear HDw0
  have HIne : Hid (I ≠ D) := Nat.ne_of_lt HID.out
  go_upto_region 4 with fail
  go_loopw [6] (fun v wr => ∃ T, Od l n T ∧ numsP S T wr v ∧ BRow wr I ((List.range n).map (comeB l)) ∧ BRow wr D (tB n T) ∧ S ≤ wr.heap.size ∧ Below w.heap.size w wr) (fun v _ => n + 1 - lenV v)
  case atStart => exact ⟨[], HOd.out, World.ownsRow_nil _ _ _ _, HRI.out, HRD.out, by rw [HSe.out]; exact Nat.le_refl _, HB1.out⟩
  case round =>
    obtain ⟨T, hod, hnum, hrI, hrD, hsz, hbel⟩ := hrel
    have HO := Lib.hid hod
    obtain ⟨av, cv, rfl⟩ := nums_shape hnum
    have htl := HTl.out T hod.told
    have hmk := run_make_bools wr n (by omega)
    have HN := Lib.hid (nums_below hnum ((Below.refl wr.heap.size wr).alloc (Nat.le_refl _) (.cells (bls (List.replicate n false)).toArray 4)) (Nat.le_refl _))
    have HRI := Lib.hid (hrI.below ((Below.refl wr.heap.size wr).alloc (Nat.le_refl _) (.cells (bls (List.replicate n false)).toArray 4)) (Nat.le_refl _))
    have HRD := Lib.hid (hrD.below ((Below.refl wr.heap.size wr).alloc (Nat.le_refl _) (.cells (bls (List.replicate n false)).toArray 4)) (Nat.le_refl _))
    have HRX := Lib.hid (brow_new wr (List.replicate n false))
    have HB := Lib.hid (hbel.alloc hbel.size (.cells (bls (List.replicate n false)).toArray 4))
    have HXS : Hid (S ≤ wr.heap.size) := hsz
    have HXI : Hid (I ≠ wr.heap.size) := Nat.ne_of_lt hrI.lt
    have HXD : Hid (D ≠ wr.heap.size) := Nat.ne_of_lt hrD.lt
    have HSz2 : Hid (S ≤ (wr.alloc (.cells (bls (List.replicate n false)).toArray 4)).heap.size) := by
      show _ ≤ _
      rw [World.size_alloc]; omega
    have HWt := Lib.hid (Wt.start l T n)
    have HLf := Lib.hid (Lf.start l T)
    clear hod hnum hrI hrD hsz hbel
    go_upto_region 5 with fail
    clear hmk
    generalize wr.alloc (.cells (bls (List.replicate n false)).toArray 4) = w3 at *
    generalize wr.heap.size = X at *
    generalize List.replicate n false = W0 at *
    have HXw : Hid (w.heap.size ≤ X) := Nat.le_trans HS.out HXS.out
    go_wp2_with fail
    go_loopw [8, 9] (fun lf i wr => ∃ (q t : Nat) (W : List Bool), t ≤ n ∧ lf = .int .i64 q ∧ i = .int .i64 t ∧ Lf l T t q ∧ Wt l T W n t ∧ BRow wr X W ∧ numsP S T wr (.slice av T.length cv) ∧ BRow wr I ((List.range n).map (comeB l)) ∧ BRow wr D (tB n T) ∧ S ≤ wr.heap.size ∧ Below w.heap.size w wr) (fun _ i _ => n - (intOf i).toNat)
    case atStart => exact ⟨0, 0, W0, by omega, rfl, rfl, HLf.out, HWt.out, HRX.out, HN.out, HRI.out, HRD.out, HSz2.out, HB.out⟩
    case round =>
      clear HN HRI HRD HRX HB HSz2 HWt HLf
      obtain ⟨q, t, W, ht, rfl, rfl, hlf, hwt, hrX, hnum, hrI, hrD, hsz, hbel⟩ := hrel
      have HLf := Lib.hid hlf
      have hqt := hlf.1
      have HWt := Lib.hid hwt
      have HN := Lib.hid hnum
      have HRX := Lib.hid hrX
      have HRI := Lib.hid hrI
      have HRD := Lib.hid hrD
      have HSz2 := Lib.hid hsz
      have HB := Lib.hid hbel
      clear hlf hwt hnum hrX hrI hrD hsz hbel
      by_cases hlt : t < n
      · have hd : decide ((t : Int) < (n : Int)) = true := decide_eq_true (by omega)
        have t0 : (0 : Int) ≤ t := by omega
        have t1 : (t : Int) < n := by omega
        have qI := HRI.out.at (k := t) (by simp; exact hlt)
        have qD := HRD.out.at (k := t) (by rw [tB_len]; exact hlt)
        rw [map_at _ hlt] at qI
        rw [tB_at _ hlt] at qD
        cases hci : comeB l t with
        | false =>
          have H1 := Lib.hid (HLf.out.skip (.inl hci))
          have H2 := Lib.hid (HWt.out.skip (.inl hci))
          rw [hci] at qI
          clear hci HLf HWt qD
          go_wp2_with fail
          exact ⟨⟨q, t + 1, W, by omega, rfl, by simp, H1.out, H2.out, HRX.out, HN.out, HRI.out, HRD.out, HSz2.out, HB.out⟩, by simp [intOf]; omega⟩
        | true =>
          cases hti : T.contains t with
          | true =>
            have hmem : t ∈ T := by simpa using hti
            have H1 := Lib.hid (HLf.out.skip (.inr hmem))
            have H2 := Lib.hid (HWt.out.skip (.inr hmem))
            rw [hci] at qI
            rw [hti] at qD
            clear hci hti hmem HLf HWt
            go_wp2_with fail
            exact ⟨⟨q, t + 1, W, by omega, rfl, by simp, H1.out, H2.out, HRX.out, HN.out, HRI.out, HRD.out, HSz2.out, HB.out⟩, by simp [intOf]; omega⟩
          | false =>
            have hmem : t ∉ T := by simpa using hti
            have H1 := Lib.hid (HLf.out.one hci hmem)
            have H2 := Lib.hid (fun W' h => Wi.done (W := W') HWt.out h hci hmem)
            have HWi := Lib.hid (Wi.start HWt.out.len (behL l t))
            have HC := Lib.hid (HBe.out wr HB.out t hlt)
            have HMt := Lib.hid (HMx.out t hlt)
            rw [hci] at qI
            rw [hti] at qD
            clear hci hti hmem HLf HWt
            go_wp2_with fail
            refine HC.out.mono ?_
            rintro e w4 ⟨v, rfl, hnm, hb4⟩
            obtain ⟨ab, cb, rfl, _, _, hnr, hge⟩ := nums_row hnm
            have HRX4 := Lib.hid (HRX.out.below hb4 (Nat.le_refl _))
            have HRI4 := Lib.hid (HRI.out.below hb4 (Nat.le_refl _))
            have HRD4 := Lib.hid (HRD.out.below hb4 (Nat.le_refl _))
            have HN4 := Lib.hid (nums_below HN.out hb4 (Nat.le_refl _))
            have HSz4 : Hid (S ≤ w4.heap.size) := Nat.le_trans HSz2.out hb4.size
            have HB4 := Lib.hid (HB.out.trans (hb4.mono HB.out.size))
            have HNr := Lib.hid hnr
            have HNe : Hid (∀ b off, ab = some ⟨b, off, none⟩ → b ≠ X) := fun b off e => by
              have h1 := hge b off e
              have h2 := HRX.out.lt
              omega
            have hl2 := beh_len l t
            clear hnm hb4 hnr hge HC HRX HRI HRD HN HSz2 HB hd qI qD
            generalize hNL : (behL l t).length = m at *
            have HNL := Lib.hid hNL
            clear hNL
            obtain ⟨wo, hwo⟩ : ∃ wo : World, wo = wr := ⟨_, rfl⟩
            subst hwo
            go_wp2_with fail
            go_loopw [11] (fun i wr => ∃ (j : Nat) (W' : List Bool), j ≤ m ∧ i = .int .i64 j ∧ Wi W W' n (behL l t) j ∧ NRow wr ab m (behL l t) ∧ BRow wr X W' ∧ numsP S T wr (.slice av T.length cv) ∧ BRow wr I ((List.range n).map (comeB l)) ∧ BRow wr D (tB n T) ∧ S ≤ wr.heap.size ∧ Below w.heap.size w wr) (fun i _ => m - (intOf i).toNat)
            case atStart => exact ⟨0, W, by omega, rfl, HWi.out, HNr.out, HRX4.out, HN4.out, HRI4.out, HRD4.out, HSz4.out, HB4.out⟩
            case round =>
              clear HWi HNr HRX4 HN4 HRI4 HRD4 HSz4 HB4
              obtain ⟨j, W', hj, rfl, hwi, hnr, hrX, hnum, hrI, hrD, hsz, hbel⟩ := hrel
              have HWi := Lib.hid hwi
              have HNr := Lib.hid hnr
              have HN := Lib.hid hnum
              have HRX := Lib.hid hrX
              have HRI := Lib.hid hrI
              have HRD := Lib.hid hrD
              have HSz2 := Lib.hid hsz
              have HB := Lib.hid hbel
              clear hwi hnr hnum hrX hrI hrD hsz hbel
              by_cases hjq : j < m
              · have hd : decide ((j : Int) < (m : Int)) = true := decide_eq_true (by omega)
                obtain ⟨bv, ov, rfl, hcv⟩ := HNr.out.at j hjq
                have hmn : (behL l t).getD j 0 < n := by
                  have := HMt.out _ (getD_mem 0 (by rw [HNL.out]; exact hjq))
                  have := HL.out
                  omega
                have HWs := Lib.hid (HWi.out.step hmn)
                have hlW := HWi.out.len
                generalize (behL l t).getD j 0 = p at *
                have qm := HRX.out.at (k := p) (by omega)
                have fm := HRX.out.free p
                have HRX4 := Lib.hid (HRX.out.set p true)
                have HRI4 := Lib.hid (HRI.out.other HXI.out p (.bool true))
                have HRD4 := Lib.hid (HRD.out.other HXD.out p (.bool true))
                have HN4 := Lib.hid (nums_set HN.out HRX.out p (.bool true))
                have HNr4 := Lib.hid (nrow_set HNr.out (o := X) (fun b off e => HNe.out b off e) p (.bool true))
                have HB4 := Lib.hid (HB.out.setCell (p := ⟨X, p, none⟩) HXw.out (.bool true))
                have HSz4 : Hid (S ≤ (wr.setCell ⟨X, p, none⟩ (.bool true)).heap.size) := by
                  show _ ≤ _
                  have e : (wr.setCell ⟨X, p, none⟩ (.bool true)).heap.size = wr.heap.size := by simp [World.setCell]
                  rw [e]; exact HSz2.out
                generalize W'.getD p false = z at *
                have m0 : (0 : Int) ≤ p := by omega
                have m1 : (p : Int) < n := by omega
                have j0 : (0 : Int) ≤ j := by omega
                have j1 : (j : Int) < m := by omega
                clear hlW HWi HNr HRX HRI HRD HN HB HSz2
                go_wp2_with fail
                exact ⟨⟨j + 1, W'.set p true, by omega, by simp, HWs.out, HNr4.out, HRX4.out, HN4.out, HRI4.out, HRD4.out, HSz4.out, HB4.out⟩, by simp [intOf]; omega⟩
              · obtain rfl : j = m := by omega
                have hd : decide ((j : Int) < (j : Int)) = false := decide_eq_false (by omega)
                have HD : Hid (Wt l T W' n (t + 1)) := H2.out W' HWi.out
                clear HWi HNr hjq
                go_wp2_with fail
                exact ⟨⟨q + 1, t + 1, W', by omega, by simp, by simp, H1.out, HD.out, HRX.out, HN.out, HRI.out, HRD.out, HSz2.out, HB.out⟩, by simp [intOf]; omega⟩
      · obtain rfl : t = n := by omega
        have hd : decide ((t : Int) < (t : Int)) = false := decide_eq_false (by omega)
        have HWa := Lib.hid (HWt.out.wait HL.out)
        have hlW := HWt.out.len
        have HOL : Hid (Od l l.length T) := by show Od _ _ _; rw [HL.out]; exact HO.out
        by_cases h0 : q = 0
        · subst h0
          have HA : Hid (ordA l = (T, true)) := HOL.out.all (by
            have := HLf.out
            rw [← HL.out] at this
            exact this.all)
          clear HLf HWt hlt
          go_wp2_with fail
          refine bodyPost_ret (v := .tuple #[.slice av T.length cv, .bool true]) (by simp [results, Tryd.f15, go_sem]) rfl ?_
          rw [HA.out]
          exact ⟨_, rfl, nums_mono HN.out HS.out, HB.out⟩
        · have hz : ((q : Int) == 0) = false := by simpa using h0
          have HNa : Hid (allT l T = false) := by
            have := HLf.out
            rw [← HL.out] at this
            exact this.some (by omega)
          have HCd : Hid (∀ x, x < t → cand l T x = (comeB l x && !T.contains x && !W.getD x false)) := fun x hx => by
            unfold cand
            rw [← HWa.out x hx]
          clear HLf HWt hlt h0 HWa
          obtain ⟨wo, hwo⟩ : ∃ wo : World, wo = wr := ⟨_, rfl⟩
          subst hwo
          go_wp2_with fail
          clear hd hz
          go_loopw [12] (fun i wr => ∃ s : Nat, s ≤ t ∧ i = .int .i64 s ∧ (∀ x, x < s → cand l T x = false) ∧ wr = wo) (fun i _ => t - (intOf i).toNat)
          case atStart => exact ⟨0, by omega, rfl, fun x hx => by omega, rfl⟩
          case round =>
            obtain ⟨s, hs, rfl, hno, rfl⟩ := hrel
            have HNo := Lib.hid hno
            clear hno
            by_cases hst : s < t
            · have hd : decide ((s : Int) < (t : Int)) = true := decide_eq_true (by omega)
              have s0 : (0 : Int) ≤ s := by omega
              have s1 : (s : Int) < t := by omega
              have sne : ((s : Int) == (t : Int)) = false := by simp; omega
              have qI := HRI.out.at (k := s) (by simp; exact hst)
              have qD := HRD.out.at (k := s) (by rw [tB_len]; exact hst)
              have qX := HRX.out.at (k := s) (by omega)
              rw [map_at _ hst] at qI
              rw [tB_at _ hst] at qD
              have HCs := Lib.hid (HCd.out s hst)
              have HNx := Lib.hid (fun h => HOL.out.next HNa.out (k := s) (by rw [HL.out]; exact hst) HNo.out h)
              rw [HL.out] at HNx
              have HN2 : Hid (cand l T s = false → ∀ x, x < s + 1 → cand l T x = false) := fun h x hx => by
                by_cases e : x = s
                · rw [e]; exact h
                · exact HNo.out x (by omega)
              clear HNo
              generalize hci : comeB l s = b1 at *
              generalize hti : T.contains s = b2 at *
              generalize hxi : W.getD s false = b3 at *
              clear hci hti hxi
              cases b1 with
              | false =>
                have H := Lib.hid (HN2.out HCs.out)
                clear HCs HN2 HNx qD qX
                go_wp2_with fail
                exact ⟨⟨s + 1, by omega, by simp, H.out, trivial⟩, by simp [intOf]; omega⟩
              | true =>
                cases b2 with
                | true =>
                  have H := Lib.hid (HN2.out HCs.out)
                  clear HCs HN2 HNx qX
                  go_wp2_with fail
                  exact ⟨⟨s + 1, by omega, by simp, H.out, trivial⟩, by simp [intOf]; omega⟩
                | false =>
                  cases b3 with
                  | true =>
                    have H := Lib.hid (HN2.out HCs.out)
                    clear HCs HN2 HNx
                    go_wp2_with fail
                    exact ⟨⟨s + 1, by omega, by simp, H.out, trivial⟩, by simp [intOf]; omega⟩
                  | false =>
                    have HO2 := Lib.hid (HNx.out HCs.out)
                    have fm := HRD.out.free s
                    have HRD4 := Lib.hid (HRD.out.set s true)
                    rw [tB_add] at HRD4
                    have HRI4 := Lib.hid (HRI.out.other HIne.out s (.bool true))
                    have HN4 := Lib.hid (nums_set HN.out HRD.out s (.bool true))
                    have HB4 := Lib.hid (HB.out.setCell (p := ⟨D, s, none⟩) HDw.out (.bool true))
                    have HSz4 : Hid (S ≤ (wr.setCell ⟨D, s, none⟩ (.bool true)).heap.size) := by
                      show _ ≤ _
                      have e : (wr.setCell ⟨D, s, none⟩ (.bool true)).heap.size = wr.heap.size := by simp [World.setCell]
                      rw [e]; exact HSz2.out
                    have HOo := HO2
                    clear HCs HN2 HNx
                    go_upto_region 24 with fail
                    generalize wr.setCell ⟨D, s, none⟩ (.bool true) = w4 at *
                    obtain ⟨g, cap, w5, hap, hn5, hb5⟩ := nums_add HN4.out HSz4.out (by omega) s
                    have HN5 := Lib.hid hn5
                    have HRI5 := Lib.hid (show BRow w5 I _ from (hb5.block I (Nat.lt_trans HID.out HSz.out)).trans HRI4.out)
                    have HRD5 := Lib.hid (show BRow w5 D _ from (hb5.block D HSz.out).trans HRD4.out)
                    have HSz5 : Hid (S ≤ w5.heap.size) := Nat.le_trans HSz4.out hb5.size
                    have HB5 := Lib.hid (HB4.out.trans (hb5.mono HS.out))
                    clear hn5 hb5 HRI4 HRD4 HN4 HB4 HSz4 qI qD qX fm
                    go_wp2_with (at_builtin; refine wpList_append_run rfl (.tmp 90) (.tmp 92) 29 29 rfl _ _ _ w5 29 rfl rfl rfl hap ?_)
                    exact ⟨⟨T ++ [s], HO2.out, HN5.out, HRI5.out, HRD5.out, HSz5.out, HB5.out⟩, by simp [lenV]; omega⟩
            · obtain rfl : s = t := by omega
              have hd : decide ((s : Int) < (s : Int)) = false := decide_eq_false (by omega)
              have hself : ((s : Int) == (s : Int)) = true := by simp
              have HA : Hid (ordA l = ([], false)) := HOL.out.none HNa.out (by rw [HL.out]; exact HNo.out)
              clear HNo hst
              go_wp2_with fail
              refine bodyPost_ret (v := .tuple #[.slice none 0 0, .bool false]) (by simp [results, Tryd.f15, go_sem]) rfl ?_
              rw [HA.out]
              exact ⟨_, rfl, World.ownsRow_nil _ _ _ _, HB.out⟩
end Flw
end Go.Proofs.YteingehdkpfpcaaDoor
