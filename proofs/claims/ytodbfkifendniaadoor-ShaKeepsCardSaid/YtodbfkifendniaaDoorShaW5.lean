/- Bytes are added to the cutter. -/
import Derived.Test.YtodbfkifendniaaDoorShaCut
namespace Go.Proofs.YtodbfkifendniaaDoor
open Go.ChangeShapes Go.WideShapes Go.ChangeAt Go.RowKit
namespace Sha
/-- the method value by which blocks are taken in -/
def fv (eb : Nat) : Value := .func (Fn.func 18) #[.pointer (some ⟨eb, 0, none⟩)] #[]
/-- the numbers and the cutter behind a text -/
def Cut (eb cb : Nat) (T : List Int) (sz : Nat) (w : World) : Prop :=
  IntRow w eb .u32 ((eat H0 T (T.length / 64)).all.map U) 38 ∧ ∃ bl, Holds T bl ∧ CutRow w cb (fv eb) bl ((T.length % 64 : Nat) : Int) (sz : Int)
def Two (eb cb : Nat) (k : Nat) : Prop := k = eb ∨ k = cb
def sliceLen : Value → Nat | .slice _ n _ => n | _ => 0

theorem keepS {eb cb : Nat} {w w' : World} {BL : List Int} {f sz : Int} (h : CutRow w cb (fv eb) BL f sz) (hk : Kept (fun k => k = eb) w.drew w') (hne : cb ≠ eb) : w'.cell? ⟨cb, 0, none⟩ = some (.func (Fn.func 18) #[.pointer (some ⟨eb, 0, none⟩)] #[]) ∧ w'.rangeAt cb 1 (BL.map (Value.int .u8)) := by
  have h' : CutRow w' cb (fv eb) BL f sz := by
    unfold CutRow; rw [hk.block cb h.lt hne]; exact h
  exact ⟨h'.take, h'.range⟩
theorem rest_of {p : Nat → Prop} {w : World} {a : Option Addr} {r c : Nat} {l : List Int} (h : SRow p w a r l) (m : Nat) (hm : m ≤ r) (hc : r ≤ c) :
    ∃ a', (∀ W : World, (Instr.slice 22 (.slice a r c) (some (.int .i64 (m : Int))) none none).run Tryd.prog W = .ok (.slice a' (r - m) (c - m)) W) ∧ SRow p w a' (r - m) (l.drop m) := by
  have ht : Tryd.prog.underlying 22 = some (.slice (Tryd.prog.elem 22)) := by kernel_rfl
  refine ⟨if c = m then a else a.map (·.add (m * 1)), fun W => ?_, ?_⟩
  · have hs : (sizeOf (Tryd.prog.elem 22)).run Tryd.prog W = .ok 1 W := by kernel_rfl
    rw [run_slice_l W 22 a r c ht .i64 (m : Int) (by omega) (by omega), hs]
    simp [Result.andThen, sliced]
  · obtain ⟨h1, h2, h3⟩ := h
    refine ⟨by simp; omega, fun z hz => h2 z (List.mem_of_mem_drop hz), ?_⟩
    by_cases e : r - m = 0
    · exact Or.inl e
    · rcases h3 with h3 | ⟨b, off, rfl, hp, hc'⟩
      · omega
      · rw [if_neg (by omega)]
        refine Or.inr ⟨b, off + m, by simp [Addr.add], hp, fun i hi => ?_⟩
        rw [Nat.add_assoc, hc' (m + i) (by omega)]
        simp [List.getD]

set_option maxRecDepth 100000 in
set_option maxHeartbeats 4000000 in
theorem add_any (T l : List Int) (eb cb : Nat) (a : Option Addr) (n cap : Nat) (w : World) (hcap : n ≤ cap) (hmax : cap ≤ 9223372036854775807) (hlen : T.length + n ≤ 1000000000) (hr : Roots w) (he0 : eb ≠ 0) (hc0 : cb ≠ 0) (hec : eb ≠ cb)
    (hcut : Cut eb cb T T.length w) (hrow : SRow (Two eb cb) w a n l) :
    Calls Tryd.prog 19 #[.pointer (some ⟨cb, 0, none⟩), .slice a n cap] w fun e w' => e = .returned (.tuple #[]) ∧ Cut eb cb (T ++ l) (T ++ l).length w' ∧ Kept (Two eb cb) w w' := by
  obtain ⟨hE, bl0, hH0, hC0⟩ := hcut
  have c66 := hC0.size hH0.1
  have f66 := hC0.free 66
  have HC0 := Lib.hid (hC0.setSize hH0.1 ((T.length + n : Nat) : Int))
  have HE := Lib.hid hE
  have HH0 := Lib.hid hH0
  have HR := Lib.hid hr
  have HRow := Lib.hid hrow
  have HL := Lib.hid hrow.1
  clear hE hH0 hC0 hr hrow
  have hw : IntKind.u64.wrap ((T.length : Int) + (n : Int)) = ((T.length + n : Nat) : Int) := by
    rw [show IntKind.u64.wrap ((T.length : Int) + (n : Int)) = ((T.length : Int) + (n : Int)) % 18446744073709551616 from rfl]; omega
  go_enter Tryd.func19, Tryd.ntmps19
  go_wp2_with fail
  clear c66 f66 hw
  go_loopw [1] (fun p wr => ∃ k r c : Nat, ∃ a' : Option Addr, k + r = n ∧ r ≤ c ∧ c ≤ cap ∧ p = .slice a' r c ∧ SRow (Two eb cb) wr a' r (l.drop k) ∧ Cut eb cb (T ++ l.take k) (T.length + n) wr ∧ Kept (Two eb cb) w wr) (fun p _ => sliceLen p)
  case atStart =>
    have hk : Kept (Two eb cb) w (w.setCell ⟨cb, 66, none⟩ (.int .u64 ((T.length + n : Nat) : Int))) := (Kept.refl _ _).setCell (Or.inl (Or.inr rfl)) _
    refine ⟨0, n, cap, a, by omega, hcap, Nat.le_refl _, rfl, ?_, ?_, hk⟩
    · exact HRow.out.kept hk
    · refine ⟨?_, bl0, ?_, ?_⟩
      · rw [List.take_zero, List.append_nil]
        exact HE.out.other _ _ hec
      · rw [List.take_zero, List.append_nil]; exact HH0.out
      · rw [List.take_zero, List.append_nil]; exact HC0.out
  case round =>
    obtain ⟨k, r, c, a', hkr, hrc, hcc, rfl, hs, hcut, hkept⟩ := hrel
    have HS := Lib.hid hs
    have HK := Lib.hid hkept
    have HCut := Lib.hid hcut
    clear hs hkept hcut HC0 HE HH0 HRow
    by_cases hlt : 0 < r
    · have hd : decide ((0 : Int) < (r : Int)) = true := by simp; omega
      obtain ⟨hE, bl, hH, hC⟩ := HCut.out
      have hlk : (T ++ l.take k).length = T.length + k := by rw [List.length_append, List.length_take, HL.out]; omega
      have hf : (T ++ l.take k).length % 64 < 64 := Nat.mod_lt _ (by omega)
      have HF := Lib.hid (rfl : (T ++ l.take k).length % 64 = (T ++ l.take k).length % 64)
      obtain ⟨hl1, hl2, hl3⟩ := HS.out
      rcases hl3 with hl3 | ⟨b, off, rfl, hp, hcell⟩
      · omega
      obtain ⟨m, hm⟩ : ∃ m, m = Nat.min r (64 - (T ++ l.take k).length % 64) := ⟨_, rfl⟩
      have hm1 : m ≤ r := by rw [hm]; exact Nat.min_le_left _ _
      have hm2 : (T ++ l.take k).length % 64 + m ≤ 64 := by have h : Nat.min r (64 - (T ++ l.take k).length % 64) ≤ 64 - (T ++ l.take k).length % 64 := Nat.min_le_right _ _; rw [← hm] at h; omega
      have hm0 : 0 < m := by rw [hm]; exact Nat.lt_min.2 ⟨hlt, by omega⟩
      have HXl : Hid (((l.drop k).take m).length = m) := by show _ = _; rw [List.length_take, hl1]; omega
      have HXs : Hid (∀ j v, (((l.drop k).take m).map (Value.int .u8))[j]? = some v → wr.cell? ((⟨b, off, none⟩ : Addr).add j) = some v) := by
        intro j v hv
        have hj : j < m := by have := (List.getElem?_eq_some_iff.1 hv).1; rw [List.length_map, HXl.out] at this; exact this
        rw [show (⟨b, off, none⟩ : Addr).add j = ⟨b, off + j, none⟩ from Addr.add_mid b off j, hcell j (by omega), ← hv]
        rw [List.getElem?_map, List.getElem?_take_of_lt hj, List.getD_eq_getElem?_getD]
        rw [List.getElem?_eq_getElem (by omega)]
        rfl
      have HXb : Hid (∀ z ∈ (l.drop k).take m, 0 ≤ z ∧ z ≤ 255) := fun z hz => hl2 z (List.mem_of_mem_take hz)
      have HM := Lib.hid hm
      have hX1 : ∀ v ∈ (((l.drop k).take m).map (Value.int .u8)), v.oneCell' = true := by
        intro v hv
        obtain ⟨z, _, rfl⟩ := List.mem_map.1 hv
        rfl
      have HX1 := Lib.hid hX1
      obtain ⟨a2, hsl, hS2⟩ := rest_of HS.out m hm1 hrc
      have HS2 := Lib.hid hS2
      have HC := Lib.hid hC
      have HE := Lib.hid hE
      have HH := Lib.hid hH
      have c65 := hC.filled hH.1
      have f65 := hC.free 65
      have hsa := fun W : World => slice_l W 41 64 (by kernel_rfl) (by kernel_rfl) (by kernel_rfl) cb 1 ((T ++ l.take k).length % 64) (((T ++ l.take k).length % 64 : Nat) : Int) rfl hf
      have hsz5 : (Tryd.prog.info? 5).map (·.size) = some 1 := by kernel_rfl
      have HZ := Lib.hid hsz5
      have HCl := Lib.hid (cutL_length (fv eb) bl (((T ++ l.take k).length % 64 : Nat) : Int) ((T.length + n : Nat) : Int) hH.1)
      clear hm hX1 hS2 hC hE hH hl1 hl2 hcell hsz5 hlk
      generalize hfe : (T ++ l.take k).length % 64 = f at *
      have HFe := Lib.hid hfe
      clear hfe
      generalize hXe : (l.drop k).take m = X at *
      have HXe := Lib.hid hXe
      clear hXe
      go_wp2_with fail
      go_region_law (refine step_copy_row rfl (.tmp 25) (.tmp 26) 22 22 rfl 5 Tryd.underlying22 HZ.out cb (1 + f) (64 - f) (64 - f) ⟨b, off, none⟩ r c rfl rfl (cutL (fv eb) bl (f : Int) ((T.length + n : Nat) : Int)).toArray 44 HC.out (X.map (Value.int .u8)) m (by rw [List.length_map]; exact HXl.out) HM.out HXs.out (by rw [List.size_toArray, HCl.out]; omega) HX1.out ?_)
      have hXl := HXl.out
      have hCW := HC.out.copied (X := X) f HH.out.1 (by omega)
      have hKW : Kept (Two eb cb) wr (wr.drew.setRow cb (List.take (1 + f) (cutL (fv eb) bl (f : Int) ((T.length : Int) + (n : Int))) ++ (List.map (Value.int IntKind.u8) X ++ List.drop (1 + f + X.length) (cutL (fv eb) bl (f : Int) ((T.length : Int) + (n : Int))))).toArray) := (Kept.refl _ _).drew.setRow (Or.inr rfl) _
      have hCW2 : CutRow (wr.drew.setRow cb (List.take (1 + f) (cutL (fv eb) bl (f : Int) ((T.length : Int) + (n : Int))) ++ (List.map (Value.int IntKind.u8) X ++ List.drop (1 + f + X.length) (cutL (fv eb) bl (f : Int) ((T.length : Int) + (n : Int))))).toArray) cb (fv eb) (lay bl X f) (f : Int) ((T.length + n : Nat) : Int) := by
        have h := hCW
        rw [List.length_map] at h
        exact h
      have hEW : IntRow (wr.drew.setRow cb (List.take (1 + f) (cutL (fv eb) bl (f : Int) ((T.length : Int) + (n : Int))) ++ (List.map (Value.int IntKind.u8) X ++ List.drop (1 + f + X.length) (cutL (fv eb) bl (f : Int) ((T.length : Int) + (n : Int))))).toArray) eb .u32 ((eat H0 (T ++ l.take k) ((T ++ l.take k).length / 64)).all.map U) 38 := by
        unfold IntRow; rw [setRow_other _ _ _ _ hec]; exact HE.out
      clear hCW c65 f65 hsa
      generalize wr.drew.setRow cb (List.take (1 + f) (cutL (fv eb) bl (f : Int) ((T.length : Int) + (n : Int))) ++ (List.map (Value.int IntKind.u8) X ++ List.drop (1 + f + X.length) (cutL (fv eb) bl (f : Int) ((T.length : Int) + (n : Int))))).toArray = W at *
      have hbl2 : (lay bl X f).length = 64 := by rw [lay_length _ _ _ (by rw [HH.out.1]; omega)]; exact HH.out.1
      have c65 := hCW2.filled hbl2
      have f65 := hCW2.free 65
      have hC3 := hCW2.setFilled hbl2 ((f : Int) + (m : Int))
      have hK3 : Kept (Two eb cb) w (W.setCell ⟨cb, 65, none⟩ (.int .i64 ((f : Int) + (m : Int)))) := (HK.out.trans hKW).setCell (Or.inl (Or.inr rfl)) _
      have hS3 := HS2.out.kept (hKW.setCell (x := ⟨cb, 65, none⟩) (Or.inl (Or.inr rfl)) (.int .i64 ((f : Int) + (m : Int))))
      have HE3 := Lib.hid (hEW.other ⟨cb, 65, none⟩ (.int .i64 ((f : Int) + (m : Int))) hec)
      have HC3 := Lib.hid hC3
      have HK3 := Lib.hid hK3
      have HS3 := Lib.hid hS3
      have HB2 := Lib.hid hbl2
      clear hCW2 hbl2 hC3 hK3 hS3 hEW hKW HXs HX1 HCl hXl
      have f0 : (0 : Int) ≤ f := by omega
      have f1 : (f : Int) < 64 := by omega
      have m0 : (0 : Int) ≤ m := by omega
      have m1 : (m : Int) ≤ 64 := by omega
      by_cases hfull : f + m = 64
      · have hq : ((f : Int) + (m : Int) == 64) = true := by simp; omega
        go_wp2_with fail
        have hXl := HXl.out
        have hfl := holds_full _ _ X HH.out HXb.out (by rw [HFe.out, hXl]; exact hfull)
        rw [HFe.out] at hfl
        generalize lay bl X f = BL at *
        generalize W.setCell ⟨cb, 65, none⟩ (.int .i64 ((f : Int) + (m : Int))) = W3 at *
        have HFl := Lib.hid hfl
        have HR3 := Lib.hid (HR.out.kept HK3.out (by intro h; rcases h with h | h; exact he0 h.symm; exact hc0 h.symm))
        clear hfl hXl hq c65 f65
        have c0 : W3.cell? ⟨cb, 0, none⟩ = some (.func (Fn.func 18) #[.pointer (some ⟨eb, 0, none⟩)] #[]) := HC3.out.take
        have hrg := HC3.out.range
        have hu := Tryd.underlying41
        have hl64 : (BL.map (Value.int .u8)).length = 64 := by rw [List.length_map]; exact HB2.out
        have hi : (Tryd.prog.info? 41).map (·.size) = some (BL.map (Value.int .u8)).length := by rw [hl64]; kernel_rfl
        have h1c : ∀ v ∈ BL.map (Value.int .u8), v.oneCell' = true := by
          intro v hv
          obtain ⟨z, _, rfl⟩ := List.mem_map.1 hv
          rfl
        have hce : cb ≠ eb := fun e => hec e.symm
        have HTake : Hid (Calls Tryd.prog 18 #[.pointer (some ⟨eb, 0, none⟩), .agg (BL.map (Value.int .u8)).toArray] W3.drew fun e w' => e = .returned (.tuple #[]) ∧ IntRow w' eb .u32 ((block (eat H0 (T ++ l.take k) ((T ++ l.take k).length / 64)) BL).all.map U) 38 ∧ Kept (fun k => k = eb) W3.drew w') :=
          take_any (eat H0 (T ++ l.take k) ((T ++ l.take k).length / 64)) BL eb W3.drew HB2.out HFl.out.1.2.1 HR3.out HE3.out
        go_region_held3 (fun w' => w'.cell? ⟨cb, 0, none⟩ = some (.func (Fn.func 18) #[.pointer (some ⟨eb, 0, none⟩)] #[]) ∧ w'.rangeAt cb 1 (BL.map (Value.int .u8))) (first | exact keepS HC3.out (by assumption) hce | go_keep_ranges) (first | (go_at_call 18; ((refine (HTake.out).mono ?_); rintro e w' ⟨rfl, hrow', hkept'⟩)))
        clear HTake c0 hrg hi h1c hu hl64
        have hE5 := hrow'
        rw [← HFl.out.2.2.2] at hE5
        have hC5 : CutRow w' cb (fv eb) BL ((f : Int) + (m : Int)) ((T.length + n : Nat) : Int) := by
          unfold CutRow; rw [hkept'.block cb HC3.out.lt hce]; exact HC3.out
        have f65 := hC5.free 65
        have c65 := hC5.filled HB2.out
        have HC5 := Lib.hid (hC5.setFilled HB2.out 0)
        have hK5 : Kept (Two eb cb) W3 w' := ⟨hkept'.1, hkept'.2, hkept'.3, hkept'.4, fun k hk hp => hkept'.5 k hk (fun e => hp (Or.inl e))⟩
        have HK5 := Lib.hid ((HK3.out.trans hK5).setCell (x := ⟨cb, 65, none⟩) (Or.inl (Or.inr rfl)) (.int .i64 0))
        have HS5 := Lib.hid (HS3.out.kept (hK5.setCell (x := ⟨cb, 65, none⟩) (Or.inl (Or.inr rfl)) (.int .i64 0)))
        have HE5 := Lib.hid (hE5.other ⟨cb, 65, none⟩ (.int .i64 0) hec)
        have HTk : Hid (T ++ l.take (k + m) = (T ++ l.take k) ++ X) := by
          show _ = _
          rw [← HXe.out, List.append_assoc, List.take_add]
        clear hrow' hkept' hE5 hC5 hK5
        go_wp2_with fail
        go_roundw
        case rel =>
          refine ⟨k + m, r - m, c - m, a2, by omega, by omega, by omega, rfl, ?_, ?_, HK5.out⟩
          · have h := HS5.out
            rw [List.drop_drop] at h
            exact h
          · rw [HTk.out]
            refine ⟨?_, BL, HFl.out.1, ?_⟩
            · rw [HFl.out.2.2.1]; exact HE5.out
            · rw [HFl.out.2.1]; exact HC5.out
        case measure => simp [sliceLen]; omega
      · have hq : ((f : Int) + (m : Int) == 64) = false := by simp; omega
        have hXl := HXl.out
        have hls := holds_less _ _ X HH.out HXb.out (by rw [HFe.out, hXl]; omega)
        rw [HFe.out, hXl] at hls
        have HLs := Lib.hid hls
        have HTk : Hid (T ++ l.take (k + m) = (T ++ l.take k) ++ X) := by
          show _ = _
          rw [← HXe.out, List.append_assoc, List.take_add]
        have HEa := Lib.hid (eat_append H0 (T ++ l.take k) X ((T ++ l.take k).length / 64) (by omega))
        clear hXl hls
        go_wp2_with fail
        go_roundw
        case rel =>
          refine ⟨k + m, r - m, c - m, a2, by omega, by omega, by omega, rfl, ?_, ?_, HK3.out⟩
          · have h := HS3.out
            rw [List.drop_drop] at h
            exact h
          · rw [HTk.out]
            refine ⟨?_, _, HLs.out.1, ?_⟩
            · rw [HLs.out.2.2, HEa.out]; exact HE3.out
            · rw [HLs.out.2.1]; exact HC3.out
        case measure => simp [sliceLen]; omega
    · have hd : decide ((0 : Int) < (r : Int)) = false := by simp; omega
      go_wp2_with fail
      go_end0
      obtain rfl : r = 0 := by omega
      refine ⟨rfl, ?_, HK.out⟩
      have h := HCut.out
      rw [List.take_of_length_le (by rw [HL.out]; omega)] at h
      rw [show (T ++ l).length = T.length + n from by rw [List.length_append, HL.out]]
      exact h
end Sha
end Go.Proofs.YtodbfkifendniaaDoor
