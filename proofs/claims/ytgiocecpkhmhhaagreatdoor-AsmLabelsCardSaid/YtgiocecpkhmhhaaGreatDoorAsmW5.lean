/- The program's answers: the text of a program, written by a strings.Builder. -/
import Derived.Test.YtgiocecpkhmhhaaGreatDoorAsmW4
import Derived.Test.YtgiocecpkhmhhaaGreatDoorAsmR9
namespace Go.Proofs.YtgiocecpkhmhhaaGreatDoor
open Go.ChangeShapes Go.WideShapes Go.ChangeAt Go.RowKit
namespace Asm
open Isa
set_option linter.unusedVariables false
set_option linter.unusedSimpArgs false
/-- a builder of the call's own, with these bytes -/
def Bld (B b : Nat) (l : List UInt8) (w : World) : Prop := Lib.IsBuilder 63 5 B b (Lib.byteCells l) w ∧ b < w.heap.size
theorem bat_below {B b : Nat} {p : Value} {bs : List Value} {w w' : World} {T e : TypeId} (h : Lib.BuilderAt T e B b p bs w) {S : Nat} (hb : Below S w w') (hS : w.heap.size ≤ S) : Lib.BuilderAt T e B b p bs w' := by
  have hl := h.lt
  obtain ⟨hB, v, hbk, ho, hne⟩ := h
  exact ⟨hB, v, (hb.block _ (Nat.lt_of_lt_of_le hl hS)).trans hbk, own_below ho hb hS, hne⟩
theorem Bld.below {B b : Nat} {l : List UInt8} {w w' : World} (h : Bld B b l w) {S : Nat} (hb : Below S w w') (hS : w.heap.size ≤ S) : Bld B b l w' :=
  ⟨h.1.imp (fun q => bat_below q hb hS) (fun q => bat_below q hb hS), Nat.lt_of_lt_of_le h.2 hb.size⟩
theorem bld_new (w : World) : Bld w.heap.size w.heap.size [] (w.alloc (.cells #[.pointer none, .slice none 0 0] 63)) := by
  refine ⟨.inl ⟨Nat.le_refl _, .slice none 0 0, alloc_new _ _, ⟨rfl, .inl ⟨rfl, rfl⟩⟩, by simp [Value.ownBlock]⟩, ?_⟩
  simp
theorem wstr_any (B b : Nat) (l s : List UInt8) (hl : l.length + s.length ≤ 1000000000) (w : World) (h : Bld B b l w) (hB : B ≤ w.heap.size) :
    Calls Tryz.prog 38 #[.pointer (some ⟨b, 0, none⟩), .string (sB s)] w fun e w' => e = .returned (.tuple #[.int .i64 (s.length : Int), .nilIface]) ∧ Bld B b (l ++ s) w' ∧ Below B w w' := by
  have := writestring_lib B b (Lib.byteCells l) (sB s) w h.1 (by rw [Lib.byteCells_length, sB_size]; omega) hB
  rw [Lib.strCells_eq, sB_list, ← Lib.byteCells_append, sB_size] at this
  refine this.mono ?_
  rintro e w' ⟨rfl, hb, hbl⟩
  exact ⟨rfl, ⟨.inr hb, hb.lt⟩, hbl⟩
theorem wbyte_any (B b : Nat) (l : List UInt8) (hl : l.length ≤ 1000000000) (w : World) (h : Bld B b l w) (hB : B ≤ w.heap.size) :
    Calls Tryz.prog 40 #[.pointer (some ⟨b, 0, none⟩), .int .u8 10] w fun e w' => e = .returned .nilIface ∧ Bld B b (l ++ [10]) w' ∧ Below B w w' := by
  have := writebyte_lib B b (Lib.byteCells l) 10 w h.1 (by rw [Lib.byteCells_length]; omega) hB
  refine this.mono ?_
  rintro e w' ⟨rfl, hb, hbl⟩
  refine ⟨rfl, ⟨.inr ?_, hb.lt⟩, hbl⟩
  rw [Lib.byteCells_append]
  exact hb
theorem bstr_any (B b : Nat) (l : List UInt8) (w : World) (h : Bld B b l w) (hB : B ≤ w.heap.size) :
    Calls Tryz.prog 41 #[.pointer (some ⟨b, 0, none⟩)] w fun e w' => e = .returned (.string (sB l)) ∧ Below B w w' := string_lib B b l w h.1 hB
set_option maxHeartbeats 3200000 in
theorem textA_any (l : List Av) (a : Option Addr) (n c : Nat) (hm : n ≤ 1000000) (w : World) (hT : Tabs w) (h : ARow w a n l) : Calls Tryz.prog 15 #[.slice a n c] w fun e w' => e = .returned (.string (sB (textA l))) ∧ Below w.heap.size w w' := by
  have HA := Lib.hid (fun W (hb : Below w.heap.size w W) k (hk : k < n) => (h.below hb (Nat.le_refl _)).at k hk)
  have HTb := Lib.hid (fun W (hb : Below w.heap.size w W) => hT.below hb (Nat.le_refl _))
  have hln : l.length = n := h.1
  have HL := Lib.hid hln
  have HY := Lib.hid (fun hh => text_yes (l := l) hh)
  have HN := Lib.hid (fun t ht hh => text_no (l := l) (t := t) ht hh)
  have HS := Lib.hid (fun k hk => lns_succ l k hk)
  have HB0 := Lib.hid (bld_new w)
  have HX0 := Lib.hid ((Below.refl w.heap.size w).alloc (Nat.le_refl _) (.cells #[.pointer none, .slice none 0 0] 63))
  clear h hT
  go_enter Tryz.func15, Tryz.ntmps15
  go_wp2_with fail
  go_loopw [8] (fun i wr => ∃ k : Nat, k ≤ n ∧ i = .int .i64 k ∧ (lns l k).length ≤ 50 * k ∧ (∀ t, t < k → mayA (l.getD t av0) = true) ∧ Bld w.heap.size w.heap.size (lns l k) wr ∧ Below w.heap.size w wr) (fun i _ => n - (intOf i).toNat)
  case atStart => exact ⟨0, by omega, rfl, by simp [lns], fun t ht => by omega, HB0.out, HX0.out⟩
  case round =>
    obtain ⟨k, hk, rfl, hlk, hno, hbd, hbel⟩ := hrel
    have HO := Lib.hid hno
    have HBl := Lib.hid hbel
    have HBd := Lib.hid hbd
    clear hno hbel hbd
    by_cases hlt : k < n
    · have hd : decide ((k : Int) < (n : Int)) = true := decide_eq_true (by omega)
      have k0 : (0 : Int) ≤ k := by omega
      have k1 : (k : Int) < n := by omega
      obtain ⟨b, off, rfl, hc, hw⟩ := HA.out wr HBl.out k hlt
      have HC := Lib.hid hc
      obtain ⟨c0, c1, c2, c3, c4, c5⟩ := hc
      have HM := Lib.hid (fun W hb => mayA_any (l.getD k av0) hw W (HTb.out W hb))
      have HLn := Lib.hid (fun hh W hb => text_of (l.getD k av0) hh hw.i W (HTb.out W hb))
      have HSk := Lib.hid (HS.out k (by rw [HL.out]; exact hlt))
      have HNk := Lib.hid (HN.out k (by rw [HL.out]; exact hlt))
      have HOk : Hid (mayA (l.getD k av0) = true → ∀ t, t < k + 1 → mayA (l.getD t av0) = true) := fun hh t ht => by
        by_cases e : t = k
        · rw [e]; exact hh
        · exact HO.out t (by omega)
      have HLL := Lib.hid (fun hh => line_len (x := l.getD k av0) hh hw.i)
      have HWs := Lib.hid hw
      clear hw
      generalize l.getD k av0 = x at *
      obtain ⟨cs, hcs⟩ : ∃ cs, cs = (.cells #[.string (sB x.lb), .int .u8 x.i.op, .int .u8 x.i.a, .int .u16 x.i.b, .int .u32 x.i.c, .string (sB x.tg)] 34 : Obj) := ⟨_, rfl⟩
      have hx0 := alloc_new wr cs
      have HX := Lib.hid ((Below.refl wr.heap.size wr).alloc (Nat.le_refl _) cs)
      rw [hcs] at hx0 HX
      by_cases hmx : mayA x = true
      · have HLn2 := Lib.hid (HLn.out hmx)
        have HE0 : Hid (lineT x ++ [10] = lineA x) := rfl
        have hll : (lineT x).length ≤ 49 := by
          have := (HLL.out hmx).1
          rw [← HE0.out, List.length_append] at this
          simp at this
          omega
        have HO2 := Lib.hid (HOk.out hmx)
        have HE : Hid (lns l (k + 1) = lns l k ++ lineT x ++ [10]) := Lib.hid (by rw [HSk.out, ← HE0.out, List.append_assoc])
        have HEl : Hid ((lns l (k + 1)).length ≤ 50 * (k + 1)) := by show _ ≤ _; rw [HE.out, List.length_append, List.length_append]; simp; omega
        rw [hmx] at HM
        have HlT : Hid ((lns l k).length + (lineT x).length ≤ 1000000000) := Lib.hid (by omega)
        clear HLn HLL HNk HOk hll hlk hcs hmx
        unfold avV at HM HLn2
        generalize hLX : lineT x = LX at *
        generalize lns l k = SK at *
        obtain ⟨lb, ⟨op, ia, ib, ic⟩, tg⟩ := x
        simp only at *
        go_wp2_with fail
        refine (HM.out _ (HBl.out.trans (HX.out.mono HBl.out.size))).mono ?_
        rintro e w2 ⟨rfl, hb2⟩
        have HX2 := Lib.hid (HX.out.trans (hb2.mono HX.out.size))
        have hx2 := (hb2.block _ (lt_of_block hx0)).trans hx0
        clear hx0 hb2 HX c0 c1 c2 c3 c4 c5
        obtain ⟨c0, c1, c2, c3, c4, c5⟩ := cells6 hx2
        go_wp2_with fail
        refine (HLn2.out _ (HBl.out.trans (HX2.out.mono HBl.out.size))).mono ?_
        rintro e w3 ⟨rfl, hb4⟩
        have HX3 := Lib.hid (HX2.out.trans (hb4.mono HX2.out.size))
        have HBd3 := Lib.hid (HBd.out.below HX3.out (Nat.le_refl _))
        have HB3 := Lib.hid (HBl.out.trans (HX3.out.mono HBl.out.size))
        clear hb4 HX2 HX3 hx2 c0 c1 c2 c3 c4 c5
        go_wp2_with fail
        refine (wstr_any w.heap.size w.heap.size SK LX HlT.out w3 HBd3.out HB3.out.size).mono ?_
        rintro e w4 ⟨rfl, hbd4, hb4⟩
        have HBd4 := Lib.hid hbd4
        have HB4 := Lib.hid (HB3.out.trans hb4)
        clear hbd4 hb4 HB3 HBd3
        go_wp2_with fail
        refine (wbyte_any w.heap.size w.heap.size (SK ++ LX) (by rw [List.length_append]; exact HlT.out) w4 HBd4.out HB4.out.size).mono ?_
        rintro e w5 ⟨rfl, hbd5, hb5⟩
        have HBd5 := Lib.hid hbd5
        have HB5 := Lib.hid (HB4.out.trans hb5)
        clear hbd5 hb5 HB4 HBd4
        go_wp2_with fail
        refine ⟨⟨k + 1, by omega, by simp, HEl.out, HO2.out, ?_, HB5.out⟩, by simp [intOf]; omega⟩
        rw [HE.out]
        exact HBd5.out
      · simp only [Bool.not_eq_true] at hmx
        have HR : Hid (sB (textA l) = ⟨#[]⟩) := by show _ = _; rw [HNk.out hmx]; rfl
        rw [hmx] at HM
        clear HLn HLL HNk HOk hlk hcs
        unfold avV at HM
        generalize lns l k = SK at *
        obtain ⟨lb, ⟨op, ia, ib, ic⟩, tg⟩ := x
        simp only at *
        go_wp2_with fail
        refine (HM.out _ (HBl.out.trans (HX.out.mono HBl.out.size))).mono ?_
        rintro e w2 ⟨rfl, hb2⟩
        have hb3 := Lib.hid (HBl.out.trans ((HX.out.trans (hb2.mono HX.out.size)).mono HBl.out.size))
        clear hb2 HX
        go_wp2_with fail
        go_ret
        exact ⟨ret_str HR.out.symm, hb3.out⟩
    · obtain rfl : k = n := by omega
      have HR : Hid (sB (textA l) = sB (lns l k)) := by show _ = _; rw [HY.out (by rw [HL.out]; exact HO.out), HL.out]
      have hd : decide ((k : Int) < (k : Int)) = false := decide_eq_false (by omega)
      generalize lns l k = SK at *
      go_wp2_with fail
      refine (bstr_any w.heap.size w.heap.size SK wr HBd.out HBl.out.size).mono ?_
      rintro e w2 ⟨rfl, hb2⟩
      go_wp2_with fail
      go_ret
      exact ⟨ret_str HR.out.symm, HBl.out.trans hb2⟩
end Asm
end Go.Proofs.YtgiocecpkhmhhaaGreatDoor
