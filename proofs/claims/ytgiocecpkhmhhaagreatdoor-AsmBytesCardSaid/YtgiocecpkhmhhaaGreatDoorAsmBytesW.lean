/- The law of bytes: its walk. (Made by tools/gen_asmbytes.py.) -/
import Derived.Test.YtgiocecpkhmhhaaGreatDoorAsmP3
namespace Go.Proofs.YtgiocecpkhmhhaaGreatDoor
open Go.ChangeShapes Go.WideShapes Go.ChangeAt Go.RowKit
namespace Asm
open Isa
set_option linter.unusedVariables false
set_option linter.unusedSimpArgs false
section
variable {H : Type} {enc : TypeId × Value → H} {w : World} {spare : Nat → Bool} {held : Bool}
/-- bytes that came in -/
theorem open_bytesA {fuel : Nat} {cs : List Value} {x : DataW H × List MemPlace} (h : DataW.trod enc Tryz.prog w 0 spare held fuel 38 cs = some x) :
    ∃ a n c l, cs = [.slice a n c] ∧ n ≤ c ∧ c ≤ 9223372036854775807 ∧ Row w a n l ∧ (a = none → c = 0) := by
  rcases open_ints Tryz.underlying38 Tryz.underlying5 (by kernel_rfl) h with ⟨hcs, _⟩ | ⟨a, l, c, zs, hcs, _, hl, hm, hz, _, hcell, hwz⟩
  · exact ⟨none, 0, 0, [], hcs, by omega, by omega, ⟨rfl, fun z hz => by simp at hz, Or.inl rfl⟩, fun _ => rfl⟩
  · unfold maxLen at hm
    have hzl : l ≤ zs.length := by rw [hz]; split <;> omega
    refine ⟨some a, l, c, zs.take l, hcs, hl, hm, ⟨by simp; omega, fun z hzm => ?_, ?_⟩, fun h => by cases h⟩
    · have := hwz z (List.mem_of_mem_take hzm)
      simp [Lit.wf, IntKind.min, IntKind.max, IntKind.signed, IntKind.bits] at this
      omega
    · by_cases h0 : l = 0
      · exact Or.inl h0
      · obtain ⟨b, off, spot⟩ := a
        have hspot : spot = none := by simpa [Addr.add] using World.cell?_spot (hcell 0 (by omega))
        subst hspot
        refine Or.inr ⟨b, off, rfl, fun i hi => ?_⟩
        rw [← Addr.add_mid b off i, hcell i (by omega)]
        simp [List.getD, hi]
end
/-- bytes as a string's -/
def u8s (l : List Int) : List UInt8 := l.map fun z => UInt8.ofNat z.toNat
theorem conv_row (X : World) (a : Option Addr) (n c : Nat) (l : List Int) (h : Row X a n l) :
    (convert 38 9 (.slice a n c)).run Tryz.prog X = .ok (.string (sB (u8s l))) X := by
  obtain ⟨hl, hb, hc⟩ := h
  rcases hc with rfl | ⟨p, off, rfl, hc⟩
  · obtain rfl : l = [] := List.eq_nil_of_length_eq_zero hl
    cases a with
    | none => rw [run_convert_bytes_nil X 38 5 Tryz.underlying38 Tryz.underlying5 0 c 9 Tryz.underlying9]; rfl
    | some x =>
      rw [run_convert_bytes_string X 38 9 5 _ 0 c Tryz.underlying38 Tryz.underlying5 Tryz.underlying9]
      have hl := run_loadCells_list (P := Tryz.prog) X x [] (fun j v hj => by simp at hj)
      rw [run_bytesToString X x 0 c [] (by simpa using hl)]
      rfl
  · have h := run_convert_bytes_back (P := Tryz.prog) X 38 9 5 ⟨p, off, none⟩ c (u8s l) Tryz.underlying38 Tryz.underlying5 Tryz.underlying9 (fun j hj => by
      have hj' : j < l.length := by simpa [u8s] using hj
      rw [Addr.add_mid p off j, hc j (by omega)]
      have hz := hb (l.getD j 0) (by rw [List.getD_eq_getElem?_getD, List.getElem?_eq_getElem hj']; simp)
      have e : (u8s l)[j]'hj = UInt8.ofNat (l.getD j 0).toNat := by
        simp [u8s, List.getD, hj']
      rw [e, UInt8.toNat_ofNat']
      congr 2
      omega)
    have hu : (u8s l).length = n := by simp [u8s]; exact hl
    rw [hu] at h
    exact h
/-- a slice with these bytes -/
def byP (l : List Int) : Value → World → Prop := fun v X => ∃ a c, v = .slice a l.length c ∧ Row X a l.length l
theorem byP_stable (l : List Int) : Posts.Stable Posts.Ext (byP l) := by
  rintro v X Y ⟨a, c, rfl, h⟩ hE
  exact ⟨a, c, rfl, h.below hE (Nat.le_refl _)⟩
theorem own_row8' {w : World} {S n : Nat} {v : Value} {l : List Int} (h : w.ownsRow S 5 1 v n (bv l)) (hb : ∀ z ∈ l, 0 ≤ z ∧ z ≤ 255) (hn : l.length = n) : ∃ a c, v = .slice a l.length c ∧ l.length ≤ c ∧ c ≤ maxLen ∧ Row w a l.length l := by
  subst hn
  exact own_row8 h hb
theorem rd_wf {b : List Int} (hb : ∀ z ∈ b, 0 ≤ z ∧ z ≤ 255) : ∀ i ∈ rdL b, i.wf := by
  intro i hi
  unfold rdL at hi
  split at hi
  · simp at hi
  · obtain ⟨k, _, rfl⟩ := List.mem_map.1 hi
    unfold rdI
    split
    · exact readI_wf fun z hz => hb z (List.mem_of_mem_drop hz)
    · exact ⟨by simp only; omega, by simp only; omega, by simp only; omega, by simp only; omega⟩
set_option maxRecDepth 100000 in
set_option maxHeartbeats 3200000 in
theorem bytes_walk (w : World) (hT : TT w) (a : Option Addr) (n c : Nat) (l : List Iv) (h : IRow w a n l) (hc : n ≤ c ∧ c ≤ 9223372036854775807) (a2 : Option Addr) (n2 c2 : Nat) (b : List Int) (h2 : Row w a2 n2 b) (hc2 : n2 ≤ c2 ∧ c2 ≤ 9223372036854775807) :
    Calls Tryz.prog 4 #[.slice a n c, .slice a2 n2 c2] w fun e w' => e = .returned (.bool true) ∧ Below w.heap.size w w' := by
  have HTT := Lib.hid (fun W (hb : Below w.heap.size w W) => hT.below hb (Nat.le_refl _))
  have HRow := Lib.hid (fun W (hb : Below w.heap.size w W) => h.below hb (Nat.le_refl _))
  have HRow2 := Lib.hid (fun W (hb : Below w.heap.size w W) => h2.below hb (Nat.le_refl _))
  have HBy : Hid (∀ z ∈ bytesL l, 0 ≤ z ∧ z ≤ 255) := bytesL_byte h.2.1
  have HBl : Hid ((bytesL l).length = 8 * n) := by show _ = _; rw [bytesL_len, h.1]
  have HBb : Hid (∀ z ∈ b, 0 ≤ z ∧ z ≤ 255) := h2.2.1
  have HK := Lib.hid (known_any w hT)
  have HC2 := Lib.hid hc2
  clear h h2 hT hc2 hc
  go_enter Tryz.func4, Tryz.ntmps4
  go_wp2_with fail
  refine HK.out.mono ?_
  rintro e1 w1 ⟨rfl, hb1⟩
  have HB1 := Lib.hid hb1
  clear hb1 HK
  by_cases h3 : 3000 < n
  · have hd1 : decide ((3000 : Int) < (n : Int)) = true := decide_eq_true (by omega)
    clear h3
    go_wp2_with fail
    go_ret
    exact ⟨rfl, HB1.out⟩
  have hd1 : decide ((3000 : Int) < (n : Int)) = false := decide_eq_false (by omega)
  by_cases h4 : 200000 < n2
  · have hd2 : decide ((200000 : Int) < (n2 : Int)) = true := decide_eq_true (by omega)
    clear h3 h4
    go_wp2_with fail
    go_ret
    exact ⟨rfl, HB1.out⟩
  have hd2 : decide ((200000 : Int) < (n2 : Int)) = false := decide_eq_false (by omega)
  have HR1 := Lib.hid (fun W (hb : Below w.heap.size w W) => readL_any b a2 n2 c2 HC2.out.1 HC2.out.2 W (HTT.out W hb).tabs (HRow2.out W hb))
  have HR2 := Lib.hid (fun W (hb : Below w.heap.size w W) => rreadL_any b a2 n2 c2 HC2.out.1 HC2.out.2 W (HRow2.out W hb))
  have HY1 := Lib.hid (fun W (hb : Below w.heap.size w W) => bytesLv_any l a n c (by omega) W (HRow.out W hb))
  have HY2 := Lib.hid (fun W (hb : Below w.heap.size w W) => rbytesL_any l a n c (by omega) W (HRow.out W hb))
  have hrl : (rdL b).length ≤ 1000000000 := by
    unfold rdL
    split
    · simp
    · rename_i q
      simp only [List.length_map, List.length_range]
      omega
  have HRw := Lib.hid (rd_wf (b := b) HBb.out)
  have HSx := Lib.hid (fun W a3 c3 a4 c4 (hr : IRow W a3 (rdL b).length (rdL b)) (hr2 : IRow W a4 (rdL b).length (rdL b)) => sameCode_any (rdL b) (rdL b) a3 (rdL b).length c3 a4 (rdL b).length c4 hrl W hr hr2)
  rw [decide_eq_true (rfl : rdL b = rdL b)] at HSx
  clear hrl h3 h4
  generalize rdL b = RL at *
  generalize rdLN b = RN at *
  generalize rdLE b = RE at *
  go_wp2_with fail
  refine (HR1.out w1 HB1.out).mono ?_
  rintro e2 w2 ⟨v2, rfl, ho2, hb2⟩
  have HB2 := Lib.hid (HB1.out.trans (hb2.mono HB1.out.size))
  obtain ⟨a3, c3, rfl, _, _, hr2⟩ := own_irow ho2 HRw.out
  have HI2 := Lib.hid hr2
  clear ho2 hb2 hr2 HR1 HB1
  go_wp2_with fail
  refine (HR2.out w2 HB2.out).mono ?_
  rintro e3 w3 ⟨v3, rfl, ho3, hb3⟩
  have HB3 := Lib.hid (HB2.out.trans (hb3.mono HB2.out.size))
  obtain ⟨a4, c4, rfl, _, _, hr3⟩ := own_irow ho3 HRw.out
  have HSc := Lib.hid (fun W (hb : Below w3.heap.size w3 W) => HSx.out W a3 c3 a4 c4 ((HI2.out.below hb3 (Nat.le_refl _)).below hb (Nat.le_refl _)) (hr3.below hb (Nat.le_refl _)))
  clear ho3 hb3 hr3 HR2 HB2 HI2 HSx HRw
  have HBr := Lib.hid (fun W (hb : Below w3.heap.size w3 W) => HB3.out.trans (hb.mono HB3.out.size))
  have HBx := HBr
  have hE := Posts.ext_rel
  clear hd1 hd2
  go_upto_region 7 with fail
  refine (wpIn_wide (n := 0)).1 (Posts.wpIn_region_tail hE 22 0 (Posts.At [Posts.is (.slice a n c), byP (bytesL l), Posts.is (.string (sB (u8s (bytesL l)))), Posts.is (.slice a n c), byP (bytesL l), Posts.is (.string (sB (u8s (bytesL l)))), Posts.is (.bool true), Posts.is (.bool true), Posts.is (.slice a3 RL.length c3), Posts.is (.slice a4 RL.length c4), Posts.is (.bool true), Posts.is (.bool true), Posts.is (.bool true), Posts.is (.int .i64 (RN : Nat)), Posts.is (.int .i64 (RN : Nat)), Posts.is (.bool true), Posts.is (.bool true), Posts.is (.bool true), Posts.is (.int .i64 RE), Posts.is (.int .i64 RE), Posts.is (.bool true), Posts.is (.bool true)]) (fun _ _ => True) (by kernel_rfl) (by decide) (by kernel_rfl) (by kernel_rfl) (by kernel_rfl)
    (Posts.stable_at _ (by repeat' (first | exact trivial | (refine And.intro ?_ ?_) | exact Posts.is_stable _ | exact byP_stable _ | assumption))) trivial ?_ ?_)
  · refine ⟨?_, ?_, ?_, ?_, ?_, ?_, ?_, ?_, ?_, ?_, ?_, ?_, ?_, ?_, ?_, ?_, ?_, ?_, ?_, ?_, ?_, ?_, trivial⟩
    · intro av X hX hS hD hJ hU
      have d0 := Posts.slot (show av.eval (.tmp 0) = .slice a n c from hS.other 0 rfl)
      exact Posts.op_value (fun _ => trivial) rfl rfl (by intro c h; cases h) rfl (by rw [hS.size]; simp) (v := .slice a n c) (by simp [execOp, d0,  go_sem]) rfl (hE.refl _) trivial
    · intro av X hX hS hD hJ hU
      have d33 := Posts.slot (show av.eval (.tmp 33) = .slice a n c from hD.1)
      refine Posts.op_call (fun _ => trivial) rfl rfl rfl (by intro c h; cases h) rfl (by rw [hS.size]; simp) 19 #[.slice a n c] (by simp [execOp, d33, go_sem]) ?_
      refine callsIn_wide.2 ((HY1.out X (HBr.out X hX)).mono ?_)
      rintro e Y ⟨v, rfl, ho, hb⟩
      obtain ⟨a', c', rfl, _, _, hr⟩ := own_row8' ho HBy.out HBl.out
      exact ⟨_, rfl, ⟨a', c', rfl, hr⟩, hb, trivial⟩
    · intro av X hX hS hD hJ hU
      obtain ⟨a', c', e', hr⟩ : byP (bytesL l) (av.eval (.tmp 34)) X := hD.1
      have d34 := Posts.slot e'
      have hq := conv_row X a' _ c' _ hr
      exact Posts.op_value (fun _ => trivial) rfl rfl (by intro c h; cases h) rfl (by rw [hS.size]; simp) (v := .string (sB (u8s (bytesL l)))) (by simp [execOp, d34, hq, go_sem]) rfl (hE.refl _) trivial
    · intro av X hX hS hD hJ hU
      have d0 := Posts.slot (show av.eval (.tmp 0) = .slice a n c from hS.other 0 rfl)
      exact Posts.op_value (fun _ => trivial) rfl rfl (by intro c h; cases h) rfl (by rw [hS.size]; simp) (v := .slice a n c) (by simp [execOp, d0,  go_sem]) rfl (hE.refl _) trivial
    · intro av X hX hS hD hJ hU
      have d36 := Posts.slot (show av.eval (.tmp 36) = .slice a n c from hD.1)
      refine Posts.op_call (fun _ => trivial) rfl rfl rfl (by intro c h; cases h) rfl (by rw [hS.size]; simp) 20 #[.slice a n c] (by simp [execOp, d36, go_sem]) ?_
      refine callsIn_wide.2 ((HY2.out X (HBr.out X hX)).mono ?_)
      rintro e Y ⟨v, rfl, ho, hb⟩
      obtain ⟨a', c', rfl, _, _, hr⟩ := own_row8' ho HBy.out HBl.out
      exact ⟨_, rfl, ⟨a', c', rfl, hr⟩, hb, trivial⟩
    · intro av X hX hS hD hJ hU
      obtain ⟨a', c', e', hr⟩ : byP (bytesL l) (av.eval (.tmp 37)) X := hD.1
      have d37 := Posts.slot e'
      have hq := conv_row X a' _ c' _ hr
      exact Posts.op_value (fun _ => trivial) rfl rfl (by intro c h; cases h) rfl (by rw [hS.size]; simp) (v := .string (sB (u8s (bytesL l)))) (by simp [execOp, d37, hq, go_sem]) rfl (hE.refl _) trivial
    · intro av X hX hS hD hJ hU
      have d35 := Posts.slot (show av.eval (.tmp 35) = .string (sB (u8s (bytesL l))) from hD.1)
      have d38 := Posts.slot (show av.eval (.tmp 38) = .string (sB (u8s (bytesL l))) from hD.2.1)
      exact Posts.op_value (fun _ => trivial) rfl rfl (by intro c h; cases h) rfl (by rw [hS.size]; simp) (v := .bool true) (by simp [execOp, d35, d38,  go_sem]) rfl (hE.refl _) trivial
    · intro av X hX hS hD hJ hU
      have d39 := Posts.slot (show av.eval (.tmp 39) = .bool true from hD.1)
      exact Posts.op_value (fun _ => trivial) rfl rfl (by intro c h; cases h) rfl (by rw [hS.size]; simp) (v := .bool true) (by simp [execOp, d39,  go_sem]) rfl (hE.refl _) trivial
    · intro av X hX hS hD hJ hU
      have d5 := Posts.slot (show av.eval (.tmp 5) = .slice a3 RL.length c3 from hS.other 5 rfl)
      exact Posts.op_value (fun _ => trivial) rfl (Posts.wanted_yes rfl rfl rfl (show av.eval (.tmp 40) = .bool true from hD.1)) (by intro c h; cases h) rfl (by rw [hS.size]; simp) (v := .slice a3 RL.length c3) (by simp [execOp, d5,  go_sem]) rfl (hE.refl _) trivial
    · intro av X hX hS hD hJ hU
      have d8 := Posts.slot (show av.eval (.tmp 8) = .slice a4 RL.length c4 from hS.other 8 rfl)
      exact Posts.op_value (fun _ => trivial) rfl (Posts.wanted_yes rfl rfl rfl (show av.eval (.tmp 40) = .bool true from hD.1)) (by intro c h; cases h) rfl (by rw [hS.size]; simp) (v := .slice a4 RL.length c4) (by simp [execOp, d8,  go_sem]) rfl (hE.refl _) trivial
    · intro av X hX hS hD hJ hU
      have d41 := Posts.slot (show av.eval (.tmp 41) = .slice a3 RL.length c3 from hD.1)
      have d42 := Posts.slot (show av.eval (.tmp 42) = .slice a4 RL.length c4 from hD.2.1)
      refine Posts.op_call (fun _ => trivial) rfl rfl (Posts.wanted_yes rfl rfl rfl (show av.eval (.tmp 40) = .bool true from hD.2.2.1)) (by intro c h; cases h) rfl (by rw [hS.size]; simp) 14 #[.slice a3 RL.length c3, .slice a4 RL.length c4] (by simp [execOp, d41, d42, go_sem]) ?_
      refine callsIn_wide.2 ((HSc.out X hX).mono ?_)
      rintro e Y ⟨rfl, hb⟩
      exact ⟨_, rfl, rfl, hb, trivial⟩
    · intro av X hX hS hD hJ hU
      have dc := Posts.slot (show av.eval (.tmp 40) = .bool true from hD.1)
      have dx := Posts.slot (show av.eval (.tmp 43) = .bool true from hD.2.1)
      exact Posts.op_value (fun _ => trivial) rfl rfl (by intro c h; cases h) rfl (by rw [hS.size]; simp) (v := .bool true) (by simp [execOp, dc, dx, go_sem]) rfl (hE.refl _) trivial
    · intro av X hX hS hD hJ hU
      have d44 := Posts.slot (show av.eval (.tmp 44) = .bool true from hD.1)
      exact Posts.op_value (fun _ => trivial) rfl rfl (by intro c h; cases h) rfl (by rw [hS.size]; simp) (v := .bool true) (by simp [execOp, d44,  go_sem]) rfl (hE.refl _) trivial
    · intro av X hX hS hD hJ hU
      have d6 := Posts.slot (show av.eval (.tmp 6) = .int .i64 (RN : Nat) from hS.other 6 rfl)
      exact Posts.op_value (fun _ => trivial) rfl (Posts.wanted_yes rfl rfl rfl (show av.eval (.tmp 45) = .bool true from hD.1)) (by intro c h; cases h) rfl (by rw [hS.size]; simp) (v := .int .i64 (RN : Nat)) (by simp [execOp, d6,  go_sem]) rfl (hE.refl _) trivial
    · intro av X hX hS hD hJ hU
      have d9 := Posts.slot (show av.eval (.tmp 9) = .int .i64 (RN : Nat) from hS.other 9 rfl)
      exact Posts.op_value (fun _ => trivial) rfl (Posts.wanted_yes rfl rfl rfl (show av.eval (.tmp 45) = .bool true from hD.1)) (by intro c h; cases h) rfl (by rw [hS.size]; simp) (v := .int .i64 (RN : Nat)) (by simp [execOp, d9,  go_sem]) rfl (hE.refl _) trivial
    · intro av X hX hS hD hJ hU
      have d46 := Posts.slot (show av.eval (.tmp 46) = .int .i64 (RN : Nat) from hD.1)
      have d47 := Posts.slot (show av.eval (.tmp 47) = .int .i64 (RN : Nat) from hD.2.1)
      exact Posts.op_value (fun _ => trivial) rfl (Posts.wanted_yes rfl rfl rfl (show av.eval (.tmp 45) = .bool true from hD.2.2.1)) (by intro c h; cases h) rfl (by rw [hS.size]; simp) (v := .bool true) (by simp [execOp, d46, d47,  go_sem]) rfl (hE.refl _) trivial
    · intro av X hX hS hD hJ hU
      have dc := Posts.slot (show av.eval (.tmp 45) = .bool true from hD.1)
      have dx := Posts.slot (show av.eval (.tmp 48) = .bool true from hD.2.1)
      exact Posts.op_value (fun _ => trivial) rfl rfl (by intro c h; cases h) rfl (by rw [hS.size]; simp) (v := .bool true) (by simp [execOp, dc, dx, go_sem]) rfl (hE.refl _) trivial
    · intro av X hX hS hD hJ hU
      have d49 := Posts.slot (show av.eval (.tmp 49) = .bool true from hD.1)
      exact Posts.op_value (fun _ => trivial) rfl rfl (by intro c h; cases h) rfl (by rw [hS.size]; simp) (v := .bool true) (by simp [execOp, d49,  go_sem]) rfl (hE.refl _) trivial
    · intro av X hX hS hD hJ hU
      have d7 := Posts.slot (show av.eval (.tmp 7) = .int .i64 RE from hS.other 7 rfl)
      exact Posts.op_value (fun _ => trivial) rfl (Posts.wanted_yes rfl rfl rfl (show av.eval (.tmp 50) = .bool true from hD.1)) (by intro c h; cases h) rfl (by rw [hS.size]; simp) (v := .int .i64 RE) (by simp [execOp, d7,  go_sem]) rfl (hE.refl _) trivial
    · intro av X hX hS hD hJ hU
      have d10 := Posts.slot (show av.eval (.tmp 10) = .int .i64 RE from hS.other 10 rfl)
      exact Posts.op_value (fun _ => trivial) rfl (Posts.wanted_yes rfl rfl rfl (show av.eval (.tmp 50) = .bool true from hD.1)) (by intro c h; cases h) rfl (by rw [hS.size]; simp) (v := .int .i64 RE) (by simp [execOp, d10,  go_sem]) rfl (hE.refl _) trivial
    · intro av X hX hS hD hJ hU
      have d51 := Posts.slot (show av.eval (.tmp 51) = .int .i64 RE from hD.1)
      have d52 := Posts.slot (show av.eval (.tmp 52) = .int .i64 RE from hD.2.1)
      exact Posts.op_value (fun _ => trivial) rfl (Posts.wanted_yes rfl rfl rfl (show av.eval (.tmp 50) = .bool true from hD.2.2.1)) (by intro c h; cases h) rfl (by rw [hS.size]; simp) (v := .bool true) (by simp [execOp, d51, d52,  go_sem]) rfl (hE.refl _) trivial
    · intro av X hX hS hD hJ hU
      have dc := Posts.slot (show av.eval (.tmp 50) = .bool true from hD.1)
      have dx := Posts.slot (show av.eval (.tmp 53) = .bool true from hD.2.1)
      exact Posts.op_value (fun _ => trivial) rfl rfl (by intro c h; cases h) rfl (by rw [hS.size]; simp) (v := .bool true) (by simp [execOp, dc, dx, go_sem]) rfl (hE.refl _) trivial
  · intro a0 Y hY hS hJt hL
    have p54 := Posts.slot (show a0.eval (.tmp 54) = .bool true from hL.2.2.2.2.2.2.2.2.2.2.2.2.2.2.2.2.2.2.2.2.2.1)
    have hfr := hS.frame [4, 33, 34, 35, 36, 37, 38, 39, 40, 41, 42, 43, 44, 45, 46, 47, 48, 49, 50, 51, 52, 53, 54] (fun t ht => by simp [Posts.isDst] at ht; rcases ht with h | h | h | h | h | h | h | h | h | h | h | h | h | h | h | h | h | h | h | h | h | h | h <;> subst h <;> simp)
    simp only [List.foldl_cons, List.foldl_nil] at hfr
    have hdf := hS.defers
    simp only [Array.getD_eq_getD_getElem?] at hfr
    clear hL hS
    generalize a0.tmps[4]?.getD undef = v4 at *
    generalize a0.tmps[33]?.getD undef = v33 at *
    generalize a0.tmps[34]?.getD undef = v34 at *
    generalize a0.tmps[35]?.getD undef = v35 at *
    generalize a0.tmps[36]?.getD undef = v36 at *
    generalize a0.tmps[37]?.getD undef = v37 at *
    generalize a0.tmps[38]?.getD undef = v38 at *
    generalize a0.tmps[39]?.getD undef = v39 at *
    generalize a0.tmps[40]?.getD undef = v40 at *
    generalize a0.tmps[41]?.getD undef = v41 at *
    generalize a0.tmps[42]?.getD undef = v42 at *
    generalize a0.tmps[43]?.getD undef = v43 at *
    generalize a0.tmps[44]?.getD undef = v44 at *
    generalize a0.tmps[45]?.getD undef = v45 at *
    generalize a0.tmps[46]?.getD undef = v46 at *
    generalize a0.tmps[47]?.getD undef = v47 at *
    generalize a0.tmps[48]?.getD undef = v48 at *
    generalize a0.tmps[49]?.getD undef = v49 at *
    generalize a0.tmps[50]?.getD undef = v50 at *
    generalize a0.tmps[51]?.getD undef = v51 at *
    generalize a0.tmps[52]?.getD undef = v52 at *
    generalize a0.tmps[53]?.getD undef = v53 at *
    generalize a0.tmps[54]?.getD undef = v54 at *
    obtain rfl := p54
    obtain ⟨tm, df⟩ := a0
    simp only [List.setIfInBounds_toArray, List.set_cons_succ, List.set_cons_zero] at hfr hdf
    subst hfr
    subst hdf
    refine Posts.tail_op 22 (by kernel_rfl) (Posts.op_val (fun _ => trivial) rfl rfl (by intro c h; cases h) (v := .bool true) (Y := Y) (by simp [execOp, Act.eval, go_sem]) ?_)
    refine ⟨by kernel_rfl, ?_⟩
    simp only [Exit.inBlock, Exit.then]
    rename_i hK
    refine hK _ _ ?_
    have HYb := Lib.hid (HBx.out Y hY)
    go_wp2_with fail
    go_ret
    exact ⟨rfl, HYb.out⟩
end Asm
end Go.Proofs.YtgiocecpkhmhhaaGreatDoor
