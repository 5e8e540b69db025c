/- A drawn region that stores into one block of the call's own: what stands throughout. · The program's answers: the instruction of a name. · The program's answers: an instruction with the words that it names. (Made by tools/gen_asmw14.py.) -/
import Derived.Test.YtgiocecpkhmhhaaGreatDoorAsmWc
import Derived.Test.YtgiocecpkhmhhaaGreatDoorRightsTmps
namespace Go.Proofs.YtgiocecpkhmhhaaGreatDoor
open Go.ChangeShapes Go.WideShapes Go.ChangeAt Go.RowKit
namespace Asm
open Isa
set_option linter.unusedVariables false
set_option linter.unusedSimpArgs false
/-- all blocks but R stay as they are; R stays, or becomes FC -/
structure EK (R : Nat) (FC : Obj) (X Y : World) : Prop where
  os : Y.os = X.os
  tape : Y.tape = X.tape
  output : Y.output = X.output
  size : X.heap.size ≤ Y.heap.size
  block : ∀ k, k < X.heap.size → k ≠ R → Y.heap[k]? = X.heap[k]?
  own : R < X.heap.size → Y.heap[R]? = X.heap[R]? ∨ Y.heap[R]? = some FC
theorem ek_rel (R : Nat) (FC : Obj) : Posts.Rel (EK R FC) where
  refl := fun X => ⟨rfl, rfl, rfl, Nat.le_refl _, fun _ _ _ => rfl, fun _ => .inl rfl⟩
  trans := fun X Y Z h k => ⟨k.os.trans h.os, k.tape.trans h.tape, k.output.trans h.output, Nat.le_trans h.size k.size, fun j hj hne => (k.block j (Nat.lt_of_lt_of_le hj h.size) hne).trans (h.block j hj hne), fun hR => by
    rcases k.own (Nat.lt_of_lt_of_le hR h.size) with e | e
    · rcases h.own hR with e2 | e2
      · exact .inl (e.trans e2)
      · exact .inr (e.trans e2)
    · exact .inr e⟩
  drew := fun X => ⟨rfl, rfl, rfl, Nat.le_refl _, fun _ _ _ => rfl, fun _ => .inl rfl⟩
theorem EK.of {R : Nat} {FC : Obj} {X Y : World} (h : Below X.heap.size X Y) : EK R FC X Y :=
  ⟨h.os, h.tape, h.output, h.size, fun k hk _ => h.block k hk, fun hR => .inl (h.block R hR)⟩
theorem EK.below {R : Nat} {FC : Obj} {X Y w : World} (h : EK R FC X Y) (hb : Below R w X) (hR : R ≤ X.heap.size) : Below R w Y :=
  ⟨h.os.trans hb.os, h.tape.trans hb.tape, h.output.trans hb.output, Nat.le_trans hb.size h.size, fun k hk => (h.block k (Nat.lt_of_lt_of_le hk hR) (by omega)).trans (hb.block k hk)⟩
theorem EK.stable {R : Nat} {FC : Obj} : Posts.Stable (EK R FC) (fun _ X => R < X.heap.size ∧ X.heap[R]? = some FC) := fun v X Y hp h => ⟨Nat.lt_of_lt_of_le hp.1 h.size, by
  rcases h.own hp.1 with e | e
  · exact e.trans hp.2
  · exact e⟩
/-- the store of four cells, at its place in such a region -/
theorem ek_store4 {R : Nat} {X : World} {u0 u1 u2 u3 v0 v1 v2 v3 : Value} {t : TypeId} (h : X.heap[R]? = some (.cells #[u0, u1, u2, u3] t (0, 0))) :
    EK R (.cells #[v0, v1, v2, v3] t (0, 0)) X ((((X.setCell ⟨R, 0, none⟩ v0).setCell ⟨R, 1, none⟩ v1).setCell ⟨R, 2, none⟩ v2).setCell ⟨R, 3, none⟩ v3) ∧
    ((((X.setCell ⟨R, 0, none⟩ v0).setCell ⟨R, 1, none⟩ v1).setCell ⟨R, 2, none⟩ v2).setCell ⟨R, 3, none⟩ v3).heap[R]? = some (.cells #[v0, v1, v2, v3] t (0, 0)) := by
  have hz : ((((X.setCell ⟨R, 0, none⟩ v0).setCell ⟨R, 1, none⟩ v1).setCell ⟨R, 2, none⟩ v2).setCell ⟨R, 3, none⟩ v3).heap[R]? = some (.cells #[v0, v1, v2, v3] t (0, 0)) := by
    rw [heap_setCell_own _ _ _ _ _ _ (heap_setCell_own _ _ _ _ _ _ (heap_setCell_own _ _ _ _ _ _ (heap_setCell_own _ _ _ _ _ _ h)))]
    rfl
  refine ⟨⟨rfl, rfl, rfl, by simp [World.setCell], fun k hk hne => ?_, fun _ => .inr hz⟩, hz⟩
  rw [Below.heap_setCell _ _ _ _ hne, Below.heap_setCell _ _ _ _ hne, Below.heap_setCell _ _ _ _ hne, Below.heap_setCell _ _ _ _ hne]
end Asm
end Go.Proofs.YtgiocecpkhmhhaaGreatDoor
namespace Go.Proofs.YtgiocecpkhmhhaaGreatDoor
open Go.ChangeShapes Go.WideShapes Go.ChangeAt Go.RowKit
namespace Asm
open Isa
set_option linter.unusedVariables false
set_option linter.unusedSimpArgs false
theorem ret4 {W : World} {R : Nat} {u0 u1 u2 u3 : Value} {t : TypeId} (h : W.heap[R]? = some (.cells #[u0, u1, u2, u3] t (0, 0))) (v0 v1 v2 v3 : Value) :
    ((((W.setCell ⟨R, 0, none⟩ v0).setCell ⟨R, 1, none⟩ v1).setCell ⟨R, 2, none⟩ v2).setCell ⟨R, 3, none⟩ v3).heap[R]? = some (.cells #[v0, v1, v2, v3] t (0, 0)) := by
  rw [heap_setCell_own _ _ _ _ _ _ (heap_setCell_own _ _ _ _ _ _ (heap_setCell_own _ _ _ _ _ _ (heap_setCell_own _ _ _ _ _ _ h)))]
  rfl
theorem bel4 {B : Nat} {a W : World} (h : Below B a W) {R : Nat} (hR : B ≤ R) (v0 v1 v2 v3 : Value) : Below B a ((((W.setCell ⟨R, 0, none⟩ v0).setCell ⟨R, 1, none⟩ v1).setCell ⟨R, 2, none⟩ v2).setCell ⟨R, 3, none⟩ v3) :=
  (((h.setCell (p := ⟨R, 0, none⟩) hR v0).setCell (p := ⟨R, 1, none⟩) hR v1).setCell (p := ⟨R, 2, none⟩) hR v2).setCell (p := ⟨R, 3, none⟩) hR v3
/-- the last letter -/
def lastN (s : List UInt8) : UInt8 := s.getD (s.length - 1) 0
def stem (s : List UInt8) : List UInt8 := if dgtN (lastN s).toNat then s.take (s.length - 1) else s
def sizeN (s : List UInt8) : Int := if dgtN (lastN s).toNat then ((lastN s).toNat : Int) - 48 else 0
def namI (s : List UInt8) : Iv := ⟨opI (stem s), sizeN s, 0, 0⟩
def namB (s : List UInt8) : Bool := mayI (namI s) && ((opI (stem s) == 17 || opI (stem s) == 18) == dgtN (lastN s).toNat)
theorem sub_str (l : List UInt8) (k : Nat) (hk : k ≤ l.length) : (sB l).extract 0 k = sB (l.take k) := by
  apply sB_of
  simp [sB]
def NamedP (s : List UInt8) (w : World) (e : Ending) (w' : World) : Prop := e = .returned (.tuple #[iv (namI s), .bool (namB s)]) ∧ Below w.heap.size w w'
theorem opI_bound (s : List UInt8) : 0 ≤ opI s ∧ opI s ≤ 27 := by
  by_cases h : opI s = 0
  · omega
  · have := opI_inv h; omega
set_option maxRecDepth 100000 in
set_option maxHeartbeats 6400000 in
theorem named_any (s : List UInt8) (h0 : s ≠ []) (hm : s.length ≤ 1000000000) (w : World) (hT : Tabs w) : Calls Tryz.prog 86 #[.string (sB s)] w (NamedP s w) := by
  have hl1 : 1 ≤ s.length := by cases s with | nil => exact absurd rfl h0 | cons => simp
  have hlt := letter s (s.length - 1) (by omega)
  have hls : s.getD (s.length - 1) 0 = lastN s := rfl
  rw [hls] at hlt
  have hsz : ((sB s).size : Int) = s.length := by rw [sB_size]
  have hle4 : ((s.length - 1 : Nat) : Int) ≤ 1000000000 := by omega
  have hle5 : (0 : Int) ≤ ((s.length - 1 : Nat) : Int) := by omega
  have wl2 : (s.length : Int) - 1 = ((s.length - 1 : Nat) : Int) := by omega
  obtain ⟨z, hz⟩ : ∃ z, z = (lastN s).toNat := ⟨_, rfl⟩
  have hz8 : z < 256 := by rw [hz]; exact UInt8.toNat_lt _
  rw [← hz] at hlt
  obtain ⟨ob, hob⟩ : ∃ o, o = (.cells #[.int .u8 0, .int .u8 0, .int .u16 0, .int .u32 0] 32 : Obj) := ⟨_, rfl⟩
  have hr0 := alloc_new w ob
  have HX0 := (Below.refl w.heap.size w).alloc (Nat.le_refl _) ob
  have hTT := hT.below HX0 (Nat.le_refl _)
  have HTT := Lib.hid (fun W (hb : Below (w.alloc ob).heap.size (w.alloc ob) W) => hTT.below hb (Nat.le_refl _))
  have HStem : Hid (stem s = if dgtN z then s.take (s.length - 1) else s) := by rw [hz]; exact Lib.hid rfl
  have HSize : Hid (sizeN s = if dgtN z then (z : Int) - 48 else 0) := by rw [hz]; exact Lib.hid rfl
  have HB : Hid (namB s = (mayI (namI s) && ((opI (stem s) == 17 || opI (stem s) == 18) == dgtN z))) := by rw [hz]; exact Lib.hid rfl
  have HI : Hid (namI s = ⟨opI (stem s), sizeN s, 0, 0⟩) := rfl
  have hob1 := opI_bound (stem s)
  have HOp := Lib.hid (fun W (hb : Below (w.alloc ob).heap.size (w.alloc ob) W) => op_any (stem s) W (HTT.out W hb))
  have hsN : 0 ≤ sizeN s ∧ sizeN s ≤ 255 := by
    rw [HSize.out]
    split
    · rename_i q; unfold dgtN at q; simp at q; omega
    · omega
  have hwf : (⟨opI (stem s), sizeN s, 0, 0⟩ : Iv).wf := ⟨by simp only; omega, by simp only; omega, by simp only; omega, by simp only; omega⟩
  have HMay := Lib.hid (fun W (hb : Below w.heap.size w W) => may_any ⟨opI (stem s), sizeN s, 0, 0⟩ hwf W (hT.below hb (Nat.le_refl _)))
  unfold iv at HMay
  simp only at HMay
  have HDg := Lib.hid (fun W => digit_any z W)
  have HPost : Hid (∀ (b : Bool) w', b = namB s → Below w.heap.size w w' → NamedP s w (.returned (.tuple #[.agg #[.int .u8 (opI (stem s)), .int .u8 (sizeN s), .int .u16 0, .int .u32 0], .bool b])) w') := fun b w' hb hbel => ⟨by rw [HI.out, hb]; rfl, hbel⟩
  rw [hob] at hr0 HX0 HTT HOp
  have HR0 := Lib.hid hr0
  have HX := Lib.hid HX0
  clear hr0 HX0 hTT hT hls h0 hob HI hwf hsN
  rw [show namI s = ⟨opI (stem s), sizeN s, 0, 0⟩ from rfl] at HB
  generalize mayI ⟨opI (stem s), sizeN s, 0, 0⟩ = M at *
  generalize namB s = NB at *
  generalize hOO : opI (stem s) = O at *
  clear hOO
  cases hd : dgtN z with
  | true =>
    rw [hd] at HStem HSize HB HDg
    simp only [if_true] at HStem HSize
    have hz48 : 48 ≤ z ∧ z ≤ 57 := by unfold dgtN at hd; simpa using hd
    have hsub := sub_str s (s.length - 1) (by omega)
    rw [← HStem.out] at hsub
    have wz : IntKind.u8.wrap ((z : Int) - 48) = sizeN s := by rw [HSize.out]; simp [IntKind.wrap, IntKind.bits, IntKind.signed]; omega
    have hne := sB_eq (stem s) s
    rw [decide_eq_false (by rw [HStem.out]; intro e; have := congrArg List.length e; simp at this; omega)] at hne
    have hle2 : ((s.length - 1 : Nat) : Int) ≤ (s.length : Int) := by omega
    have hle3 : ((s.length - 1 : Nat) : Int) < (s.length : Int) := by omega
    clear hd hz HStem HSize hm hl1
    generalize sizeN s = SZ at *
    generalize hST : sB (stem s) = ST at *
    generalize sB s = S at *
    generalize s.length - 1 = L1 at *
    generalize s.length = L at *
    clear hST
    go_enter Tryz.func86, Tryz.ntmps86
    go_wp2_with fail
    refine (HDg.out _).mono ?_
    rintro e w1 ⟨rfl, hw1⟩
    subst w1
    go_wp2_with fail
    go_quiet (fail)
    clear hlt hsub wl2 hle2 hle3 hle4 hle5 wz hsz
    go_wp2_with fail
    refine (HOp.out _ (below_drewN (Below.refl _ _) _)).mono ?_
    rintro e w2 ⟨rfl, hb2⟩
    have hb3 : Below (w.alloc (.cells #[.int .u8 0, .int .u8 0, .int .u16 0, .int .u32 0] 32)).heap.size (w.alloc (.cells #[.int .u8 0, .int .u8 0, .int .u16 0, .int .u32 0] 32)) w2 := (below_drewN (Below.refl _ _) _).trans hb2
    have hr2 := (hb3.block _ (by rw [World.size_alloc]; omega)).trans HR0.out
    have hn := alloc_new w2 (.cells #[.int .u8 O, .int .u8 SZ, .int .u16 0, .int .u32 0] 32)
    have HN := (Below.refl w2.heap.size w2).alloc (Nat.le_refl _) (.cells #[.int .u8 O, .int .u8 SZ, .int .u16 0, .int .u32 0] 32)
    have hr3 := (HN.block _ (lt_of_block hr2)).trans hr2
    have q1 : w.heap.size < w2.heap.size := lt_of_block hr2
    have HW3 := hb3.trans (HN.mono hb3.size)
    have HNn := Lib.hid hn
    have HRn := Lib.hid hr3
    have HBw := Lib.hid (HX.out.trans (HW3.mono HX.out.size))
    have HMy := HMay
    obtain ⟨b17, g17⟩ : ∃ b17, (O == 17) = b17 := ⟨_, rfl⟩
    obtain ⟨b18, g18⟩ : ∃ b18, (O == 18) = b18 := ⟨_, rfl⟩
    have HB2 : Hid (NB = (M && ((b17 || b18) == true))) := by show _ = _; rw [HB.out, g17, g18]
    have hE := ek_rel w.heap.size (.cells #[.int .u8 O, .int .u8 SZ, .int .u16 0, .int .u32 0] 32 (0, 0))
    have hES : Posts.Stable (EK w.heap.size (.cells #[.int .u8 O, .int .u8 SZ, .int .u16 0, .int .u32 0] 32 (0, 0))) (fun _ X => w.heap.size < X.heap.size ∧ X.heap[w.heap.size]? = some (.cells #[.int .u8 O, .int .u8 SZ, .int .u16 0, .int .u32 0] 32 (0, 0))) := EK.stable
    clear hb2 hb3 hr2 hn HN hr3 HW3 HB HOp HR0 HX
    cases b17
    · cases b18
      · 
        cases M
        · go_upto_region 7 with fail
          refine (wpIn_wide (n := 0)).1 (Posts.wpIn_region_tail hE 11 0 (Posts.At [Posts.is (.agg #[.int .u8 O, .int .u8 SZ, .int .u16 0, .int .u32 0]), Posts.is (.agg #[.int .u8 O, .int .u8 SZ, .int .u16 0, .int .u32 0]), Posts.is (.bool (false)), Posts.is (.bool (false)), Posts.is (undef), Posts.is (undef), Posts.is (undef), Posts.is (undef), Posts.is (undef), Posts.is (.bool (false)), (fun _ X => w.heap.size < X.heap.size ∧ X.heap[w.heap.size]? = some (.cells #[.int .u8 O, .int .u8 SZ, .int .u16 0, .int .u32 0] 32 (0, 0)))]) (fun _ _ => True) (by kernel_rfl) (by decide) (by kernel_rfl) (by kernel_rfl) (by kernel_rfl)
            (Posts.stable_at _ (by repeat' (first | exact trivial | (refine And.intro ?_ ?_) | exact Posts.is_stable _ | exact Posts.on_stable _ _ | assumption))) trivial ?_ ?_)
          · refine ⟨?_, ?_, ?_, ?_, ?_, ?_, ?_, ?_, ?_, ?_, ?_, trivial⟩
            · intro a X hX hS hD hJ hU
              obtain ⟨y0, y1, y2, y3⟩ := cells4' ((hX.block w2.heap.size (by rw [World.size_alloc]; omega) (by omega)).trans HNn.out)
              have d7 := Posts.slot (show a.eval (.tmp 7) = .pointer (some ⟨w2.heap.size, 0, none⟩) from hS.other 7 rfl)
              exact Posts.op_value (fun _ => trivial) rfl rfl (by intro c h; cases h) rfl (by rw [hS.size]; simp) (v := .agg #[.int .u8 O, .int .u8 SZ, .int .u16 0, .int .u32 0]) (by simp [execOp, d7, y0, y1, y2, y3, go_sem]) rfl (hE.refl _) trivial
            · intro a X hX hS hD hJ hU
              obtain ⟨y0, y1, y2, y3⟩ := cells4' ((hX.block w2.heap.size (by rw [World.size_alloc]; omega) (by omega)).trans HNn.out)
              have d7 := Posts.slot (show a.eval (.tmp 7) = .pointer (some ⟨w2.heap.size, 0, none⟩) from hS.other 7 rfl)
              exact Posts.op_value (fun _ => trivial) rfl rfl (by intro c h; cases h) rfl (by rw [hS.size]; simp) (v := .agg #[.int .u8 O, .int .u8 SZ, .int .u16 0, .int .u32 0]) (by simp [execOp, d7, y0, y1, y2, y3, go_sem]) rfl (hE.refl _) trivial
            · intro a X hX hS hD hJ hU
              obtain ⟨y0, y1, y2, y3⟩ := cells4' ((hX.block w2.heap.size (by rw [World.size_alloc]; omega) (by omega)).trans HNn.out)
              have d37 := Posts.slot (show a.eval (.tmp 37) = .agg #[.int .u8 O, .int .u8 SZ, .int .u16 0, .int .u32 0] from hD.1)
              refine Posts.op_call (fun _ => trivial) rfl rfl rfl (by intro c h; cases h) rfl (by rw [hS.size]; simp) 33 #[.agg #[.int .u8 O, .int .u8 SZ, .int .u16 0, .int .u32 0]] (by simp [execOp, d37, go_sem]) ?_
              refine callsIn_wide.2 ((HMy.out X (hX.below HBw.out (by rw [World.size_alloc]; omega))).mono ?_)
              rintro e Y ⟨rfl, hb⟩
              exact ⟨_, rfl, rfl, EK.of hb, trivial⟩
            · intro a X hX hS hD hJ hU
              obtain ⟨y0, y1, y2, y3⟩ := cells4' ((hX.block w2.heap.size (by rw [World.size_alloc]; omega) (by omega)).trans HNn.out)
              have d38 := Posts.slot (show a.eval (.tmp 38) = .bool (false) from hD.1)
              exact Posts.op_value (fun _ => trivial) rfl rfl (by intro c h; cases h) rfl (by rw [hS.size]; simp) (v := .bool (false)) (by simp [execOp, d38,  go_sem]) rfl (hE.refl _) trivial
            · intro a X hX hS hD hJ hU
              exact Posts.op_skip hE (fun _ => trivial) rfl (Posts.wanted_no rfl rfl rfl (show a.eval (.tmp 39) = .bool !true from hD.1)) rfl (by rw [hS.size]; simp) rfl trivial
            · intro a X hX hS hD hJ hU
              exact Posts.op_skip hE (fun _ => trivial) rfl (Posts.wanted_no rfl rfl rfl (show a.eval (.tmp 39) = .bool !true from hD.1)) rfl (by rw [hS.size]; simp) rfl trivial
            · intro a X hX hS hD hJ hU
              exact Posts.op_skip hE (fun _ => trivial) rfl (Posts.wanted_no rfl rfl rfl (show a.eval (.tmp 39) = .bool !true from hD.1)) rfl (by rw [hS.size]; simp) rfl trivial
            · intro a X hX hS hD hJ hU
              exact Posts.op_skip hE (fun _ => trivial) rfl (Posts.wanted_no rfl rfl rfl (show a.eval (.tmp 39) = .bool !true from hD.2.2.1)) rfl (by rw [hS.size]; simp) rfl trivial
            · intro a X hX hS hD hJ hU
              exact Posts.op_skip hE (fun _ => trivial) rfl (Posts.wanted_no rfl rfl rfl (show a.eval (.tmp 39) = .bool !true from hD.2.2.1)) rfl (by rw [hS.size]; simp) rfl trivial
            · intro a X hX hS hD hJ hU
              obtain ⟨y0, y1, y2, y3⟩ := cells4' ((hX.block w2.heap.size (by rw [World.size_alloc]; omega) (by omega)).trans HNn.out)
              have d39 := Posts.slot (show a.eval (.tmp 39) = .bool (false) from hD.1)
              exact Posts.op_value (fun _ => trivial) rfl rfl (by intro c h; cases h) rfl (by rw [hS.size]; simp) (v := .bool (false)) (by simp [execOp, d39, go_sem]) rfl (hE.refl _) trivial
            · intro a X hX hS hD hJ hU
              obtain ⟨y0, y1, y2, y3⟩ := cells4' ((hX.block w2.heap.size (by rw [World.size_alloc]; omega) (by omega)).trans HNn.out)
              have d2 := Posts.slot (show a.eval (.tmp 2) = .pointer (some ⟨w.heap.size, 0, none⟩) from hS.other 2 rfl)
              have d36 := Posts.slot (show a.eval (.tmp 36) = .agg #[.int .u8 O, .int .u8 SZ, .int .u16 0, .int .u32 0] from hD.1)
              have hR0 : ∃ u0 u1 u2 u3, X.heap[w.heap.size]? = some (.cells #[u0, u1, u2, u3] 32 (0, 0)) := by
                rcases hX.own (by rw [World.size_alloc]; omega) with e | e
                · exact ⟨_, _, _, _, e.trans HRn.out⟩
                · exact ⟨_, _, _, _, e⟩
              obtain ⟨u0, u1, u2, u3, hz⟩ := hR0
              obtain ⟨z0, z1, z2, z3⟩ := cells4' hz
              have f0 : X.frozen? ⟨w.heap.size, 0, none⟩ = false := by simp [World.frozen?, hz]
              have f1 : X.frozen? ⟨w.heap.size, 1, none⟩ = false := by simp [World.frozen?, hz]
              have f2 : X.frozen? ⟨w.heap.size, 2, none⟩ = false := by simp [World.frozen?, hz]
              have f3 : X.frozen? ⟨w.heap.size, 3, none⟩ = false := by simp [World.frozen?, hz]
              obtain ⟨hek, hfin⟩ := ek_store4 (v0 := .int .u8 O) (v1 := .int .u8 SZ) (v2 := .int .u16 0) (v3 := .int .u32 0) hz
              exact Posts.op_done (fun _ => trivial) rfl rfl (by intro c h; cases h) (Y := ((((X.setCell ⟨w.heap.size, 0, none⟩ (.int .u8 O)).setCell ⟨w.heap.size, 1, none⟩ (.int .u8 SZ)).setCell ⟨w.heap.size, 2, none⟩ (.int .u16 0)).setCell ⟨w.heap.size, 3, none⟩ (.int .u32 0))) (by simp [execOp, d2, d36, z0, z1, z2, z3, f0, f1, f2, f3, go_sem]) ⟨⟨⟨undef, rfl⟩, ⟨Nat.lt_of_lt_of_le (lt_of_block hz) hek.size, hfin⟩, hek⟩, trivial⟩
          · intro a0 Y hY hS hJt hL
            have p36 := Posts.slot (show a0.eval (.tmp 36) = .agg #[.int .u8 O, .int .u8 SZ, .int .u16 0, .int .u32 0] from hL.1)
            have p37 := Posts.slot (show a0.eval (.tmp 37) = .agg #[.int .u8 O, .int .u8 SZ, .int .u16 0, .int .u32 0] from hL.2.1)
            have p38 := Posts.slot (show a0.eval (.tmp 38) = .bool (false) from hL.2.2.1)
            have p39 := Posts.slot (show a0.eval (.tmp 39) = .bool (false) from hL.2.2.2.1)
            have p40 := Posts.slot (show a0.eval (.tmp 40) = undef from hL.2.2.2.2.1)
            have p41 := Posts.slot (show a0.eval (.tmp 41) = undef from hL.2.2.2.2.2.1)
            have p42 := Posts.slot (show a0.eval (.tmp 42) = undef from hL.2.2.2.2.2.2.1)
            have p43 := Posts.slot (show a0.eval (.tmp 43) = undef from hL.2.2.2.2.2.2.2.1)
            have p44 := Posts.slot (show a0.eval (.tmp 44) = undef from hL.2.2.2.2.2.2.2.2.1)
            have p45 := Posts.slot (show a0.eval (.tmp 45) = .bool (false) from hL.2.2.2.2.2.2.2.2.2.1)
            have p_10 := (show _ from hL.2.2.2.2.2.2.2.2.2.2.1)
            have hfr := hS.frame [36, 37, 38, 39, 40, 41, 42, 43, 44, 45, 3] (fun t ht => by simp [Posts.isDst] at ht; first | (rcases ht with h | h | h | h | h | h | h | h | h | h | h <;> subst h <;> simp) | (subst ht; simp))
            simp only [List.foldl_cons, List.foldl_nil] at hfr
            have hdf := hS.defers
            simp only [Array.getD_eq_getD_getElem?] at hfr
            clear hL hS
            generalize a0.tmps[36]?.getD undef = v36 at *
            generalize a0.tmps[37]?.getD undef = v37 at *
            generalize a0.tmps[38]?.getD undef = v38 at *
            generalize a0.tmps[39]?.getD undef = v39 at *
            generalize a0.tmps[40]?.getD undef = v40 at *
            generalize a0.tmps[41]?.getD undef = v41 at *
            generalize a0.tmps[42]?.getD undef = v42 at *
            generalize a0.tmps[43]?.getD undef = v43 at *
            generalize a0.tmps[44]?.getD undef = v44 at *
            generalize a0.tmps[45]?.getD undef = v45 at *
            generalize a0.tmps[3]?.getD undef = v3 at *
            obtain rfl := p36
            obtain rfl := p37
            obtain rfl := p38
            obtain rfl := p39
            obtain rfl := p40
            obtain rfl := p41
            obtain rfl := p42
            obtain rfl := p43
            obtain rfl := p44
            obtain rfl := p45
            obtain ⟨tm, df⟩ := a0
            simp only [List.setIfInBounds_toArray, List.set_cons_succ, List.set_cons_zero] at hfr hdf
            subst hfr
            subst hdf
            refine Posts.tail_op 11 (by kernel_rfl) (Posts.op_val (fun _ => trivial) rfl rfl (by intro c h; cases h) (v := .bool (false)) (Y := Y) (by simp [execOp, Act.eval, go_sem]) ?_)
            refine ⟨by kernel_rfl, ?_⟩
            simp only [Exit.inBlock, Exit.then]
            rename_i hK
            refine hK _ _ ?_
            obtain ⟨d0, d1, d2, d3⟩ := cells4' p_10.2
            have HYb := Lib.hid (hY.below HBw.out (by rw [World.size_alloc]; omega))
            clear p_10 hY
            go_wp2_with fail
            refine bodyPost_ret (v := .tuple #[.agg #[.int .u8 O, .int .u8 SZ, .int .u16 0, .int .u32 0], .bool (false)]) (by simp [results, Tryz.f86, go_sem, d0, d1, d2, d3]) rfl ?_
            exact HPost.out _ _ (by rw [HB2.out]; simp) HYb.out
        · go_upto_region 7 with fail
          refine (wpIn_wide (n := 0)).1 (Posts.wpIn_region_tail hE 11 0 (Posts.At [Posts.is (.agg #[.int .u8 O, .int .u8 SZ, .int .u16 0, .int .u32 0]), Posts.is (.agg #[.int .u8 O, .int .u8 SZ, .int .u16 0, .int .u32 0]), Posts.is (.bool (true)), Posts.is (.bool (true)), Posts.is (.bool (false)), Posts.is (.string ST), Posts.is (.string S), Posts.is (.bool (true)), Posts.is (.bool ((false == true))), Posts.is (.bool ((false == true))), (fun _ X => w.heap.size < X.heap.size ∧ X.heap[w.heap.size]? = some (.cells #[.int .u8 O, .int .u8 SZ, .int .u16 0, .int .u32 0] 32 (0, 0)))]) (fun _ _ => True) (by kernel_rfl) (by decide) (by kernel_rfl) (by kernel_rfl) (by kernel_rfl)
            (Posts.stable_at _ (by repeat' (first | exact trivial | (refine And.intro ?_ ?_) | exact Posts.is_stable _ | exact Posts.on_stable _ _ | assumption))) trivial ?_ ?_)
          · refine ⟨?_, ?_, ?_, ?_, ?_, ?_, ?_, ?_, ?_, ?_, ?_, trivial⟩
            · intro a X hX hS hD hJ hU
              obtain ⟨y0, y1, y2, y3⟩ := cells4' ((hX.block w2.heap.size (by rw [World.size_alloc]; omega) (by omega)).trans HNn.out)
              have d7 := Posts.slot (show a.eval (.tmp 7) = .pointer (some ⟨w2.heap.size, 0, none⟩) from hS.other 7 rfl)
              exact Posts.op_value (fun _ => trivial) rfl rfl (by intro c h; cases h) rfl (by rw [hS.size]; simp) (v := .agg #[.int .u8 O, .int .u8 SZ, .int .u16 0, .int .u32 0]) (by simp [execOp, d7, y0, y1, y2, y3, go_sem]) rfl (hE.refl _) trivial
            · intro a X hX hS hD hJ hU
              obtain ⟨y0, y1, y2, y3⟩ := cells4' ((hX.block w2.heap.size (by rw [World.size_alloc]; omega) (by omega)).trans HNn.out)
              have d7 := Posts.slot (show a.eval (.tmp 7) = .pointer (some ⟨w2.heap.size, 0, none⟩) from hS.other 7 rfl)
              exact Posts.op_value (fun _ => trivial) rfl rfl (by intro c h; cases h) rfl (by rw [hS.size]; simp) (v := .agg #[.int .u8 O, .int .u8 SZ, .int .u16 0, .int .u32 0]) (by simp [execOp, d7, y0, y1, y2, y3, go_sem]) rfl (hE.refl _) trivial
            · intro a X hX hS hD hJ hU
              obtain ⟨y0, y1, y2, y3⟩ := cells4' ((hX.block w2.heap.size (by rw [World.size_alloc]; omega) (by omega)).trans HNn.out)
              have d37 := Posts.slot (show a.eval (.tmp 37) = .agg #[.int .u8 O, .int .u8 SZ, .int .u16 0, .int .u32 0] from hD.1)
              refine Posts.op_call (fun _ => trivial) rfl rfl rfl (by intro c h; cases h) rfl (by rw [hS.size]; simp) 33 #[.agg #[.int .u8 O, .int .u8 SZ, .int .u16 0, .int .u32 0]] (by simp [execOp, d37, go_sem]) ?_
              refine callsIn_wide.2 ((HMy.out X (hX.below HBw.out (by rw [World.size_alloc]; omega))).mono ?_)
              rintro e Y ⟨rfl, hb⟩
              exact ⟨_, rfl, rfl, EK.of hb, trivial⟩
            · intro a X hX hS hD hJ hU
              obtain ⟨y0, y1, y2, y3⟩ := cells4' ((hX.block w2.heap.size (by rw [World.size_alloc]; omega) (by omega)).trans HNn.out)
              have d38 := Posts.slot (show a.eval (.tmp 38) = .bool (true) from hD.1)
              exact Posts.op_value (fun _ => trivial) rfl rfl (by intro c h; cases h) rfl (by rw [hS.size]; simp) (v := .bool (true)) (by simp [execOp, d38,  go_sem]) rfl (hE.refl _) trivial
            · intro a X hX hS hD hJ hU
              obtain ⟨y0, y1, y2, y3⟩ := cells4' ((hX.block w2.heap.size (by rw [World.size_alloc]; omega) (by omega)).trans HNn.out)
              have d8 := Posts.slot (show a.eval (.tmp 8) = .bool (false) from hS.other 8 rfl)
              exact Posts.op_value (fun _ => trivial) rfl (Posts.wanted_yes rfl rfl rfl (show a.eval (.tmp 39) = .bool true from hD.1)) (by intro c h; cases h) rfl (by rw [hS.size]; simp) (v := .bool (false)) (by simp [execOp, d8,  go_sem]) rfl (hE.refl _) trivial
            · intro a X hX hS hD hJ hU
              obtain ⟨y0, y1, y2, y3⟩ := cells4' ((hX.block w2.heap.size (by rw [World.size_alloc]; omega) (by omega)).trans HNn.out)
              have d4 := Posts.slot (show a.eval (.tmp 4) = .string ST from hS.other 4 rfl)
              exact Posts.op_value (fun _ => trivial) rfl (Posts.wanted_yes rfl rfl rfl (show a.eval (.tmp 39) = .bool true from hD.1)) (by intro c h; cases h) rfl (by rw [hS.size]; simp) (v := .string ST) (by simp [execOp, d4,  go_sem]) rfl (hE.refl _) trivial
            · intro a X hX hS hD hJ hU
              obtain ⟨y0, y1, y2, y3⟩ := cells4' ((hX.block w2.heap.size (by rw [World.size_alloc]; omega) (by omega)).trans HNn.out)
              have d0 := Posts.slot (show a.eval (.tmp 0) = .string S from hS.other 0 rfl)
              exact Posts.op_value (fun _ => trivial) rfl (Posts.wanted_yes rfl rfl rfl (show a.eval (.tmp 39) = .bool true from hD.1)) (by intro c h; cases h) rfl (by rw [hS.size]; simp) (v := .string S) (by simp [execOp, d0,  go_sem]) rfl (hE.refl _) trivial
            · intro a X hX hS hD hJ hU
              obtain ⟨y0, y1, y2, y3⟩ := cells4' ((hX.block w2.heap.size (by rw [World.size_alloc]; omega) (by omega)).trans HNn.out)
              have d41 := Posts.slot (show a.eval (.tmp 41) = .string ST from hD.1)
              have d42 := Posts.slot (show a.eval (.tmp 42) = .string S from hD.2.1)
              exact Posts.op_value (fun _ => trivial) rfl (Posts.wanted_yes rfl rfl rfl (show a.eval (.tmp 39) = .bool true from hD.2.2.1)) (by intro c h; cases h) rfl (by rw [hS.size]; simp) (v := .bool (true)) (by simp [execOp, d41, d42, hne, go_sem]) rfl (hE.refl _) trivial
            · intro a X hX hS hD hJ hU
              obtain ⟨y0, y1, y2, y3⟩ := cells4' ((hX.block w2.heap.size (by rw [World.size_alloc]; omega) (by omega)).trans HNn.out)
              have d40 := Posts.slot (show a.eval (.tmp 40) = .bool (false) from hD.1)
              have d43 := Posts.slot (show a.eval (.tmp 43) = .bool (true) from hD.2.1)
              exact Posts.op_value (fun _ => trivial) rfl (Posts.wanted_yes rfl rfl rfl (show a.eval (.tmp 39) = .bool true from hD.2.2.1)) (by intro c h; cases h) rfl (by rw [hS.size]; simp) (v := .bool ((false == true))) (by simp [execOp, d40, d43, go_sem]) rfl (hE.refl _) trivial
            · intro a X hX hS hD hJ hU
              obtain ⟨y0, y1, y2, y3⟩ := cells4' ((hX.block w2.heap.size (by rw [World.size_alloc]; omega) (by omega)).trans HNn.out)
              have d39 := Posts.slot (show a.eval (.tmp 39) = .bool (true) from hD.1)
              have d44 : a.tmps[44]?.getD undef = .bool ((false == true)) := by
                have hbind := hD
                exact Posts.slot (show a.eval (.tmp 44) = .bool ((false == true)) from hD.2.1)
              exact Posts.op_value (fun _ => trivial) rfl rfl (by intro c h; cases h) rfl (by rw [hS.size]; simp) (v := .bool ((false == true))) (by simp [execOp, d39, d44, go_sem]) rfl (hE.refl _) trivial
            · intro a X hX hS hD hJ hU
              obtain ⟨y0, y1, y2, y3⟩ := cells4' ((hX.block w2.heap.size (by rw [World.size_alloc]; omega) (by omega)).trans HNn.out)
              have d2 := Posts.slot (show a.eval (.tmp 2) = .pointer (some ⟨w.heap.size, 0, none⟩) from hS.other 2 rfl)
              have d36 := Posts.slot (show a.eval (.tmp 36) = .agg #[.int .u8 O, .int .u8 SZ, .int .u16 0, .int .u32 0] from hD.1)
              have hR0 : ∃ u0 u1 u2 u3, X.heap[w.heap.size]? = some (.cells #[u0, u1, u2, u3] 32 (0, 0)) := by
                rcases hX.own (by rw [World.size_alloc]; omega) with e | e
                · exact ⟨_, _, _, _, e.trans HRn.out⟩
                · exact ⟨_, _, _, _, e⟩
              obtain ⟨u0, u1, u2, u3, hz⟩ := hR0
              obtain ⟨z0, z1, z2, z3⟩ := cells4' hz
              have f0 : X.frozen? ⟨w.heap.size, 0, none⟩ = false := by simp [World.frozen?, hz]
              have f1 : X.frozen? ⟨w.heap.size, 1, none⟩ = false := by simp [World.frozen?, hz]
              have f2 : X.frozen? ⟨w.heap.size, 2, none⟩ = false := by simp [World.frozen?, hz]
              have f3 : X.frozen? ⟨w.heap.size, 3, none⟩ = false := by simp [World.frozen?, hz]
              obtain ⟨hek, hfin⟩ := ek_store4 (v0 := .int .u8 O) (v1 := .int .u8 SZ) (v2 := .int .u16 0) (v3 := .int .u32 0) hz
              exact Posts.op_done (fun _ => trivial) rfl rfl (by intro c h; cases h) (Y := ((((X.setCell ⟨w.heap.size, 0, none⟩ (.int .u8 O)).setCell ⟨w.heap.size, 1, none⟩ (.int .u8 SZ)).setCell ⟨w.heap.size, 2, none⟩ (.int .u16 0)).setCell ⟨w.heap.size, 3, none⟩ (.int .u32 0))) (by simp [execOp, d2, d36, z0, z1, z2, z3, f0, f1, f2, f3, go_sem]) ⟨⟨⟨undef, rfl⟩, ⟨Nat.lt_of_lt_of_le (lt_of_block hz) hek.size, hfin⟩, hek⟩, trivial⟩
          · intro a0 Y hY hS hJt hL
            have p36 := Posts.slot (show a0.eval (.tmp 36) = .agg #[.int .u8 O, .int .u8 SZ, .int .u16 0, .int .u32 0] from hL.1)
            have p37 := Posts.slot (show a0.eval (.tmp 37) = .agg #[.int .u8 O, .int .u8 SZ, .int .u16 0, .int .u32 0] from hL.2.1)
            have p38 := Posts.slot (show a0.eval (.tmp 38) = .bool (true) from hL.2.2.1)
            have p39 := Posts.slot (show a0.eval (.tmp 39) = .bool (true) from hL.2.2.2.1)
            have p40 := Posts.slot (show a0.eval (.tmp 40) = .bool (false) from hL.2.2.2.2.1)
            have p41 := Posts.slot (show a0.eval (.tmp 41) = .string ST from hL.2.2.2.2.2.1)
            have p42 := Posts.slot (show a0.eval (.tmp 42) = .string S from hL.2.2.2.2.2.2.1)
            have p43 := Posts.slot (show a0.eval (.tmp 43) = .bool (true) from hL.2.2.2.2.2.2.2.1)
            have p44 := Posts.slot (show a0.eval (.tmp 44) = .bool ((false == true)) from hL.2.2.2.2.2.2.2.2.1)
            have p45 := Posts.slot (show a0.eval (.tmp 45) = .bool ((false == true)) from hL.2.2.2.2.2.2.2.2.2.1)
            have p_10 := (show _ from hL.2.2.2.2.2.2.2.2.2.2.1)
            have hfr := hS.frame [36, 37, 38, 39, 40, 41, 42, 43, 44, 45, 3] (fun t ht => by simp [Posts.isDst] at ht; first | (rcases ht with h | h | h | h | h | h | h | h | h | h | h <;> subst h <;> simp) | (subst ht; simp))
            simp only [List.foldl_cons, List.foldl_nil] at hfr
            have hdf := hS.defers
            simp only [Array.getD_eq_getD_getElem?] at hfr
            clear hL hS
            generalize a0.tmps[36]?.getD undef = v36 at *
            generalize a0.tmps[37]?.getD undef = v37 at *
            generalize a0.tmps[38]?.getD undef = v38 at *
            generalize a0.tmps[39]?.getD undef = v39 at *
            generalize a0.tmps[40]?.getD undef = v40 at *
            generalize a0.tmps[41]?.getD undef = v41 at *
            generalize a0.tmps[42]?.getD undef = v42 at *
            generalize a0.tmps[43]?.getD undef = v43 at *
            generalize a0.tmps[44]?.getD undef = v44 at *
            generalize a0.tmps[45]?.getD undef = v45 at *
            generalize a0.tmps[3]?.getD undef = v3 at *
            obtain rfl := p36
            obtain rfl := p37
            obtain rfl := p38
            obtain rfl := p39
            obtain rfl := p40
            obtain rfl := p41
            obtain rfl := p42
            obtain rfl := p43
            obtain rfl := p44
            obtain rfl := p45
            obtain ⟨tm, df⟩ := a0
            simp only [List.setIfInBounds_toArray, List.set_cons_succ, List.set_cons_zero] at hfr hdf
            subst hfr
            subst hdf
            refine Posts.tail_op 11 (by kernel_rfl) (Posts.op_val (fun _ => trivial) rfl rfl (by intro c h; cases h) (v := .bool ((false == true))) (Y := Y) (by simp [execOp, Act.eval, go_sem]) ?_)
            refine ⟨by kernel_rfl, ?_⟩
            simp only [Exit.inBlock, Exit.then]
            rename_i hK
            refine hK _ _ ?_
            obtain ⟨d0, d1, d2, d3⟩ := cells4' p_10.2
            have HYb := Lib.hid (hY.below HBw.out (by rw [World.size_alloc]; omega))
            clear p_10 hY
            go_wp2_with fail
            refine bodyPost_ret (v := .tuple #[.agg #[.int .u8 O, .int .u8 SZ, .int .u16 0, .int .u32 0], .bool ((false == true))]) (by simp [results, Tryz.f86, go_sem, d0, d1, d2, d3]) rfl ?_
            exact HPost.out _ _ (by rw [HB2.out]; simp) HYb.out
      · 
        cases M
        · go_upto_region 7 with fail
          refine (wpIn_wide (n := 0)).1 (Posts.wpIn_region_tail hE 11 0 (Posts.At [Posts.is (.agg #[.int .u8 O, .int .u8 SZ, .int .u16 0, .int .u32 0]), Posts.is (.agg #[.int .u8 O, .int .u8 SZ, .int .u16 0, .int .u32 0]), Posts.is (.bool (false)), Posts.is (.bool (false)), Posts.is (undef), Posts.is (undef), Posts.is (undef), Posts.is (undef), Posts.is (undef), Posts.is (.bool (false)), (fun _ X => w.heap.size < X.heap.size ∧ X.heap[w.heap.size]? = some (.cells #[.int .u8 O, .int .u8 SZ, .int .u16 0, .int .u32 0] 32 (0, 0)))]) (fun _ _ => True) (by kernel_rfl) (by decide) (by kernel_rfl) (by kernel_rfl) (by kernel_rfl)
            (Posts.stable_at _ (by repeat' (first | exact trivial | (refine And.intro ?_ ?_) | exact Posts.is_stable _ | exact Posts.on_stable _ _ | assumption))) trivial ?_ ?_)
          · refine ⟨?_, ?_, ?_, ?_, ?_, ?_, ?_, ?_, ?_, ?_, ?_, trivial⟩
            · intro a X hX hS hD hJ hU
              obtain ⟨y0, y1, y2, y3⟩ := cells4' ((hX.block w2.heap.size (by rw [World.size_alloc]; omega) (by omega)).trans HNn.out)
              have d7 := Posts.slot (show a.eval (.tmp 7) = .pointer (some ⟨w2.heap.size, 0, none⟩) from hS.other 7 rfl)
              exact Posts.op_value (fun _ => trivial) rfl rfl (by intro c h; cases h) rfl (by rw [hS.size]; simp) (v := .agg #[.int .u8 O, .int .u8 SZ, .int .u16 0, .int .u32 0]) (by simp [execOp, d7, y0, y1, y2, y3, go_sem]) rfl (hE.refl _) trivial
            · intro a X hX hS hD hJ hU
              obtain ⟨y0, y1, y2, y3⟩ := cells4' ((hX.block w2.heap.size (by rw [World.size_alloc]; omega) (by omega)).trans HNn.out)
              have d7 := Posts.slot (show a.eval (.tmp 7) = .pointer (some ⟨w2.heap.size, 0, none⟩) from hS.other 7 rfl)
              exact Posts.op_value (fun _ => trivial) rfl rfl (by intro c h; cases h) rfl (by rw [hS.size]; simp) (v := .agg #[.int .u8 O, .int .u8 SZ, .int .u16 0, .int .u32 0]) (by simp [execOp, d7, y0, y1, y2, y3, go_sem]) rfl (hE.refl _) trivial
            · intro a X hX hS hD hJ hU
              obtain ⟨y0, y1, y2, y3⟩ := cells4' ((hX.block w2.heap.size (by rw [World.size_alloc]; omega) (by omega)).trans HNn.out)
              have d37 := Posts.slot (show a.eval (.tmp 37) = .agg #[.int .u8 O, .int .u8 SZ, .int .u16 0, .int .u32 0] from hD.1)
              refine Posts.op_call (fun _ => trivial) rfl rfl rfl (by intro c h; cases h) rfl (by rw [hS.size]; simp) 33 #[.agg #[.int .u8 O, .int .u8 SZ, .int .u16 0, .int .u32 0]] (by simp [execOp, d37, go_sem]) ?_
              refine callsIn_wide.2 ((HMy.out X (hX.below HBw.out (by rw [World.size_alloc]; omega))).mono ?_)
              rintro e Y ⟨rfl, hb⟩
              exact ⟨_, rfl, rfl, EK.of hb, trivial⟩
            · intro a X hX hS hD hJ hU
              obtain ⟨y0, y1, y2, y3⟩ := cells4' ((hX.block w2.heap.size (by rw [World.size_alloc]; omega) (by omega)).trans HNn.out)
              have d38 := Posts.slot (show a.eval (.tmp 38) = .bool (false) from hD.1)
              exact Posts.op_value (fun _ => trivial) rfl rfl (by intro c h; cases h) rfl (by rw [hS.size]; simp) (v := .bool (false)) (by simp [execOp, d38,  go_sem]) rfl (hE.refl _) trivial
            · intro a X hX hS hD hJ hU
              exact Posts.op_skip hE (fun _ => trivial) rfl (Posts.wanted_no rfl rfl rfl (show a.eval (.tmp 39) = .bool !true from hD.1)) rfl (by rw [hS.size]; simp) rfl trivial
            · intro a X hX hS hD hJ hU
              exact Posts.op_skip hE (fun _ => trivial) rfl (Posts.wanted_no rfl rfl rfl (show a.eval (.tmp 39) = .bool !true from hD.1)) rfl (by rw [hS.size]; simp) rfl trivial
            · intro a X hX hS hD hJ hU
              exact Posts.op_skip hE (fun _ => trivial) rfl (Posts.wanted_no rfl rfl rfl (show a.eval (.tmp 39) = .bool !true from hD.1)) rfl (by rw [hS.size]; simp) rfl trivial
            · intro a X hX hS hD hJ hU
              exact Posts.op_skip hE (fun _ => trivial) rfl (Posts.wanted_no rfl rfl rfl (show a.eval (.tmp 39) = .bool !true from hD.2.2.1)) rfl (by rw [hS.size]; simp) rfl trivial
            · intro a X hX hS hD hJ hU
              exact Posts.op_skip hE (fun _ => trivial) rfl (Posts.wanted_no rfl rfl rfl (show a.eval (.tmp 39) = .bool !true from hD.2.2.1)) rfl (by rw [hS.size]; simp) rfl trivial
            · intro a X hX hS hD hJ hU
              obtain ⟨y0, y1, y2, y3⟩ := cells4' ((hX.block w2.heap.size (by rw [World.size_alloc]; omega) (by omega)).trans HNn.out)
              have d39 := Posts.slot (show a.eval (.tmp 39) = .bool (false) from hD.1)
              exact Posts.op_value (fun _ => trivial) rfl rfl (by intro c h; cases h) rfl (by rw [hS.size]; simp) (v := .bool (false)) (by simp [execOp, d39, go_sem]) rfl (hE.refl _) trivial
            · intro a X hX hS hD hJ hU
              obtain ⟨y0, y1, y2, y3⟩ := cells4' ((hX.block w2.heap.size (by rw [World.size_alloc]; omega) (by omega)).trans HNn.out)
              have d2 := Posts.slot (show a.eval (.tmp 2) = .pointer (some ⟨w.heap.size, 0, none⟩) from hS.other 2 rfl)
              have d36 := Posts.slot (show a.eval (.tmp 36) = .agg #[.int .u8 O, .int .u8 SZ, .int .u16 0, .int .u32 0] from hD.1)
              have hR0 : ∃ u0 u1 u2 u3, X.heap[w.heap.size]? = some (.cells #[u0, u1, u2, u3] 32 (0, 0)) := by
                rcases hX.own (by rw [World.size_alloc]; omega) with e | e
                · exact ⟨_, _, _, _, e.trans HRn.out⟩
                · exact ⟨_, _, _, _, e⟩
              obtain ⟨u0, u1, u2, u3, hz⟩ := hR0
              obtain ⟨z0, z1, z2, z3⟩ := cells4' hz
              have f0 : X.frozen? ⟨w.heap.size, 0, none⟩ = false := by simp [World.frozen?, hz]
              have f1 : X.frozen? ⟨w.heap.size, 1, none⟩ = false := by simp [World.frozen?, hz]
              have f2 : X.frozen? ⟨w.heap.size, 2, none⟩ = false := by simp [World.frozen?, hz]
              have f3 : X.frozen? ⟨w.heap.size, 3, none⟩ = false := by simp [World.frozen?, hz]
              obtain ⟨hek, hfin⟩ := ek_store4 (v0 := .int .u8 O) (v1 := .int .u8 SZ) (v2 := .int .u16 0) (v3 := .int .u32 0) hz
              exact Posts.op_done (fun _ => trivial) rfl rfl (by intro c h; cases h) (Y := ((((X.setCell ⟨w.heap.size, 0, none⟩ (.int .u8 O)).setCell ⟨w.heap.size, 1, none⟩ (.int .u8 SZ)).setCell ⟨w.heap.size, 2, none⟩ (.int .u16 0)).setCell ⟨w.heap.size, 3, none⟩ (.int .u32 0))) (by simp [execOp, d2, d36, z0, z1, z2, z3, f0, f1, f2, f3, go_sem]) ⟨⟨⟨undef, rfl⟩, ⟨Nat.lt_of_lt_of_le (lt_of_block hz) hek.size, hfin⟩, hek⟩, trivial⟩
          · intro a0 Y hY hS hJt hL
            have p36 := Posts.slot (show a0.eval (.tmp 36) = .agg #[.int .u8 O, .int .u8 SZ, .int .u16 0, .int .u32 0] from hL.1)
            have p37 := Posts.slot (show a0.eval (.tmp 37) = .agg #[.int .u8 O, .int .u8 SZ, .int .u16 0, .int .u32 0] from hL.2.1)
            have p38 := Posts.slot (show a0.eval (.tmp 38) = .bool (false) from hL.2.2.1)
            have p39 := Posts.slot (show a0.eval (.tmp 39) = .bool (false) from hL.2.2.2.1)
            have p40 := Posts.slot (show a0.eval (.tmp 40) = undef from hL.2.2.2.2.1)
            have p41 := Posts.slot (show a0.eval (.tmp 41) = undef from hL.2.2.2.2.2.1)
            have p42 := Posts.slot (show a0.eval (.tmp 42) = undef from hL.2.2.2.2.2.2.1)
            have p43 := Posts.slot (show a0.eval (.tmp 43) = undef from hL.2.2.2.2.2.2.2.1)
            have p44 := Posts.slot (show a0.eval (.tmp 44) = undef from hL.2.2.2.2.2.2.2.2.1)
            have p45 := Posts.slot (show a0.eval (.tmp 45) = .bool (false) from hL.2.2.2.2.2.2.2.2.2.1)
            have p_10 := (show _ from hL.2.2.2.2.2.2.2.2.2.2.1)
            have hfr := hS.frame [36, 37, 38, 39, 40, 41, 42, 43, 44, 45, 3] (fun t ht => by simp [Posts.isDst] at ht; first | (rcases ht with h | h | h | h | h | h | h | h | h | h | h <;> subst h <;> simp) | (subst ht; simp))
            simp only [List.foldl_cons, List.foldl_nil] at hfr
            have hdf := hS.defers
            simp only [Array.getD_eq_getD_getElem?] at hfr
            clear hL hS
            generalize a0.tmps[36]?.getD undef = v36 at *
            generalize a0.tmps[37]?.getD undef = v37 at *
            generalize a0.tmps[38]?.getD undef = v38 at *
            generalize a0.tmps[39]?.getD undef = v39 at *
            generalize a0.tmps[40]?.getD undef = v40 at *
            generalize a0.tmps[41]?.getD undef = v41 at *
            generalize a0.tmps[42]?.getD undef = v42 at *
            generalize a0.tmps[43]?.getD undef = v43 at *
            generalize a0.tmps[44]?.getD undef = v44 at *
            generalize a0.tmps[45]?.getD undef = v45 at *
            generalize a0.tmps[3]?.getD undef = v3 at *
            obtain rfl := p36
            obtain rfl := p37
            obtain rfl := p38
            obtain rfl := p39
            obtain rfl := p40
            obtain rfl := p41
            obtain rfl := p42
            obtain rfl := p43
            obtain rfl := p44
            obtain rfl := p45
            obtain ⟨tm, df⟩ := a0
            simp only [List.setIfInBounds_toArray, List.set_cons_succ, List.set_cons_zero] at hfr hdf
            subst hfr
            subst hdf
            refine Posts.tail_op 11 (by kernel_rfl) (Posts.op_val (fun _ => trivial) rfl rfl (by intro c h; cases h) (v := .bool (false)) (Y := Y) (by simp [execOp, Act.eval, go_sem]) ?_)
            refine ⟨by kernel_rfl, ?_⟩
            simp only [Exit.inBlock, Exit.then]
            rename_i hK
            refine hK _ _ ?_
            obtain ⟨d0, d1, d2, d3⟩ := cells4' p_10.2
            have HYb := Lib.hid (hY.below HBw.out (by rw [World.size_alloc]; omega))
            clear p_10 hY
            go_wp2_with fail
            refine bodyPost_ret (v := .tuple #[.agg #[.int .u8 O, .int .u8 SZ, .int .u16 0, .int .u32 0], .bool (false)]) (by simp [results, Tryz.f86, go_sem, d0, d1, d2, d3]) rfl ?_
            exact HPost.out _ _ (by rw [HB2.out]; simp) HYb.out
        · go_upto_region 7 with fail
          refine (wpIn_wide (n := 0)).1 (Posts.wpIn_region_tail hE 11 0 (Posts.At [Posts.is (.agg #[.int .u8 O, .int .u8 SZ, .int .u16 0, .int .u32 0]), Posts.is (.agg #[.int .u8 O, .int .u8 SZ, .int .u16 0, .int .u32 0]), Posts.is (.bool (true)), Posts.is (.bool (true)), Posts.is (.bool (true)), Posts.is (.string ST), Posts.is (.string S), Posts.is (.bool (true)), Posts.is (.bool ((true == true))), Posts.is (.bool ((true == true))), (fun _ X => w.heap.size < X.heap.size ∧ X.heap[w.heap.size]? = some (.cells #[.int .u8 O, .int .u8 SZ, .int .u16 0, .int .u32 0] 32 (0, 0)))]) (fun _ _ => True) (by kernel_rfl) (by decide) (by kernel_rfl) (by kernel_rfl) (by kernel_rfl)
            (Posts.stable_at _ (by repeat' (first | exact trivial | (refine And.intro ?_ ?_) | exact Posts.is_stable _ | exact Posts.on_stable _ _ | assumption))) trivial ?_ ?_)
          · refine ⟨?_, ?_, ?_, ?_, ?_, ?_, ?_, ?_, ?_, ?_, ?_, trivial⟩
            · intro a X hX hS hD hJ hU
              obtain ⟨y0, y1, y2, y3⟩ := cells4' ((hX.block w2.heap.size (by rw [World.size_alloc]; omega) (by omega)).trans HNn.out)
              have d7 := Posts.slot (show a.eval (.tmp 7) = .pointer (some ⟨w2.heap.size, 0, none⟩) from hS.other 7 rfl)
              exact Posts.op_value (fun _ => trivial) rfl rfl (by intro c h; cases h) rfl (by rw [hS.size]; simp) (v := .agg #[.int .u8 O, .int .u8 SZ, .int .u16 0, .int .u32 0]) (by simp [execOp, d7, y0, y1, y2, y3, go_sem]) rfl (hE.refl _) trivial
            · intro a X hX hS hD hJ hU
              obtain ⟨y0, y1, y2, y3⟩ := cells4' ((hX.block w2.heap.size (by rw [World.size_alloc]; omega) (by omega)).trans HNn.out)
              have d7 := Posts.slot (show a.eval (.tmp 7) = .pointer (some ⟨w2.heap.size, 0, none⟩) from hS.other 7 rfl)
              exact Posts.op_value (fun _ => trivial) rfl rfl (by intro c h; cases h) rfl (by rw [hS.size]; simp) (v := .agg #[.int .u8 O, .int .u8 SZ, .int .u16 0, .int .u32 0]) (by simp [execOp, d7, y0, y1, y2, y3, go_sem]) rfl (hE.refl _) trivial
            · intro a X hX hS hD hJ hU
              obtain ⟨y0, y1, y2, y3⟩ := cells4' ((hX.block w2.heap.size (by rw [World.size_alloc]; omega) (by omega)).trans HNn.out)
              have d37 := Posts.slot (show a.eval (.tmp 37) = .agg #[.int .u8 O, .int .u8 SZ, .int .u16 0, .int .u32 0] from hD.1)
              refine Posts.op_call (fun _ => trivial) rfl rfl rfl (by intro c h; cases h) rfl (by rw [hS.size]; simp) 33 #[.agg #[.int .u8 O, .int .u8 SZ, .int .u16 0, .int .u32 0]] (by simp [execOp, d37, go_sem]) ?_
              refine callsIn_wide.2 ((HMy.out X (hX.below HBw.out (by rw [World.size_alloc]; omega))).mono ?_)
              rintro e Y ⟨rfl, hb⟩
              exact ⟨_, rfl, rfl, EK.of hb, trivial⟩
            · intro a X hX hS hD hJ hU
              obtain ⟨y0, y1, y2, y3⟩ := cells4' ((hX.block w2.heap.size (by rw [World.size_alloc]; omega) (by omega)).trans HNn.out)
              have d38 := Posts.slot (show a.eval (.tmp 38) = .bool (true) from hD.1)
              exact Posts.op_value (fun _ => trivial) rfl rfl (by intro c h; cases h) rfl (by rw [hS.size]; simp) (v := .bool (true)) (by simp [execOp, d38,  go_sem]) rfl (hE.refl _) trivial
            · intro a X hX hS hD hJ hU
              obtain ⟨y0, y1, y2, y3⟩ := cells4' ((hX.block w2.heap.size (by rw [World.size_alloc]; omega) (by omega)).trans HNn.out)
              have d8 := Posts.slot (show a.eval (.tmp 8) = .bool (true) from hS.other 8 rfl)
              exact Posts.op_value (fun _ => trivial) rfl (Posts.wanted_yes rfl rfl rfl (show a.eval (.tmp 39) = .bool true from hD.1)) (by intro c h; cases h) rfl (by rw [hS.size]; simp) (v := .bool (true)) (by simp [execOp, d8,  go_sem]) rfl (hE.refl _) trivial
            · intro a X hX hS hD hJ hU
              obtain ⟨y0, y1, y2, y3⟩ := cells4' ((hX.block w2.heap.size (by rw [World.size_alloc]; omega) (by omega)).trans HNn.out)
              have d4 := Posts.slot (show a.eval (.tmp 4) = .string ST from hS.other 4 rfl)
              exact Posts.op_value (fun _ => trivial) rfl (Posts.wanted_yes rfl rfl rfl (show a.eval (.tmp 39) = .bool true from hD.1)) (by intro c h; cases h) rfl (by rw [hS.size]; simp) (v := .string ST) (by simp [execOp, d4,  go_sem]) rfl (hE.refl _) trivial
            · intro a X hX hS hD hJ hU
              obtain ⟨y0, y1, y2, y3⟩ := cells4' ((hX.block w2.heap.size (by rw [World.size_alloc]; omega) (by omega)).trans HNn.out)
              have d0 := Posts.slot (show a.eval (.tmp 0) = .string S from hS.other 0 rfl)
              exact Posts.op_value (fun _ => trivial) rfl (Posts.wanted_yes rfl rfl rfl (show a.eval (.tmp 39) = .bool true from hD.1)) (by intro c h; cases h) rfl (by rw [hS.size]; simp) (v := .string S) (by simp [execOp, d0,  go_sem]) rfl (hE.refl _) trivial
            · intro a X hX hS hD hJ hU
              obtain ⟨y0, y1, y2, y3⟩ := cells4' ((hX.block w2.heap.size (by rw [World.size_alloc]; omega) (by omega)).trans HNn.out)
              have d41 := Posts.slot (show a.eval (.tmp 41) = .string ST from hD.1)
              have d42 := Posts.slot (show a.eval (.tmp 42) = .string S from hD.2.1)
              exact Posts.op_value (fun _ => trivial) rfl (Posts.wanted_yes rfl rfl rfl (show a.eval (.tmp 39) = .bool true from hD.2.2.1)) (by intro c h; cases h) rfl (by rw [hS.size]; simp) (v := .bool (true)) (by simp [execOp, d41, d42, hne, go_sem]) rfl (hE.refl _) trivial
            · intro a X hX hS hD hJ hU
              obtain ⟨y0, y1, y2, y3⟩ := cells4' ((hX.block w2.heap.size (by rw [World.size_alloc]; omega) (by omega)).trans HNn.out)
              have d40 := Posts.slot (show a.eval (.tmp 40) = .bool (true) from hD.1)
              have d43 := Posts.slot (show a.eval (.tmp 43) = .bool (true) from hD.2.1)
              exact Posts.op_value (fun _ => trivial) rfl (Posts.wanted_yes rfl rfl rfl (show a.eval (.tmp 39) = .bool true from hD.2.2.1)) (by intro c h; cases h) rfl (by rw [hS.size]; simp) (v := .bool ((true == true))) (by simp [execOp, d40, d43, go_sem]) rfl (hE.refl _) trivial
            · intro a X hX hS hD hJ hU
              obtain ⟨y0, y1, y2, y3⟩ := cells4' ((hX.block w2.heap.size (by rw [World.size_alloc]; omega) (by omega)).trans HNn.out)
              have d39 := Posts.slot (show a.eval (.tmp 39) = .bool (true) from hD.1)
              have d44 : a.tmps[44]?.getD undef = .bool ((true == true)) := by
                have hbind := hD
                exact Posts.slot (show a.eval (.tmp 44) = .bool ((true == true)) from hD.2.1)
              exact Posts.op_value (fun _ => trivial) rfl rfl (by intro c h; cases h) rfl (by rw [hS.size]; simp) (v := .bool ((true == true))) (by simp [execOp, d39, d44, go_sem]) rfl (hE.refl _) trivial
            · intro a X hX hS hD hJ hU
              obtain ⟨y0, y1, y2, y3⟩ := cells4' ((hX.block w2.heap.size (by rw [World.size_alloc]; omega) (by omega)).trans HNn.out)
              have d2 := Posts.slot (show a.eval (.tmp 2) = .pointer (some ⟨w.heap.size, 0, none⟩) from hS.other 2 rfl)
              have d36 := Posts.slot (show a.eval (.tmp 36) = .agg #[.int .u8 O, .int .u8 SZ, .int .u16 0, .int .u32 0] from hD.1)
              have hR0 : ∃ u0 u1 u2 u3, X.heap[w.heap.size]? = some (.cells #[u0, u1, u2, u3] 32 (0, 0)) := by
                rcases hX.own (by rw [World.size_alloc]; omega) with e | e
                · exact ⟨_, _, _, _, e.trans HRn.out⟩
                · exact ⟨_, _, _, _, e⟩
              obtain ⟨u0, u1, u2, u3, hz⟩ := hR0
              obtain ⟨z0, z1, z2, z3⟩ := cells4' hz
              have f0 : X.frozen? ⟨w.heap.size, 0, none⟩ = false := by simp [World.frozen?, hz]
              have f1 : X.frozen? ⟨w.heap.size, 1, none⟩ = false := by simp [World.frozen?, hz]
              have f2 : X.frozen? ⟨w.heap.size, 2, none⟩ = false := by simp [World.frozen?, hz]
              have f3 : X.frozen? ⟨w.heap.size, 3, none⟩ = false := by simp [World.frozen?, hz]
              obtain ⟨hek, hfin⟩ := ek_store4 (v0 := .int .u8 O) (v1 := .int .u8 SZ) (v2 := .int .u16 0) (v3 := .int .u32 0) hz
              exact Posts.op_done (fun _ => trivial) rfl rfl (by intro c h; cases h) (Y := ((((X.setCell ⟨w.heap.size, 0, none⟩ (.int .u8 O)).setCell ⟨w.heap.size, 1, none⟩ (.int .u8 SZ)).setCell ⟨w.heap.size, 2, none⟩ (.int .u16 0)).setCell ⟨w.heap.size, 3, none⟩ (.int .u32 0))) (by simp [execOp, d2, d36, z0, z1, z2, z3, f0, f1, f2, f3, go_sem]) ⟨⟨⟨undef, rfl⟩, ⟨Nat.lt_of_lt_of_le (lt_of_block hz) hek.size, hfin⟩, hek⟩, trivial⟩
          · intro a0 Y hY hS hJt hL
            have p36 := Posts.slot (show a0.eval (.tmp 36) = .agg #[.int .u8 O, .int .u8 SZ, .int .u16 0, .int .u32 0] from hL.1)
            have p37 := Posts.slot (show a0.eval (.tmp 37) = .agg #[.int .u8 O, .int .u8 SZ, .int .u16 0, .int .u32 0] from hL.2.1)
            have p38 := Posts.slot (show a0.eval (.tmp 38) = .bool (true) from hL.2.2.1)
            have p39 := Posts.slot (show a0.eval (.tmp 39) = .bool (true) from hL.2.2.2.1)
            have p40 := Posts.slot (show a0.eval (.tmp 40) = .bool (true) from hL.2.2.2.2.1)
            have p41 := Posts.slot (show a0.eval (.tmp 41) = .string ST from hL.2.2.2.2.2.1)
            have p42 := Posts.slot (show a0.eval (.tmp 42) = .string S from hL.2.2.2.2.2.2.1)
            have p43 := Posts.slot (show a0.eval (.tmp 43) = .bool (true) from hL.2.2.2.2.2.2.2.1)
            have p44 := Posts.slot (show a0.eval (.tmp 44) = .bool ((true == true)) from hL.2.2.2.2.2.2.2.2.1)
            have p45 := Posts.slot (show a0.eval (.tmp 45) = .bool ((true == true)) from hL.2.2.2.2.2.2.2.2.2.1)
            have p_10 := (show _ from hL.2.2.2.2.2.2.2.2.2.2.1)
            have hfr := hS.frame [36, 37, 38, 39, 40, 41, 42, 43, 44, 45, 3] (fun t ht => by simp [Posts.isDst] at ht; first | (rcases ht with h | h | h | h | h | h | h | h | h | h | h <;> subst h <;> simp) | (subst ht; simp))
            simp only [List.foldl_cons, List.foldl_nil] at hfr
            have hdf := hS.defers
            simp only [Array.getD_eq_getD_getElem?] at hfr
            clear hL hS
            generalize a0.tmps[36]?.getD undef = v36 at *
            generalize a0.tmps[37]?.getD undef = v37 at *
            generalize a0.tmps[38]?.getD undef = v38 at *
            generalize a0.tmps[39]?.getD undef = v39 at *
            generalize a0.tmps[40]?.getD undef = v40 at *
            generalize a0.tmps[41]?.getD undef = v41 at *
            generalize a0.tmps[42]?.getD undef = v42 at *
            generalize a0.tmps[43]?.getD undef = v43 at *
            generalize a0.tmps[44]?.getD undef = v44 at *
            generalize a0.tmps[45]?.getD undef = v45 at *
            generalize a0.tmps[3]?.getD undef = v3 at *
            obtain rfl := p36
            obtain rfl := p37
            obtain rfl := p38
            obtain rfl := p39
            obtain rfl := p40
            obtain rfl := p41
            obtain rfl := p42
            obtain rfl := p43
            obtain rfl := p44
            obtain rfl := p45
            obtain ⟨tm, df⟩ := a0
            simp only [List.setIfInBounds_toArray, List.set_cons_succ, List.set_cons_zero] at hfr hdf
            subst hfr
            subst hdf
            refine Posts.tail_op 11 (by kernel_rfl) (Posts.op_val (fun _ => trivial) rfl rfl (by intro c h; cases h) (v := .bool ((true == true))) (Y := Y) (by simp [execOp, Act.eval, go_sem]) ?_)
            refine ⟨by kernel_rfl, ?_⟩
            simp only [Exit.inBlock, Exit.then]
            rename_i hK
            refine hK _ _ ?_
            obtain ⟨d0, d1, d2, d3⟩ := cells4' p_10.2
            have HYb := Lib.hid (hY.below HBw.out (by rw [World.size_alloc]; omega))
            clear p_10 hY
            go_wp2_with fail
            refine bodyPost_ret (v := .tuple #[.agg #[.int .u8 O, .int .u8 SZ, .int .u16 0, .int .u32 0], .bool ((true == true))]) (by simp [results, Tryz.f86, go_sem, d0, d1, d2, d3]) rfl ?_
            exact HPost.out _ _ (by rw [HB2.out]; simp) HYb.out
    · 
      cases M
      · go_upto_region 7 with fail
        refine (wpIn_wide (n := 0)).1 (Posts.wpIn_region_tail hE 11 0 (Posts.At [Posts.is (.agg #[.int .u8 O, .int .u8 SZ, .int .u16 0, .int .u32 0]), Posts.is (.agg #[.int .u8 O, .int .u8 SZ, .int .u16 0, .int .u32 0]), Posts.is (.bool (false)), Posts.is (.bool (false)), Posts.is (undef), Posts.is (undef), Posts.is (undef), Posts.is (undef), Posts.is (undef), Posts.is (.bool (false)), (fun _ X => w.heap.size < X.heap.size ∧ X.heap[w.heap.size]? = some (.cells #[.int .u8 O, .int .u8 SZ, .int .u16 0, .int .u32 0] 32 (0, 0)))]) (fun _ _ => True) (by kernel_rfl) (by decide) (by kernel_rfl) (by kernel_rfl) (by kernel_rfl)
          (Posts.stable_at _ (by repeat' (first | exact trivial | (refine And.intro ?_ ?_) | exact Posts.is_stable _ | exact Posts.on_stable _ _ | assumption))) trivial ?_ ?_)
        · refine ⟨?_, ?_, ?_, ?_, ?_, ?_, ?_, ?_, ?_, ?_, ?_, trivial⟩
          · intro a X hX hS hD hJ hU
            obtain ⟨y0, y1, y2, y3⟩ := cells4' ((hX.block w2.heap.size (by rw [World.size_alloc]; omega) (by omega)).trans HNn.out)
            have d7 := Posts.slot (show a.eval (.tmp 7) = .pointer (some ⟨w2.heap.size, 0, none⟩) from hS.other 7 rfl)
            exact Posts.op_value (fun _ => trivial) rfl rfl (by intro c h; cases h) rfl (by rw [hS.size]; simp) (v := .agg #[.int .u8 O, .int .u8 SZ, .int .u16 0, .int .u32 0]) (by simp [execOp, d7, y0, y1, y2, y3, go_sem]) rfl (hE.refl _) trivial
          · intro a X hX hS hD hJ hU
            obtain ⟨y0, y1, y2, y3⟩ := cells4' ((hX.block w2.heap.size (by rw [World.size_alloc]; omega) (by omega)).trans HNn.out)
            have d7 := Posts.slot (show a.eval (.tmp 7) = .pointer (some ⟨w2.heap.size, 0, none⟩) from hS.other 7 rfl)
            exact Posts.op_value (fun _ => trivial) rfl rfl (by intro c h; cases h) rfl (by rw [hS.size]; simp) (v := .agg #[.int .u8 O, .int .u8 SZ, .int .u16 0, .int .u32 0]) (by simp [execOp, d7, y0, y1, y2, y3, go_sem]) rfl (hE.refl _) trivial
          · intro a X hX hS hD hJ hU
            obtain ⟨y0, y1, y2, y3⟩ := cells4' ((hX.block w2.heap.size (by rw [World.size_alloc]; omega) (by omega)).trans HNn.out)
            have d37 := Posts.slot (show a.eval (.tmp 37) = .agg #[.int .u8 O, .int .u8 SZ, .int .u16 0, .int .u32 0] from hD.1)
            refine Posts.op_call (fun _ => trivial) rfl rfl rfl (by intro c h; cases h) rfl (by rw [hS.size]; simp) 33 #[.agg #[.int .u8 O, .int .u8 SZ, .int .u16 0, .int .u32 0]] (by simp [execOp, d37, go_sem]) ?_
            refine callsIn_wide.2 ((HMy.out X (hX.below HBw.out (by rw [World.size_alloc]; omega))).mono ?_)
            rintro e Y ⟨rfl, hb⟩
            exact ⟨_, rfl, rfl, EK.of hb, trivial⟩
          · intro a X hX hS hD hJ hU
            obtain ⟨y0, y1, y2, y3⟩ := cells4' ((hX.block w2.heap.size (by rw [World.size_alloc]; omega) (by omega)).trans HNn.out)
            have d38 := Posts.slot (show a.eval (.tmp 38) = .bool (false) from hD.1)
            exact Posts.op_value (fun _ => trivial) rfl rfl (by intro c h; cases h) rfl (by rw [hS.size]; simp) (v := .bool (false)) (by simp [execOp, d38,  go_sem]) rfl (hE.refl _) trivial
          · intro a X hX hS hD hJ hU
            exact Posts.op_skip hE (fun _ => trivial) rfl (Posts.wanted_no rfl rfl rfl (show a.eval (.tmp 39) = .bool !true from hD.1)) rfl (by rw [hS.size]; simp) rfl trivial
          · intro a X hX hS hD hJ hU
            exact Posts.op_skip hE (fun _ => trivial) rfl (Posts.wanted_no rfl rfl rfl (show a.eval (.tmp 39) = .bool !true from hD.1)) rfl (by rw [hS.size]; simp) rfl trivial
          · intro a X hX hS hD hJ hU
            exact Posts.op_skip hE (fun _ => trivial) rfl (Posts.wanted_no rfl rfl rfl (show a.eval (.tmp 39) = .bool !true from hD.1)) rfl (by rw [hS.size]; simp) rfl trivial
          · intro a X hX hS hD hJ hU
            exact Posts.op_skip hE (fun _ => trivial) rfl (Posts.wanted_no rfl rfl rfl (show a.eval (.tmp 39) = .bool !true from hD.2.2.1)) rfl (by rw [hS.size]; simp) rfl trivial
          · intro a X hX hS hD hJ hU
            exact Posts.op_skip hE (fun _ => trivial) rfl (Posts.wanted_no rfl rfl rfl (show a.eval (.tmp 39) = .bool !true from hD.2.2.1)) rfl (by rw [hS.size]; simp) rfl trivial
          · intro a X hX hS hD hJ hU
            obtain ⟨y0, y1, y2, y3⟩ := cells4' ((hX.block w2.heap.size (by rw [World.size_alloc]; omega) (by omega)).trans HNn.out)
            have d39 := Posts.slot (show a.eval (.tmp 39) = .bool (false) from hD.1)
            exact Posts.op_value (fun _ => trivial) rfl rfl (by intro c h; cases h) rfl (by rw [hS.size]; simp) (v := .bool (false)) (by simp [execOp, d39, go_sem]) rfl (hE.refl _) trivial
          · intro a X hX hS hD hJ hU
            obtain ⟨y0, y1, y2, y3⟩ := cells4' ((hX.block w2.heap.size (by rw [World.size_alloc]; omega) (by omega)).trans HNn.out)
            have d2 := Posts.slot (show a.eval (.tmp 2) = .pointer (some ⟨w.heap.size, 0, none⟩) from hS.other 2 rfl)
            have d36 := Posts.slot (show a.eval (.tmp 36) = .agg #[.int .u8 O, .int .u8 SZ, .int .u16 0, .int .u32 0] from hD.1)
            have hR0 : ∃ u0 u1 u2 u3, X.heap[w.heap.size]? = some (.cells #[u0, u1, u2, u3] 32 (0, 0)) := by
              rcases hX.own (by rw [World.size_alloc]; omega) with e | e
              · exact ⟨_, _, _, _, e.trans HRn.out⟩
              · exact ⟨_, _, _, _, e⟩
            obtain ⟨u0, u1, u2, u3, hz⟩ := hR0
            obtain ⟨z0, z1, z2, z3⟩ := cells4' hz
            have f0 : X.frozen? ⟨w.heap.size, 0, none⟩ = false := by simp [World.frozen?, hz]
            have f1 : X.frozen? ⟨w.heap.size, 1, none⟩ = false := by simp [World.frozen?, hz]
            have f2 : X.frozen? ⟨w.heap.size, 2, none⟩ = false := by simp [World.frozen?, hz]
            have f3 : X.frozen? ⟨w.heap.size, 3, none⟩ = false := by simp [World.frozen?, hz]
            obtain ⟨hek, hfin⟩ := ek_store4 (v0 := .int .u8 O) (v1 := .int .u8 SZ) (v2 := .int .u16 0) (v3 := .int .u32 0) hz
            exact Posts.op_done (fun _ => trivial) rfl rfl (by intro c h; cases h) (Y := ((((X.setCell ⟨w.heap.size, 0, none⟩ (.int .u8 O)).setCell ⟨w.heap.size, 1, none⟩ (.int .u8 SZ)).setCell ⟨w.heap.size, 2, none⟩ (.int .u16 0)).setCell ⟨w.heap.size, 3, none⟩ (.int .u32 0))) (by simp [execOp, d2, d36, z0, z1, z2, z3, f0, f1, f2, f3, go_sem]) ⟨⟨⟨undef, rfl⟩, ⟨Nat.lt_of_lt_of_le (lt_of_block hz) hek.size, hfin⟩, hek⟩, trivial⟩
        · intro a0 Y hY hS hJt hL
          have p36 := Posts.slot (show a0.eval (.tmp 36) = .agg #[.int .u8 O, .int .u8 SZ, .int .u16 0, .int .u32 0] from hL.1)
          have p37 := Posts.slot (show a0.eval (.tmp 37) = .agg #[.int .u8 O, .int .u8 SZ, .int .u16 0, .int .u32 0] from hL.2.1)
          have p38 := Posts.slot (show a0.eval (.tmp 38) = .bool (false) from hL.2.2.1)
          have p39 := Posts.slot (show a0.eval (.tmp 39) = .bool (false) from hL.2.2.2.1)
          have p40 := Posts.slot (show a0.eval (.tmp 40) = undef from hL.2.2.2.2.1)
          have p41 := Posts.slot (show a0.eval (.tmp 41) = undef from hL.2.2.2.2.2.1)
          have p42 := Posts.slot (show a0.eval (.tmp 42) = undef from hL.2.2.2.2.2.2.1)
          have p43 := Posts.slot (show a0.eval (.tmp 43) = undef from hL.2.2.2.2.2.2.2.1)
          have p44 := Posts.slot (show a0.eval (.tmp 44) = undef from hL.2.2.2.2.2.2.2.2.1)
          have p45 := Posts.slot (show a0.eval (.tmp 45) = .bool (false) from hL.2.2.2.2.2.2.2.2.2.1)
          have p_10 := (show _ from hL.2.2.2.2.2.2.2.2.2.2.1)
          have hfr := hS.frame [36, 37, 38, 39, 40, 41, 42, 43, 44, 45, 3] (fun t ht => by simp [Posts.isDst] at ht; first | (rcases ht with h | h | h | h | h | h | h | h | h | h | h <;> subst h <;> simp) | (subst ht; simp))
          simp only [List.foldl_cons, List.foldl_nil] at hfr
          have hdf := hS.defers
          simp only [Array.getD_eq_getD_getElem?] at hfr
          clear hL hS
          generalize a0.tmps[36]?.getD undef = v36 at *
          generalize a0.tmps[37]?.getD undef = v37 at *
          generalize a0.tmps[38]?.getD undef = v38 at *
          generalize a0.tmps[39]?.getD undef = v39 at *
          generalize a0.tmps[40]?.getD undef = v40 at *
          generalize a0.tmps[41]?.getD undef = v41 at *
          generalize a0.tmps[42]?.getD undef = v42 at *
          generalize a0.tmps[43]?.getD undef = v43 at *
          generalize a0.tmps[44]?.getD undef = v44 at *
          generalize a0.tmps[45]?.getD undef = v45 at *
          generalize a0.tmps[3]?.getD undef = v3 at *
          obtain rfl := p36
          obtain rfl := p37
          obtain rfl := p38
          obtain rfl := p39
          obtain rfl := p40
          obtain rfl := p41
          obtain rfl := p42
          obtain rfl := p43
          obtain rfl := p44
          obtain rfl := p45
          obtain ⟨tm, df⟩ := a0
          simp only [List.setIfInBounds_toArray, List.set_cons_succ, List.set_cons_zero] at hfr hdf
          subst hfr
          subst hdf
          refine Posts.tail_op 11 (by kernel_rfl) (Posts.op_val (fun _ => trivial) rfl rfl (by intro c h; cases h) (v := .bool (false)) (Y := Y) (by simp [execOp, Act.eval, go_sem]) ?_)
          refine ⟨by kernel_rfl, ?_⟩
          simp only [Exit.inBlock, Exit.then]
          rename_i hK
          refine hK _ _ ?_
          obtain ⟨d0, d1, d2, d3⟩ := cells4' p_10.2
          have HYb := Lib.hid (hY.below HBw.out (by rw [World.size_alloc]; omega))
          clear p_10 hY
          go_wp2_with fail
          refine bodyPost_ret (v := .tuple #[.agg #[.int .u8 O, .int .u8 SZ, .int .u16 0, .int .u32 0], .bool (false)]) (by simp [results, Tryz.f86, go_sem, d0, d1, d2, d3]) rfl ?_
          exact HPost.out _ _ (by rw [HB2.out]; simp) HYb.out
      · go_upto_region 7 with fail
        refine (wpIn_wide (n := 0)).1 (Posts.wpIn_region_tail hE 11 0 (Posts.At [Posts.is (.agg #[.int .u8 O, .int .u8 SZ, .int .u16 0, .int .u32 0]), Posts.is (.agg #[.int .u8 O, .int .u8 SZ, .int .u16 0, .int .u32 0]), Posts.is (.bool (true)), Posts.is (.bool (true)), Posts.is (.bool (true)), Posts.is (.string ST), Posts.is (.string S), Posts.is (.bool (true)), Posts.is (.bool ((true == true))), Posts.is (.bool ((true == true))), (fun _ X => w.heap.size < X.heap.size ∧ X.heap[w.heap.size]? = some (.cells #[.int .u8 O, .int .u8 SZ, .int .u16 0, .int .u32 0] 32 (0, 0)))]) (fun _ _ => True) (by kernel_rfl) (by decide) (by kernel_rfl) (by kernel_rfl) (by kernel_rfl)
          (Posts.stable_at _ (by repeat' (first | exact trivial | (refine And.intro ?_ ?_) | exact Posts.is_stable _ | exact Posts.on_stable _ _ | assumption))) trivial ?_ ?_)
        · refine ⟨?_, ?_, ?_, ?_, ?_, ?_, ?_, ?_, ?_, ?_, ?_, trivial⟩
          · intro a X hX hS hD hJ hU
            obtain ⟨y0, y1, y2, y3⟩ := cells4' ((hX.block w2.heap.size (by rw [World.size_alloc]; omega) (by omega)).trans HNn.out)
            have d7 := Posts.slot (show a.eval (.tmp 7) = .pointer (some ⟨w2.heap.size, 0, none⟩) from hS.other 7 rfl)
            exact Posts.op_value (fun _ => trivial) rfl rfl (by intro c h; cases h) rfl (by rw [hS.size]; simp) (v := .agg #[.int .u8 O, .int .u8 SZ, .int .u16 0, .int .u32 0]) (by simp [execOp, d7, y0, y1, y2, y3, go_sem]) rfl (hE.refl _) trivial
          · intro a X hX hS hD hJ hU
            obtain ⟨y0, y1, y2, y3⟩ := cells4' ((hX.block w2.heap.size (by rw [World.size_alloc]; omega) (by omega)).trans HNn.out)
            have d7 := Posts.slot (show a.eval (.tmp 7) = .pointer (some ⟨w2.heap.size, 0, none⟩) from hS.other 7 rfl)
            exact Posts.op_value (fun _ => trivial) rfl rfl (by intro c h; cases h) rfl (by rw [hS.size]; simp) (v := .agg #[.int .u8 O, .int .u8 SZ, .int .u16 0, .int .u32 0]) (by simp [execOp, d7, y0, y1, y2, y3, go_sem]) rfl (hE.refl _) trivial
          · intro a X hX hS hD hJ hU
            obtain ⟨y0, y1, y2, y3⟩ := cells4' ((hX.block w2.heap.size (by rw [World.size_alloc]; omega) (by omega)).trans HNn.out)
            have d37 := Posts.slot (show a.eval (.tmp 37) = .agg #[.int .u8 O, .int .u8 SZ, .int .u16 0, .int .u32 0] from hD.1)
            refine Posts.op_call (fun _ => trivial) rfl rfl rfl (by intro c h; cases h) rfl (by rw [hS.size]; simp) 33 #[.agg #[.int .u8 O, .int .u8 SZ, .int .u16 0, .int .u32 0]] (by simp [execOp, d37, go_sem]) ?_
            refine callsIn_wide.2 ((HMy.out X (hX.below HBw.out (by rw [World.size_alloc]; omega))).mono ?_)
            rintro e Y ⟨rfl, hb⟩
            exact ⟨_, rfl, rfl, EK.of hb, trivial⟩
          · intro a X hX hS hD hJ hU
            obtain ⟨y0, y1, y2, y3⟩ := cells4' ((hX.block w2.heap.size (by rw [World.size_alloc]; omega) (by omega)).trans HNn.out)
            have d38 := Posts.slot (show a.eval (.tmp 38) = .bool (true) from hD.1)
            exact Posts.op_value (fun _ => trivial) rfl rfl (by intro c h; cases h) rfl (by rw [hS.size]; simp) (v := .bool (true)) (by simp [execOp, d38,  go_sem]) rfl (hE.refl _) trivial
          · intro a X hX hS hD hJ hU
            obtain ⟨y0, y1, y2, y3⟩ := cells4' ((hX.block w2.heap.size (by rw [World.size_alloc]; omega) (by omega)).trans HNn.out)
            have d8 := Posts.slot (show a.eval (.tmp 8) = .bool (true) from hS.other 8 rfl)
            exact Posts.op_value (fun _ => trivial) rfl (Posts.wanted_yes rfl rfl rfl (show a.eval (.tmp 39) = .bool true from hD.1)) (by intro c h; cases h) rfl (by rw [hS.size]; simp) (v := .bool (true)) (by simp [execOp, d8,  go_sem]) rfl (hE.refl _) trivial
          · intro a X hX hS hD hJ hU
            obtain ⟨y0, y1, y2, y3⟩ := cells4' ((hX.block w2.heap.size (by rw [World.size_alloc]; omega) (by omega)).trans HNn.out)
            have d4 := Posts.slot (show a.eval (.tmp 4) = .string ST from hS.other 4 rfl)
            exact Posts.op_value (fun _ => trivial) rfl (Posts.wanted_yes rfl rfl rfl (show a.eval (.tmp 39) = .bool true from hD.1)) (by intro c h; cases h) rfl (by rw [hS.size]; simp) (v := .string ST) (by simp [execOp, d4,  go_sem]) rfl (hE.refl _) trivial
          · intro a X hX hS hD hJ hU
            obtain ⟨y0, y1, y2, y3⟩ := cells4' ((hX.block w2.heap.size (by rw [World.size_alloc]; omega) (by omega)).trans HNn.out)
            have d0 := Posts.slot (show a.eval (.tmp 0) = .string S from hS.other 0 rfl)
            exact Posts.op_value (fun _ => trivial) rfl (Posts.wanted_yes rfl rfl rfl (show a.eval (.tmp 39) = .bool true from hD.1)) (by intro c h; cases h) rfl (by rw [hS.size]; simp) (v := .string S) (by simp [execOp, d0,  go_sem]) rfl (hE.refl _) trivial
          · intro a X hX hS hD hJ hU
            obtain ⟨y0, y1, y2, y3⟩ := cells4' ((hX.block w2.heap.size (by rw [World.size_alloc]; omega) (by omega)).trans HNn.out)
            have d41 := Posts.slot (show a.eval (.tmp 41) = .string ST from hD.1)
            have d42 := Posts.slot (show a.eval (.tmp 42) = .string S from hD.2.1)
            exact Posts.op_value (fun _ => trivial) rfl (Posts.wanted_yes rfl rfl rfl (show a.eval (.tmp 39) = .bool true from hD.2.2.1)) (by intro c h; cases h) rfl (by rw [hS.size]; simp) (v := .bool (true)) (by simp [execOp, d41, d42, hne, go_sem]) rfl (hE.refl _) trivial
          · intro a X hX hS hD hJ hU
            obtain ⟨y0, y1, y2, y3⟩ := cells4' ((hX.block w2.heap.size (by rw [World.size_alloc]; omega) (by omega)).trans HNn.out)
            have d40 := Posts.slot (show a.eval (.tmp 40) = .bool (true) from hD.1)
            have d43 := Posts.slot (show a.eval (.tmp 43) = .bool (true) from hD.2.1)
            exact Posts.op_value (fun _ => trivial) rfl (Posts.wanted_yes rfl rfl rfl (show a.eval (.tmp 39) = .bool true from hD.2.2.1)) (by intro c h; cases h) rfl (by rw [hS.size]; simp) (v := .bool ((true == true))) (by simp [execOp, d40, d43, go_sem]) rfl (hE.refl _) trivial
          · intro a X hX hS hD hJ hU
            obtain ⟨y0, y1, y2, y3⟩ := cells4' ((hX.block w2.heap.size (by rw [World.size_alloc]; omega) (by omega)).trans HNn.out)
            have d39 := Posts.slot (show a.eval (.tmp 39) = .bool (true) from hD.1)
            have d44 : a.tmps[44]?.getD undef = .bool ((true == true)) := by
              have hbind := hD
              exact Posts.slot (show a.eval (.tmp 44) = .bool ((true == true)) from hD.2.1)
            exact Posts.op_value (fun _ => trivial) rfl rfl (by intro c h; cases h) rfl (by rw [hS.size]; simp) (v := .bool ((true == true))) (by simp [execOp, d39, d44, go_sem]) rfl (hE.refl _) trivial
          · intro a X hX hS hD hJ hU
            obtain ⟨y0, y1, y2, y3⟩ := cells4' ((hX.block w2.heap.size (by rw [World.size_alloc]; omega) (by omega)).trans HNn.out)
            have d2 := Posts.slot (show a.eval (.tmp 2) = .pointer (some ⟨w.heap.size, 0, none⟩) from hS.other 2 rfl)
            have d36 := Posts.slot (show a.eval (.tmp 36) = .agg #[.int .u8 O, .int .u8 SZ, .int .u16 0, .int .u32 0] from hD.1)
            have hR0 : ∃ u0 u1 u2 u3, X.heap[w.heap.size]? = some (.cells #[u0, u1, u2, u3] 32 (0, 0)) := by
              rcases hX.own (by rw [World.size_alloc]; omega) with e | e
              · exact ⟨_, _, _, _, e.trans HRn.out⟩
              · exact ⟨_, _, _, _, e⟩
            obtain ⟨u0, u1, u2, u3, hz⟩ := hR0
            obtain ⟨z0, z1, z2, z3⟩ := cells4' hz
            have f0 : X.frozen? ⟨w.heap.size, 0, none⟩ = false := by simp [World.frozen?, hz]
            have f1 : X.frozen? ⟨w.heap.size, 1, none⟩ = false := by simp [World.frozen?, hz]
            have f2 : X.frozen? ⟨w.heap.size, 2, none⟩ = false := by simp [World.frozen?, hz]
            have f3 : X.frozen? ⟨w.heap.size, 3, none⟩ = false := by simp [World.frozen?, hz]
            obtain ⟨hek, hfin⟩ := ek_store4 (v0 := .int .u8 O) (v1 := .int .u8 SZ) (v2 := .int .u16 0) (v3 := .int .u32 0) hz
            exact Posts.op_done (fun _ => trivial) rfl rfl (by intro c h; cases h) (Y := ((((X.setCell ⟨w.heap.size, 0, none⟩ (.int .u8 O)).setCell ⟨w.heap.size, 1, none⟩ (.int .u8 SZ)).setCell ⟨w.heap.size, 2, none⟩ (.int .u16 0)).setCell ⟨w.heap.size, 3, none⟩ (.int .u32 0))) (by simp [execOp, d2, d36, z0, z1, z2, z3, f0, f1, f2, f3, go_sem]) ⟨⟨⟨undef, rfl⟩, ⟨Nat.lt_of_lt_of_le (lt_of_block hz) hek.size, hfin⟩, hek⟩, trivial⟩
        · intro a0 Y hY hS hJt hL
          have p36 := Posts.slot (show a0.eval (.tmp 36) = .agg #[.int .u8 O, .int .u8 SZ, .int .u16 0, .int .u32 0] from hL.1)
          have p37 := Posts.slot (show a0.eval (.tmp 37) = .agg #[.int .u8 O, .int .u8 SZ, .int .u16 0, .int .u32 0] from hL.2.1)
          have p38 := Posts.slot (show a0.eval (.tmp 38) = .bool (true) from hL.2.2.1)
          have p39 := Posts.slot (show a0.eval (.tmp 39) = .bool (true) from hL.2.2.2.1)
          have p40 := Posts.slot (show a0.eval (.tmp 40) = .bool (true) from hL.2.2.2.2.1)
          have p41 := Posts.slot (show a0.eval (.tmp 41) = .string ST from hL.2.2.2.2.2.1)
          have p42 := Posts.slot (show a0.eval (.tmp 42) = .string S from hL.2.2.2.2.2.2.1)
          have p43 := Posts.slot (show a0.eval (.tmp 43) = .bool (true) from hL.2.2.2.2.2.2.2.1)
          have p44 := Posts.slot (show a0.eval (.tmp 44) = .bool ((true == true)) from hL.2.2.2.2.2.2.2.2.1)
          have p45 := Posts.slot (show a0.eval (.tmp 45) = .bool ((true == true)) from hL.2.2.2.2.2.2.2.2.2.1)
          have p_10 := (show _ from hL.2.2.2.2.2.2.2.2.2.2.1)
          have hfr := hS.frame [36, 37, 38, 39, 40, 41, 42, 43, 44, 45, 3] (fun t ht => by simp [Posts.isDst] at ht; first | (rcases ht with h | h | h | h | h | h | h | h | h | h | h <;> subst h <;> simp) | (subst ht; simp))
          simp only [List.foldl_cons, List.foldl_nil] at hfr
          have hdf := hS.defers
          simp only [Array.getD_eq_getD_getElem?] at hfr
          clear hL hS
          generalize a0.tmps[36]?.getD undef = v36 at *
          generalize a0.tmps[37]?.getD undef = v37 at *
          generalize a0.tmps[38]?.getD undef = v38 at *
          generalize a0.tmps[39]?.getD undef = v39 at *
          generalize a0.tmps[40]?.getD undef = v40 at *
          generalize a0.tmps[41]?.getD undef = v41 at *
          generalize a0.tmps[42]?.getD undef = v42 at *
          generalize a0.tmps[43]?.getD undef = v43 at *
          generalize a0.tmps[44]?.getD undef = v44 at *
          generalize a0.tmps[45]?.getD undef = v45 at *
          generalize a0.tmps[3]?.getD undef = v3 at *
          obtain rfl := p36
          obtain rfl := p37
          obtain rfl := p38
          obtain rfl := p39
          obtain rfl := p40
          obtain rfl := p41
          obtain rfl := p42
          obtain rfl := p43
          obtain rfl := p44
          obtain rfl := p45
          obtain ⟨tm, df⟩ := a0
          simp only [List.setIfInBounds_toArray, List.set_cons_succ, List.set_cons_zero] at hfr hdf
          subst hfr
          subst hdf
          refine Posts.tail_op 11 (by kernel_rfl) (Posts.op_val (fun _ => trivial) rfl rfl (by intro c h; cases h) (v := .bool ((true == true))) (Y := Y) (by simp [execOp, Act.eval, go_sem]) ?_)
          refine ⟨by kernel_rfl, ?_⟩
          simp only [Exit.inBlock, Exit.then]
          rename_i hK
          refine hK _ _ ?_
          obtain ⟨d0, d1, d2, d3⟩ := cells4' p_10.2
          have HYb := Lib.hid (hY.below HBw.out (by rw [World.size_alloc]; omega))
          clear p_10 hY
          go_wp2_with fail
          refine bodyPost_ret (v := .tuple #[.agg #[.int .u8 O, .int .u8 SZ, .int .u16 0, .int .u32 0], .bool ((true == true))]) (by simp [results, Tryz.f86, go_sem, d0, d1, d2, d3]) rfl ?_
          exact HPost.out _ _ (by rw [HB2.out]; simp) HYb.out
  | false =>
    rw [hd] at HStem HSize HB HDg
    simp only [Bool.false_eq_true, if_false] at HStem HSize
    have hne := sB_eq s s
    rw [decide_eq_true rfl] at hne
    have hle3 : ((s.length - 1 : Nat) : Int) < (s.length : Int) := by omega
    rw [HStem.out] at HOp
    rw [HSize.out] at HMay HPost
    clear hd hz hm hl1
    generalize hST : sB s = ST at *
    generalize s.length - 1 = L1 at *
    generalize s.length = L at *
    clear hST HStem HSize
    go_enter Tryz.func86, Tryz.ntmps86
    go_wp2_with fail
    refine (HDg.out _).mono ?_
    rintro e w1 ⟨rfl, hw1⟩
    subst w1
    clear hlt wl2 hle3 hle4 hle5 hsz
    go_wp2_with fail
    refine (HOp.out _ (Below.refl _ _)).mono ?_
    rintro e w2 ⟨rfl, hb2⟩
    have hb3 : Below (w.alloc (.cells #[.int .u8 0, .int .u8 0, .int .u16 0, .int .u32 0] 32)).heap.size (w.alloc (.cells #[.int .u8 0, .int .u8 0, .int .u16 0, .int .u32 0] 32)) w2 := hb2
    have hr2 := (hb3.block _ (by rw [World.size_alloc]; omega)).trans HR0.out
    have hn := alloc_new w2 (.cells #[.int .u8 O, .int .u8 0, .int .u16 0, .int .u32 0] 32)
    have HN := (Below.refl w2.heap.size w2).alloc (Nat.le_refl _) (.cells #[.int .u8 O, .int .u8 0, .int .u16 0, .int .u32 0] 32)
    have hr3 := (HN.block _ (lt_of_block hr2)).trans hr2
    have q1 : w.heap.size < w2.heap.size := lt_of_block hr2
    have HW3 := hb3.trans (HN.mono hb3.size)
    have HNn := Lib.hid hn
    have HRn := Lib.hid hr3
    have HBw := Lib.hid (HX.out.trans (HW3.mono HX.out.size))
    have HMy := HMay
    obtain ⟨b17, g17⟩ : ∃ b17, (O == 17) = b17 := ⟨_, rfl⟩
    obtain ⟨b18, g18⟩ : ∃ b18, (O == 18) = b18 := ⟨_, rfl⟩
    have HB2 : Hid (NB = (M && ((b17 || b18) == false))) := by show _ = _; rw [HB.out, g17, g18]
    have hE := ek_rel w.heap.size (.cells #[.int .u8 O, .int .u8 0, .int .u16 0, .int .u32 0] 32 (0, 0))
    have hES : Posts.Stable (EK w.heap.size (.cells #[.int .u8 O, .int .u8 0, .int .u16 0, .int .u32 0] 32 (0, 0))) (fun _ X => w.heap.size < X.heap.size ∧ X.heap[w.heap.size]? = some (.cells #[.int .u8 O, .int .u8 0, .int .u16 0, .int .u32 0] 32 (0, 0))) := EK.stable
    clear hb2 hb3 hr2 hn HN hr3 HW3 HB HOp HR0 HX
    cases b17
    · cases b18
      · 
        cases M
        · go_upto_region 7 with fail
          refine (wpIn_wide (n := 0)).1 (Posts.wpIn_region_tail hE 11 0 (Posts.At [Posts.is (.agg #[.int .u8 O, .int .u8 0, .int .u16 0, .int .u32 0]), Posts.is (.agg #[.int .u8 O, .int .u8 0, .int .u16 0, .int .u32 0]), Posts.is (.bool (false)), Posts.is (.bool (false)), Posts.is (undef), Posts.is (undef), Posts.is (undef), Posts.is (undef), Posts.is (undef), Posts.is (.bool (false)), (fun _ X => w.heap.size < X.heap.size ∧ X.heap[w.heap.size]? = some (.cells #[.int .u8 O, .int .u8 0, .int .u16 0, .int .u32 0] 32 (0, 0)))]) (fun _ _ => True) (by kernel_rfl) (by decide) (by kernel_rfl) (by kernel_rfl) (by kernel_rfl)
            (Posts.stable_at _ (by repeat' (first | exact trivial | (refine And.intro ?_ ?_) | exact Posts.is_stable _ | exact Posts.on_stable _ _ | assumption))) trivial ?_ ?_)
          · refine ⟨?_, ?_, ?_, ?_, ?_, ?_, ?_, ?_, ?_, ?_, ?_, trivial⟩
            · intro a X hX hS hD hJ hU
              obtain ⟨y0, y1, y2, y3⟩ := cells4' ((hX.block w2.heap.size (by rw [World.size_alloc]; omega) (by omega)).trans HNn.out)
              have d7 := Posts.slot (show a.eval (.tmp 7) = .pointer (some ⟨w2.heap.size, 0, none⟩) from hS.other 7 rfl)
              exact Posts.op_value (fun _ => trivial) rfl rfl (by intro c h; cases h) rfl (by rw [hS.size]; simp) (v := .agg #[.int .u8 O, .int .u8 0, .int .u16 0, .int .u32 0]) (by simp [execOp, d7, y0, y1, y2, y3, go_sem]) rfl (hE.refl _) trivial
            · intro a X hX hS hD hJ hU
              obtain ⟨y0, y1, y2, y3⟩ := cells4' ((hX.block w2.heap.size (by rw [World.size_alloc]; omega) (by omega)).trans HNn.out)
              have d7 := Posts.slot (show a.eval (.tmp 7) = .pointer (some ⟨w2.heap.size, 0, none⟩) from hS.other 7 rfl)
              exact Posts.op_value (fun _ => trivial) rfl rfl (by intro c h; cases h) rfl (by rw [hS.size]; simp) (v := .agg #[.int .u8 O, .int .u8 0, .int .u16 0, .int .u32 0]) (by simp [execOp, d7, y0, y1, y2, y3, go_sem]) rfl (hE.refl _) trivial
            · intro a X hX hS hD hJ hU
              obtain ⟨y0, y1, y2, y3⟩ := cells4' ((hX.block w2.heap.size (by rw [World.size_alloc]; omega) (by omega)).trans HNn.out)
              have d37 := Posts.slot (show a.eval (.tmp 37) = .agg #[.int .u8 O, .int .u8 0, .int .u16 0, .int .u32 0] from hD.1)
              refine Posts.op_call (fun _ => trivial) rfl rfl rfl (by intro c h; cases h) rfl (by rw [hS.size]; simp) 33 #[.agg #[.int .u8 O, .int .u8 0, .int .u16 0, .int .u32 0]] (by simp [execOp, d37, go_sem]) ?_
              refine callsIn_wide.2 ((HMy.out X (hX.below HBw.out (by rw [World.size_alloc]; omega))).mono ?_)
              rintro e Y ⟨rfl, hb⟩
              exact ⟨_, rfl, rfl, EK.of hb, trivial⟩
            · intro a X hX hS hD hJ hU
              obtain ⟨y0, y1, y2, y3⟩ := cells4' ((hX.block w2.heap.size (by rw [World.size_alloc]; omega) (by omega)).trans HNn.out)
              have d38 := Posts.slot (show a.eval (.tmp 38) = .bool (false) from hD.1)
              exact Posts.op_value (fun _ => trivial) rfl rfl (by intro c h; cases h) rfl (by rw [hS.size]; simp) (v := .bool (false)) (by simp [execOp, d38,  go_sem]) rfl (hE.refl _) trivial
            · intro a X hX hS hD hJ hU
              exact Posts.op_skip hE (fun _ => trivial) rfl (Posts.wanted_no rfl rfl rfl (show a.eval (.tmp 39) = .bool !true from hD.1)) rfl (by rw [hS.size]; simp) rfl trivial
            · intro a X hX hS hD hJ hU
              exact Posts.op_skip hE (fun _ => trivial) rfl (Posts.wanted_no rfl rfl rfl (show a.eval (.tmp 39) = .bool !true from hD.1)) rfl (by rw [hS.size]; simp) rfl trivial
            · intro a X hX hS hD hJ hU
              exact Posts.op_skip hE (fun _ => trivial) rfl (Posts.wanted_no rfl rfl rfl (show a.eval (.tmp 39) = .bool !true from hD.1)) rfl (by rw [hS.size]; simp) rfl trivial
            · intro a X hX hS hD hJ hU
              exact Posts.op_skip hE (fun _ => trivial) rfl (Posts.wanted_no rfl rfl rfl (show a.eval (.tmp 39) = .bool !true from hD.2.2.1)) rfl (by rw [hS.size]; simp) rfl trivial
            · intro a X hX hS hD hJ hU
              exact Posts.op_skip hE (fun _ => trivial) rfl (Posts.wanted_no rfl rfl rfl (show a.eval (.tmp 39) = .bool !true from hD.2.2.1)) rfl (by rw [hS.size]; simp) rfl trivial
            · intro a X hX hS hD hJ hU
              obtain ⟨y0, y1, y2, y3⟩ := cells4' ((hX.block w2.heap.size (by rw [World.size_alloc]; omega) (by omega)).trans HNn.out)
              have d39 := Posts.slot (show a.eval (.tmp 39) = .bool (false) from hD.1)
              exact Posts.op_value (fun _ => trivial) rfl rfl (by intro c h; cases h) rfl (by rw [hS.size]; simp) (v := .bool (false)) (by simp [execOp, d39, go_sem]) rfl (hE.refl _) trivial
            · intro a X hX hS hD hJ hU
              obtain ⟨y0, y1, y2, y3⟩ := cells4' ((hX.block w2.heap.size (by rw [World.size_alloc]; omega) (by omega)).trans HNn.out)
              have d2 := Posts.slot (show a.eval (.tmp 2) = .pointer (some ⟨w.heap.size, 0, none⟩) from hS.other 2 rfl)
              have d36 := Posts.slot (show a.eval (.tmp 36) = .agg #[.int .u8 O, .int .u8 0, .int .u16 0, .int .u32 0] from hD.1)
              have hR0 : ∃ u0 u1 u2 u3, X.heap[w.heap.size]? = some (.cells #[u0, u1, u2, u3] 32 (0, 0)) := by
                rcases hX.own (by rw [World.size_alloc]; omega) with e | e
                · exact ⟨_, _, _, _, e.trans HRn.out⟩
                · exact ⟨_, _, _, _, e⟩
              obtain ⟨u0, u1, u2, u3, hz⟩ := hR0
              obtain ⟨z0, z1, z2, z3⟩ := cells4' hz
              have f0 : X.frozen? ⟨w.heap.size, 0, none⟩ = false := by simp [World.frozen?, hz]
              have f1 : X.frozen? ⟨w.heap.size, 1, none⟩ = false := by simp [World.frozen?, hz]
              have f2 : X.frozen? ⟨w.heap.size, 2, none⟩ = false := by simp [World.frozen?, hz]
              have f3 : X.frozen? ⟨w.heap.size, 3, none⟩ = false := by simp [World.frozen?, hz]
              obtain ⟨hek, hfin⟩ := ek_store4 (v0 := .int .u8 O) (v1 := .int .u8 0) (v2 := .int .u16 0) (v3 := .int .u32 0) hz
              exact Posts.op_done (fun _ => trivial) rfl rfl (by intro c h; cases h) (Y := ((((X.setCell ⟨w.heap.size, 0, none⟩ (.int .u8 O)).setCell ⟨w.heap.size, 1, none⟩ (.int .u8 0)).setCell ⟨w.heap.size, 2, none⟩ (.int .u16 0)).setCell ⟨w.heap.size, 3, none⟩ (.int .u32 0))) (by simp [execOp, d2, d36, z0, z1, z2, z3, f0, f1, f2, f3, go_sem]) ⟨⟨⟨undef, rfl⟩, ⟨Nat.lt_of_lt_of_le (lt_of_block hz) hek.size, hfin⟩, hek⟩, trivial⟩
          · intro a0 Y hY hS hJt hL
            have p36 := Posts.slot (show a0.eval (.tmp 36) = .agg #[.int .u8 O, .int .u8 0, .int .u16 0, .int .u32 0] from hL.1)
            have p37 := Posts.slot (show a0.eval (.tmp 37) = .agg #[.int .u8 O, .int .u8 0, .int .u16 0, .int .u32 0] from hL.2.1)
            have p38 := Posts.slot (show a0.eval (.tmp 38) = .bool (false) from hL.2.2.1)
            have p39 := Posts.slot (show a0.eval (.tmp 39) = .bool (false) from hL.2.2.2.1)
            have p40 := Posts.slot (show a0.eval (.tmp 40) = undef from hL.2.2.2.2.1)
            have p41 := Posts.slot (show a0.eval (.tmp 41) = undef from hL.2.2.2.2.2.1)
            have p42 := Posts.slot (show a0.eval (.tmp 42) = undef from hL.2.2.2.2.2.2.1)
            have p43 := Posts.slot (show a0.eval (.tmp 43) = undef from hL.2.2.2.2.2.2.2.1)
            have p44 := Posts.slot (show a0.eval (.tmp 44) = undef from hL.2.2.2.2.2.2.2.2.1)
            have p45 := Posts.slot (show a0.eval (.tmp 45) = .bool (false) from hL.2.2.2.2.2.2.2.2.2.1)
            have p_10 := (show _ from hL.2.2.2.2.2.2.2.2.2.2.1)
            have hfr := hS.frame [36, 37, 38, 39, 40, 41, 42, 43, 44, 45, 3] (fun t ht => by simp [Posts.isDst] at ht; first | (rcases ht with h | h | h | h | h | h | h | h | h | h | h <;> subst h <;> simp) | (subst ht; simp))
            simp only [List.foldl_cons, List.foldl_nil] at hfr
            have hdf := hS.defers
            simp only [Array.getD_eq_getD_getElem?] at hfr
            clear hL hS
            generalize a0.tmps[36]?.getD undef = v36 at *
            generalize a0.tmps[37]?.getD undef = v37 at *
            generalize a0.tmps[38]?.getD undef = v38 at *
            generalize a0.tmps[39]?.getD undef = v39 at *
            generalize a0.tmps[40]?.getD undef = v40 at *
            generalize a0.tmps[41]?.getD undef = v41 at *
            generalize a0.tmps[42]?.getD undef = v42 at *
            generalize a0.tmps[43]?.getD undef = v43 at *
            generalize a0.tmps[44]?.getD undef = v44 at *
            generalize a0.tmps[45]?.getD undef = v45 at *
            generalize a0.tmps[3]?.getD undef = v3 at *
            obtain rfl := p36
            obtain rfl := p37
            obtain rfl := p38
            obtain rfl := p39
            obtain rfl := p40
            obtain rfl := p41
            obtain rfl := p42
            obtain rfl := p43
            obtain rfl := p44
            obtain rfl := p45
            obtain ⟨tm, df⟩ := a0
            simp only [List.setIfInBounds_toArray, List.set_cons_succ, List.set_cons_zero] at hfr hdf
            subst hfr
            subst hdf
            refine Posts.tail_op 11 (by kernel_rfl) (Posts.op_val (fun _ => trivial) rfl rfl (by intro c h; cases h) (v := .bool (false)) (Y := Y) (by simp [execOp, Act.eval, go_sem]) ?_)
            refine ⟨by kernel_rfl, ?_⟩
            simp only [Exit.inBlock, Exit.then]
            rename_i hK
            refine hK _ _ ?_
            obtain ⟨d0, d1, d2, d3⟩ := cells4' p_10.2
            have HYb := Lib.hid (hY.below HBw.out (by rw [World.size_alloc]; omega))
            clear p_10 hY
            go_wp2_with fail
            refine bodyPost_ret (v := .tuple #[.agg #[.int .u8 O, .int .u8 0, .int .u16 0, .int .u32 0], .bool (false)]) (by simp [results, Tryz.f86, go_sem, d0, d1, d2, d3]) rfl ?_
            exact HPost.out _ _ (by rw [HB2.out]; simp) HYb.out
        · go_upto_region 7 with fail
          refine (wpIn_wide (n := 0)).1 (Posts.wpIn_region_tail hE 11 0 (Posts.At [Posts.is (.agg #[.int .u8 O, .int .u8 0, .int .u16 0, .int .u32 0]), Posts.is (.agg #[.int .u8 O, .int .u8 0, .int .u16 0, .int .u32 0]), Posts.is (.bool (true)), Posts.is (.bool (true)), Posts.is (.bool (false)), Posts.is (.string ST), Posts.is (.string ST), Posts.is (.bool (false)), Posts.is (.bool ((false == false))), Posts.is (.bool ((false == false))), (fun _ X => w.heap.size < X.heap.size ∧ X.heap[w.heap.size]? = some (.cells #[.int .u8 O, .int .u8 0, .int .u16 0, .int .u32 0] 32 (0, 0)))]) (fun _ _ => True) (by kernel_rfl) (by decide) (by kernel_rfl) (by kernel_rfl) (by kernel_rfl)
            (Posts.stable_at _ (by repeat' (first | exact trivial | (refine And.intro ?_ ?_) | exact Posts.is_stable _ | exact Posts.on_stable _ _ | assumption))) trivial ?_ ?_)
          · refine ⟨?_, ?_, ?_, ?_, ?_, ?_, ?_, ?_, ?_, ?_, ?_, trivial⟩
            · intro a X hX hS hD hJ hU
              obtain ⟨y0, y1, y2, y3⟩ := cells4' ((hX.block w2.heap.size (by rw [World.size_alloc]; omega) (by omega)).trans HNn.out)
              have d7 := Posts.slot (show a.eval (.tmp 7) = .pointer (some ⟨w2.heap.size, 0, none⟩) from hS.other 7 rfl)
              exact Posts.op_value (fun _ => trivial) rfl rfl (by intro c h; cases h) rfl (by rw [hS.size]; simp) (v := .agg #[.int .u8 O, .int .u8 0, .int .u16 0, .int .u32 0]) (by simp [execOp, d7, y0, y1, y2, y3, go_sem]) rfl (hE.refl _) trivial
            · intro a X hX hS hD hJ hU
              obtain ⟨y0, y1, y2, y3⟩ := cells4' ((hX.block w2.heap.size (by rw [World.size_alloc]; omega) (by omega)).trans HNn.out)
              have d7 := Posts.slot (show a.eval (.tmp 7) = .pointer (some ⟨w2.heap.size, 0, none⟩) from hS.other 7 rfl)
              exact Posts.op_value (fun _ => trivial) rfl rfl (by intro c h; cases h) rfl (by rw [hS.size]; simp) (v := .agg #[.int .u8 O, .int .u8 0, .int .u16 0, .int .u32 0]) (by simp [execOp, d7, y0, y1, y2, y3, go_sem]) rfl (hE.refl _) trivial
            · intro a X hX hS hD hJ hU
              obtain ⟨y0, y1, y2, y3⟩ := cells4' ((hX.block w2.heap.size (by rw [World.size_alloc]; omega) (by omega)).trans HNn.out)
              have d37 := Posts.slot (show a.eval (.tmp 37) = .agg #[.int .u8 O, .int .u8 0, .int .u16 0, .int .u32 0] from hD.1)
              refine Posts.op_call (fun _ => trivial) rfl rfl rfl (by intro c h; cases h) rfl (by rw [hS.size]; simp) 33 #[.agg #[.int .u8 O, .int .u8 0, .int .u16 0, .int .u32 0]] (by simp [execOp, d37, go_sem]) ?_
              refine callsIn_wide.2 ((HMy.out X (hX.below HBw.out (by rw [World.size_alloc]; omega))).mono ?_)
              rintro e Y ⟨rfl, hb⟩
              exact ⟨_, rfl, rfl, EK.of hb, trivial⟩
            · intro a X hX hS hD hJ hU
              obtain ⟨y0, y1, y2, y3⟩ := cells4' ((hX.block w2.heap.size (by rw [World.size_alloc]; omega) (by omega)).trans HNn.out)
              have d38 := Posts.slot (show a.eval (.tmp 38) = .bool (true) from hD.1)
              exact Posts.op_value (fun _ => trivial) rfl rfl (by intro c h; cases h) rfl (by rw [hS.size]; simp) (v := .bool (true)) (by simp [execOp, d38,  go_sem]) rfl (hE.refl _) trivial
            · intro a X hX hS hD hJ hU
              obtain ⟨y0, y1, y2, y3⟩ := cells4' ((hX.block w2.heap.size (by rw [World.size_alloc]; omega) (by omega)).trans HNn.out)
              have d8 := Posts.slot (show a.eval (.tmp 8) = .bool (false) from hS.other 8 rfl)
              exact Posts.op_value (fun _ => trivial) rfl (Posts.wanted_yes rfl rfl rfl (show a.eval (.tmp 39) = .bool true from hD.1)) (by intro c h; cases h) rfl (by rw [hS.size]; simp) (v := .bool (false)) (by simp [execOp, d8,  go_sem]) rfl (hE.refl _) trivial
            · intro a X hX hS hD hJ hU
              obtain ⟨y0, y1, y2, y3⟩ := cells4' ((hX.block w2.heap.size (by rw [World.size_alloc]; omega) (by omega)).trans HNn.out)
              have d4 := Posts.slot (show a.eval (.tmp 4) = .string ST from hS.other 4 rfl)
              exact Posts.op_value (fun _ => trivial) rfl (Posts.wanted_yes rfl rfl rfl (show a.eval (.tmp 39) = .bool true from hD.1)) (by intro c h; cases h) rfl (by rw [hS.size]; simp) (v := .string ST) (by simp [execOp, d4,  go_sem]) rfl (hE.refl _) trivial
            · intro a X hX hS hD hJ hU
              obtain ⟨y0, y1, y2, y3⟩ := cells4' ((hX.block w2.heap.size (by rw [World.size_alloc]; omega) (by omega)).trans HNn.out)
              have d0 := Posts.slot (show a.eval (.tmp 0) = .string ST from hS.other 0 rfl)
              exact Posts.op_value (fun _ => trivial) rfl (Posts.wanted_yes rfl rfl rfl (show a.eval (.tmp 39) = .bool true from hD.1)) (by intro c h; cases h) rfl (by rw [hS.size]; simp) (v := .string ST) (by simp [execOp, d0,  go_sem]) rfl (hE.refl _) trivial
            · intro a X hX hS hD hJ hU
              obtain ⟨y0, y1, y2, y3⟩ := cells4' ((hX.block w2.heap.size (by rw [World.size_alloc]; omega) (by omega)).trans HNn.out)
              have d41 := Posts.slot (show a.eval (.tmp 41) = .string ST from hD.1)
              have d42 := Posts.slot (show a.eval (.tmp 42) = .string ST from hD.2.1)
              exact Posts.op_value (fun _ => trivial) rfl (Posts.wanted_yes rfl rfl rfl (show a.eval (.tmp 39) = .bool true from hD.2.2.1)) (by intro c h; cases h) rfl (by rw [hS.size]; simp) (v := .bool (false)) (by simp [execOp, d41, d42, hne, go_sem]) rfl (hE.refl _) trivial
            · intro a X hX hS hD hJ hU
              obtain ⟨y0, y1, y2, y3⟩ := cells4' ((hX.block w2.heap.size (by rw [World.size_alloc]; omega) (by omega)).trans HNn.out)
              have d40 := Posts.slot (show a.eval (.tmp 40) = .bool (false) from hD.1)
              have d43 := Posts.slot (show a.eval (.tmp 43) = .bool (false) from hD.2.1)
              exact Posts.op_value (fun _ => trivial) rfl (Posts.wanted_yes rfl rfl rfl (show a.eval (.tmp 39) = .bool true from hD.2.2.1)) (by intro c h; cases h) rfl (by rw [hS.size]; simp) (v := .bool ((false == false))) (by simp [execOp, d40, d43, go_sem]) rfl (hE.refl _) trivial
            · intro a X hX hS hD hJ hU
              obtain ⟨y0, y1, y2, y3⟩ := cells4' ((hX.block w2.heap.size (by rw [World.size_alloc]; omega) (by omega)).trans HNn.out)
              have d39 := Posts.slot (show a.eval (.tmp 39) = .bool (true) from hD.1)
              have d44 : a.tmps[44]?.getD undef = .bool ((false == false)) := by
                have hbind := hD
                exact Posts.slot (show a.eval (.tmp 44) = .bool ((false == false)) from hD.2.1)
              exact Posts.op_value (fun _ => trivial) rfl rfl (by intro c h; cases h) rfl (by rw [hS.size]; simp) (v := .bool ((false == false))) (by simp [execOp, d39, d44, go_sem]) rfl (hE.refl _) trivial
            · intro a X hX hS hD hJ hU
              obtain ⟨y0, y1, y2, y3⟩ := cells4' ((hX.block w2.heap.size (by rw [World.size_alloc]; omega) (by omega)).trans HNn.out)
              have d2 := Posts.slot (show a.eval (.tmp 2) = .pointer (some ⟨w.heap.size, 0, none⟩) from hS.other 2 rfl)
              have d36 := Posts.slot (show a.eval (.tmp 36) = .agg #[.int .u8 O, .int .u8 0, .int .u16 0, .int .u32 0] from hD.1)
              have hR0 : ∃ u0 u1 u2 u3, X.heap[w.heap.size]? = some (.cells #[u0, u1, u2, u3] 32 (0, 0)) := by
                rcases hX.own (by rw [World.size_alloc]; omega) with e | e
                · exact ⟨_, _, _, _, e.trans HRn.out⟩
                · exact ⟨_, _, _, _, e⟩
              obtain ⟨u0, u1, u2, u3, hz⟩ := hR0
              obtain ⟨z0, z1, z2, z3⟩ := cells4' hz
              have f0 : X.frozen? ⟨w.heap.size, 0, none⟩ = false := by simp [World.frozen?, hz]
              have f1 : X.frozen? ⟨w.heap.size, 1, none⟩ = false := by simp [World.frozen?, hz]
              have f2 : X.frozen? ⟨w.heap.size, 2, none⟩ = false := by simp [World.frozen?, hz]
              have f3 : X.frozen? ⟨w.heap.size, 3, none⟩ = false := by simp [World.frozen?, hz]
              obtain ⟨hek, hfin⟩ := ek_store4 (v0 := .int .u8 O) (v1 := .int .u8 0) (v2 := .int .u16 0) (v3 := .int .u32 0) hz
              exact Posts.op_done (fun _ => trivial) rfl rfl (by intro c h; cases h) (Y := ((((X.setCell ⟨w.heap.size, 0, none⟩ (.int .u8 O)).setCell ⟨w.heap.size, 1, none⟩ (.int .u8 0)).setCell ⟨w.heap.size, 2, none⟩ (.int .u16 0)).setCell ⟨w.heap.size, 3, none⟩ (.int .u32 0))) (by simp [execOp, d2, d36, z0, z1, z2, z3, f0, f1, f2, f3, go_sem]) ⟨⟨⟨undef, rfl⟩, ⟨Nat.lt_of_lt_of_le (lt_of_block hz) hek.size, hfin⟩, hek⟩, trivial⟩
          · intro a0 Y hY hS hJt hL
            have p36 := Posts.slot (show a0.eval (.tmp 36) = .agg #[.int .u8 O, .int .u8 0, .int .u16 0, .int .u32 0] from hL.1)
            have p37 := Posts.slot (show a0.eval (.tmp 37) = .agg #[.int .u8 O, .int .u8 0, .int .u16 0, .int .u32 0] from hL.2.1)
            have p38 := Posts.slot (show a0.eval (.tmp 38) = .bool (true) from hL.2.2.1)
            have p39 := Posts.slot (show a0.eval (.tmp 39) = .bool (true) from hL.2.2.2.1)
            have p40 := Posts.slot (show a0.eval (.tmp 40) = .bool (false) from hL.2.2.2.2.1)
            have p41 := Posts.slot (show a0.eval (.tmp 41) = .string ST from hL.2.2.2.2.2.1)
            have p42 := Posts.slot (show a0.eval (.tmp 42) = .string ST from hL.2.2.2.2.2.2.1)
            have p43 := Posts.slot (show a0.eval (.tmp 43) = .bool (false) from hL.2.2.2.2.2.2.2.1)
            have p44 := Posts.slot (show a0.eval (.tmp 44) = .bool ((false == false)) from hL.2.2.2.2.2.2.2.2.1)
            have p45 := Posts.slot (show a0.eval (.tmp 45) = .bool ((false == false)) from hL.2.2.2.2.2.2.2.2.2.1)
            have p_10 := (show _ from hL.2.2.2.2.2.2.2.2.2.2.1)
            have hfr := hS.frame [36, 37, 38, 39, 40, 41, 42, 43, 44, 45, 3] (fun t ht => by simp [Posts.isDst] at ht; first | (rcases ht with h | h | h | h | h | h | h | h | h | h | h <;> subst h <;> simp) | (subst ht; simp))
            simp only [List.foldl_cons, List.foldl_nil] at hfr
            have hdf := hS.defers
            simp only [Array.getD_eq_getD_getElem?] at hfr
            clear hL hS
            generalize a0.tmps[36]?.getD undef = v36 at *
            generalize a0.tmps[37]?.getD undef = v37 at *
            generalize a0.tmps[38]?.getD undef = v38 at *
            generalize a0.tmps[39]?.getD undef = v39 at *
            generalize a0.tmps[40]?.getD undef = v40 at *
            generalize a0.tmps[41]?.getD undef = v41 at *
            generalize a0.tmps[42]?.getD undef = v42 at *
            generalize a0.tmps[43]?.getD undef = v43 at *
            generalize a0.tmps[44]?.getD undef = v44 at *
            generalize a0.tmps[45]?.getD undef = v45 at *
            generalize a0.tmps[3]?.getD undef = v3 at *
            obtain rfl := p36
            obtain rfl := p37
            obtain rfl := p38
            obtain rfl := p39
            obtain rfl := p40
            obtain rfl := p41
            obtain rfl := p42
            obtain rfl := p43
            obtain rfl := p44
            obtain rfl := p45
            obtain ⟨tm, df⟩ := a0
            simp only [List.setIfInBounds_toArray, List.set_cons_succ, List.set_cons_zero] at hfr hdf
            subst hfr
            subst hdf
            refine Posts.tail_op 11 (by kernel_rfl) (Posts.op_val (fun _ => trivial) rfl rfl (by intro c h; cases h) (v := .bool ((false == false))) (Y := Y) (by simp [execOp, Act.eval, go_sem]) ?_)
            refine ⟨by kernel_rfl, ?_⟩
            simp only [Exit.inBlock, Exit.then]
            rename_i hK
            refine hK _ _ ?_
            obtain ⟨d0, d1, d2, d3⟩ := cells4' p_10.2
            have HYb := Lib.hid (hY.below HBw.out (by rw [World.size_alloc]; omega))
            clear p_10 hY
            go_wp2_with fail
            refine bodyPost_ret (v := .tuple #[.agg #[.int .u8 O, .int .u8 0, .int .u16 0, .int .u32 0], .bool ((false == false))]) (by simp [results, Tryz.f86, go_sem, d0, d1, d2, d3]) rfl ?_
            exact HPost.out _ _ (by rw [HB2.out]; simp) HYb.out
      · 
        cases M
        · go_upto_region 7 with fail
          refine (wpIn_wide (n := 0)).1 (Posts.wpIn_region_tail hE 11 0 (Posts.At [Posts.is (.agg #[.int .u8 O, .int .u8 0, .int .u16 0, .int .u32 0]), Posts.is (.agg #[.int .u8 O, .int .u8 0, .int .u16 0, .int .u32 0]), Posts.is (.bool (false)), Posts.is (.bool (false)), Posts.is (undef), Posts.is (undef), Posts.is (undef), Posts.is (undef), Posts.is (undef), Posts.is (.bool (false)), (fun _ X => w.heap.size < X.heap.size ∧ X.heap[w.heap.size]? = some (.cells #[.int .u8 O, .int .u8 0, .int .u16 0, .int .u32 0] 32 (0, 0)))]) (fun _ _ => True) (by kernel_rfl) (by decide) (by kernel_rfl) (by kernel_rfl) (by kernel_rfl)
            (Posts.stable_at _ (by repeat' (first | exact trivial | (refine And.intro ?_ ?_) | exact Posts.is_stable _ | exact Posts.on_stable _ _ | assumption))) trivial ?_ ?_)
          · refine ⟨?_, ?_, ?_, ?_, ?_, ?_, ?_, ?_, ?_, ?_, ?_, trivial⟩
            · intro a X hX hS hD hJ hU
              obtain ⟨y0, y1, y2, y3⟩ := cells4' ((hX.block w2.heap.size (by rw [World.size_alloc]; omega) (by omega)).trans HNn.out)
              have d7 := Posts.slot (show a.eval (.tmp 7) = .pointer (some ⟨w2.heap.size, 0, none⟩) from hS.other 7 rfl)
              exact Posts.op_value (fun _ => trivial) rfl rfl (by intro c h; cases h) rfl (by rw [hS.size]; simp) (v := .agg #[.int .u8 O, .int .u8 0, .int .u16 0, .int .u32 0]) (by simp [execOp, d7, y0, y1, y2, y3, go_sem]) rfl (hE.refl _) trivial
            · intro a X hX hS hD hJ hU
              obtain ⟨y0, y1, y2, y3⟩ := cells4' ((hX.block w2.heap.size (by rw [World.size_alloc]; omega) (by omega)).trans HNn.out)
              have d7 := Posts.slot (show a.eval (.tmp 7) = .pointer (some ⟨w2.heap.size, 0, none⟩) from hS.other 7 rfl)
              exact Posts.op_value (fun _ => trivial) rfl rfl (by intro c h; cases h) rfl (by rw [hS.size]; simp) (v := .agg #[.int .u8 O, .int .u8 0, .int .u16 0, .int .u32 0]) (by simp [execOp, d7, y0, y1, y2, y3, go_sem]) rfl (hE.refl _) trivial
            · intro a X hX hS hD hJ hU
              obtain ⟨y0, y1, y2, y3⟩ := cells4' ((hX.block w2.heap.size (by rw [World.size_alloc]; omega) (by omega)).trans HNn.out)
              have d37 := Posts.slot (show a.eval (.tmp 37) = .agg #[.int .u8 O, .int .u8 0, .int .u16 0, .int .u32 0] from hD.1)
              refine Posts.op_call (fun _ => trivial) rfl rfl rfl (by intro c h; cases h) rfl (by rw [hS.size]; simp) 33 #[.agg #[.int .u8 O, .int .u8 0, .int .u16 0, .int .u32 0]] (by simp [execOp, d37, go_sem]) ?_
              refine callsIn_wide.2 ((HMy.out X (hX.below HBw.out (by rw [World.size_alloc]; omega))).mono ?_)
              rintro e Y ⟨rfl, hb⟩
              exact ⟨_, rfl, rfl, EK.of hb, trivial⟩
            · intro a X hX hS hD hJ hU
              obtain ⟨y0, y1, y2, y3⟩ := cells4' ((hX.block w2.heap.size (by rw [World.size_alloc]; omega) (by omega)).trans HNn.out)
              have d38 := Posts.slot (show a.eval (.tmp 38) = .bool (false) from hD.1)
              exact Posts.op_value (fun _ => trivial) rfl rfl (by intro c h; cases h) rfl (by rw [hS.size]; simp) (v := .bool (false)) (by simp [execOp, d38,  go_sem]) rfl (hE.refl _) trivial
            · intro a X hX hS hD hJ hU
              exact Posts.op_skip hE (fun _ => trivial) rfl (Posts.wanted_no rfl rfl rfl (show a.eval (.tmp 39) = .bool !true from hD.1)) rfl (by rw [hS.size]; simp) rfl trivial
            · intro a X hX hS hD hJ hU
              exact Posts.op_skip hE (fun _ => trivial) rfl (Posts.wanted_no rfl rfl rfl (show a.eval (.tmp 39) = .bool !true from hD.1)) rfl (by rw [hS.size]; simp) rfl trivial
            · intro a X hX hS hD hJ hU
              exact Posts.op_skip hE (fun _ => trivial) rfl (Posts.wanted_no rfl rfl rfl (show a.eval (.tmp 39) = .bool !true from hD.1)) rfl (by rw [hS.size]; simp) rfl trivial
            · intro a X hX hS hD hJ hU
              exact Posts.op_skip hE (fun _ => trivial) rfl (Posts.wanted_no rfl rfl rfl (show a.eval (.tmp 39) = .bool !true from hD.2.2.1)) rfl (by rw [hS.size]; simp) rfl trivial
            · intro a X hX hS hD hJ hU
              exact Posts.op_skip hE (fun _ => trivial) rfl (Posts.wanted_no rfl rfl rfl (show a.eval (.tmp 39) = .bool !true from hD.2.2.1)) rfl (by rw [hS.size]; simp) rfl trivial
            · intro a X hX hS hD hJ hU
              obtain ⟨y0, y1, y2, y3⟩ := cells4' ((hX.block w2.heap.size (by rw [World.size_alloc]; omega) (by omega)).trans HNn.out)
              have d39 := Posts.slot (show a.eval (.tmp 39) = .bool (false) from hD.1)
              exact Posts.op_value (fun _ => trivial) rfl rfl (by intro c h; cases h) rfl (by rw [hS.size]; simp) (v := .bool (false)) (by simp [execOp, d39, go_sem]) rfl (hE.refl _) trivial
            · intro a X hX hS hD hJ hU
              obtain ⟨y0, y1, y2, y3⟩ := cells4' ((hX.block w2.heap.size (by rw [World.size_alloc]; omega) (by omega)).trans HNn.out)
              have d2 := Posts.slot (show a.eval (.tmp 2) = .pointer (some ⟨w.heap.size, 0, none⟩) from hS.other 2 rfl)
              have d36 := Posts.slot (show a.eval (.tmp 36) = .agg #[.int .u8 O, .int .u8 0, .int .u16 0, .int .u32 0] from hD.1)
              have hR0 : ∃ u0 u1 u2 u3, X.heap[w.heap.size]? = some (.cells #[u0, u1, u2, u3] 32 (0, 0)) := by
                rcases hX.own (by rw [World.size_alloc]; omega) with e | e
                · exact ⟨_, _, _, _, e.trans HRn.out⟩
                · exact ⟨_, _, _, _, e⟩
              obtain ⟨u0, u1, u2, u3, hz⟩ := hR0
              obtain ⟨z0, z1, z2, z3⟩ := cells4' hz
              have f0 : X.frozen? ⟨w.heap.size, 0, none⟩ = false := by simp [World.frozen?, hz]
              have f1 : X.frozen? ⟨w.heap.size, 1, none⟩ = false := by simp [World.frozen?, hz]
              have f2 : X.frozen? ⟨w.heap.size, 2, none⟩ = false := by simp [World.frozen?, hz]
              have f3 : X.frozen? ⟨w.heap.size, 3, none⟩ = false := by simp [World.frozen?, hz]
              obtain ⟨hek, hfin⟩ := ek_store4 (v0 := .int .u8 O) (v1 := .int .u8 0) (v2 := .int .u16 0) (v3 := .int .u32 0) hz
              exact Posts.op_done (fun _ => trivial) rfl rfl (by intro c h; cases h) (Y := ((((X.setCell ⟨w.heap.size, 0, none⟩ (.int .u8 O)).setCell ⟨w.heap.size, 1, none⟩ (.int .u8 0)).setCell ⟨w.heap.size, 2, none⟩ (.int .u16 0)).setCell ⟨w.heap.size, 3, none⟩ (.int .u32 0))) (by simp [execOp, d2, d36, z0, z1, z2, z3, f0, f1, f2, f3, go_sem]) ⟨⟨⟨undef, rfl⟩, ⟨Nat.lt_of_lt_of_le (lt_of_block hz) hek.size, hfin⟩, hek⟩, trivial⟩
          · intro a0 Y hY hS hJt hL
            have p36 := Posts.slot (show a0.eval (.tmp 36) = .agg #[.int .u8 O, .int .u8 0, .int .u16 0, .int .u32 0] from hL.1)
            have p37 := Posts.slot (show a0.eval (.tmp 37) = .agg #[.int .u8 O, .int .u8 0, .int .u16 0, .int .u32 0] from hL.2.1)
            have p38 := Posts.slot (show a0.eval (.tmp 38) = .bool (false) from hL.2.2.1)
            have p39 := Posts.slot (show a0.eval (.tmp 39) = .bool (false) from hL.2.2.2.1)
            have p40 := Posts.slot (show a0.eval (.tmp 40) = undef from hL.2.2.2.2.1)
            have p41 := Posts.slot (show a0.eval (.tmp 41) = undef from hL.2.2.2.2.2.1)
            have p42 := Posts.slot (show a0.eval (.tmp 42) = undef from hL.2.2.2.2.2.2.1)
            have p43 := Posts.slot (show a0.eval (.tmp 43) = undef from hL.2.2.2.2.2.2.2.1)
            have p44 := Posts.slot (show a0.eval (.tmp 44) = undef from hL.2.2.2.2.2.2.2.2.1)
            have p45 := Posts.slot (show a0.eval (.tmp 45) = .bool (false) from hL.2.2.2.2.2.2.2.2.2.1)
            have p_10 := (show _ from hL.2.2.2.2.2.2.2.2.2.2.1)
            have hfr := hS.frame [36, 37, 38, 39, 40, 41, 42, 43, 44, 45, 3] (fun t ht => by simp [Posts.isDst] at ht; first | (rcases ht with h | h | h | h | h | h | h | h | h | h | h <;> subst h <;> simp) | (subst ht; simp))
            simp only [List.foldl_cons, List.foldl_nil] at hfr
            have hdf := hS.defers
            simp only [Array.getD_eq_getD_getElem?] at hfr
            clear hL hS
            generalize a0.tmps[36]?.getD undef = v36 at *
            generalize a0.tmps[37]?.getD undef = v37 at *
            generalize a0.tmps[38]?.getD undef = v38 at *
            generalize a0.tmps[39]?.getD undef = v39 at *
            generalize a0.tmps[40]?.getD undef = v40 at *
            generalize a0.tmps[41]?.getD undef = v41 at *
            generalize a0.tmps[42]?.getD undef = v42 at *
            generalize a0.tmps[43]?.getD undef = v43 at *
            generalize a0.tmps[44]?.getD undef = v44 at *
            generalize a0.tmps[45]?.getD undef = v45 at *
            generalize a0.tmps[3]?.getD undef = v3 at *
            obtain rfl := p36
            obtain rfl := p37
            obtain rfl := p38
            obtain rfl := p39
            obtain rfl := p40
            obtain rfl := p41
            obtain rfl := p42
            obtain rfl := p43
            obtain rfl := p44
            obtain rfl := p45
            obtain ⟨tm, df⟩ := a0
            simp only [List.setIfInBounds_toArray, List.set_cons_succ, List.set_cons_zero] at hfr hdf
            subst hfr
            subst hdf
            refine Posts.tail_op 11 (by kernel_rfl) (Posts.op_val (fun _ => trivial) rfl rfl (by intro c h; cases h) (v := .bool (false)) (Y := Y) (by simp [execOp, Act.eval, go_sem]) ?_)
            refine ⟨by kernel_rfl, ?_⟩
            simp only [Exit.inBlock, Exit.then]
            rename_i hK
            refine hK _ _ ?_
            obtain ⟨d0, d1, d2, d3⟩ := cells4' p_10.2
            have HYb := Lib.hid (hY.below HBw.out (by rw [World.size_alloc]; omega))
            clear p_10 hY
            go_wp2_with fail
            refine bodyPost_ret (v := .tuple #[.agg #[.int .u8 O, .int .u8 0, .int .u16 0, .int .u32 0], .bool (false)]) (by simp [results, Tryz.f86, go_sem, d0, d1, d2, d3]) rfl ?_
            exact HPost.out _ _ (by rw [HB2.out]; simp) HYb.out
        · go_upto_region 7 with fail
          refine (wpIn_wide (n := 0)).1 (Posts.wpIn_region_tail hE 11 0 (Posts.At [Posts.is (.agg #[.int .u8 O, .int .u8 0, .int .u16 0, .int .u32 0]), Posts.is (.agg #[.int .u8 O, .int .u8 0, .int .u16 0, .int .u32 0]), Posts.is (.bool (true)), Posts.is (.bool (true)), Posts.is (.bool (true)), Posts.is (.string ST), Posts.is (.string ST), Posts.is (.bool (false)), Posts.is (.bool ((true == false))), Posts.is (.bool ((true == false))), (fun _ X => w.heap.size < X.heap.size ∧ X.heap[w.heap.size]? = some (.cells #[.int .u8 O, .int .u8 0, .int .u16 0, .int .u32 0] 32 (0, 0)))]) (fun _ _ => True) (by kernel_rfl) (by decide) (by kernel_rfl) (by kernel_rfl) (by kernel_rfl)
            (Posts.stable_at _ (by repeat' (first | exact trivial | (refine And.intro ?_ ?_) | exact Posts.is_stable _ | exact Posts.on_stable _ _ | assumption))) trivial ?_ ?_)
          · refine ⟨?_, ?_, ?_, ?_, ?_, ?_, ?_, ?_, ?_, ?_, ?_, trivial⟩
            · intro a X hX hS hD hJ hU
              obtain ⟨y0, y1, y2, y3⟩ := cells4' ((hX.block w2.heap.size (by rw [World.size_alloc]; omega) (by omega)).trans HNn.out)
              have d7 := Posts.slot (show a.eval (.tmp 7) = .pointer (some ⟨w2.heap.size, 0, none⟩) from hS.other 7 rfl)
              exact Posts.op_value (fun _ => trivial) rfl rfl (by intro c h; cases h) rfl (by rw [hS.size]; simp) (v := .agg #[.int .u8 O, .int .u8 0, .int .u16 0, .int .u32 0]) (by simp [execOp, d7, y0, y1, y2, y3, go_sem]) rfl (hE.refl _) trivial
            · intro a X hX hS hD hJ hU
              obtain ⟨y0, y1, y2, y3⟩ := cells4' ((hX.block w2.heap.size (by rw [World.size_alloc]; omega) (by omega)).trans HNn.out)
              have d7 := Posts.slot (show a.eval (.tmp 7) = .pointer (some ⟨w2.heap.size, 0, none⟩) from hS.other 7 rfl)
              exact Posts.op_value (fun _ => trivial) rfl rfl (by intro c h; cases h) rfl (by rw [hS.size]; simp) (v := .agg #[.int .u8 O, .int .u8 0, .int .u16 0, .int .u32 0]) (by simp [execOp, d7, y0, y1, y2, y3, go_sem]) rfl (hE.refl _) trivial
            · intro a X hX hS hD hJ hU
              obtain ⟨y0, y1, y2, y3⟩ := cells4' ((hX.block w2.heap.size (by rw [World.size_alloc]; omega) (by omega)).trans HNn.out)
              have d37 := Posts.slot (show a.eval (.tmp 37) = .agg #[.int .u8 O, .int .u8 0, .int .u16 0, .int .u32 0] from hD.1)
              refine Posts.op_call (fun _ => trivial) rfl rfl rfl (by intro c h; cases h) rfl (by rw [hS.size]; simp) 33 #[.agg #[.int .u8 O, .int .u8 0, .int .u16 0, .int .u32 0]] (by simp [execOp, d37, go_sem]) ?_
              refine callsIn_wide.2 ((HMy.out X (hX.below HBw.out (by rw [World.size_alloc]; omega))).mono ?_)
              rintro e Y ⟨rfl, hb⟩
              exact ⟨_, rfl, rfl, EK.of hb, trivial⟩
            · intro a X hX hS hD hJ hU
              obtain ⟨y0, y1, y2, y3⟩ := cells4' ((hX.block w2.heap.size (by rw [World.size_alloc]; omega) (by omega)).trans HNn.out)
              have d38 := Posts.slot (show a.eval (.tmp 38) = .bool (true) from hD.1)
              exact Posts.op_value (fun _ => trivial) rfl rfl (by intro c h; cases h) rfl (by rw [hS.size]; simp) (v := .bool (true)) (by simp [execOp, d38,  go_sem]) rfl (hE.refl _) trivial
            · intro a X hX hS hD hJ hU
              obtain ⟨y0, y1, y2, y3⟩ := cells4' ((hX.block w2.heap.size (by rw [World.size_alloc]; omega) (by omega)).trans HNn.out)
              have d8 := Posts.slot (show a.eval (.tmp 8) = .bool (true) from hS.other 8 rfl)
              exact Posts.op_value (fun _ => trivial) rfl (Posts.wanted_yes rfl rfl rfl (show a.eval (.tmp 39) = .bool true from hD.1)) (by intro c h; cases h) rfl (by rw [hS.size]; simp) (v := .bool (true)) (by simp [execOp, d8,  go_sem]) rfl (hE.refl _) trivial
            · intro a X hX hS hD hJ hU
              obtain ⟨y0, y1, y2, y3⟩ := cells4' ((hX.block w2.heap.size (by rw [World.size_alloc]; omega) (by omega)).trans HNn.out)
              have d4 := Posts.slot (show a.eval (.tmp 4) = .string ST from hS.other 4 rfl)
              exact Posts.op_value (fun _ => trivial) rfl (Posts.wanted_yes rfl rfl rfl (show a.eval (.tmp 39) = .bool true from hD.1)) (by intro c h; cases h) rfl (by rw [hS.size]; simp) (v := .string ST) (by simp [execOp, d4,  go_sem]) rfl (hE.refl _) trivial
            · intro a X hX hS hD hJ hU
              obtain ⟨y0, y1, y2, y3⟩ := cells4' ((hX.block w2.heap.size (by rw [World.size_alloc]; omega) (by omega)).trans HNn.out)
              have d0 := Posts.slot (show a.eval (.tmp 0) = .string ST from hS.other 0 rfl)
              exact Posts.op_value (fun _ => trivial) rfl (Posts.wanted_yes rfl rfl rfl (show a.eval (.tmp 39) = .bool true from hD.1)) (by intro c h; cases h) rfl (by rw [hS.size]; simp) (v := .string ST) (by simp [execOp, d0,  go_sem]) rfl (hE.refl _) trivial
            · intro a X hX hS hD hJ hU
              obtain ⟨y0, y1, y2, y3⟩ := cells4' ((hX.block w2.heap.size (by rw [World.size_alloc]; omega) (by omega)).trans HNn.out)
              have d41 := Posts.slot (show a.eval (.tmp 41) = .string ST from hD.1)
              have d42 := Posts.slot (show a.eval (.tmp 42) = .string ST from hD.2.1)
              exact Posts.op_value (fun _ => trivial) rfl (Posts.wanted_yes rfl rfl rfl (show a.eval (.tmp 39) = .bool true from hD.2.2.1)) (by intro c h; cases h) rfl (by rw [hS.size]; simp) (v := .bool (false)) (by simp [execOp, d41, d42, hne, go_sem]) rfl (hE.refl _) trivial
            · intro a X hX hS hD hJ hU
              obtain ⟨y0, y1, y2, y3⟩ := cells4' ((hX.block w2.heap.size (by rw [World.size_alloc]; omega) (by omega)).trans HNn.out)
              have d40 := Posts.slot (show a.eval (.tmp 40) = .bool (true) from hD.1)
              have d43 := Posts.slot (show a.eval (.tmp 43) = .bool (false) from hD.2.1)
              exact Posts.op_value (fun _ => trivial) rfl (Posts.wanted_yes rfl rfl rfl (show a.eval (.tmp 39) = .bool true from hD.2.2.1)) (by intro c h; cases h) rfl (by rw [hS.size]; simp) (v := .bool ((true == false))) (by simp [execOp, d40, d43, go_sem]) rfl (hE.refl _) trivial
            · intro a X hX hS hD hJ hU
              obtain ⟨y0, y1, y2, y3⟩ := cells4' ((hX.block w2.heap.size (by rw [World.size_alloc]; omega) (by omega)).trans HNn.out)
              have d39 := Posts.slot (show a.eval (.tmp 39) = .bool (true) from hD.1)
              have d44 : a.tmps[44]?.getD undef = .bool ((true == false)) := by
                have hbind := hD
                exact Posts.slot (show a.eval (.tmp 44) = .bool ((true == false)) from hD.2.1)
              exact Posts.op_value (fun _ => trivial) rfl rfl (by intro c h; cases h) rfl (by rw [hS.size]; simp) (v := .bool ((true == false))) (by simp [execOp, d39, d44, go_sem]) rfl (hE.refl _) trivial
            · intro a X hX hS hD hJ hU
              obtain ⟨y0, y1, y2, y3⟩ := cells4' ((hX.block w2.heap.size (by rw [World.size_alloc]; omega) (by omega)).trans HNn.out)
              have d2 := Posts.slot (show a.eval (.tmp 2) = .pointer (some ⟨w.heap.size, 0, none⟩) from hS.other 2 rfl)
              have d36 := Posts.slot (show a.eval (.tmp 36) = .agg #[.int .u8 O, .int .u8 0, .int .u16 0, .int .u32 0] from hD.1)
              have hR0 : ∃ u0 u1 u2 u3, X.heap[w.heap.size]? = some (.cells #[u0, u1, u2, u3] 32 (0, 0)) := by
                rcases hX.own (by rw [World.size_alloc]; omega) with e | e
                · exact ⟨_, _, _, _, e.trans HRn.out⟩
                · exact ⟨_, _, _, _, e⟩
              obtain ⟨u0, u1, u2, u3, hz⟩ := hR0
              obtain ⟨z0, z1, z2, z3⟩ := cells4' hz
              have f0 : X.frozen? ⟨w.heap.size, 0, none⟩ = false := by simp [World.frozen?, hz]
              have f1 : X.frozen? ⟨w.heap.size, 1, none⟩ = false := by simp [World.frozen?, hz]
              have f2 : X.frozen? ⟨w.heap.size, 2, none⟩ = false := by simp [World.frozen?, hz]
              have f3 : X.frozen? ⟨w.heap.size, 3, none⟩ = false := by simp [World.frozen?, hz]
              obtain ⟨hek, hfin⟩ := ek_store4 (v0 := .int .u8 O) (v1 := .int .u8 0) (v2 := .int .u16 0) (v3 := .int .u32 0) hz
              exact Posts.op_done (fun _ => trivial) rfl rfl (by intro c h; cases h) (Y := ((((X.setCell ⟨w.heap.size, 0, none⟩ (.int .u8 O)).setCell ⟨w.heap.size, 1, none⟩ (.int .u8 0)).setCell ⟨w.heap.size, 2, none⟩ (.int .u16 0)).setCell ⟨w.heap.size, 3, none⟩ (.int .u32 0))) (by simp [execOp, d2, d36, z0, z1, z2, z3, f0, f1, f2, f3, go_sem]) ⟨⟨⟨undef, rfl⟩, ⟨Nat.lt_of_lt_of_le (lt_of_block hz) hek.size, hfin⟩, hek⟩, trivial⟩
          · intro a0 Y hY hS hJt hL
            have p36 := Posts.slot (show a0.eval (.tmp 36) = .agg #[.int .u8 O, .int .u8 0, .int .u16 0, .int .u32 0] from hL.1)
            have p37 := Posts.slot (show a0.eval (.tmp 37) = .agg #[.int .u8 O, .int .u8 0, .int .u16 0, .int .u32 0] from hL.2.1)
            have p38 := Posts.slot (show a0.eval (.tmp 38) = .bool (true) from hL.2.2.1)
            have p39 := Posts.slot (show a0.eval (.tmp 39) = .bool (true) from hL.2.2.2.1)
            have p40 := Posts.slot (show a0.eval (.tmp 40) = .bool (true) from hL.2.2.2.2.1)
            have p41 := Posts.slot (show a0.eval (.tmp 41) = .string ST from hL.2.2.2.2.2.1)
            have p42 := Posts.slot (show a0.eval (.tmp 42) = .string ST from hL.2.2.2.2.2.2.1)
            have p43 := Posts.slot (show a0.eval (.tmp 43) = .bool (false) from hL.2.2.2.2.2.2.2.1)
            have p44 := Posts.slot (show a0.eval (.tmp 44) = .bool ((true == false)) from hL.2.2.2.2.2.2.2.2.1)
            have p45 := Posts.slot (show a0.eval (.tmp 45) = .bool ((true == false)) from hL.2.2.2.2.2.2.2.2.2.1)
            have p_10 := (show _ from hL.2.2.2.2.2.2.2.2.2.2.1)
            have hfr := hS.frame [36, 37, 38, 39, 40, 41, 42, 43, 44, 45, 3] (fun t ht => by simp [Posts.isDst] at ht; first | (rcases ht with h | h | h | h | h | h | h | h | h | h | h <;> subst h <;> simp) | (subst ht; simp))
            simp only [List.foldl_cons, List.foldl_nil] at hfr
            have hdf := hS.defers
            simp only [Array.getD_eq_getD_getElem?] at hfr
            clear hL hS
            generalize a0.tmps[36]?.getD undef = v36 at *
            generalize a0.tmps[37]?.getD undef = v37 at *
            generalize a0.tmps[38]?.getD undef = v38 at *
            generalize a0.tmps[39]?.getD undef = v39 at *
            generalize a0.tmps[40]?.getD undef = v40 at *
            generalize a0.tmps[41]?.getD undef = v41 at *
            generalize a0.tmps[42]?.getD undef = v42 at *
            generalize a0.tmps[43]?.getD undef = v43 at *
            generalize a0.tmps[44]?.getD undef = v44 at *
            generalize a0.tmps[45]?.getD undef = v45 at *
            generalize a0.tmps[3]?.getD undef = v3 at *
            obtain rfl := p36
            obtain rfl := p37
            obtain rfl := p38
            obtain rfl := p39
            obtain rfl := p40
            obtain rfl := p41
            obtain rfl := p42
            obtain rfl := p43
            obtain rfl := p44
            obtain rfl := p45
            obtain ⟨tm, df⟩ := a0
            simp only [List.setIfInBounds_toArray, List.set_cons_succ, List.set_cons_zero] at hfr hdf
            subst hfr
            subst hdf
            refine Posts.tail_op 11 (by kernel_rfl) (Posts.op_val (fun _ => trivial) rfl rfl (by intro c h; cases h) (v := .bool ((true == false))) (Y := Y) (by simp [execOp, Act.eval, go_sem]) ?_)
            refine ⟨by kernel_rfl, ?_⟩
            simp only [Exit.inBlock, Exit.then]
            rename_i hK
            refine hK _ _ ?_
            obtain ⟨d0, d1, d2, d3⟩ := cells4' p_10.2
            have HYb := Lib.hid (hY.below HBw.out (by rw [World.size_alloc]; omega))
            clear p_10 hY
            go_wp2_with fail
            refine bodyPost_ret (v := .tuple #[.agg #[.int .u8 O, .int .u8 0, .int .u16 0, .int .u32 0], .bool ((true == false))]) (by simp [results, Tryz.f86, go_sem, d0, d1, d2, d3]) rfl ?_
            exact HPost.out _ _ (by rw [HB2.out]; simp) HYb.out
    · 
      cases M
      · go_upto_region 7 with fail
        refine (wpIn_wide (n := 0)).1 (Posts.wpIn_region_tail hE 11 0 (Posts.At [Posts.is (.agg #[.int .u8 O, .int .u8 0, .int .u16 0, .int .u32 0]), Posts.is (.agg #[.int .u8 O, .int .u8 0, .int .u16 0, .int .u32 0]), Posts.is (.bool (false)), Posts.is (.bool (false)), Posts.is (undef), Posts.is (undef), Posts.is (undef), Posts.is (undef), Posts.is (undef), Posts.is (.bool (false)), (fun _ X => w.heap.size < X.heap.size ∧ X.heap[w.heap.size]? = some (.cells #[.int .u8 O, .int .u8 0, .int .u16 0, .int .u32 0] 32 (0, 0)))]) (fun _ _ => True) (by kernel_rfl) (by decide) (by kernel_rfl) (by kernel_rfl) (by kernel_rfl)
          (Posts.stable_at _ (by repeat' (first | exact trivial | (refine And.intro ?_ ?_) | exact Posts.is_stable _ | exact Posts.on_stable _ _ | assumption))) trivial ?_ ?_)
        · refine ⟨?_, ?_, ?_, ?_, ?_, ?_, ?_, ?_, ?_, ?_, ?_, trivial⟩
          · intro a X hX hS hD hJ hU
            obtain ⟨y0, y1, y2, y3⟩ := cells4' ((hX.block w2.heap.size (by rw [World.size_alloc]; omega) (by omega)).trans HNn.out)
            have d7 := Posts.slot (show a.eval (.tmp 7) = .pointer (some ⟨w2.heap.size, 0, none⟩) from hS.other 7 rfl)
            exact Posts.op_value (fun _ => trivial) rfl rfl (by intro c h; cases h) rfl (by rw [hS.size]; simp) (v := .agg #[.int .u8 O, .int .u8 0, .int .u16 0, .int .u32 0]) (by simp [execOp, d7, y0, y1, y2, y3, go_sem]) rfl (hE.refl _) trivial
          · intro a X hX hS hD hJ hU
            obtain ⟨y0, y1, y2, y3⟩ := cells4' ((hX.block w2.heap.size (by rw [World.size_alloc]; omega) (by omega)).trans HNn.out)
            have d7 := Posts.slot (show a.eval (.tmp 7) = .pointer (some ⟨w2.heap.size, 0, none⟩) from hS.other 7 rfl)
            exact Posts.op_value (fun _ => trivial) rfl rfl (by intro c h; cases h) rfl (by rw [hS.size]; simp) (v := .agg #[.int .u8 O, .int .u8 0, .int .u16 0, .int .u32 0]) (by simp [execOp, d7, y0, y1, y2, y3, go_sem]) rfl (hE.refl _) trivial
          · intro a X hX hS hD hJ hU
            obtain ⟨y0, y1, y2, y3⟩ := cells4' ((hX.block w2.heap.size (by rw [World.size_alloc]; omega) (by omega)).trans HNn.out)
            have d37 := Posts.slot (show a.eval (.tmp 37) = .agg #[.int .u8 O, .int .u8 0, .int .u16 0, .int .u32 0] from hD.1)
            refine Posts.op_call (fun _ => trivial) rfl rfl rfl (by intro c h; cases h) rfl (by rw [hS.size]; simp) 33 #[.agg #[.int .u8 O, .int .u8 0, .int .u16 0, .int .u32 0]] (by simp [execOp, d37, go_sem]) ?_
            refine callsIn_wide.2 ((HMy.out X (hX.below HBw.out (by rw [World.size_alloc]; omega))).mono ?_)
            rintro e Y ⟨rfl, hb⟩
            exact ⟨_, rfl, rfl, EK.of hb, trivial⟩
          · intro a X hX hS hD hJ hU
            obtain ⟨y0, y1, y2, y3⟩ := cells4' ((hX.block w2.heap.size (by rw [World.size_alloc]; omega) (by omega)).trans HNn.out)
            have d38 := Posts.slot (show a.eval (.tmp 38) = .bool (false) from hD.1)
            exact Posts.op_value (fun _ => trivial) rfl rfl (by intro c h; cases h) rfl (by rw [hS.size]; simp) (v := .bool (false)) (by simp [execOp, d38,  go_sem]) rfl (hE.refl _) trivial
          · intro a X hX hS hD hJ hU
            exact Posts.op_skip hE (fun _ => trivial) rfl (Posts.wanted_no rfl rfl rfl (show a.eval (.tmp 39) = .bool !true from hD.1)) rfl (by rw [hS.size]; simp) rfl trivial
          · intro a X hX hS hD hJ hU
            exact Posts.op_skip hE (fun _ => trivial) rfl (Posts.wanted_no rfl rfl rfl (show a.eval (.tmp 39) = .bool !true from hD.1)) rfl (by rw [hS.size]; simp) rfl trivial
          · intro a X hX hS hD hJ hU
            exact Posts.op_skip hE (fun _ => trivial) rfl (Posts.wanted_no rfl rfl rfl (show a.eval (.tmp 39) = .bool !true from hD.1)) rfl (by rw [hS.size]; simp) rfl trivial
          · intro a X hX hS hD hJ hU
            exact Posts.op_skip hE (fun _ => trivial) rfl (Posts.wanted_no rfl rfl rfl (show a.eval (.tmp 39) = .bool !true from hD.2.2.1)) rfl (by rw [hS.size]; simp) rfl trivial
          · intro a X hX hS hD hJ hU
            exact Posts.op_skip hE (fun _ => trivial) rfl (Posts.wanted_no rfl rfl rfl (show a.eval (.tmp 39) = .bool !true from hD.2.2.1)) rfl (by rw [hS.size]; simp) rfl trivial
          · intro a X hX hS hD hJ hU
            obtain ⟨y0, y1, y2, y3⟩ := cells4' ((hX.block w2.heap.size (by rw [World.size_alloc]; omega) (by omega)).trans HNn.out)
            have d39 := Posts.slot (show a.eval (.tmp 39) = .bool (false) from hD.1)
            exact Posts.op_value (fun _ => trivial) rfl rfl (by intro c h; cases h) rfl (by rw [hS.size]; simp) (v := .bool (false)) (by simp [execOp, d39, go_sem]) rfl (hE.refl _) trivial
          · intro a X hX hS hD hJ hU
            obtain ⟨y0, y1, y2, y3⟩ := cells4' ((hX.block w2.heap.size (by rw [World.size_alloc]; omega) (by omega)).trans HNn.out)
            have d2 := Posts.slot (show a.eval (.tmp 2) = .pointer (some ⟨w.heap.size, 0, none⟩) from hS.other 2 rfl)
            have d36 := Posts.slot (show a.eval (.tmp 36) = .agg #[.int .u8 O, .int .u8 0, .int .u16 0, .int .u32 0] from hD.1)
            have hR0 : ∃ u0 u1 u2 u3, X.heap[w.heap.size]? = some (.cells #[u0, u1, u2, u3] 32 (0, 0)) := by
              rcases hX.own (by rw [World.size_alloc]; omega) with e | e
              · exact ⟨_, _, _, _, e.trans HRn.out⟩
              · exact ⟨_, _, _, _, e⟩
            obtain ⟨u0, u1, u2, u3, hz⟩ := hR0
            obtain ⟨z0, z1, z2, z3⟩ := cells4' hz
            have f0 : X.frozen? ⟨w.heap.size, 0, none⟩ = false := by simp [World.frozen?, hz]
            have f1 : X.frozen? ⟨w.heap.size, 1, none⟩ = false := by simp [World.frozen?, hz]
            have f2 : X.frozen? ⟨w.heap.size, 2, none⟩ = false := by simp [World.frozen?, hz]
            have f3 : X.frozen? ⟨w.heap.size, 3, none⟩ = false := by simp [World.frozen?, hz]
            obtain ⟨hek, hfin⟩ := ek_store4 (v0 := .int .u8 O) (v1 := .int .u8 0) (v2 := .int .u16 0) (v3 := .int .u32 0) hz
            exact Posts.op_done (fun _ => trivial) rfl rfl (by intro c h; cases h) (Y := ((((X.setCell ⟨w.heap.size, 0, none⟩ (.int .u8 O)).setCell ⟨w.heap.size, 1, none⟩ (.int .u8 0)).setCell ⟨w.heap.size, 2, none⟩ (.int .u16 0)).setCell ⟨w.heap.size, 3, none⟩ (.int .u32 0))) (by simp [execOp, d2, d36, z0, z1, z2, z3, f0, f1, f2, f3, go_sem]) ⟨⟨⟨undef, rfl⟩, ⟨Nat.lt_of_lt_of_le (lt_of_block hz) hek.size, hfin⟩, hek⟩, trivial⟩
        · intro a0 Y hY hS hJt hL
          have p36 := Posts.slot (show a0.eval (.tmp 36) = .agg #[.int .u8 O, .int .u8 0, .int .u16 0, .int .u32 0] from hL.1)
          have p37 := Posts.slot (show a0.eval (.tmp 37) = .agg #[.int .u8 O, .int .u8 0, .int .u16 0, .int .u32 0] from hL.2.1)
          have p38 := Posts.slot (show a0.eval (.tmp 38) = .bool (false) from hL.2.2.1)
          have p39 := Posts.slot (show a0.eval (.tmp 39) = .bool (false) from hL.2.2.2.1)
          have p40 := Posts.slot (show a0.eval (.tmp 40) = undef from hL.2.2.2.2.1)
          have p41 := Posts.slot (show a0.eval (.tmp 41) = undef from hL.2.2.2.2.2.1)
          have p42 := Posts.slot (show a0.eval (.tmp 42) = undef from hL.2.2.2.2.2.2.1)
          have p43 := Posts.slot (show a0.eval (.tmp 43) = undef from hL.2.2.2.2.2.2.2.1)
          have p44 := Posts.slot (show a0.eval (.tmp 44) = undef from hL.2.2.2.2.2.2.2.2.1)
          have p45 := Posts.slot (show a0.eval (.tmp 45) = .bool (false) from hL.2.2.2.2.2.2.2.2.2.1)
          have p_10 := (show _ from hL.2.2.2.2.2.2.2.2.2.2.1)
          have hfr := hS.frame [36, 37, 38, 39, 40, 41, 42, 43, 44, 45, 3] (fun t ht => by simp [Posts.isDst] at ht; first | (rcases ht with h | h | h | h | h | h | h | h | h | h | h <;> subst h <;> simp) | (subst ht; simp))
          simp only [List.foldl_cons, List.foldl_nil] at hfr
          have hdf := hS.defers
          simp only [Array.getD_eq_getD_getElem?] at hfr
          clear hL hS
          generalize a0.tmps[36]?.getD undef = v36 at *
          generalize a0.tmps[37]?.getD undef = v37 at *
          generalize a0.tmps[38]?.getD undef = v38 at *
          generalize a0.tmps[39]?.getD undef = v39 at *
          generalize a0.tmps[40]?.getD undef = v40 at *
          generalize a0.tmps[41]?.getD undef = v41 at *
          generalize a0.tmps[42]?.getD undef = v42 at *
          generalize a0.tmps[43]?.getD undef = v43 at *
          generalize a0.tmps[44]?.getD undef = v44 at *
          generalize a0.tmps[45]?.getD undef = v45 at *
          generalize a0.tmps[3]?.getD undef = v3 at *
          obtain rfl := p36
          obtain rfl := p37
          obtain rfl := p38
          obtain rfl := p39
          obtain rfl := p40
          obtain rfl := p41
          obtain rfl := p42
          obtain rfl := p43
          obtain rfl := p44
          obtain rfl := p45
          obtain ⟨tm, df⟩ := a0
          simp only [List.setIfInBounds_toArray, List.set_cons_succ, List.set_cons_zero] at hfr hdf
          subst hfr
          subst hdf
          refine Posts.tail_op 11 (by kernel_rfl) (Posts.op_val (fun _ => trivial) rfl rfl (by intro c h; cases h) (v := .bool (false)) (Y := Y) (by simp [execOp, Act.eval, go_sem]) ?_)
          refine ⟨by kernel_rfl, ?_⟩
          simp only [Exit.inBlock, Exit.then]
          rename_i hK
          refine hK _ _ ?_
          obtain ⟨d0, d1, d2, d3⟩ := cells4' p_10.2
          have HYb := Lib.hid (hY.below HBw.out (by rw [World.size_alloc]; omega))
          clear p_10 hY
          go_wp2_with fail
          refine bodyPost_ret (v := .tuple #[.agg #[.int .u8 O, .int .u8 0, .int .u16 0, .int .u32 0], .bool (false)]) (by simp [results, Tryz.f86, go_sem, d0, d1, d2, d3]) rfl ?_
          exact HPost.out _ _ (by rw [HB2.out]; simp) HYb.out
      · go_upto_region 7 with fail
        refine (wpIn_wide (n := 0)).1 (Posts.wpIn_region_tail hE 11 0 (Posts.At [Posts.is (.agg #[.int .u8 O, .int .u8 0, .int .u16 0, .int .u32 0]), Posts.is (.agg #[.int .u8 O, .int .u8 0, .int .u16 0, .int .u32 0]), Posts.is (.bool (true)), Posts.is (.bool (true)), Posts.is (.bool (true)), Posts.is (.string ST), Posts.is (.string ST), Posts.is (.bool (false)), Posts.is (.bool ((true == false))), Posts.is (.bool ((true == false))), (fun _ X => w.heap.size < X.heap.size ∧ X.heap[w.heap.size]? = some (.cells #[.int .u8 O, .int .u8 0, .int .u16 0, .int .u32 0] 32 (0, 0)))]) (fun _ _ => True) (by kernel_rfl) (by decide) (by kernel_rfl) (by kernel_rfl) (by kernel_rfl)
          (Posts.stable_at _ (by repeat' (first | exact trivial | (refine And.intro ?_ ?_) | exact Posts.is_stable _ | exact Posts.on_stable _ _ | assumption))) trivial ?_ ?_)
        · refine ⟨?_, ?_, ?_, ?_, ?_, ?_, ?_, ?_, ?_, ?_, ?_, trivial⟩
          · intro a X hX hS hD hJ hU
            obtain ⟨y0, y1, y2, y3⟩ := cells4' ((hX.block w2.heap.size (by rw [World.size_alloc]; omega) (by omega)).trans HNn.out)
            have d7 := Posts.slot (show a.eval (.tmp 7) = .pointer (some ⟨w2.heap.size, 0, none⟩) from hS.other 7 rfl)
            exact Posts.op_value (fun _ => trivial) rfl rfl (by intro c h; cases h) rfl (by rw [hS.size]; simp) (v := .agg #[.int .u8 O, .int .u8 0, .int .u16 0, .int .u32 0]) (by simp [execOp, d7, y0, y1, y2, y3, go_sem]) rfl (hE.refl _) trivial
          · intro a X hX hS hD hJ hU
            obtain ⟨y0, y1, y2, y3⟩ := cells4' ((hX.block w2.heap.size (by rw [World.size_alloc]; omega) (by omega)).trans HNn.out)
            have d7 := Posts.slot (show a.eval (.tmp 7) = .pointer (some ⟨w2.heap.size, 0, none⟩) from hS.other 7 rfl)
            exact Posts.op_value (fun _ => trivial) rfl rfl (by intro c h; cases h) rfl (by rw [hS.size]; simp) (v := .agg #[.int .u8 O, .int .u8 0, .int .u16 0, .int .u32 0]) (by simp [execOp, d7, y0, y1, y2, y3, go_sem]) rfl (hE.refl _) trivial
          · intro a X hX hS hD hJ hU
            obtain ⟨y0, y1, y2, y3⟩ := cells4' ((hX.block w2.heap.size (by rw [World.size_alloc]; omega) (by omega)).trans HNn.out)
            have d37 := Posts.slot (show a.eval (.tmp 37) = .agg #[.int .u8 O, .int .u8 0, .int .u16 0, .int .u32 0] from hD.1)
            refine Posts.op_call (fun _ => trivial) rfl rfl rfl (by intro c h; cases h) rfl (by rw [hS.size]; simp) 33 #[.agg #[.int .u8 O, .int .u8 0, .int .u16 0, .int .u32 0]] (by simp [execOp, d37, go_sem]) ?_
            refine callsIn_wide.2 ((HMy.out X (hX.below HBw.out (by rw [World.size_alloc]; omega))).mono ?_)
            rintro e Y ⟨rfl, hb⟩
            exact ⟨_, rfl, rfl, EK.of hb, trivial⟩
          · intro a X hX hS hD hJ hU
            obtain ⟨y0, y1, y2, y3⟩ := cells4' ((hX.block w2.heap.size (by rw [World.size_alloc]; omega) (by omega)).trans HNn.out)
            have d38 := Posts.slot (show a.eval (.tmp 38) = .bool (true) from hD.1)
            exact Posts.op_value (fun _ => trivial) rfl rfl (by intro c h; cases h) rfl (by rw [hS.size]; simp) (v := .bool (true)) (by simp [execOp, d38,  go_sem]) rfl (hE.refl _) trivial
          · intro a X hX hS hD hJ hU
            obtain ⟨y0, y1, y2, y3⟩ := cells4' ((hX.block w2.heap.size (by rw [World.size_alloc]; omega) (by omega)).trans HNn.out)
            have d8 := Posts.slot (show a.eval (.tmp 8) = .bool (true) from hS.other 8 rfl)
            exact Posts.op_value (fun _ => trivial) rfl (Posts.wanted_yes rfl rfl rfl (show a.eval (.tmp 39) = .bool true from hD.1)) (by intro c h; cases h) rfl (by rw [hS.size]; simp) (v := .bool (true)) (by simp [execOp, d8,  go_sem]) rfl (hE.refl _) trivial
          · intro a X hX hS hD hJ hU
            obtain ⟨y0, y1, y2, y3⟩ := cells4' ((hX.block w2.heap.size (by rw [World.size_alloc]; omega) (by omega)).trans HNn.out)
            have d4 := Posts.slot (show a.eval (.tmp 4) = .string ST from hS.other 4 rfl)
            exact Posts.op_value (fun _ => trivial) rfl (Posts.wanted_yes rfl rfl rfl (show a.eval (.tmp 39) = .bool true from hD.1)) (by intro c h; cases h) rfl (by rw [hS.size]; simp) (v := .string ST) (by simp [execOp, d4,  go_sem]) rfl (hE.refl _) trivial
          · intro a X hX hS hD hJ hU
            obtain ⟨y0, y1, y2, y3⟩ := cells4' ((hX.block w2.heap.size (by rw [World.size_alloc]; omega) (by omega)).trans HNn.out)
            have d0 := Posts.slot (show a.eval (.tmp 0) = .string ST from hS.other 0 rfl)
            exact Posts.op_value (fun _ => trivial) rfl (Posts.wanted_yes rfl rfl rfl (show a.eval (.tmp 39) = .bool true from hD.1)) (by intro c h; cases h) rfl (by rw [hS.size]; simp) (v := .string ST) (by simp [execOp, d0,  go_sem]) rfl (hE.refl _) trivial
          · intro a X hX hS hD hJ hU
            obtain ⟨y0, y1, y2, y3⟩ := cells4' ((hX.block w2.heap.size (by rw [World.size_alloc]; omega) (by omega)).trans HNn.out)
            have d41 := Posts.slot (show a.eval (.tmp 41) = .string ST from hD.1)
            have d42 := Posts.slot (show a.eval (.tmp 42) = .string ST from hD.2.1)
            exact Posts.op_value (fun _ => trivial) rfl (Posts.wanted_yes rfl rfl rfl (show a.eval (.tmp 39) = .bool true from hD.2.2.1)) (by intro c h; cases h) rfl (by rw [hS.size]; simp) (v := .bool (false)) (by simp [execOp, d41, d42, hne, go_sem]) rfl (hE.refl _) trivial
          · intro a X hX hS hD hJ hU
            obtain ⟨y0, y1, y2, y3⟩ := cells4' ((hX.block w2.heap.size (by rw [World.size_alloc]; omega) (by omega)).trans HNn.out)
            have d40 := Posts.slot (show a.eval (.tmp 40) = .bool (true) from hD.1)
            have d43 := Posts.slot (show a.eval (.tmp 43) = .bool (false) from hD.2.1)
            exact Posts.op_value (fun _ => trivial) rfl (Posts.wanted_yes rfl rfl rfl (show a.eval (.tmp 39) = .bool true from hD.2.2.1)) (by intro c h; cases h) rfl (by rw [hS.size]; simp) (v := .bool ((true == false))) (by simp [execOp, d40, d43, go_sem]) rfl (hE.refl _) trivial
          · intro a X hX hS hD hJ hU
            obtain ⟨y0, y1, y2, y3⟩ := cells4' ((hX.block w2.heap.size (by rw [World.size_alloc]; omega) (by omega)).trans HNn.out)
            have d39 := Posts.slot (show a.eval (.tmp 39) = .bool (true) from hD.1)
            have d44 : a.tmps[44]?.getD undef = .bool ((true == false)) := by
              have hbind := hD
              exact Posts.slot (show a.eval (.tmp 44) = .bool ((true == false)) from hD.2.1)
            exact Posts.op_value (fun _ => trivial) rfl rfl (by intro c h; cases h) rfl (by rw [hS.size]; simp) (v := .bool ((true == false))) (by simp [execOp, d39, d44, go_sem]) rfl (hE.refl _) trivial
          · intro a X hX hS hD hJ hU
            obtain ⟨y0, y1, y2, y3⟩ := cells4' ((hX.block w2.heap.size (by rw [World.size_alloc]; omega) (by omega)).trans HNn.out)
            have d2 := Posts.slot (show a.eval (.tmp 2) = .pointer (some ⟨w.heap.size, 0, none⟩) from hS.other 2 rfl)
            have d36 := Posts.slot (show a.eval (.tmp 36) = .agg #[.int .u8 O, .int .u8 0, .int .u16 0, .int .u32 0] from hD.1)
            have hR0 : ∃ u0 u1 u2 u3, X.heap[w.heap.size]? = some (.cells #[u0, u1, u2, u3] 32 (0, 0)) := by
              rcases hX.own (by rw [World.size_alloc]; omega) with e | e
              · exact ⟨_, _, _, _, e.trans HRn.out⟩
              · exact ⟨_, _, _, _, e⟩
            obtain ⟨u0, u1, u2, u3, hz⟩ := hR0
            obtain ⟨z0, z1, z2, z3⟩ := cells4' hz
            have f0 : X.frozen? ⟨w.heap.size, 0, none⟩ = false := by simp [World.frozen?, hz]
            have f1 : X.frozen? ⟨w.heap.size, 1, none⟩ = false := by simp [World.frozen?, hz]
            have f2 : X.frozen? ⟨w.heap.size, 2, none⟩ = false := by simp [World.frozen?, hz]
            have f3 : X.frozen? ⟨w.heap.size, 3, none⟩ = false := by simp [World.frozen?, hz]
            obtain ⟨hek, hfin⟩ := ek_store4 (v0 := .int .u8 O) (v1 := .int .u8 0) (v2 := .int .u16 0) (v3 := .int .u32 0) hz
            exact Posts.op_done (fun _ => trivial) rfl rfl (by intro c h; cases h) (Y := ((((X.setCell ⟨w.heap.size, 0, none⟩ (.int .u8 O)).setCell ⟨w.heap.size, 1, none⟩ (.int .u8 0)).setCell ⟨w.heap.size, 2, none⟩ (.int .u16 0)).setCell ⟨w.heap.size, 3, none⟩ (.int .u32 0))) (by simp [execOp, d2, d36, z0, z1, z2, z3, f0, f1, f2, f3, go_sem]) ⟨⟨⟨undef, rfl⟩, ⟨Nat.lt_of_lt_of_le (lt_of_block hz) hek.size, hfin⟩, hek⟩, trivial⟩
        · intro a0 Y hY hS hJt hL
          have p36 := Posts.slot (show a0.eval (.tmp 36) = .agg #[.int .u8 O, .int .u8 0, .int .u16 0, .int .u32 0] from hL.1)
          have p37 := Posts.slot (show a0.eval (.tmp 37) = .agg #[.int .u8 O, .int .u8 0, .int .u16 0, .int .u32 0] from hL.2.1)
          have p38 := Posts.slot (show a0.eval (.tmp 38) = .bool (true) from hL.2.2.1)
          have p39 := Posts.slot (show a0.eval (.tmp 39) = .bool (true) from hL.2.2.2.1)
          have p40 := Posts.slot (show a0.eval (.tmp 40) = .bool (true) from hL.2.2.2.2.1)
          have p41 := Posts.slot (show a0.eval (.tmp 41) = .string ST from hL.2.2.2.2.2.1)
          have p42 := Posts.slot (show a0.eval (.tmp 42) = .string ST from hL.2.2.2.2.2.2.1)
          have p43 := Posts.slot (show a0.eval (.tmp 43) = .bool (false) from hL.2.2.2.2.2.2.2.1)
          have p44 := Posts.slot (show a0.eval (.tmp 44) = .bool ((true == false)) from hL.2.2.2.2.2.2.2.2.1)
          have p45 := Posts.slot (show a0.eval (.tmp 45) = .bool ((true == false)) from hL.2.2.2.2.2.2.2.2.2.1)
          have p_10 := (show _ from hL.2.2.2.2.2.2.2.2.2.2.1)
          have hfr := hS.frame [36, 37, 38, 39, 40, 41, 42, 43, 44, 45, 3] (fun t ht => by simp [Posts.isDst] at ht; first | (rcases ht with h | h | h | h | h | h | h | h | h | h | h <;> subst h <;> simp) | (subst ht; simp))
          simp only [List.foldl_cons, List.foldl_nil] at hfr
          have hdf := hS.defers
          simp only [Array.getD_eq_getD_getElem?] at hfr
          clear hL hS
          generalize a0.tmps[36]?.getD undef = v36 at *
          generalize a0.tmps[37]?.getD undef = v37 at *
          generalize a0.tmps[38]?.getD undef = v38 at *
          generalize a0.tmps[39]?.getD undef = v39 at *
          generalize a0.tmps[40]?.getD undef = v40 at *
          generalize a0.tmps[41]?.getD undef = v41 at *
          generalize a0.tmps[42]?.getD undef = v42 at *
          generalize a0.tmps[43]?.getD undef = v43 at *
          generalize a0.tmps[44]?.getD undef = v44 at *
          generalize a0.tmps[45]?.getD undef = v45 at *
          generalize a0.tmps[3]?.getD undef = v3 at *
          obtain rfl := p36
          obtain rfl := p37
          obtain rfl := p38
          obtain rfl := p39
          obtain rfl := p40
          obtain rfl := p41
          obtain rfl := p42
          obtain rfl := p43
          obtain rfl := p44
          obtain rfl := p45
          obtain ⟨tm, df⟩ := a0
          simp only [List.setIfInBounds_toArray, List.set_cons_succ, List.set_cons_zero] at hfr hdf
          subst hfr
          subst hdf
          refine Posts.tail_op 11 (by kernel_rfl) (Posts.op_val (fun _ => trivial) rfl rfl (by intro c h; cases h) (v := .bool ((true == false))) (Y := Y) (by simp [execOp, Act.eval, go_sem]) ?_)
          refine ⟨by kernel_rfl, ?_⟩
          simp only [Exit.inBlock, Exit.then]
          rename_i hK
          refine hK _ _ ?_
          obtain ⟨d0, d1, d2, d3⟩ := cells4' p_10.2
          have HYb := Lib.hid (hY.below HBw.out (by rw [World.size_alloc]; omega))
          clear p_10 hY
          go_wp2_with fail
          refine bodyPost_ret (v := .tuple #[.agg #[.int .u8 O, .int .u8 0, .int .u16 0, .int .u32 0], .bool ((true == false))]) (by simp [results, Tryz.f86, go_sem, d0, d1, d2, d3]) rfl ?_
          exact HPost.out _ _ (by rw [HB2.out]; simp) HYb.out
end Asm
end Go.Proofs.YtgiocecpkhmhhaaGreatDoor
namespace Go.Proofs.YtgiocecpkhmhhaaGreatDoor
open Go.ChangeShapes Go.WideShapes Go.ChangeAt Go.RowKit
namespace Asm
open Isa
set_option linter.unusedVariables false
set_option linter.unusedSimpArgs false
/-- what a word says as a number; 0, if it is none -/
def nv (ws : List (List UInt8)) (k : Nat) : Int := if 0 ≤ numI (ws.getD k []) then numI (ws.getD k []) else 0
def isCM (o : Int) : Bool := o == 1 || o == 17 || o == 18 || o == 19 || o == 20
def withV (i : Iv) (x0 x1 : Int) : Iv := if isCM i.op then ⟨i.op, i.a, i.b, x0⟩ else if isA i.op then ⟨i.op, min x0 255, i.b, i.c⟩ else if isAB i.op then ⟨i.op, min x0 255, min x1 65535, i.c⟩ else i
def goodWs (ws : List (List UInt8)) : Bool := ws.all fun s => decide (0 ≤ numI s)
def withI (i : Iv) (ws : List (List UInt8)) : Iv := if goodWs ws then withV i (nv ws 0) (nv ws 1) else iv0
def withB (i : Iv) (ws : List (List UInt8)) : Bool := goodWs ws && mayI (withV i (nv ws 0) (nv ws 1))
def WithP (i : Iv) (ws : List (List UInt8)) (w : World) (e : Ending) (w' : World) : Prop := e = .returned (.tuple #[iv (withI i ws), .bool (withB i ws)]) ∧ Below w.heap.size w w'
theorem numI_top (s : List UInt8) : numI s ≤ 4294967295 := by
  by_cases h : 0 ≤ numI s
  · exact (num_inv h).2
  · omega
theorem nv_range (ws : List (List UInt8)) (k : Nat) : 0 ≤ nv ws k ∧ nv ws k ≤ 4294967295 := by
  unfold nv
  split
  · exact ⟨by assumption, numI_top _⟩
  · omega
theorem nv_past (ws : List (List UInt8)) (k : Nat) (h : ws.length ≤ k) : nv ws k = 0 := by
  unfold nv
  rw [List.getD_eq_getElem?_getD, List.getElem?_eq_none h]
  rfl
theorem goodWs_yes {ws : List (List UInt8)} (h : ∀ t, t < ws.length → 0 ≤ numI (ws.getD t [])) : goodWs ws = true := by
  unfold goodWs
  rw [List.all_eq_true]
  intro s hs
  obtain ⟨t, ht, rfl⟩ := List.getElem_of_mem hs
  have := h t ht
  rw [List.getD_eq_getElem?_getD, List.getElem?_eq_getElem ht] at this
  simpa using this
theorem goodWs_no {ws : List (List UInt8)} {t : Nat} (ht : t < ws.length) (h : ¬ 0 ≤ numI (ws.getD t [])) : goodWs ws = false := by
  unfold goodWs
  rw [List.all_eq_false]
  refine ⟨ws.getD t [], getD_mem _ ht, by simpa using h⟩
theorem withV_wf {i : Iv} (h : i.wf) {x0 x1 : Int} (h0 : 0 ≤ x0 ∧ x0 ≤ 4294967295) (h1 : 0 ≤ x1 ∧ x1 ≤ 4294967295) : (withV i x0 x1).wf := by
  unfold withV
  split
  · exact ⟨h.op, h.a, h.b, h0⟩
  · split
    · exact ⟨h.op, by simp only; omega, h.b, h.c⟩
    · split
      · exact ⟨h.op, by simp only; omega, by simp only; omega, h.c⟩
      · exact h
theorem min_u32 (x : Int) (k : Int) : ∀ W : World, (Builtin.min_ #[30, 30] 30 #[.int .u32 x, .int .u32 k]).run Tryz.prog W = .ok (.int .u32 (min x k)) W := fun W => by
  have h : (if k < x then k else x) = min x k := by split <;> omega
  simp only [Builtin.min_, ← h]
  simp [Builtin.min2]
theorem srow_at {w : World} {a : Option Addr} {n : Nat} {l : List (List UInt8)} (h : SRow w a n l) (k : Nat) (hk : k < n) : ∃ b off, a = some ⟨b, off, none⟩ ∧ w.cell? ⟨b, off + k, none⟩ = some (.string (sB (l.getD k []))) := by
  obtain ⟨b, off, rfl, hc⟩ := h.2.resolve_left (by omega)
  exact ⟨b, off, rfl, hc k hk⟩
theorem heap2_set (W : World) (V k : Nat) (cs : Array Value) (t : TypeId) (v : Value) (h : W.heap[V]? = some (.cells cs t (0, 0))) : (W.setCell ⟨V, k, none⟩ v).heap[V]? = some (.cells (cs.setIfInBounds k v) t (0, 0)) := heap_setCell_own W V k cs t v h
set_option maxRecDepth 100000 in
set_option maxHeartbeats 6400000 in
theorem with_any (i : Iv) (hi : i.wf) (ws : List (List UInt8)) (a : Option Addr) (n c : Nat) (hn2 : n ≤ 2) (hlen : ∀ s ∈ ws, s.length ≤ 1000000000) (w : World) (hT : TT w) (h : SRow w a n ws) : Calls Tryz.prog 87 #[iv i, .slice a n c] w (WithP i ws w) := by
  have hln : ws.length = n := h.1
  obtain ⟨V2, hV2⟩ : ∃ V, V = w.heap.size := ⟨_, rfl⟩
  obtain ⟨O2, hO2⟩ : ∃ o, o = (.cells #[.int .u8 i.op, .int .u8 i.a, .int .u16 i.b, .int .u32 i.c] 32 : Obj) := ⟨_, rfl⟩
  obtain ⟨O4, hO4⟩ : ∃ o, o = (.cells #[.int .u8 0, .int .u8 0, .int .u16 0, .int .u32 0] 32 : Obj) := ⟨_, rfl⟩
  obtain ⟨O6, hO6⟩ : ∃ o, o = (.cells #[.int .u32 0, .int .u32 0] 125 : Obj) := ⟨_, rfl⟩
  have B1 := (Below.refl w.heap.size w).alloc (Nat.le_refl _) O2
  have B2 := B1.alloc B1.size O4
  have B3 := B2.alloc B2.size O6
  have s1 : (w.alloc O2).heap.size = w.heap.size + 1 := World.size_alloc _ _
  have s2 : ((w.alloc O2).alloc O4).heap.size = w.heap.size + 2 := by rw [World.size_alloc, s1]
  have p1 := alloc_new w O2
  have p2 : ((w.alloc O2).alloc O4).heap[w.heap.size]? = some O2 := (Below.heap_alloc _ _ _ (by omega)).trans p1
  have p3 : (((w.alloc O2).alloc O4).alloc O6).heap[w.heap.size]? = some O2 := (Below.heap_alloc _ _ _ (by omega)).trans p2
  have r2 := alloc_new (w.alloc O2) O4
  rw [s1] at r2
  have r3 : (((w.alloc O2).alloc O4).alloc O6).heap[w.heap.size + 1]? = some O4 := (Below.heap_alloc _ _ _ (by omega)).trans r2
  have q3 := alloc_new ((w.alloc O2).alloc O4) O6
  rw [s2] at q3
  rw [hO2, hO4, hO6] at p3 r3 q3 B3
  have HP3 := Lib.hid p3
  have HR3 := Lib.hid r3
  have HQ3 := Lib.hid q3
  have HB3 := Lib.hid B3
  clear p1 p2 p3 r2 r3 q3 B1 B2 B3 s1 s2 hO2 hO4 hO6 hV2
  have HTT := Lib.hid (fun W (hb : Below w.heap.size w W) => hT.below hb (Nat.le_refl _))
  have HRow := Lib.hid (fun W (hb : Below w.heap.size w W) k (hk : k < n) => srow_at (h.below hb (Nat.le_refl _)) k hk)
  have HLen := Lib.hid hlen
  have HL := Lib.hid hln
  have HNo := Lib.hid (fun t ht hh => goodWs_no (ws := ws) (t := t) ht hh)
  have HYes := Lib.hid (fun hh => goodWs_yes (ws := ws) hh)
  have HPw : Hid (∀ w', goodWs ws = false → Below w.heap.size w w' → WithP i ws w (.returned (.tuple #[.agg #[.int .u8 0, .int .u8 0, .int .u16 0, .int .u32 0], .bool false])) w') := fun w' hg hb => ⟨by unfold withI withB; rw [hg]; rfl, hb⟩
  have HPy : Hid (∀ w' j, goodWs ws = true → j = withV i (nv ws 0) (nv ws 1) → Below w.heap.size w w' → WithP i ws w (.returned (.tuple #[.agg #[.int .u8 j.op, .int .u8 j.a, .int .u16 j.b, .int .u32 j.c], .bool (mayI j)])) w') := fun w' j hg hj hb => ⟨by unfold withI withB; rw [hg, hj]; rfl, hb⟩
  have HWf := Lib.hid (withV_wf hi (nv_range ws 0) (nv_range ws 1))
  have hr0 := nv_range ws 0
  have hr1 := nv_range ws 1
  have HPast := Lib.hid (fun k hk => nv_past ws k hk)
  clear h hT hlen hln
  generalize hx0 : nv ws 0 = x0 at *
  generalize hx1 : nv ws 1 = x1 at *
  have HX0 := Lib.hid hx0
  have HX1 := Lib.hid hx1
  clear hx0 hx1
  have hm0 := min_u32 x0 255
  have hm1 := min_u32 x1 65535
  have wm0 : IntKind.u8.wrap (min x0 255) = min x0 255 := by simp [IntKind.wrap, IntKind.bits, IntKind.signed]; omega
  have wm1 : IntKind.u16.wrap (min x1 65535) = min x1 65535 := by simp [IntKind.wrap, IntKind.bits, IntKind.signed]; omega
  have HIw := Lib.hid hi
  obtain ⟨O, ia, ib, ic⟩ := i
  unfold iv
  simp only at *
  have hOb := HIw.out.op
  simp only at hOb
  clear hi
  go_enter Tryz.func87, Tryz.ntmps87
  go_wp2_with fail
  go_loopw [15] (fun i wr => ∃ k : Nat, k ≤ n ∧ i = .int .i64 k ∧ (∀ t, t < k → 0 ≤ numI (ws.getD t [])) ∧
      wr.heap[w.heap.size]? = some (.cells #[.int .u8 O, .int .u8 ia, .int .u16 ib, .int .u32 ic] 32 (0, 0)) ∧ wr.heap[w.heap.size + 1]? = some (.cells #[.int .u8 0, .int .u8 0, .int .u16 0, .int .u32 0] 32 (0, 0)) ∧
      wr.heap[w.heap.size + 2]? = some (.cells #[.int .u32 (if 0 < k then x0 else 0), .int .u32 (if 1 < k then x1 else 0)] 125 (0, 0)) ∧ Below w.heap.size w wr) (fun i _ => n - (intOf i).toNat)
  case atStart => exact ⟨0, by omega, rfl, fun t ht => by omega, HP3.out, HR3.out, HQ3.out, HB3.out⟩
  case round =>
    obtain ⟨k, hk, rfl, hno, hv2, hr4, hv6, hbel⟩ := hrel
    have HO := Lib.hid hno
    have HV2 := Lib.hid hv2
    have HR4 := Lib.hid hr4
    have HV6 := Lib.hid hv6
    have HBl := Lib.hid hbel
    clear hno hv2 hr4 hv6 hbel
    by_cases hlt : k < n
    · have hd : decide ((k : Int) < (n : Int)) = true := decide_eq_true (by omega)
      have k0 : (0 : Int) ≤ k := by omega
      have k1 : (k : Int) < n := by omega
      have k2 : (k : Int) < 2 := by omega
      obtain ⟨b, off, rfl, hc⟩ := HRow.out wr HBl.out k hlt
      have HN := Lib.hid (num_any (ws.getD k []) (HLen.out _ (getD_mem _ (by rw [HL.out]; exact hlt))) wr (HTT.out wr HBl.out))
      unfold numP at HN
      have HNk := Lib.hid (HNo.out k (by rw [HL.out]; exact hlt))
      have HNv : Hid (nv ws k = if 0 ≤ numI (ws.getD k []) then numI (ws.getD k []) else 0) := rfl
      have HOk : Hid (0 ≤ numI (ws.getD k []) → ∀ t, t < k + 1 → 0 ≤ numI (ws.getD t [])) := fun hh t ht => by
        by_cases e : t = k
        · rw [e]; exact hh
        · exact HO.out t (by omega)
      generalize ws.getD k [] = s at *
      by_cases hs : 0 ≤ numI s
      · have HO2 := Lib.hid (HOk.out hs)
        rw [if_pos hs, decide_eq_true hs] at HN
        rw [if_pos hs] at HNv
        have HNv2 := Lib.hid HNv.out.symm
        clear hs HOk HNk HNv
        generalize numI s = x at *
        generalize sB s = S at *
        go_wp2_with fail
        refine HN.out.mono ?_
        rintro e w2 ⟨rfl, hb2⟩
        have hv2' := (hb2.block _ (lt_of_block HV2.out)).trans HV2.out
        have hr4' := (hb2.block _ (lt_of_block HR4.out)).trans HR4.out
        have hv6' := (hb2.block _ (lt_of_block HV6.out)).trans HV6.out
        have hk01 : k = 0 ∨ k = 1 := by omega
        have z0 := cells_at hv6' 0
        have z1 := cells_at hv6' 1
        have f0 : w2.frozen? ⟨w.heap.size + 2, 0, none⟩ = false := by simp [World.frozen?, hv6']
        have f1 : w2.frozen? ⟨w.heap.size + 2, 1, none⟩ = false := by simp [World.frozen?, hv6']
        simp only [List.getElem?_toArray, List.getElem?_cons_zero, List.getElem?_cons_succ] at z0 z1
        have HV2' := Lib.hid hv2'
        have HR4' := Lib.hid hr4'
        have HV6' := Lib.hid hv6'
        have HB2 := Lib.hid (HBl.out.trans (hb2.mono HBl.out.size))
        clear hv2' hr4' hv6' hb2 hc
        rcases hk01 with rfl | rfl
        · go_wp2_with fail
          refine ⟨⟨1, by omega, by simp, HO2.out, ?_, ?_, ?_, HB2.out.setCell (p := ⟨w.heap.size + 2, 0, none⟩) (by show w.heap.size ≤ w.heap.size + 2; omega) _⟩, by simp [intOf]; omega⟩
          · exact (Below.heap_setCell _ _ _ _ (by show w.heap.size ≠ w.heap.size + 2; omega)).trans HV2'.out
          · exact (Below.heap_setCell _ _ _ _ (by show w.heap.size + 1 ≠ w.heap.size + 2; omega)).trans HR4'.out
          · rw [heap2_set _ _ _ _ _ _ HV6'.out, HNv2.out, HX0.out]; rfl
        · go_wp2_with fail
          refine ⟨⟨2, by omega, by simp, HO2.out, ?_, ?_, ?_, HB2.out.setCell (p := ⟨w.heap.size + 2, 1, none⟩) (by show w.heap.size ≤ w.heap.size + 2; omega) _⟩, by simp [intOf]; omega⟩
          · exact (Below.heap_setCell _ _ _ _ (by show w.heap.size ≠ w.heap.size + 2; omega)).trans HV2'.out
          · exact (Below.heap_setCell _ _ _ _ (by show w.heap.size + 1 ≠ w.heap.size + 2; omega)).trans HR4'.out
          · rw [heap2_set _ _ _ _ _ _ HV6'.out, HNv2.out, HX1.out]; rfl
      · have HG := Lib.hid (HNk.out (by omega))
        rw [if_neg hs, decide_eq_false hs] at HN
        clear hs HOk HNk HNv
        generalize sB s = S at *
        go_wp2_with fail
        refine HN.out.mono ?_
        rintro e w2 ⟨rfl, hb2⟩
        have hr4' := (hb2.block _ (lt_of_block HR4.out)).trans HR4.out
        have HB2 := Lib.hid (HBl.out.trans (hb2.mono HBl.out.size))
        obtain ⟨z0, z1, z2, z3⟩ := cells4' hr4'
        have f0 : w2.frozen? ⟨w.heap.size + 1, 0, none⟩ = false := by simp [World.frozen?, hr4']
        have f1 : w2.frozen? ⟨w.heap.size + 1, 1, none⟩ = false := by simp [World.frozen?, hr4']
        have f2 : w2.frozen? ⟨w.heap.size + 1, 2, none⟩ = false := by simp [World.frozen?, hr4']
        have f3 : w2.frozen? ⟨w.heap.size + 1, 3, none⟩ = false := by simp [World.frozen?, hr4']
        have HR4' := Lib.hid hr4'
        clear hr4' hb2 hc
        go_wp2_with fail
        obtain ⟨d0, d1, d2, d3⟩ := cells4' (ret4 HR4'.out (.int .u8 0) (.int .u8 0) (.int .u16 0) (.int .u32 0))
        refine bodyPost_ret (v := .tuple #[.agg #[.int .u8 0, .int .u8 0, .int .u16 0, .int .u32 0], .bool false]) (by simp [results, Tryz.f87, go_sem, d0, d1, d2, d3]) rfl ?_
        exact HPw.out _ HG.out (bel4 HB2.out (Nat.le_succ _) _ _ _ _)
    · obtain rfl : k = n := by omega
      have HG : Hid (goodWs ws = true) := HYes.out (by rw [HL.out]; exact HO.out)
      have hd : decide ((k : Int) < (k : Int)) = false := decide_eq_false (by omega)
      have hv6 := HV6.out
      rw [show (if 0 < k then x0 else 0) = x0 from by
        split
        · rfl
        · rw [← HX0.out, HPast.out 0 (by rw [HL.out]; omega)], show (if 1 < k then x1 else 0) = x1 from by
        split
        · rfl
        · rw [← HX1.out, HPast.out 1 (by rw [HL.out]; omega)]] at hv6
      have z0 := cells_at hv6 0
      have z1 := cells_at hv6 1
      simp only [List.getElem?_toArray, List.getElem?_cons_zero, List.getElem?_cons_succ] at z0 z1
      clear hv6 HV6 HO HNo HYes HRow HLen HPast HPw HP3 HR3 HQ3 HB3
      go_wp2_with fail
      go_quiet (fail)
      have HV2d : Hid ((wr.drewN nq).heap[w.heap.size]? = some (.cells #[.int .u8 O, .int .u8 ia, .int .u16 ib, .int .u32 ic] 32 (0, 0))) := HV2.out
      have HR4d : Hid ((wr.drewN nq).heap[w.heap.size + 1]? = some (.cells #[.int .u8 0, .int .u8 0, .int .u16 0, .int .u32 0] 32 (0, 0))) := HR4.out
      have z0d : (wr.drewN nq).cell? ⟨w.heap.size + 2, 0, none⟩ = some (.int .u32 x0) := z0
      have HBd := Lib.hid (below_drewN HBl.out nq)
      clear HV2 HR4 z0 z1 HBl hm0 hm1 wm0 wm1 hd hlt hk
      generalize wr.drewN nq = W1 at *
      obtain ⟨c0, c1, c2, c3⟩ := cells4' HV2d.out
      have f0 : W1.frozen? ⟨w.heap.size, 1, none⟩ = false := by simp [World.frozen?, HV2d.out]
      have f1 : W1.frozen? ⟨w.heap.size, 2, none⟩ = false := by simp [World.frozen?, HV2d.out]
      have f2 : W1.frozen? ⟨w.heap.size, 3, none⟩ = false := by simp [World.frozen?, HV2d.out]
      obtain ⟨j, hj⟩ : ∃ j, j = withV ⟨O, ia, ib, ic⟩ x0 x1 := ⟨_, rfl⟩
      rw [← hj] at HWf
      have HJ := Lib.hid hj
      clear hj
      go_upto_block 2 with fail
      go_cut [] (fun wx => wx.heap[w.heap.size]? = some (.cells #[.int .u8 j.op, .int .u8 j.a, .int .u16 j.b, .int .u32 j.c] 32 (0, 0)) ∧
        wx.heap[w.heap.size + 1]? = some (.cells #[.int .u8 0, .int .u8 0, .int .u16 0, .int .u32 0] 32 (0, 0)) ∧ Below w.heap.size w wx)
      case first =>
        have hO : O = 1 ∨ O = 17 ∨ O = 18 ∨ O = 19 ∨ O = 20 ∨ O = 21 ∨ O = 22 ∨ O = 24 ∨ O = 26 ∨ O = 23 ∨ O = 25 ∨ (O ≠ 1 ∧ O ≠ 17 ∧ O ≠ 18 ∧ O ≠ 19 ∧ O ≠ 20 ∧ O ≠ 21 ∧ O ≠ 22 ∧ O ≠ 24 ∧ O ≠ 26 ∧ O ≠ 23 ∧ O ≠ 25) := by omega
        rcases hO with rfl | rfl | rfl | rfl | rfl | rfl | rfl | rfl | rfl | rfl | rfl | ⟨n1, n2, n3, n4, n5, n6, n7, n8, n9, n10, n11⟩
        · obtain rfl : j = ⟨1, ia, ib, x0⟩ := HJ.out
          go_wp2_with fail
          go_meet
          case rel => exact ⟨(heap2_set _ _ 3 _ _ (.int .u32 x0) HV2d.out), ((Below.heap_setCell _ ⟨w.heap.size, 3, none⟩ (.int .u32 x0) _ (by show w.heap.size + 1 ≠ w.heap.size; omega)).trans HR4d.out), (HBd.out.setCell (p := ⟨w.heap.size, 3, none⟩) (Nat.le_refl _) (.int .u32 x0))⟩
        · obtain rfl : j = ⟨17, ia, ib, x0⟩ := HJ.out
          go_wp2_with fail
          go_meet
          case rel => exact ⟨(heap2_set _ _ 3 _ _ (.int .u32 x0) HV2d.out), ((Below.heap_setCell _ ⟨w.heap.size, 3, none⟩ (.int .u32 x0) _ (by show w.heap.size + 1 ≠ w.heap.size; omega)).trans HR4d.out), (HBd.out.setCell (p := ⟨w.heap.size, 3, none⟩) (Nat.le_refl _) (.int .u32 x0))⟩
        · obtain rfl : j = ⟨18, ia, ib, x0⟩ := HJ.out
          go_wp2_with fail
          go_meet
          case rel => exact ⟨(heap2_set _ _ 3 _ _ (.int .u32 x0) HV2d.out), ((Below.heap_setCell _ ⟨w.heap.size, 3, none⟩ (.int .u32 x0) _ (by show w.heap.size + 1 ≠ w.heap.size; omega)).trans HR4d.out), (HBd.out.setCell (p := ⟨w.heap.size, 3, none⟩) (Nat.le_refl _) (.int .u32 x0))⟩
        · obtain rfl : j = ⟨19, ia, ib, x0⟩ := HJ.out
          go_wp2_with fail
          go_meet
          case rel => exact ⟨(heap2_set _ _ 3 _ _ (.int .u32 x0) HV2d.out), ((Below.heap_setCell _ ⟨w.heap.size, 3, none⟩ (.int .u32 x0) _ (by show w.heap.size + 1 ≠ w.heap.size; omega)).trans HR4d.out), (HBd.out.setCell (p := ⟨w.heap.size, 3, none⟩) (Nat.le_refl _) (.int .u32 x0))⟩
        · obtain rfl : j = ⟨20, ia, ib, x0⟩ := HJ.out
          go_wp2_with fail
          go_meet
          case rel => exact ⟨(heap2_set _ _ 3 _ _ (.int .u32 x0) HV2d.out), ((Below.heap_setCell _ ⟨w.heap.size, 3, none⟩ (.int .u32 x0) _ (by show w.heap.size + 1 ≠ w.heap.size; omega)).trans HR4d.out), (HBd.out.setCell (p := ⟨w.heap.size, 3, none⟩) (Nat.le_refl _) (.int .u32 x0))⟩
        · obtain rfl : j = ⟨21, min x0 255, ib, ic⟩ := HJ.out
          go_wp2_with fail
          go_meet
          case rel => exact ⟨(heap2_set _ _ 1 _ _ (.int .u8 (min x0 255)) HV2d.out), ((Below.heap_setCell _ ⟨w.heap.size, 1, none⟩ (.int .u8 (min x0 255)) _ (by show w.heap.size + 1 ≠ w.heap.size; omega)).trans HR4d.out), (HBd.out.setCell (p := ⟨w.heap.size, 1, none⟩) (Nat.le_refl _) (.int .u8 (min x0 255)))⟩
        · obtain rfl : j = ⟨22, min x0 255, ib, ic⟩ := HJ.out
          go_wp2_with fail
          go_meet
          case rel => exact ⟨(heap2_set _ _ 1 _ _ (.int .u8 (min x0 255)) HV2d.out), ((Below.heap_setCell _ ⟨w.heap.size, 1, none⟩ (.int .u8 (min x0 255)) _ (by show w.heap.size + 1 ≠ w.heap.size; omega)).trans HR4d.out), (HBd.out.setCell (p := ⟨w.heap.size, 1, none⟩) (Nat.le_refl _) (.int .u8 (min x0 255)))⟩
        · obtain rfl : j = ⟨24, min x0 255, ib, ic⟩ := HJ.out
          go_wp2_with fail
          go_meet
          case rel => exact ⟨(heap2_set _ _ 1 _ _ (.int .u8 (min x0 255)) HV2d.out), ((Below.heap_setCell _ ⟨w.heap.size, 1, none⟩ (.int .u8 (min x0 255)) _ (by show w.heap.size + 1 ≠ w.heap.size; omega)).trans HR4d.out), (HBd.out.setCell (p := ⟨w.heap.size, 1, none⟩) (Nat.le_refl _) (.int .u8 (min x0 255)))⟩
        · obtain rfl : j = ⟨26, min x0 255, ib, ic⟩ := HJ.out
          go_wp2_with fail
          go_meet
          case rel => exact ⟨(heap2_set _ _ 1 _ _ (.int .u8 (min x0 255)) HV2d.out), ((Below.heap_setCell _ ⟨w.heap.size, 1, none⟩ (.int .u8 (min x0 255)) _ (by show w.heap.size + 1 ≠ w.heap.size; omega)).trans HR4d.out), (HBd.out.setCell (p := ⟨w.heap.size, 1, none⟩) (Nat.le_refl _) (.int .u8 (min x0 255)))⟩
        · obtain rfl : j = ⟨23, min x0 255, min x1 65535, ic⟩ := HJ.out
          go_wp2_with fail
          go_meet
          case rel => exact ⟨(heap2_set _ _ 2 _ _ (.int .u16 (min x1 65535)) (heap2_set _ _ 1 _ _ (.int .u8 (min x0 255)) HV2d.out)), ((Below.heap_setCell _ ⟨w.heap.size, 2, none⟩ (.int .u16 (min x1 65535)) _ (by show w.heap.size + 1 ≠ w.heap.size; omega)).trans ((Below.heap_setCell _ ⟨w.heap.size, 1, none⟩ (.int .u8 (min x0 255)) _ (by show w.heap.size + 1 ≠ w.heap.size; omega)).trans HR4d.out)), ((HBd.out.setCell (p := ⟨w.heap.size, 1, none⟩) (Nat.le_refl _) (.int .u8 (min x0 255))).setCell (p := ⟨w.heap.size, 2, none⟩) (Nat.le_refl _) (.int .u16 (min x1 65535)))⟩
        · obtain rfl : j = ⟨25, min x0 255, min x1 65535, ic⟩ := HJ.out
          go_wp2_with fail
          go_meet
          case rel => exact ⟨(heap2_set _ _ 2 _ _ (.int .u16 (min x1 65535)) (heap2_set _ _ 1 _ _ (.int .u8 (min x0 255)) HV2d.out)), ((Below.heap_setCell _ ⟨w.heap.size, 2, none⟩ (.int .u16 (min x1 65535)) _ (by show w.heap.size + 1 ≠ w.heap.size; omega)).trans ((Below.heap_setCell _ ⟨w.heap.size, 1, none⟩ (.int .u8 (min x0 255)) _ (by show w.heap.size + 1 ≠ w.heap.size; omega)).trans HR4d.out)), ((HBd.out.setCell (p := ⟨w.heap.size, 1, none⟩) (Nat.le_refl _) (.int .u8 (min x0 255))).setCell (p := ⟨w.heap.size, 2, none⟩) (Nat.le_refl _) (.int .u16 (min x1 65535)))⟩
        · have g1 : (O == 1) = false := by simpa using n1
          have g17 : (O == 17) = false := by simpa using n2
          have g18 : (O == 18) = false := by simpa using n3
          have g19 : (O == 19) = false := by simpa using n4
          have g20 : (O == 20) = false := by simpa using n5
          have g21 : (O == 21) = false := by simpa using n6
          have g22 : (O == 22) = false := by simpa using n7
          have g24 : (O == 24) = false := by simpa using n8
          have g26 : (O == 26) = false := by simpa using n9
          have g23 : (O == 23) = false := by simpa using n10
          have g25 : (O == 25) = false := by simpa using n11
          have hnone : withV ⟨O, ia, ib, ic⟩ x0 x1 = ⟨O, ia, ib, ic⟩ := by unfold withV isCM isA isAB; simp [g1, g17, g18, g19, g20, g21, g22, g24, g26, g23, g25]
          obtain rfl : j = ⟨O, ia, ib, ic⟩ := HJ.out.trans hnone
          go_wp2_with fail
          go_meet
          case rel => exact ⟨HV2d.out, HR4d.out, HBd.out⟩
      case rest =>
        obtain ⟨V2, hV2⟩ : ∃ V, V = w.heap.size := ⟨_, rfl⟩
        obtain ⟨R, hR⟩ : ∃ R, R = w.heap.size + 1 := ⟨_, rfl⟩
        obtain ⟨M, hM⟩ : ∃ M, M = mayI j := ⟨_, rfl⟩
        obtain ⟨hc1, hc2, hc3⟩ := hcut
        have hRe : R = w.heap.size + 1 := hR
        have hVe : V2 = w.heap.size := hV2
        have HV2 : Hid (wc.heap[V2]? = some (.cells #[.int .u8 j.op, .int .u8 j.a, .int .u16 j.b, .int .u32 j.c] 32 (0, 0))) := by rw [hVe]; exact hc1
        have HR4 : Hid (wc.heap[R]? = some (.cells #[.int .u8 0, .int .u8 0, .int .u16 0, .int .u32 0] 32 (0, 0))) := by rw [hRe]; exact hc2
        have HVR : Hid (V2 ≠ R) := (by omega : V2 ≠ R)
        have HBR := Lib.hid (Below.refl R wc)
        have HMy := Lib.hid (fun X (hb : Below R wc X) => may_any j HWf.out X (HTT.out X (hc3.trans (hb.mono (by omega : w.heap.size ≤ R)))).tabs)
        have HPost : Hid (∀ w', Below R wc w' → WithP ⟨O, ia, ib, ic⟩ ws w (.returned (.tuple #[.agg #[.int .u8 j.op, .int .u8 j.a, .int .u16 j.b, .int .u32 j.c], .bool M])) w') := fun w' hb => by rw [hM]; exact HPy.out w' j HG.out HJ.out (hc3.trans (hb.mono (by omega : w.heap.size ≤ R)))
        have hE := ek_rel R (.cells #[.int .u8 j.op, .int .u8 j.a, .int .u16 j.b, .int .u32 j.c] 32 (0, 0))
        have hES : Posts.Stable (EK R (.cells #[.int .u8 j.op, .int .u8 j.a, .int .u16 j.b, .int .u32 j.c] 32 (0, 0))) (fun _ X => R < X.heap.size ∧ X.heap[R]? = some (.cells #[.int .u8 j.op, .int .u8 j.a, .int .u16 j.b, .int .u32 j.c] 32 (0, 0))) := EK.stable
        unfold iv at HMy
        rw [← hM] at HMy
        clear hRe hVe hM hc1 hc2 hc3 HPy HJ HBd HR4d HV2d z0d c0 c1 c2 c3 f0 f1 f2
        rw [← hR, ← hV2]
        clear hR hV2
        go_upto_region 26 with fail
        refine (wpIn_wide (n := 0)).1 (Posts.wpIn_region_tail hE 4 0 (Posts.At [Posts.is (.agg #[.int .u8 j.op, .int .u8 j.a, .int .u16 j.b, .int .u32 j.c]), Posts.is (.agg #[.int .u8 j.op, .int .u8 j.a, .int .u16 j.b, .int .u32 j.c]), Posts.is (.bool M), (fun _ X => R < X.heap.size ∧ X.heap[R]? = some (.cells #[.int .u8 j.op, .int .u8 j.a, .int .u16 j.b, .int .u32 j.c] 32 (0, 0)))]) (fun _ _ => True) (by kernel_rfl) (by decide) (by kernel_rfl) (by kernel_rfl) (by kernel_rfl)
          (Posts.stable_at _ (by repeat' (first | exact trivial | (refine And.intro ?_ ?_) | exact Posts.is_stable _ | exact Posts.on_stable _ _ | assumption))) trivial ?_ ?_)
        · refine ⟨?_, ?_, ?_, ?_, trivial⟩
          · intro a X hX hS hD hJ hU
            obtain ⟨y0, y1, y2, y3⟩ := cells4' ((hX.block V2 (lt_of_block HV2.out) HVR.out).trans HV2.out)
            have d2 := Posts.slot (show a.eval (.tmp 2) = .pointer (some ⟨V2, 0, none⟩) from hS.other 2 rfl)
            exact Posts.op_value (fun _ => trivial) rfl rfl (by intro c h; cases h) rfl (by rw [hS.size]; simp) (v := .agg #[.int .u8 j.op, .int .u8 j.a, .int .u16 j.b, .int .u32 j.c]) (by simp [execOp, d2, y0, y1, y2, y3, go_sem]) rfl (hE.refl _) trivial
          · intro a X hX hS hD hJ hU
            obtain ⟨y0, y1, y2, y3⟩ := cells4' ((hX.block V2 (lt_of_block HV2.out) HVR.out).trans HV2.out)
            have d2 := Posts.slot (show a.eval (.tmp 2) = .pointer (some ⟨V2, 0, none⟩) from hS.other 2 rfl)
            exact Posts.op_value (fun _ => trivial) rfl rfl (by intro c h; cases h) rfl (by rw [hS.size]; simp) (v := .agg #[.int .u8 j.op, .int .u8 j.a, .int .u16 j.b, .int .u32 j.c]) (by simp [execOp, d2, y0, y1, y2, y3, go_sem]) rfl (hE.refl _) trivial
          · intro a X hX hS hD hJ hU
            obtain ⟨y0, y1, y2, y3⟩ := cells4' ((hX.block V2 (lt_of_block HV2.out) HVR.out).trans HV2.out)
            have d66 := Posts.slot (show a.eval (.tmp 66) = .agg #[.int .u8 j.op, .int .u8 j.a, .int .u16 j.b, .int .u32 j.c] from hD.1)
            refine Posts.op_call (fun _ => trivial) rfl rfl rfl (by intro c h; cases h) rfl (by rw [hS.size]; simp) 33 #[.agg #[.int .u8 j.op, .int .u8 j.a, .int .u16 j.b, .int .u32 j.c]] (by simp [execOp, d66, go_sem]) ?_
            refine callsIn_wide.2 ((HMy.out X (hX.below HBR.out (by have := lt_of_block HR4.out; omega))).mono ?_)
            rintro e Y ⟨rfl, hb⟩
            exact ⟨_, rfl, rfl, EK.of hb, trivial⟩
          · intro a X hX hS hD hJ hU
            obtain ⟨y0, y1, y2, y3⟩ := cells4' ((hX.block V2 (lt_of_block HV2.out) HVR.out).trans HV2.out)
            have d4 := Posts.slot (show a.eval (.tmp 4) = .pointer (some ⟨R, 0, none⟩) from hS.other 4 rfl)
            have d65 := Posts.slot (show a.eval (.tmp 65) = .agg #[.int .u8 j.op, .int .u8 j.a, .int .u16 j.b, .int .u32 j.c] from hD.1)
            have hR0 : ∃ u0 u1 u2 u3, X.heap[R]? = some (.cells #[u0, u1, u2, u3] 32 (0, 0)) := by
              rcases hX.own (lt_of_block HR4.out) with e | e
              · exact ⟨_, _, _, _, e.trans HR4.out⟩
              · exact ⟨_, _, _, _, e⟩
            obtain ⟨u0, u1, u2, u3, hz⟩ := hR0
            obtain ⟨z0, z1, z2, z3⟩ := cells4' hz
            have f0 : X.frozen? ⟨R, 0, none⟩ = false := by simp [World.frozen?, hz]
            have f1 : X.frozen? ⟨R, 1, none⟩ = false := by simp [World.frozen?, hz]
            have f2 : X.frozen? ⟨R, 2, none⟩ = false := by simp [World.frozen?, hz]
            have f3 : X.frozen? ⟨R, 3, none⟩ = false := by simp [World.frozen?, hz]
            obtain ⟨hek, hfin⟩ := ek_store4 (v0 := .int .u8 j.op) (v1 := .int .u8 j.a) (v2 := .int .u16 j.b) (v3 := .int .u32 j.c) hz
            exact Posts.op_done (fun _ => trivial) rfl rfl (by intro c h; cases h) (Y := ((((X.setCell ⟨R, 0, none⟩ (.int .u8 j.op)).setCell ⟨R, 1, none⟩ (.int .u8 j.a)).setCell ⟨R, 2, none⟩ (.int .u16 j.b)).setCell ⟨R, 3, none⟩ (.int .u32 j.c))) (by simp [execOp, d4, d65, z0, z1, z2, z3, f0, f1, f2, f3, go_sem]) ⟨⟨⟨undef, rfl⟩, ⟨Nat.lt_of_lt_of_le (lt_of_block hz) hek.size, hfin⟩, hek⟩, trivial⟩
        · intro a0 Y hY hS hJt hL
          have p65 := Posts.slot (show a0.eval (.tmp 65) = .agg #[.int .u8 j.op, .int .u8 j.a, .int .u16 j.b, .int .u32 j.c] from hL.1)
          have p66 := Posts.slot (show a0.eval (.tmp 66) = .agg #[.int .u8 j.op, .int .u8 j.a, .int .u16 j.b, .int .u32 j.c] from hL.2.1)
          have p67 := Posts.slot (show a0.eval (.tmp 67) = .bool M from hL.2.2.1)
          have p_3 := (show _ from hL.2.2.2.1)
          have hfr := hS.frame [65, 66, 67, 5] (fun t ht => by simp [Posts.isDst] at ht; first | (rcases ht with h | h | h | h <;> subst h <;> simp) | (subst ht; simp))
          simp only [List.foldl_cons, List.foldl_nil] at hfr
          have hdf := hS.defers
          simp only [Array.getD_eq_getD_getElem?] at hfr
          clear hL hS
          generalize a0.tmps[65]?.getD undef = v65 at *
          generalize a0.tmps[66]?.getD undef = v66 at *
          generalize a0.tmps[67]?.getD undef = v67 at *
          generalize a0.tmps[5]?.getD undef = v5 at *
          obtain rfl := p65
          obtain rfl := p66
          obtain rfl := p67
          obtain ⟨tm, df⟩ := a0
          simp only [List.setIfInBounds_toArray, List.set_cons_succ, List.set_cons_zero] at hfr hdf
          subst hfr
          subst hdf
          refine Posts.tail_op 4 (by kernel_rfl) (Posts.op_val (fun _ => trivial) rfl rfl (by intro c h; cases h) (v := .bool M) (Y := Y) (by simp [execOp, Act.eval, go_sem]) ?_)
          refine ⟨by kernel_rfl, ?_⟩
          simp only [Exit.inBlock, Exit.then]
          obtain ⟨d0, d1, d2, d3⟩ := cells4' p_3.2
          have HYb := Lib.hid (hY.below HBR.out (by have := lt_of_block HR4.out; omega))
          clear p_3 hY
          go_wp2_with fail
          refine bodyPost_ret (v := .tuple #[.agg #[.int .u8 j.op, .int .u8 j.a, .int .u16 j.b, .int .u32 j.c], .bool M]) (by simp [results, Tryz.f87, go_sem, d0, d1, d2, d3]) rfl ?_
          exact HPost.out _ HYb.out
end Asm
end Go.Proofs.YtgiocecpkhmhhaaGreatDoor
