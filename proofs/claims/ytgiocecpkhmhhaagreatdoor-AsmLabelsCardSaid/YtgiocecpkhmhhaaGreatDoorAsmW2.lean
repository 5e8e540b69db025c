/- The program's answers: numbers, the words of a line, a line's text. -/
import Derived.Test.YtgiocecpkhmhhaaGreatDoorAsmW1
import Derived.Test.YtgiocecpkhmhhaaGreatDoorAsmLib
import Derived.Test.YtgiocecpkhmhhaaGreatDoorAsmShelf
import Derived.Test.YtgiocecpkhmhhaaGreatDoorAsmR10
import Derived.Lib.AtoiErrMem
namespace Go.Proofs.YtgiocecpkhmhhaaGreatDoor
open Go.ChangeShapes Go.WideShapes Go.ChangeAt Go.RowKit
namespace Asm
open Isa
set_option linter.unusedVariables false
set_option linter.unusedSimpArgs false
/-- what a variable of the kind error holds -/
def ErrV (ev : Value) : Prop := ev = .nilIface ∨ ∃ te pe, ev = .iface te pe
/-- what the rows' lists, and the world's shape, give -/
structure TT (w : World) : Prop where
  tabs : Tabs w
  most : ∃ m, w.cell? ⟨1, 0, none⟩ = some (.int .i64 m)
  syn : ∃ ev, w.cell? ⟨5, 0, none⟩ = some ev ∧ ErrV ev
  rng : ∃ ev, w.cell? ⟨6, 0, none⟩ = some ev ∧ ErrV ev
theorem TT.below {w w' : World} (h : TT w) {B : Nat} (hb : Below B w w') (hB : w.heap.size ≤ B) : TT w' := by
  have hc : ∀ a v, w.cell? a = some v → w'.cell? a = some v := fun a v hv => (World.cell?_of_block (hb.block _ (Nat.lt_of_lt_of_le (World.block_lt_of_cell? _ _ hv) hB))).trans hv
  obtain ⟨m, h1⟩ := h.most
  obtain ⟨e1, h2, h3⟩ := h.syn
  obtain ⟨e2, h4, h5⟩ := h.rng
  exact ⟨h.tabs.below hb hB, ⟨m, hc _ _ h1⟩, ⟨e1, hc _ _ h2, h3⟩, ⟨e2, hc _ _ h4, h5⟩⟩
theorem TT.here {w w' : World} (h : TT w) (hb : Below w.heap.size w w') : TT w' := h.below hb (Nat.le_refl _)
theorem own_low {w : World} {B B' : Nat} {e : TypeId} {sz : Nat} {v : Value} {n : Nat} {xs : List Value} (h : w.ownsRow B e sz v n xs) (hb : B' ≤ B) : w.ownsRow B' e sz v n xs :=
  ⟨h.1, h.2.imp id fun ⟨g', cap, cur, e1, e2, e3⟩ => ⟨g', cap, cur, e1, Nat.le_trans hb e2, e3⟩⟩
/-! ### Numbers -/
theorem uint_good (s : ByteArray) (hmax : s.size ≤ 9223372036854775806) (u : Nat) (h : Lib.parseUintB 32 s.data.toList = .ok u) (w : World) :
    Calls Tryz.prog 105 #[.string s, .int .i64 10, .int .i64 32] w fun e w' => e = .returned (.tuple #[.int .u64 u, .nilIface]) ∧ Below w.heap.size w w' := by
  refine (uint_ok s hmax u h w).mono ?_
  rintro e w' ⟨rfl, h⟩
  refine ⟨rfl, ?_⟩
  rcases h with h | h
  · rw [h]; exact Below.refl _ _
  · rw [h]; exact Lib.bytesWorld_below _ _ _
theorem cut_good (s sep : ByteArray) (m : Int) (w : World) (hs : s.size < 4294967281) (hm : w.cell? ⟨1, 0, none⟩ = some (.int .i64 m)) :
    Calls Tryz.prog 68 #[.string s, .string sep] w fun e w' => e = .returned (.tuple #[.string ⟨(Lib.cut s.data.toList sep.data.toList).1.toArray⟩, .string ⟨(Lib.cut s.data.toList sep.data.toList).2.1.toArray⟩, .bool (Lib.cut s.data.toList sep.data.toList).2.2]) ∧ Below w.heap.size w w' := by
  refine (cut_lib s sep m w hs hm).mono ?_
  rintro e w' ⟨rfl, n, rfl⟩
  exact ⟨rfl, below_drewN (Below.refl _ _) n⟩
def numP (s : List UInt8) (w : World) (e : Ending) (w' : World) : Prop := e = .returned (.tuple #[.int .u32 (if 0 ≤ numI s then numI s else 0), .bool (decide (0 ≤ numI s))]) ∧ Below w.heap.size w w'
theorem ret_n {a b : Int} {c d : Bool} (h : a = b) (h2 : c = d) : Ending.returned (.tuple #[.int .u32 a, .bool c]) = .returned (.tuple #[.int .u32 b, .bool d]) := by rw [h, h2]
set_option maxHeartbeats 1600000 in
theorem num_any (s : List UInt8) (hm : s.length ≤ 1000000000) (w : World) (hT : TT w) : Calls Tryz.prog 98 #[.string (sB s)] w (numP s w) := by
  have hsz : (sB s).size = s.length := sB_size' s
  have HT := Lib.hid hT
  clear hT
  have HZ := Lib.hid hsz
  by_cases h0 : 0 ≤ numI s
  · obtain ⟨hp, hd⟩ := parse_num h0
    have hle := (num_inv h0).2
    have HP := Lib.hid hp
    have hok := uint_good (sB s) (by rw [hsz]; omega) (numI s).toNat (by rw [sB_list]; exact hp) w
    have HOK := Lib.hid hok
    have HD := Lib.hid hd
    have HI : Hid (numI s = ((numI s).toNat : Int)) := Lib.hid (by omega)
    have hu : (numI s).toNat ≤ 4294967295 := by omega
    have H0 := Lib.hid h0
    generalize (numI s).toNat = u at *
    clear hp hok hd hle hsz h0
    have hw64 : IntKind.u32.wrap (u : Int) = u := by
      unfold IntKind.wrap
      simp [IntKind.signed, IntKind.bits]
      omega
    have heq := sB_eq (Lib.decDigits u) s
    rw [decide_eq_true HD.out] at heq
    go_enter Tryz.func98, Tryz.ntmps98
    go_wp2_with (first
      | (go_at_call 105; refine HOK.out.mono ?_; rintro e w1 ⟨rfl, hb1⟩)
      | (go_at_call 95; refine (fmt_any u hu _ (HT.out.here hb1).tabs).mono ?_; rintro e w2 ⟨rfl, hb2⟩))
    refine bodyPost_ret (v := .tuple #[.int .u32 (u : Int), .bool true]) (by simp [results, Tryz.f98, go_sem]) rfl ?_
    refine ⟨ret_n ?_ (decide_eq_true H0.out).symm, hb1.trans (hb2.mono hb1.size)⟩
    rw [if_pos H0.out]
    exact HI.out.symm
  · have hneg : numI s < 0 := by omega
    have HR : Hid (∀ w', Below w.heap.size w w' → numP s w (.returned (.tuple #[.int .u32 0, .bool false])) w') := fun w' hb => ⟨ret_n (by rw [if_neg h0]) (decide_eq_false h0).symm, hb⟩
    have hbad := Lib.hid (fun u hu => parse_bad hneg (u := u) hu)
    clear h0 hneg
    rcases hp : Lib.parseUintB 32 s with u | _ | _
    · have hok := uint_good (sB s) (by rw [hsz]; omega) u (by rw [sB_list]; exact hp) w
      have HOK := Lib.hid hok
      obtain ⟨hne, hu⟩ := hbad.out u hp
      have heq := sB_eq (Lib.decDigits u) s
      rw [decide_eq_false hne] at heq
      clear hp hok hsz hne hbad
      go_enter Tryz.func98, Tryz.ntmps98
      go_wp2_with (first
        | (go_at_call 105; refine HOK.out.mono ?_; rintro e w1 ⟨rfl, hb1⟩)
        | (go_at_call 95; refine (fmt_any u hu _ (HT.out.here hb1).tabs).mono ?_; rintro e w2 ⟨rfl, hb2⟩))
      refine bodyPost_ret (v := .tuple #[.int .u32 0, .bool false]) (by simp [results, Tryz.f98, go_sem]) rfl ?_
      exact HR.out _ (hb1.trans (hb2.mono hb1.size))
    · obtain ⟨ev, hv, hev⟩ := HT.out.syn
      have HOK := Lib.hid (uint_none (sB s) (by rw [hsz]; omega) (by rw [sB_list]; exact hp.trans rfl) ev w hv hev)
      clear hp hsz hbad hv hev
      go_enter Tryz.func98, Tryz.ntmps98
      go_wp2_with (go_at_call 105; refine HOK.out.mono ?_; rintro e w1 ⟨NN, rfl, hN1, hN2, hb1⟩; clear hN1 hN2)
      refine bodyPost_ret (v := .tuple #[.int .u32 0, .bool false]) (by simp [results, Tryz.f98, go_sem]) rfl ?_
      exact HR.out _ hb1
    · obtain ⟨ev, hv, hev⟩ := HT.out.rng
      have HOK := Lib.hid (uint_range (sB s) (by rw [hsz]; omega) (by rw [sB_list]; exact hp) ev w hv hev)
      clear hp hsz hbad hv hev
      go_enter Tryz.func98, Tryz.ntmps98
      go_wp2_with (go_at_call 105; refine HOK.out.mono ?_; rintro e w1 ⟨NN, rfl, hN1, hN2, hb1⟩; clear hN1 hN2)
      refine bodyPost_ret (v := .tuple #[.int .u32 0, .bool false]) (by simp [results, Tryz.f98, go_sem]) rfl ?_
      exact HR.out _ hb1
/-! ### Words -/
theorem blank_any (x : Nat) (w : World) : Calls Tryz.prog 70 #[.int .i32 (x : Int)] w fun e w' => e = .returned (.bool (isBl x)) ∧ w' = w := by
  have hb : ((x : Int) == 32) = isBl x := by
    unfold isBl
    rw [Bool.eq_iff_iff]
    simp
    omega
  generalize isBl x = B at *
  go_enter Tryz.func70, Tryz.ntmps70
  go_wp2_with fail
  go_ret
  exact ⟨rfl, rfl⟩
theorem enters_blank : ∀ args w, (callFunc 70 args).run Tryz.prog w = .ok (.enter 70 args) w := enters_of Tryz.func70 (by kernel_rfl) rfl
theorem blank_pays (w : World) : PredAtRunes Tryz.prog 70 #[] isBl w := fun W x hx hb => by
  refine (blank_any x W).mono ?_
  rintro e w' ⟨rfl, rfl⟩
  exact ⟨rfl, 0, rfl⟩
set_option maxHeartbeats 1600000 in
theorem wordsof_any (s : List UInt8) (hm : s.length ≤ 1000000000) (w : World) (hT : TT w) : Calls Tryz.prog 50 #[.string (sB s)] w fun e w' =>
    ∃ v, e = .returned v ∧ w'.ownsRow w.heap.size 9 1 v (words s).length (strs (words s)) ∧ Below w.heap.size w w' := by
  obtain ⟨m, hmx⟩ := hT.most
  have hsz : (sB s).size = s.length := sB_size' s
  obtain ⟨c1, c2, c3⟩ := cut_is s
  have hcut := cut_good (sB s) (sB [59]) m w (by rw [hsz]; omega) hmx
  rw [sB_list, sB_list] at hcut
  have e1 : (⟨(Lib.cut s [59]).1.toArray⟩ : ByteArray) = sB (Lib.cut s [59]).1 := rfl
  rw [e1] at hcut
  have HC := Lib.hid hcut
  generalize (Lib.cut s [59]).1 = A at *
  generalize (⟨(Lib.cut s [59]).2.1.toArray⟩ : ByteArray) = Q at *
  generalize (Lib.cut s [59]).2.2 = R at *
  have hf := fields_is A c1
  have hl : (Lib.goFieldsP isBl (sB A)).length = (words s).length := by rw [hf, List.length_map, c2]
  have hmm : (Lib.goFieldsP isBl (sB A)).map Value.string = strs (words s) := by rw [hf, List.map_map, c2]; rfl
  have HF : Hid (∀ W : World, Below w.heap.size w W → Calls Tryz.prog 69 #[.string (sB A), .func (.func 70) #[] #[]] W fun e w' => ∃ v, e = .returned v ∧ w'.ownsRow W.heap.size 9 1 v (words s).length (strs (words s)) ∧ Below W.heap.size W w') := fun W _ => by
    refine (fields_lib _ #[] enters_blank isBl (sB A) W (by rw [sB_size']; omega) (blank_pays W)).mono ?_
    rintro e w' ⟨a, rfl, -, ho, hb⟩
    rw [hl, hmm] at ho
    rw [hl]
    exact ⟨_, rfl, ho, hb⟩
  clear hcut c1 c2 c3 hf hl hmm hmx e1
  go_enter Tryz.func50, Tryz.ntmps50
  go_wp2_with (first
    | (go_at_call 68; refine HC.out.mono ?_; rintro e w1 ⟨rfl, hb1⟩)
    | (go_at_call 69; refine (HF.out _ hb1).mono ?_; rintro e w2 ⟨v, rfl, ho, hb2⟩))
  go_ret
  refine ⟨v, rfl, ?_, hb1.trans (hb2.mono hb1.size)⟩
  exact own_low ho hb1.size
end Asm
end Go.Proofs.YtgiocecpkhmhhaaGreatDoor
