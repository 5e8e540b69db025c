/- The document's own answers: the bytes of instructions, and what bytes are read as. -/
import Derived.Test.YtgiocecpkhmhhaaGreatDoorAsmEq
import Derived.Test.YtgiocecpkhmhhaaGreatDoorIsaR3
import Derived.Test.YtgiocecpkhmhhaaGreatDoorIsaR4
namespace Go.Proofs.YtgiocecpkhmhhaaGreatDoor
open Go.ChangeShapes Go.WideShapes Go.ChangeAt Go.RowKit
namespace Asm
open Isa
set_option linter.unusedVariables false
set_option linter.unusedSimpArgs false
/-- a row behind a row of the call's own -/
theorem app_row {ts e : TypeId} {z : Value} {sz bs : Nat} (hu : Tryz.prog.underlying ts = some (.slice e)) (hi : (Tryz.prog.info? e).map (fun i => (i.zero, i.size, i.bytes)) = some (some z, sz, bs)) (hzs : z.cells.size = sz) (hsz : 0 < sz) (hbs : bs ≤ 64)
    {w : World} {S : Nat} {v : Value} {n : Nat} {xs : List Value} (h : w.ownsRow S e sz v n xs) (hS : S ≤ w.heap.size) (m : Nat) (hm : 0 < m) (hn : n + m ≤ 1000000000) (V off c : Nat) (cs : List Value) (hc : cs.length = m * sz) (hV : ∀ j u, cs[j]? = some u → w.cell? ⟨V, off + j, none⟩ = some u) (h1 : ∀ u ∈ cs, u.oneCell' = true) (ty : TypeId) :
    ∃ g cap w', (Builtin.append_ #[ts, ts] ty #[v, .slice (some ⟨V, off, none⟩) m c]).run Tryz.prog w = .ok (.slice (some ⟨g, 0, none⟩) (n + m : Nat) cap) w' ∧
      w'.ownsRow S e sz (.slice (some ⟨g, 0, none⟩) (n + m : Nat) cap) (n + m) (xs ++ cs) ∧ Below S w w' := by
  obtain ⟨i0, hi, hz0, hz1, hz2⟩ := info_parts hi
  have hb : (n + m) * bs ≤ 1000000000 * 64 := Nat.mul_le_mul hn hbs
  have hlies := run_append_lies (P := Tryz.prog) w ts ty S e i0 z sz bs hu hi hz0 hz1 hz2 hzs hsz v n xs h ⟨V, off, none⟩ m c cs hc
    (fun j u hj => by rw [Lib.add_plain]; exact hV j u hj) h1 hm (by unfold maxLen; omega) (by omega) hS _ rfl
  obtain ⟨g, cap, w', h1, h2, h3, h4, h5⟩ := hlies
  exact ⟨g, cap, w', h1, h2, Below.grown (Below.refl S w) h3 hS (fun j hj => (World.ownsRow.lt h j hj).1)⟩
def bv (l : List Int) : List Value := l.map (Value.int .u8)
theorem infoB : (Tryz.prog.info? 5).map (fun i => (i.zero, i.size, i.bytes)) = some (some (.int .u8 0), 1, 1) := by kernel_rfl
theorem infoI : (Tryz.prog.info? 32).map (fun i => (i.zero, i.size, i.bytes)) = some (some (.agg #[.int .u8 0, .int .u8 0, .int .u16 0, .int .u32 0]), 4, 8) := by kernel_rfl
theorem bytesL_take (l : List Iv) (k : Nat) (hk : k < l.length) : bytesL (l.take (k + 1)) = bytesL (l.take k) ++ bytesI (l.getD k iv0) := by
  unfold bytesL
  rw [List.take_add_one, List.getElem?_eq_getElem hk, List.getD_eq_getElem?_getD, List.getElem?_eq_getElem hk, List.flatMap_append]
  simp only [Option.toList_some, List.flatMap_cons, List.flatMap_nil, List.append_nil, Option.getD_some]
theorem own_off {w : World} {S : Nat} {e : TypeId} {sz : Nat} {n : Nat} {xs ys : List Value} {v : Value} (h : w.ownsRow S e sz v n xs) (e1 : xs = ys) : w.ownsRow S e sz v n ys := e1 ▸ h
set_option maxHeartbeats 1600000 in
theorem rbytesL_any (l : List Iv) (a : Option Addr) (n c : Nat) (hm : n ≤ 1000000) (w : World) (h : IRow w a n l) : Calls Tryz.prog 20 #[.slice a n c] w fun e w' =>
    ∃ v, e = .returned v ∧ w'.ownsRow w.heap.size 5 1 v (8 * n) (bv (bytesL l)) ∧ Below w.heap.size w w' := by
  have HA := Lib.hid (fun W (hb : Below w.heap.size w W) k (hk : k < n) => (h.below hb (Nat.le_refl _)).at k hk)
  have hln : l.length = n := h.1
  have HL := Lib.hid hln
  have HT := Lib.hid (fun k (hk : k < n) => bytesL_take l k (by omega))
  clear h
  go_enter Tryz.func20, Tryz.ntmps20
  go_wp2_with fail
  go_loopw [3, 4] (fun v i wr => ∃ k : Nat, k ≤ n ∧ i = .int .i64 k ∧ wr.ownsRow w.heap.size 5 1 v (8 * k) (bv (bytesL (l.take k))) ∧ Below w.heap.size w wr) (fun _ i _ => n - (intOf i).toNat)
  case atStart => exact ⟨0, by omega, rfl, World.ownsRow_nil _ _ _ _, Below.refl _ _⟩
  case round =>
    obtain ⟨k, hk, rfl, hown, hbel⟩ := hrel
    have HO := Lib.hid hown
    have HBl := Lib.hid hbel
    obtain ⟨va, vc, rfl, _, _⟩ := own_shape hown
    clear hown hbel
    by_cases hlt : k < n
    · have hd : decide ((k : Int) < (n : Int)) = true := decide_eq_true (by omega)
      have k0 : (0 : Int) ≤ k := by omega
      have k1 : (k : Int) < n := by omega
      obtain ⟨b, off, rfl, hc, hw⟩ := HA.out wr HBl.out k hlt
      obtain ⟨c0, c1, c2, c3⟩ := hc
      have HT2 := Lib.hid (HT.out k hlt)
      have HR := Lib.hid (fun W => rbytes_any (l.getD k iv0) hw W)
      have hby : Hid ((bytesI (l.getD k iv0)).length = 8) := rfl
      clear hw
      generalize l.getD k iv0 = x at *
      have HX : Hid (bytesI x = bytesI x) := rfl
      generalize hY : bytesI x = Y at *
      clear hY HX
      obtain ⟨op, ia, ib, ic⟩ := x
      unfold iv at HR
      simp only at *
      go_wp2_with fail
      refine (HR.out _).mono ?_
      rintro e w2 ⟨V, rfl, hV, hb2⟩
      have hb3 : Below w.heap.size w w2 := HBl.out.trans (hb2.mono HBl.out.size)
      obtain ⟨g, cap, W', hap, hown2, hb4⟩ := app_row (ts := 38) Tryz.underlying38 infoB rfl (by decide) (by decide) (own_below HO.out hb2 (Nat.le_refl _)) hb3.size 8 (by decide) (by omega) V 0 8 (bv Y) (by unfold bv; rw [List.length_map]; exact hby.out) (fun j u hj => by
        rw [Nat.zero_add, cells_at hV]
        rw [List.getElem?_toArray]
        exact hj) (by intro u hu; obtain ⟨z, _, rfl⟩ := List.mem_map.1 hu; rfl) 38
      have HO2 := Lib.hid hown2
      have HB2 := Lib.hid (hb3.trans hb4)
      clear hown2 hb4 hb3 hb2 hV c0 c1 c2 c3
      go_wp2_with (at_builtin; refine wpList_append_run rfl (.tmp 11) (.tmp 16) 38 38 rfl _ _ _ W' 38 rfl rfl rfl hap ?_)
      refine ⟨⟨k + 1, by omega, by simp, ?_, HB2.out⟩, by simp [intOf]; omega⟩
      have e1 : 8 * (k + 1) = 8 * k + 8 := by omega
      have := own_off HO2.out (show bv (bytesL (l.take k)) ++ bv Y = bv (bytesL (l.take (k + 1))) from by rw [HT2.out]; unfold bv; rw [List.map_append])
      rw [e1]
      exact this
    · obtain rfl : k = n := by omega
      have hd : decide ((k : Int) < (k : Int)) = false := decide_eq_false (by omega)
      go_wp2_with fail
      go_ret
      have := HO.out
      rw [List.take_of_length_le (by rw [HL.out]; exact Nat.le_refl _)] at this
      exact ⟨_, rfl, this, HBl.out⟩
end Asm
end Go.Proofs.YtgiocecpkhmhhaaGreatDoor
