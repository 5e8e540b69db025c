/- Rows of numbers of 32 bits; the law's own same; its own small instruction; what the program's calls answer. -/
import Derived.Test.YtcmbkoghhhhmcaaDoorCodeMay
import Derived.Test.YtcmbkoghhhhmcaaDoorCodeOwn
import Derived.Test.YtcmbkoghhhhmcaaDoorCostStepsW
import Derived.Test.YtcmbkoghhhhmcaaDoorCostM
namespace Go.Proofs.YtcmbkoghhhhmcaaDoor
open Go.ChangeShapes Go.WideShapes Go.ChangeAt Go.RowKit
namespace Cst
open Isa Flw
set_option linter.unusedVariables false
set_option linter.unusedSimpArgs false
/-- a slice with this address and length is these numbers of 32 bits -/
def UR (w : World) (a : Option Addr) (n : Nat) (l : List Nat) : Prop := l.length = n ∧ (n = 0 ∨ ∃ b off, a = some ⟨b, off, none⟩ ∧ ∀ j, j < n → w.cell? ⟨b, off + j, none⟩ = some (.int .u32 ((l.getD j 0 : Nat) : Int)))
theorem UR.below {w w' : World} {a : Option Addr} {n : Nat} {l : List Nat} (h : UR w a n l) {B : Nat} (hb : Below B w w') (hB : w.heap.size ≤ B) : UR w' a n l := by
  obtain ⟨h1, h2⟩ := h
  refine ⟨h1, ?_⟩
  rcases h2 with h2 | ⟨b, off, rfl, hc⟩
  · exact .inl h2
  · exact .inr ⟨b, off, rfl, fun j hj => (World.cell?_of_block (hb.block b (Nat.lt_of_lt_of_le (World.block_lt_of_cell? _ _ (hc j hj)) hB))).trans (hc j hj)⟩
theorem UR.at {w : World} {a : Option Addr} {n : Nat} {l : List Nat} (h : UR w a n l) (k : Nat) (hk : k < n) : ∃ b off, a = some ⟨b, off, none⟩ ∧ w.cell? ⟨b, off + k, none⟩ = some (.int .u32 ((l.getD k 0 : Nat) : Int)) := by
  obtain ⟨b, off, rfl, hc⟩ := h.2.resolve_left (by omega)
  exact ⟨b, off, rfl, hc k hk⟩
theorem own_ur {w : World} {S : Nat} {v : Value} {l : List Nat} (h : w.ownsRow S 28 1 v l.length (u32s l)) : ∃ a c, v = .slice a l.length c ∧ l.length ≤ c ∧ c ≤ maxLen ∧ UR w a l.length l := by
  obtain ⟨a, c, rfl, h1, h2⟩ := own_shape h
  refine ⟨a, c, rfl, h1, h2, rfl, ?_⟩
  by_cases h0 : l.length = 0
  · exact .inl h0
  · right
    rcases h.2 with ⟨e, _⟩ | ⟨g, cap, cur, e, _⟩
    · injection e with e1 e2; exact absurd e2 h0
    · injection e with e1 e2 e3
      subst e1
      refine ⟨g, 0, rfl, fun j hj => ?_⟩
      have := World.ownsRow.cells h (g := g) rfl j (.int .u32 ((l.getD j 0 : Nat) : Int)) (u32s_at hj)
      rw [WideShapes.add_plain] at this
      exact this
theorem ulist_same {l m : List Nat} (h : l.length = m.length) (hs : ∀ t, t < l.length → l.getD t 0 = m.getD t 0) : l = m := by
  apply List.ext_getElem h
  intro i h1 h2
  have := hs i h1
  rwa [List.getD_eq_getElem?_getD, List.getD_eq_getElem?_getD, List.getElem?_eq_getElem h1, List.getElem?_eq_getElem h2] at this
set_option maxHeartbeats 1600000 in
theorem same_any (l m : List Nat) (a : Option Addr) (n c : Nat) (a' : Option Addr) (n' c' : Nat) (hm : n ≤ 1000000000) (w : World) (h : UR w a n l) (h2 : UR w a' n' m) :
    Calls Tryd.prog 10 #[.slice a n c, .slice a' n' c'] w fun e w' => e = .returned (.bool (decide (l = m))) ∧ w' = w := by
  have hln : l.length = n := h.1
  have hmn : m.length = n' := h2.1
  by_cases hne : n = n'
  case neg =>
    have hd : ((n : Int) != (n' : Int)) = true := by simp only [bne_iff_ne, ne_eq]; omega
    have HR : Hid (decide (l = m) = false) := decide_eq_false (fun e => by rw [e] at hln; omega)
    clear h h2 hln hmn hne
    go_enter Tryd.func10, Tryd.ntmps10
    go_wp2_with fail
    go_ret
    exact ⟨ret_bool HR.out.symm, rfl⟩
  subst hne
  have hd0 : ((n : Int) != (n : Int)) = false := by simp
  have HA := Lib.hid (fun k (hk : k < n) => h.at k hk)
  have HB := Lib.hid (fun k (hk : k < n) => h2.at k hk)
  have HEq := Lib.hid (fun hs => ulist_same (l := l) (m := m) (by omega) hs)
  have HL := Lib.hid hln
  clear h h2 hln hmn
  go_enter Tryd.func10, Tryd.ntmps10
  go_wp2_with fail
  clear hd0
  go_loopw [14] (fun i wr => ∃ k : Nat, k ≤ n ∧ i = .int .i64 k ∧ (∀ t, t < k → l.getD t 0 = m.getD t 0) ∧ wr = w) (fun i _ => n - (intOf i).toNat)
  case atStart => exact ⟨0, by omega, rfl, fun t ht => by omega, rfl⟩
  case round =>
    obtain ⟨k, hk, rfl, hno, rfl⟩ := hrel
    have HO := Lib.hid hno
    clear hno
    by_cases hlt : k < n
    · have hd : decide ((k : Int) < (n : Int)) = true := decide_eq_true (by omega)
      have k0 : (0 : Int) ≤ k := by omega
      have k1 : (k : Int) < n := by omega
      obtain ⟨b, off, rfl, hc⟩ := HA.out k hlt
      obtain ⟨b', off', rfl, hc'⟩ := HB.out k hlt
      by_cases hx : l.getD k 0 = m.getD k 0
      · have HO1 : Hid (∀ t, t < k + 1 → l.getD t 0 = m.getD t 0) := fun t ht => by
          by_cases e : t = k
          · rw [e]; exact hx
          · exact HO.out t (by omega)
        rw [← hx] at hc'
        clear hx
        generalize l.getD k 0 = x at *
        have he : ((x : Int) != (x : Int)) = false := by simp
        go_wp2_with fail
        exact ⟨⟨k + 1, by omega, by simp, HO1.out, trivial⟩, by simp [intOf]; omega⟩
      · have HR : Hid (decide (l = m) = false) := decide_eq_false (fun e => hx (by rw [e]))
        generalize l.getD k 0 = x at *
        generalize m.getD k 0 = y at *
        have he : ((x : Int) != (y : Int)) = true := by simp only [bne_iff_ne, ne_eq]; omega
        clear hx
        go_wp2_with fail
        go_ret
        exact ⟨ret_bool HR.out.symm, rfl⟩
    · obtain rfl : k = n := by omega
      have hd : decide ((k : Int) < (k : Int)) = false := decide_eq_false (by omega)
      have HR : Hid (decide (l = m) = true) := decide_eq_true (HEq.out (by rw [HL.out]; exact HO.out))
      go_wp2_with fail
      go_ret
      exact ⟨ret_bool HR.out.symm, rfl⟩

/-- the worst of instruction 0; 0 beside an error -/
noncomputable def wz (l : List Iv) : Nat := if frE l = 0 then ws l 0 else 0
def WorstC : Prop := ∀ (l : List Iv) (a : Option Addr) (n c : Nat) (w : World), Tabs w → n ≤ c → c ≤ 9223372036854775807 → IRow w a n l →
  Calls Tryd.prog 9 #[.slice a n c] w fun e w' => e = .returned (.tuple #[.int .u32 (wz l : Nat), .int .i64 (frN l : Nat), .int .i64 (frE l)]) ∧ Below w.heap.size w w'
/-- cost.Path, of any program -/
def PathC : Prop := ∀ (l : List Iv) (a : Option Addr) (n c : Nat) (w : World), Tabs w → n ≤ c → c ≤ 9223372036854775807 → IRow w a n l →
  Calls Tryd.prog 11 #[.slice a n c] w fun e w' => ∃ v, e = .returned (.tuple #[v, .int .i64 (frE l)]) ∧ numsP w.heap.size (pth l) w' v ∧ Below w.heap.size w w'
theorem do_any (op c : Int) (w : World) : Calls Tryd.prog 16 #[.int .u8 op, .int .u32 c] w fun e w' =>
    e = .returned (.agg #[.int .u8 op, .int .u8 0, .int .u16 0, .int .u32 c]) ∧ Below w.heap.size w w' := by
  have hx := alloc_new w (.cells #[.int .u8 0, .int .u8 0, .int .u16 0, .int .u32 0] 46)
  have HB := Lib.hid ((Below.refl w.heap.size w).alloc (Nat.le_refl _) (.cells #[.int .u8 0, .int .u8 0, .int .u16 0, .int .u32 0] 46))
  obtain ⟨V, hV⟩ : ∃ V, w.heap.size = V := ⟨_, rfl⟩
  go_enter Tryd.func16, Tryd.ntmps16
  go_upto_region 1 with fail
  have HV := Lib.hid hV
  rw [hV] at hx HB
  clear hV
  generalize w.alloc (.cells #[.int .u8 0, .int .u8 0, .int .u16 0, .int .u32 0] 46) = X at *
  obtain ⟨y0, y1, y2, y3⟩ := cells4 hx
  have f0 : X.frozen? ⟨V, 0, none⟩ = false := by simp [World.frozen?, hx]
  have f1 : X.frozen? ⟨V, 1, none⟩ = false := by simp [World.frozen?, hx]
  have f2 : X.frozen? ⟨V, 2, none⟩ = false := by simp [World.frozen?, hx]
  have f3 : X.frozen? ⟨V, 3, none⟩ = false := by simp [World.frozen?, hx]
  go_wp2_with fail
  refine bodyPost_ret (v := .agg #[.int .u8 op, .int .u8 0, .int .u16 0, .int .u32 c]) (by simp [results, Tryd.f16, y0, y1, y2, y3, go_sem]) rfl ?_
  exact ⟨rfl, by rw [HV.out]; exact (((HB.out.setCell (p := ⟨V, 0, none⟩) (Nat.le_refl _) _).setCell (p := ⟨V, 1, none⟩) (Nat.le_refl _) _).setCell (p := ⟨V, 2, none⟩) (Nat.le_refl _) _).setCell (p := ⟨V, 3, none⟩) (Nat.le_refl _) _⟩
theorem encs_len : ∀ l : List Iv, (encs l).length = l.length * 4
  | [] => rfl
  | a :: r => by
    have := encs_len r
    unfold encs at this ⊢
    rw [List.flatMap_cons, List.length_append, this, List.length_cons]
    simp [encI]; omega
theorem lit_row (Y : World) (l : List Iv) (hw : ∀ i ∈ l, i.wf) (hm : l.length ≤ 100) : IRow (Y.alloc (.cells (encs l).toArray 46)) (some ⟨Y.heap.size, 0, none⟩) l.length l := by
  have h := World.ownsRow_lit (base := Y.heap.size) (size := 4) (e := 46) Y (encs l).toArray l.length (Nat.le_refl _) (by unfold maxLen; omega) (by rw [List.size_toArray, encs_len])
  rw [List.toList_toArray] at h
  obtain ⟨a, c, e, _, _, r⟩ := own_irow h hw
  injection e with e1 e2 e3
  rw [e1]
  exact r
theorem wf_all {l : List Iv} (h : l.all (fun i => decide (0 ≤ i.op ∧ i.op ≤ 255 ∧ 0 ≤ i.a ∧ i.a ≤ 255 ∧ 0 ≤ i.b ∧ i.b ≤ 65535 ∧ 0 ≤ i.c ∧ i.c ≤ 4294967295)) = true) : ∀ i ∈ l, i.wf := fun i hi => by
  rw [List.all_eq_true] at h
  have := h i hi
  simp only [decide_eq_true_eq] at this
  exact ⟨⟨this.1, this.2.1⟩, ⟨this.2.2.1, this.2.2.2.1⟩, ⟨this.2.2.2.2.1, this.2.2.2.2.2.1⟩, ⟨this.2.2.2.2.2.2.1, this.2.2.2.2.2.2.2⟩⟩
theorem ur_lit (Y : World) (l : List Nat) (hm : l.length ≤ 1000 := by decide) : UR (Y.alloc (.cells (u32s l).toArray 28)) (some ⟨Y.heap.size, 0, none⟩) l.length l := by
  have h := World.ownsRow_lit (base := Y.heap.size) (size := 1) (e := 28) Y (u32s l).toArray l.length (Nat.le_refl _) (by unfold maxLen; omega) (by unfold u32s; simp)
  rw [List.toList_toArray] at h
  obtain ⟨a, c, e, _, _, r⟩ := own_ur h
  injection e with e1 e2 e3
  rw [e1]
  exact r
end Cst
end Go.Proofs.YtcmbkoghhhhmcaaDoor
