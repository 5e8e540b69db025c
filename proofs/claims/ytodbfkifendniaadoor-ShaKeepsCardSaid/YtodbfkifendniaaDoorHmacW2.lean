/- The closure that turns a key's block. -/
import Derived.Test.YtodbfkifendniaaDoorHmacW1
namespace Go.Proofs.YtodbfkifendniaaDoor
open Go.ChangeShapes Go.WideShapes Go.ChangeAt Go.RowKit
namespace Sha
theorem index_ints64 (d : List Int) (k : Nat) (W : World) (hn : d.length = 64) (h : k < 64) :
    Sem.run Tryd.prog (Instr.index 41 (.agg (ints .u8 d)) (.int .i64 (k : Int))) W = .ok (.int .u8 (d.getD k 0)) W := by
  have h2 := ints_at .u8 d k (by omega)
  have hs : ∀ W : World, (sizeOf 5).run Tryd.prog W = .ok 1 W := fun _ => by kernel_rfl
  have ha : ∀ W : World, (isAgg 5).run Tryd.prog W = .ok false W := fun _ => by kernel_rfl
  have ht : Tryd.prog.underlying 41 = some (.array 64 5) := by kernel_rfl
  simp [Instr.index, run_underlying ht, hs, ha, Result.andThen, h2, go_sem]
  intro h3
  omega
/-- what is turned when k bytes are done -/
def tk (l : List Int) (b : Int) (k : Nat) : List Int := (turnB l b).take k ++ List.replicate (64 - k) 0
theorem tk_length (l : List Int) (b : Int) (k : Nat) (hl : l.length = 64) (h : k ≤ 64) : (tk l b k).length = 64 := by simp [tk, turnB_length, hl]; omega
theorem tk_next (l : List Int) (b : Int) (k : Nat) (hl : l.length = 64) (h : k < 64) : (tk l b k).set k (bits .xor .u8 (l.getD k 0) b) = tk l b (k + 1) := by
  unfold tk
  have h1 : ((turnB l b).take k).length = k := by simp [turnB_length, hl]; omega
  rw [List.set_append_right _ _ (by omega), h1, Nat.sub_self, show 64 - k = (64 - (k + 1)) + 1 from by omega, List.replicate_succ, List.set_cons_zero,
    List.take_succ_eq_append_getElem (by rw [turnB_length]; omega), List.append_assoc]
  congr 1
  simp [turnB, List.getD, show k < l.length from by omega]
theorem tk_all (l : List Int) (b : Int) (k : Nat) (hl : l.length = 64) (h : 64 ≤ k) : tk l b k = turnB l b := by
  unfold tk
  rw [List.take_of_length_le (by rw [turnB_length]; omega), show 64 - k = 0 from by omega]
  simp

set_option maxRecDepth 100000 in
set_option maxHeartbeats 1000000 in
theorem turned_any (l : List Int) (b : Int) (g : Nat) (w : World) (hl : l.length = 64) (hby : ∀ z ∈ l, 0 ≤ z ∧ z ≤ 255) (hg : w.heap[g]? = some (.cells (ints .u8 l) 41 (0, 0))) :
    Calls Tryd.prog 24 #[.int .u8 b, .pointer (some ⟨g, 0, none⟩)] w fun e w' => e = .returned (.slice (some ⟨w.heap.size, 0, none⟩) 64 64) ∧ IntRow w' w.heap.size .u8 (turnB l b) 5 ∧ Below w.heap.size w w' := by
  have HL := Lib.hid hl
  have HBy := Lib.hid hby
  have HT := Lib.hid (sized64 l hl)
  have hmk := make_any w 64 .i64 64 rfl (by omega)
  have hr : IntRow (w.alloc (Obj.cells (ints IntKind.u8 (List.replicate 64 0)) 5)) w.heap.size .u8 (tk l b 0) 5 := heap_alloc_new _ _
  generalize List.replicate 64 (0 : Int) = Z at *
  have HA : Hid ((w.alloc (.cells (ints .u8 Z) 5)).heap[g]? = some (.cells (ints .u8 l) 41 (0, 0))) := (Below.heap_alloc _ _ _ (lt_of_block hg)).trans hg
  have hb : Below w.heap.size w (w.alloc (Obj.cells (ints IntKind.u8 Z) 5)) := (Below.refl _ _).alloc (Nat.le_refl _) _
  have HRow := Lib.hid hr
  have HB := Lib.hid hb
  clear hr hb hl hby hg
  go_enter Tryd.func24, Tryd.ntmps24
  go_wp2_with (with_reducible refine wpList_load_row rfl 41 (.tmp 1) rfl g rfl 41 (ints .u8 l) (0, 0) _ HA.out Tryd.underlying41 rfl HT.out ?_)
  clear hmk HA
  generalize w.alloc (Obj.cells (ints IntKind.u8 Z) 5) = W at *
  go_loopw [9] (fun i wr => ∃ k : Nat, k ≤ 64 ∧ i = .int .i64 k ∧ IntRow wr w.heap.size .u8 (tk l b k) 5 ∧ Below w.heap.size w wr) (fun i _ => 64 - (intOf i).toNat)
  case atStart => exact ⟨0, by omega, rfl, HRow.out, HB.out⟩
  case round =>
    obtain ⟨k, hk, rfl, hrow, hbel⟩ := hrel
    have HR := Lib.hid hrow
    have HBl := Lib.hid hbel
    clear hrow hbel HRow HB
    by_cases hlt : k < 64
    · have k0 : (0 : Int) ≤ k := by omega
      have k1 : (k : Int) < 64 := by omega
      have hd : decide ((k : Int) < 64) = true := by simp; omega
      have hix := fun W => index_ints64 l k W HL.out hlt
      have hc : wr.cell? ⟨w.heap.size, k, none⟩ = some (.int .u8 ((tk l b k).getD k 0)) := HR.out.cell k (by rw [tk_length l b k HL.out hk]; exact hlt)
      have hf := HR.out.free k
      have hN := HR.out.set k (bits .xor .u8 (l.getD k 0) b)
      rw [tk_next l b k HL.out hlt] at hN
      have HN := Lib.hid hN
      clear hN
      go_wp2_with fail
      go_roundw
      case rel => exact ⟨k + 1, by omega, by go_num, HN.out, HBl.out.setCell (by simp) _⟩
      case measure => simp [intOf]; omega
    · have hd : decide ((k : Int) < 64) = false := by simp; omega
      have h1 := HR.out
      rw [tk_all l b k HL.out (by omega)] at h1
      have H1 := Lib.hid h1
      clear h1
      go_wp2_with fail
      go_ret
      exact ⟨rfl, H1.out, HBl.out⟩
end Sha
end Go.Proofs.YtodbfkifendniaaDoor
