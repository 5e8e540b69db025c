/- The table of halves: what the call answers, and that nothing that was there has turned. -/
import Derived.Test.YtfjjfddlnbaloaaCrcW1
import Derived.LoopTactic
import Derived.Laws.Rows
import Derived.OneCell
import Derived.Lib.Hide
namespace Go.Proofs.Ytfjjfddlnbaloaa
open Go.ChangeShapes Go.WideShapes Go.ChangeAt Go.RowKit

/-- the table behind k rounds -/
def tabA (k : Nat) : Array Value := ((List.range 16).map fun i => if i < k then .int .u32 (Crc.U (Crc.shN 4 (Crc.V i))) else .int .u32 0).toArray
theorem tabA_size (k : Nat) : (tabA k).size = 16 := by simp [tabA]
theorem tabA_zero : tabA 0 = #[.int .u32 0, .int .u32 0, .int .u32 0, .int .u32 0, .int .u32 0, .int .u32 0, .int .u32 0, .int .u32 0, .int .u32 0, .int .u32 0, .int .u32 0, .int .u32 0, .int .u32 0, .int .u32 0, .int .u32 0, .int .u32 0] := by
  simp [tabA, List.range, List.range.loop]
theorem tabA_at (k : Nat) (h : k < 16) : (tabA k)[k]? = some (.int .u32 0) := by simp [tabA, h]
theorem tabA_full (k : Nat) (h : k < 16) : (tabA 16)[k]? = some (.int .u32 (Crc.U (Crc.shN 4 (Crc.V k)))) := by simp [tabA, h]
theorem tabA_set (k : Nat) : (tabA k).setIfInBounds k (.int .u32 (Crc.U (Crc.shN 4 (Crc.V k)))) = tabA (k + 1) := by
  apply Array.ext
  · simp [tabA]
  · intro i h1 h2
    rw [Array.getElem_setIfInBounds (by simpa [tabA] using h2)]
    by_cases e : k = i
    · subst e; simp [tabA]
    · rw [if_neg e]
      by_cases h3 : i < k
      · simp [tabA, h3, show i < k + 1 from by omega]
      · simp [tabA, h3, show ¬ i < k + 1 from by omega]

theorem tabA_one (k : Nat) : ∀ v ∈ (tabA k).toList, v.oneCell' = true := by
  intro v hv
  simp [tabA] at hv
  obtain ⟨i, _, rfl⟩ := hv
  by_cases h : i < k <;> simp [h, Value.oneCell']

theorem below_setRow (w : World) (g : Nat) (c : Array Value) : Below g w (w.setRow g c) :=
  ⟨rfl, rfl, rfl, by simp [World.setRow], fun k hk => by simp only [World.setRow, Array.getElem?_modify]; rw [if_neg (by omega)]⟩

theorem row_setCell {w : World} {b j : Nat} {cs : Array Value} {t : TypeId} {fr : Nat × Nat} {u : Value} (h : w.heap[b]? = some (.cells cs t fr)) :
    (w.setCell ⟨b, j, none⟩ u).heap[b]? = some (.cells (cs.setIfInBounds j u) t fr) := by
  have hlt := lt_of_block h
  have h' : w.heap[b] = .cells cs t fr := by simpa [Array.getElem?_eq_getElem hlt] using h
  show (w.heap.modify b _)[b]? = _
  rw [Array.getElem?_eq_getElem (by simpa using hlt), Array.getElem_modify_self, h']
  rfl
theorem row_free {w : World} {b j : Nat} {cs : Array Value} {t : TypeId} (h : w.heap[b]? = some (.cells cs t (0, 0))) : w.frozen? ⟨b, j, none⟩ = false := by simp [World.frozen?, h]

theorem V_conv (k : Nat) (h : k < 16) : Crc.V (IntKind.u32.wrap (k : Int)) = Crc.V k := by
  rw [IntKind.wrap_u32']; congr 1; omega

theorem halves_any (w : World) :
    Calls Try.prog 14 #[] w fun e w' => e = .returned (.agg (tabA 16)) ∧ Below w.heap.size w w' := by
  go_enter Try.func14, Try.ntmps14
  go_wp2
  go_loopw [4] (fun i wr => ∃ k : Nat, k ≤ 16 ∧ i = .int .i64 k ∧ wr.heap.size = w.heap.size + 2 ∧ wr.heap[w.heap.size + 1]? = some (.cells (tabA k) 32 (0, 0)) ∧ wr.heap[w.heap.size]? = some (.cells (tabA 0) 32 (0, 0)) ∧ Below w.heap.size w wr) (fun i _ => 16 - (intOf i).toNat)
  case atStart =>
    refine ⟨0, by omega, rfl, by simp, ?_, ?_, ((Below.refl _ _).alloc (Nat.le_refl _) _).alloc (by simp) _⟩
    · rw [tabA_zero]; exact heap_alloc2_new _ _ _
    · rw [tabA_zero]; exact heap_alloc2_old _ _ _
  case round =>
    obtain ⟨k, hk, rfl, hsz, hrow, hres, hbel⟩ := hrel
    have HS := Lib.hid hsz
    have HR := Lib.hid hrow
    have HZ := Lib.hid hres
    clear hsz hrow hres
    by_cases hlt : k < 16
    · have hd : decide ((k : Int) < 16) = true := by simp; omega
      go_wp2
      go_loop [3, 9] (fun r i => ∃ j : Nat, j ≤ 4 ∧ i = .int .i64 j ∧ r = .int .u32 (Crc.U (Crc.shN j (Crc.V k)))) (fun _ i => 4 - (intOf i).toNat)
      case atStart => exact ⟨0, by omega, rfl, by simp only [Crc.shN]; rw [Crc.U_V _ (by omega) (by omega)]⟩
      case round =>
        obtain ⟨j, hj, rfl, rfl⟩ := hrel
        have u0 := Crc.U_lo (Crc.shN j (Crc.V k))
        have u1 := Crc.U_hi (Crc.shN j (Crc.V k))
        by_cases hjt : j < 4
        · have hd4 : decide ((j : Int) < 4) = true := by simp; omega
          go_wp2_with (go_at_call 16; refine (shift_any _ _ (by omega) (by omega)).mono ?_; rintro e w' ⟨rfl, rfl⟩)
          go_round
          case rel => exact ⟨j + 1, by omega, by go_num, by rw [Crc.V_U, Crc.shN_add j 1]; rfl⟩
          case measure => simp [intOf]; omega
        · obtain rfl : j = 4 := by omega
          have hcell : wr.cell? ⟨w.heap.size + 1, k, none⟩ = some (.int .u32 0) := by rw [cell_of_row _ _ _ _ _ _ HR.out]; exact tabA_at k hlt
          have hfree : wr.frozen? ⟨w.heap.size + 1, k, none⟩ = false := row_free HR.out
          have k0 : (0 : Int) ≤ k := by omega
          have k1 : (k : Int) < 16 := by omega
          go_wp2
          go_roundw
          case rel =>
            refine ⟨k + 1, by omega, by go_num, by simp [HS.out], ?_, ?_, hbel.setCell (by simp) _⟩
            · rw [row_setCell HR.out, tabA_set k]
            · rw [Below.heap_setCell _ _ _ _ (by simp)]; exact HZ.out
          case measure => simp [intOf]; omega
    · have HK : Hid (k = 16) := (by omega : k = 16)
      have hd : decide ((k : Int) < 16) = false := by simp; omega
      have HT : Hid ((Try.prog.info? 32).map (·.size) = some (tabA k).size) := by
        show _ = _
        rw [tabA_size]; kernel_rfl
      have hst : Sem.run Try.prog (storeCells ⟨w.heap.size, 0, none⟩ (tabA k).toList) wr = .ok () (wr.setRow w.heap.size (tabA k)) := by
        have := run_storeCells_from (P := Try.prog) w.heap.size 32 (tabA k).toList 0 (tabA 0) wr HZ.out (by simp [tabA_size]) (tabA_one k)
        simpa using this
      go_wp2_with (with_reducible refine wpList_load_row rfl 32 (.tmp 1) rfl (w.heap.size + 1) rfl 32 (tabA k) (0, 0) _ HR.out Try.underlying32 rfl HT.out ?_)
      clear hst
      have hrow := setRow_heap wr w.heap.size (tabA 0) (tabA k) 32 (0, 0) HZ.out
      refine bodyPost_ret (v := .agg (tabA k)) (results_cell_row (p := 0) (ty := 32) rfl _ _ w.heap.size 32 (tabA k) (0, 0) _ rfl hrow Try.underlying32 rfl HT.out) rfl ⟨by rw [HK.out], hbel.trans (below_setRow _ _ _)⟩
end Go.Proofs.Ytfjjfddlnbaloaa
