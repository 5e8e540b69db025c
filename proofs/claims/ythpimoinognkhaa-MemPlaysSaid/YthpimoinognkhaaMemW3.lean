/- Words' bytes: number, lowest. -/
import Derived.Test.YthpimoinognkhaaMemW2
namespace Go.Proofs.Ythpimoinognkhaa
open Go.ChangeShapes Go.WideShapes Go.ChangeAt Go.RowKit
namespace Ram
set_option linter.unusedVariables false
set_option linter.unusedSimpArgs false
theorem index4 (d : List Int) (k : Nat) (W : World) (hn : d.length = 4) (h : k < 4) :
    Sem.run Try.prog (Instr.index 62 (.agg (ints .u8 d)) (.int .i64 (k : Int))) W = .ok (.int .u8 (d.getD k 0)) W := by
  have h2 := ints_at .u8 d k (by omega)
  have hs : ∀ W : World, (sizeOf 5).run Try.prog W = .ok 1 W := fun _ => by kernel_rfl
  have ha : ∀ W : World, (isAgg 5).run Try.prog W = .ok false W := fun _ => by kernel_rfl
  have ht : Try.prog.underlying 62 = some (.array 4 5) := by kernel_rfl
  simp [Instr.index, run_underlying ht, hs, ha, Result.andThen, h2, go_sem]
  intro h3
  omega
theorem or_put (a x : Int) (k : Nat) (hk : k < 4) (h0 : 0 ≤ a) (h1 : a < 256 ^ k) (hx : 0 ≤ x ∧ x ≤ 255) : bits .or .u32 a (IntKind.u32.wrap (x * 2 ^ (8 * k))) = a + x * 256 ^ k := by
  have hp : (2 : Int) ^ (8 * k) = 256 ^ k := by rw [Int.pow_mul]; rfl
  rw [hp]
  have hpos : (0 : Int) < 256 ^ k := Int.pow_pos (by omega)
  have hle : (256 : Int) ^ k * 256 ≤ 4294967296 := by
    have h8 : 256 ^ (k + 1) ≤ 4294967296 := Nat.le_trans (Nat.pow_le_pow_right (n := 256) (by omega) (show k + 1 ≤ 4 by omega)) (by decide)
    have e : ((256 ^ (k + 1) : Nat) : Int) = 256 ^ k * 256 := by rw [Nat.pow_succ, Int.natCast_mul, Int.natCast_pow]; rfl
    omega
  have hxm : x * 256 ^ k ≤ 255 * 256 ^ k := Int.mul_le_mul_of_nonneg_right hx.2 (by omega)
  have hx0 : 0 ≤ x * 256 ^ k := Int.mul_nonneg hx.1 (by omega)
  have hw : IntKind.u32.wrap (x * 256 ^ k) = x * 256 ^ k := by
    simp only [IntKind.wrap, IntKind.bits, IntKind.signed]
    exact Int.emod_eq_of_lt hx0 (by omega)
  rw [hw]
  obtain ⟨A, rfl⟩ := Int.eq_ofNat_of_zero_le h0
  obtain ⟨X, rfl⟩ := Int.eq_ofNat_of_zero_le hx.1
  have hA : A < 2 ^ (8 * k) := by
    have : ((2 ^ (8 * k) : Nat) : Int) = 256 ^ k := by push_cast; exact hp
    omega
  have hc : ((X : Int) * 256 ^ k) = ((X * 2 ^ (8 * k) : Nat) : Int) := by push_cast; rw [hp]
  have hb := (bits_nat .u32 32 (by decide) (fun n h0 h1 => by simp only [IntKind.wrap, IntKind.bits, IntKind.signed]; exact Int.emod_eq_of_lt h0 h1) A (X * 2 ^ (8 * k)) (by
    have : ((2 ^ (8 * k) : Nat) : Int) = 256 ^ k := by push_cast; exact hp
    omega) (by rw [hc] at hxm hx0; omega)).2
  rw [hc]
  rw [hb, Nat.or_comm, Nat.mul_comm X, ← Nat.two_pow_add_eq_or_of_lt hA X]
  push_cast
  omega
set_option maxHeartbeats 1000000 in
theorem number_any (l : List Int) (w : World) (hl : l.length = 4) (hby : ∀ z ∈ l, 0 ≤ z ∧ z ≤ 255) :
    Calls Try.prog 30 #[.agg (ints .u8 l)] w fun e w' => e = .returned (.int .u32 (un l)) ∧ Below w.heap.size w w' := by
  have HD := Lib.hid hl
  have HBy := Lib.hid hby
  have HT : Hid ((Try.prog.info? 62).map (·.size) = some (ints .u8 l).size) := by
    show _ = _
    rw [ints_size, HD.out]; kernel_rfl
  have HA : Hid ((w.alloc (.cells (ints .u8 l) 62)).heap[w.heap.size]? = some (.cells (ints .u8 l) 62 (0, 0))) := heap_alloc_new _ _
  have HBl : Hid (Below w.heap.size w (w.alloc (.cells (ints .u8 l) 62))) := below_alloc _ _
  clear hl hby
  go_enter Try.func30, Try.ntmps30
  go_wp2_with (with_reducible refine wpList_load_row rfl 62 (.tmp 1) rfl w.heap.size rfl 62 (ints .u8 l) (0, 0) _ HA.out Try.underlying62 rfl HT.out ?_)
  go_loop [3, 7] (fun x i => ∃ k : Nat, k ≤ 4 ∧ i = .int .i64 k ∧ x = .int .u32 (un (l.take k))) (fun _ i => 4 - (intOf i).toNat)
  case atStart => exact ⟨0, by omega, rfl, rfl⟩
  case round =>
    obtain ⟨k, hk, rfl, rfl⟩ := hrel
    by_cases hlt : k < 4
    · have k0 : (0 : Int) ≤ k := by omega
      have k1 : (k : Int) < 4 := by omega
      have hd : decide ((k : Int) < 4) = true := by simp; omega
      have hix := fun W => index4 l k W HD.out hlt
      have hz : 0 ≤ l.getD k 0 ∧ l.getD k 0 ≤ 255 := HBy.out _ (by have := HD.out; simp [List.getD, show k < l.length from by omega])
      have HT2 : Hid (un (l.take (k + 1)) = un (l.take k) + l.getD k 0 * 256 ^ k) := by
        show _ = _
        have hlk : k < l.length := by have := HD.out; omega
        rw [List.take_succ_eq_append_getElem hlk, un_snoc, List.length_take, Nat.min_eq_left (by omega)]
        simp [List.getD, hlk]
      have hr := un_range (l.take k) (fun z hz => HBy.out z (List.mem_of_mem_take hz))
      rw [List.length_take, Nat.min_eq_left (by have := HD.out; omega)] at hr
      have HO := Lib.hid (or_put (un (l.take k)) (l.getD k 0) k hlt hr.1 hr.2 hz)
      clear hr
      have hwr : ∀ v : Int, v % 4294967296 = IntKind.u32.wrap v := fun v => by simp [IntKind.wrap, IntKind.bits, IntKind.signed]
      have HW := Lib.hid hwr
      clear hwr
      generalize l.getD k 0 = z at *
      generalize un (l.take k) = u at *
      obtain ⟨z0, z1⟩ := hz
      go_wp2_with fail
      go_round
      case rel => exact ⟨k + 1, by omega, by go_num, by rw [HT2.out, ← HO.out, ← HW.out]⟩
      case measure => simp [intOf]; omega
    · obtain rfl : k = 4 := by omega
      have hall : l.take 4 = l := List.take_of_length_le (by rw [HD.out]; omega)
      rw [hall]
      clear hall
      go_wp2_with fail
      go_ret
      exact ⟨rfl, HBl.out⟩
/-- the row behind k rounds -/
def rowK (x : Int) (k : Nat) : List Int := (low 4 x).take k ++ List.replicate (4 - k) 0
theorem rowK_set (x : Int) (k : Nat) (h : k < 4) : (rowK x k).set k (x / 256 ^ k % 256) = rowK x (k + 1) := by
  have h1 := low_at 4 k x h
  have hl := low_len 4 x
  unfold rowK
  rw [List.take_succ_eq_append_getElem (by omega)]
  have e : x / 256 ^ k % 256 = (low 4 x)[k]'(by omega) := by
    rw [← h1]; simp [List.getD, show k < (low 4 x).length by omega]
  rw [e, show 4 - k = (4 - (k + 1)) + 1 by omega, List.replicate_succ]
  rw [List.set_append_right _ _ (by simp; omega)]
  have e2 : k - (List.take k (low 4 x)).length = 0 := by simp; omega
  rw [e2]
  simp only [List.set_cons_zero, List.append_assoc, List.singleton_append]
theorem below_setRow (w : World) (g : Nat) (c : Array Value) : Below g w (w.setRow g c) :=
  ⟨rfl, rfl, rfl, by simp [World.setRow], fun k hk => by simp only [World.setRow, Array.getElem?_modify]; rw [if_neg (by omega)]⟩
theorem heap_alloc2_old (w : World) (o o' : Obj) : ((w.alloc o).alloc o').heap[w.heap.size]? = some o := (Below.heap_alloc _ _ _ (by simp)).trans (heap_alloc_new w o)
theorem heap_alloc2_new (w : World) (o o' : Obj) : ((w.alloc o).alloc o').heap[w.heap.size + 1]? = some o' := by have := heap_alloc_new (w.alloc o) o'; rwa [World.size_alloc] at this
theorem rowK_zero (x : Int) : ints .u8 (rowK x 0) = #[.int .u8 0, .int .u8 0, .int .u8 0, .int .u8 0] := rfl
theorem rowK_len (x : Int) (k : Nat) (h : k ≤ 4) : (rowK x k).length = 4 := by have := low_len 4 x; unfold rowK; simp; omega
set_option maxHeartbeats 1000000 in
theorem lowest_any (x : Int) (w : World) (hx : 0 ≤ x ∧ x ≤ 4294967295) :
    Calls Try.prog 32 #[.int .u32 x] w fun e w' => e = .returned (.agg (ints .u8 (low 4 x))) ∧ Below w.heap.size w w' := by
  go_enter Try.func32, Try.ntmps32
  go_wp2
  go_loopw [5] (fun i wr => ∃ k : Nat, k ≤ 4 ∧ i = .int .i64 k ∧ wr.heap.size = w.heap.size + 2 ∧ wr.heap[w.heap.size + 1]? = some (.cells (ints .u8 (rowK x k)) 62 (0, 0)) ∧ wr.heap[w.heap.size]? = some (.cells (ints .u8 [0, 0, 0, 0]) 62 (0, 0)) ∧ Below w.heap.size w wr) (fun i _ => 4 - (intOf i).toNat)
  case atStart =>
    refine ⟨0, by omega, rfl, by simp, ?_, ?_, ((Below.refl _ _).alloc (Nat.le_refl _) _).alloc (by simp) _⟩
    · rw [rowK_zero]; exact heap_alloc2_new _ _ _
    · exact heap_alloc2_old _ _ _
  case round =>
    obtain ⟨k, hk, rfl, hsz, hrow, hres, hbel⟩ := hrel
    have HS := Lib.hid hsz
    have HR := Lib.hid hrow
    have HZ := Lib.hid hres
    clear hsz hrow hres
    by_cases hlt : k < 4
    · have hd : decide ((k : Int) < 4) = true := by simp; omega
      have k0 : (0 : Int) ≤ k := by omega
      have k1 : (k : Int) < 4 := by omega
      have hcell : wr.cell? ⟨w.heap.size + 1, k, none⟩ = some (.int .u8 ((rowK x k).getD k 0)) := row_cell HR.out k (by have := low_len 4 x; unfold rowK; simp; omega)
      have hfree : wr.frozen? ⟨w.heap.size + 1, k, none⟩ = false := row_free HR.out _
      have HSt := Lib.hid (rowK_set x k hlt)
      have hp : x / 2 ^ (8 * k) = x / 256 ^ k := by rw [Int.pow_mul]; rfl
      have HP := Lib.hid hp
      clear hp
      go_wp2_with fail
      go_roundw
      case rel =>
        refine ⟨k + 1, by omega, by go_num, by simp [HS.out], ?_, ?_, hbel.setCell (by simp) _⟩
        · rw [row_setCell HR.out, HP.out, ints_set, HSt.out]
        · rw [Below.heap_setCell _ _ _ _ (by simp)]; exact HZ.out
      case measure => simp [intOf]; omega
    · have HK : Hid (k = 4) := (by omega : k = 4)
      have hd : decide ((k : Int) < 4) = false := by simp; omega
      have HE4 : Hid (rowK x k = low 4 x) := by
        show _ = _
        rw [HK.out]; unfold rowK; rw [List.take_of_length_le (by rw [low_len]; omega)]; simp
      have HL : Hid ((rowK x k).length = 4) := rowK_len x k (by omega)
      generalize rowK x k = R at *
      have HT : Hid ((Try.prog.info? 62).map (·.size) = some (ints .u8 R).size) := by
        show _ = _
        rw [ints_size, HL.out]; kernel_rfl
      have hst : Sem.run Try.prog (storeCells ⟨w.heap.size, 0, none⟩ (ints .u8 R).toList) wr = .ok () (wr.setRow w.heap.size (ints .u8 R)) := by
        have := run_storeCells_from (P := Try.prog) w.heap.size 62 (ints .u8 R).toList 0 (ints .u8 [0, 0, 0, 0]) wr HZ.out (by simp [ints, HL.out]) (by simpa [ints] using ints_one .u8 R)
        simpa using this
      have hsz : (ints .u8 R).size = 4 := by rw [ints_size, HL.out]
      go_wp2_with (with_reducible refine wpList_load_row rfl 62 (.tmp 3) rfl (w.heap.size + 1) rfl 62 (ints .u8 R) (0, 0) _ HR.out Try.underlying62 rfl HT.out ?_)
      clear hst
      have hrow := setRow_heap wr w.heap.size _ (ints .u8 R) 62 (0, 0) HZ.out
      refine bodyPost_ret (v := .agg (ints .u8 R)) (results_cell_row (p := 2) (ty := 62) rfl _ _ w.heap.size 62 (ints .u8 R) (0, 0) _ rfl hrow Try.underlying62 rfl HT.out) rfl ⟨by rw [HE4.out], hbel.trans (below_setRow _ _ _)⟩
end Ram
end Go.Proofs.Ythpimoinognkhaa
