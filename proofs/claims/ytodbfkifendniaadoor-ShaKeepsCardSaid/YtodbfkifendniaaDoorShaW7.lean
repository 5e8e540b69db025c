/- Digits and is: a digest against its digits. -/
import Derived.Test.YtodbfkifendniaaDoorShaW6
import Derived.WalkSpells
namespace Go.Proofs.YtodbfkifendniaaDoor
open Go.ChangeShapes Go.WideShapes Go.ChangeAt Go.RowKit
namespace Sha
/-- the sixteen digits -/
def HX : ByteArray := { data := #[48, 49, 50, 51, 52, 53, 54, 55, 56, 57, 97, 98, 99, 100, 101, 102] }
def hexStep (s : ByteArray) (z : Int) : ByteArray := s ++ HX.extract (z / 16).toNat (z / 16 + 1).toNat ++ HX.extract (z % 16).toNat (z % 16 + 1).toNat
/-- bytes as digits -/
def hexs (l : List Int) : ByteArray := l.foldl hexStep { data := #[] }
theorem hexs_next (l : List Int) (k : Nat) (h : k < l.length) : hexs (l.take (k + 1)) = hexStep (hexs (l.take k)) (l.getD k 0) := by
  unfold hexs
  rw [List.take_succ_eq_append_getElem h, List.foldl_append, List.getD_eq_getElem?_getD, List.getElem?_eq_getElem h]; rfl
theorem hexs_size (l : List Int) : (hexs l).size ≤ 2 * l.length := by
  suffices H : ∀ (s : ByteArray), (l.foldl hexStep s).size ≤ s.size + 2 * l.length by
    have := H { data := #[] }
    have e : ({ data := #[] } : ByteArray).size = 0 := rfl
    unfold hexs; omega
  induction l with
  | nil => intro s; simp
  | cons z l ih =>
    intro s
    simp only [List.foldl_cons, List.length_cons]
    have h1 := ih (hexStep s z)
    have h2 : (hexStep s z).size ≤ s.size + 2 := by
      unfold hexStep
      rw [ByteArray.size_append, ByteArray.size_append, ByteArray.size_extract, ByteArray.size_extract]
      omega
    omega
theorem index_ints (d : List Int) (k : Nat) (W : World) (hn : d.length = 32) (h : k < 32) :
    Sem.run Tryd.prog (Instr.index 25 (.agg (ints .u8 d)) (.int .i64 (k : Int))) W = .ok (.int .u8 (d.getD k 0)) W := by
  have h2 := ints_at .u8 d k (by omega)
  have hs : ∀ W : World, (sizeOf 5).run Tryd.prog W = .ok 1 W := fun _ => by kernel_rfl
  have ha : ∀ W : World, (isAgg 5).run Tryd.prog W = .ok false W := fun _ => by kernel_rfl
  have ht : Tryd.prog.underlying 25 = some (.array 32 5) := by kernel_rfl
  simp [Instr.index, run_underlying ht, hs, ha, Result.andThen, h2, go_sem]
  intro h3
  omega

set_option maxRecDepth 100000 in
set_option maxHeartbeats 1000000 in
theorem digits_any (d : List Int) (w : World) (hd : d.length = 32) (hby : ∀ z ∈ d, 0 ≤ z ∧ z ≤ 255) :
    Calls Tryd.prog 22 #[.agg (ints .u8 d)] w fun e w' => e = .returned (.string (hexs d)) ∧ Below w.heap.size w w' := by
  have HD := Lib.hid hd
  have HBy := Lib.hid hby
  have HT : Hid ((Tryd.prog.info? 25).map (·.size) = some (ints .u8 d).size) := by
    show _ = _
    rw [ints_size, HD.out]; kernel_rfl
  have HA : Hid ((w.alloc (.cells (ints .u8 d) 25)).heap[w.heap.size]? = some (.cells (ints .u8 d) 25 (0, 0))) := heap_alloc_new _ _
  clear hd hby
  go_enter Tryd.func22, Tryd.ntmps22
  go_wp2_with (with_reducible refine wpList_load_row rfl 25 (.tmp 1) rfl w.heap.size rfl 25 (ints .u8 d) (0, 0) _ HA.out Tryd.underlying25 rfl HT.out ?_)
  go_loop [3, 9] (fun s i => ∃ k : Nat, k ≤ 32 ∧ i = .int .i64 k ∧ s = .string (hexs (d.take k))) (fun _ i => 32 - (intOf i).toNat)
  case atStart => exact ⟨0, by omega, rfl, rfl⟩
  case round =>
    obtain ⟨k, hk, rfl, rfl⟩ := hrel
    by_cases hlt : k < 32
    · have k0 : (0 : Int) ≤ k := by omega
      have k1 : (k : Int) < 32 := by omega
      have hd : decide ((k : Int) < 32) = true := by simp; omega
      have hix := fun W => index_ints d k W HD.out hlt
      have hz : 0 ≤ d.getD k 0 ∧ d.getD k 0 ≤ 255 := HBy.out _ (by have := HD.out; simp [List.getD, show k < d.length from by omega])
      have HN := Lib.hid (hexs_next d k (by rw [HD.out]; exact hlt))
      generalize d.getD k 0 = z at *
      obtain ⟨z0, z1⟩ := hz
      have y0 : 0 ≤ z % 16 := by omega
      have y1 : z % 16 ≤ 15 := by omega
      have x0 : 0 ≤ z / 16 := by omega
      have x1 : z / 16 ≤ 15 := by omega
      have hsk : (hexs (d.take k)).size ≤ 64 := by
        have := hexs_size (d.take k)
        rw [List.length_take] at this
        omega
      generalize hexs (d.take k) = sk at *
      obtain ⟨s1, hs1⟩ : ∃ s1, s1 = sk ++ HX.extract (z / 16).toNat (z / 16 + 1).toNat := ⟨_, rfl⟩
      obtain ⟨s2, hs2⟩ : ∃ s2, s2 = s1 ++ HX.extract (z % 16).toNat (z % 16 + 1).toNat := ⟨_, rfl⟩
      have hl1 : s1.size ≤ 65 := by
        rw [hs1, ByteArray.size_append, ByteArray.size_extract]; omega
      have hadd1 : ∀ W : World, (Op.stringOp .add sk (({ data := #[48, 49, 50, 51, 52, 53, 54, 55, 56, 57, 97, 98, 99, 100, 101, 102] } : ByteArray).extract (z / 16).toNat (z / 16 + 1).toNat)).run Tryd.prog W = .ok (.string s1) W := fun W => by
        rw [hs1]; exact run_string_add_sum W _ _ (by rw [ByteArray.size_extract]; omega)
      have hadd2 : ∀ W : World, (Op.stringOp .add s1 (({ data := #[48, 49, 50, 51, 52, 53, 54, 55, 56, 57, 97, 98, 99, 100, 101, 102] } : ByteArray).extract (z % 16).toNat (z % 16 + 1).toNat)).run Tryd.prog W = .ok (.string s2) W := fun W => by
        rw [hs2]; exact run_string_add_sum W _ _ (by rw [ByteArray.size_extract]; omega)
      have HS : Hid (hexStep sk z = s2) := by show _ = _; rw [hs2, hs1]; rfl
      clear hs1 hs2
      have hi0 : ∀ x y W, Sem.run Tryd.prog (Instr.index 61 (.agg #[x, y]) (.int .i64 0)) W = .ok x W := fun _ _ _ => by kernel_rfl
      have hi1 : ∀ x y W, Sem.run Tryd.prog (Instr.index 61 (.agg #[x, y]) (.int .i64 1)) W = .ok y W := fun _ _ _ => by kernel_rfl
      go_wp2_with fail
      refine wp_loop_rounds 3 ?_
      rw [rounds_succ]
      go_wp2_with fail
      rw [rounds_succ]
      go_wp2_with fail
      rw [rounds_succ]
      go_wp2_with fail
      go_round
      case rel => exact ⟨k + 1, by omega, by go_num, by rw [HN.out, HS.out]⟩
      case measure => simp [intOf]; omega
    · have hd : decide ((k : Int) < 32) = false := by simp; omega
      have hall : d.take k = d := List.take_of_length_le (by rw [HD.out]; omega)
      rw [hall]
      clear hall
      go_wp2_with fail
      go_ret
      exact ⟨rfl, (Below.refl _ _).alloc (Nat.le_refl _) _⟩

set_option maxRecDepth 100000 in
theorem is_true (d : List Int) (t : ByteArray) (w : World) (hd : d.length = 32) (hby : ∀ z ∈ d, 0 ≤ z ∧ z ≤ 255) (ht : hexs d = t) :
    Calls Tryd.prog 16 #[.agg (ints .u8 d), .string t] w fun e w' => e = .returned (.bool true) ∧ Below w.heap.size w w' := by
  have HD := Lib.hid hd
  have HBy := Lib.hid hby
  have HT : Hid ((Tryd.prog.info? 25).map (·.size) = some (ints .u8 d).size) := by
    show _ = _
    rw [ints_size, HD.out]; kernel_rfl
  have HA : Hid ((w.alloc (.cells (ints .u8 d) 25)).heap[w.heap.size]? = some (.cells (ints .u8 d) 25 (0, 0))) := heap_alloc_new _ _
  have HE := Lib.hid ht
  clear hd hby ht
  go_enter Tryd.func16, Tryd.ntmps16
  go_wp2_with (with_reducible refine wpList_load_row rfl 25 (.tmp 2) rfl w.heap.size rfl 25 (ints .u8 d) (0, 0) _ HA.out Tryd.underlying25 rfl HT.out ?_)
  refine (digits_any d _ HD.out HBy.out).mono ?_
  rintro e w1 ⟨rfl, hb1⟩
  rw [HE.out]
  go_wp2_with fail
  go_ret
  exact ⟨by simp, ((Below.refl _ _).alloc (Nat.le_refl _) _).trans (hb1.mono (by simp))⟩
end Sha
end Go.Proofs.YtodbfkifendniaaDoor
