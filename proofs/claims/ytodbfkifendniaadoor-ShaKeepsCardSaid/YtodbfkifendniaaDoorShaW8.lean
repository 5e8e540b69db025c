/- The statements' own test of the layer: it answers true. -/
import Derived.Test.YtodbfkifendniaaDoorShaW7
import Derived.Lib.SlBytesConst
namespace Go.Proofs.YtodbfkifendniaaDoor
open Go.ChangeShapes Go.WideShapes Go.ChangeAt Go.RowKit
namespace Sha
def abcHex : ByteArray := ⟨#[98, 97, 55, 56, 49, 54, 98, 102, 56, 102, 48, 49, 99, 102, 101, 97, 52, 49, 52, 49, 52, 48, 100, 101, 53, 100, 97, 101, 50, 50, 50, 51, 98, 48, 48, 51, 54, 49, 97, 51, 57, 54, 49, 55, 55, 97, 57, 99, 98, 52, 49, 48, 102, 102, 54, 49, 102, 50, 48, 48, 49, 53, 97, 100]⟩
def nilHex : ByteArray := ⟨#[101, 51, 98, 48, 99, 52, 52, 50, 57, 56, 102, 99, 49, 99, 49, 52, 57, 97, 102, 98, 102, 52, 99, 56, 57, 57, 54, 102, 98, 57, 50, 52, 50, 55, 97, 101, 52, 49, 101, 52, 54, 52, 57, 98, 57, 51, 52, 99, 97, 52, 57, 53, 57, 57, 49, 98, 55, 56, 53, 50, 98, 56, 53, 53]⟩
theorem abc_hex : hexs (sum [97, 98, 99]) = abcHex := by decide +kernel
theorem nil_hex : hexs (sum []) = nilHex := by decide +kernel
theorem sum_length (l : List Int) : (sum l).length = 32 := digest_length _
theorem sum_byte (l : List Int) : ∀ z ∈ sum l, 0 ≤ z ∧ z ≤ 255 := digest_byte _

/-- an array of bytes is the same as itself -/
theorem equal_self' (n : Nat) (d : List Int) (hd : d.length = 32) (w : World) : (Op.equalIn (n + 2) 25 (.agg (ints .u8 d)) (.agg (ints .u8 d))).run Tryd.prog w = .ok true w := by
  have ht : Tryd.prog.underlying 25 = some (.array 32 5) := by kernel_rfl
  have hs : ∀ W : World, (sizeOf 5).run Tryd.prog W = .ok 1 W := fun _ => by kernel_rfl
  have ha : ∀ W : World, (isAgg 5).run Tryd.prog W = .ok false W := fun _ => by kernel_rfl
  have hpart : ∀ (i : Nat) (W : World), i < 32 → (Go.part 5 (ints .u8 d) (i * 1)).run Tryd.prog W = .ok (.int .u8 (d.getD i 0)) W := fun i W hi => by
    have h2 := ints_at .u8 d i (by omega)
    simp [Go.part, ha, h2]
  have heq : ∀ (a : Int) (W : World), (Op.equalIn (n + 1) 5 (.int .u8 a) (.int .u8 a)).run Tryd.prog W = .ok true W := fun a W => by
    rw [run_equalIn_int W n 5 .u8 .u8 a a (by kernel_rfl)]; simp
  rw [show n + 2 = (n + 1) + 1 from rfl]
  rw [Op.equalIn]
  simp only [Sem.run_bind, run_underlying ht, Result.andThen_ok, hs]
  rw [Std.Legacy.Range.forIn_eq_forIn_range']
  have hm : ∀ i ∈ List.range' ([:32] : Std.Legacy.Range).start ([:32] : Std.Legacy.Range).size ([:32] : Std.Legacy.Range).step, i < 32 := by
    intro i hi
    simp [Std.Legacy.Range.size] at hi
    exact hi
  generalize List.range' ([:32] : Std.Legacy.Range).start ([:32] : Std.Legacy.Range).size ([:32] : Std.Legacy.Range).step = L at *
  induction L with
  | nil => simp
  | cons i L ih =>
    have h1 := hpart i w (hm i (by simp))
    simp only [List.forIn_cons, Sem.run_bind, h1, Result.andThen_ok, heq, Bool.not_true, Bool.false_eq_true, if_false, Sem.run_pure]
    exact ih (fun j hj => hm j (by simp [hj]))
theorem equal_self (d : List Int) (hd : d.length = 32) (w : World) : (Op.equalIn 10000 25 (.agg (ints .u8 d)) (.agg (ints .u8 d))).run Tryd.prog w = .ok true w := equal_self' 9998 d hd w

theorem SRow.alloc {p : Nat → Prop} {w : World} {a : Option Addr} {n : Nat} {l : List Int} (h : SRow p w a n l) (o : Obj) : SRow p (w.alloc o) a n l := h.kept ((Kept.refl _ _).alloc o)
theorem srow_new (w : World) (l : List Int) (C : Array Value) (t : TypeId) (fr : Nat × Nat) (n : Nat) (hC : C = ints .u8 l) (hby : ∀ z ∈ l, 0 ≤ z ∧ z ≤ 255) (hn : l.length = n) :
    SRow (fun _ => False) (w.alloc (.cells C t fr)) (some ⟨w.heap.size, 0, none⟩) n l := by
  refine ⟨hn, hby, Or.inr ⟨w.heap.size, 0, rfl, fun h => h, fun i hi => ?_⟩⟩
  rw [Nat.zero_add, cell_of_row _ _ _ _ _ _ (heap_alloc_new w _), hC]
  exact ints_at .u8 l i (by omega)
theorem srow_nil (w : World) : SRow (fun _ => False) w none 0 [] := ⟨rfl, by simp, Or.inl rfl⟩
/-- one part, laid into a new row -/
theorem prow_one (w : World) (a : Option Addr) (m c : Nat) (l : List Int) (t : TypeId) (fr : Nat × Nat) (h1 : m ≤ c) (h2 : c ≤ 9223372036854775807) (h : SRow (fun _ => False) w a m l) :
    PRow (w.alloc (.cells #[.slice a m c] t fr)) (some ⟨w.heap.size, 0, none⟩) 1 [l] := by
  refine ⟨rfl, Or.inr ⟨w.heap.size, 0, rfl, fun i hi => ?_⟩⟩
  obtain rfl : i = 0 := by omega
  refine ⟨a, m, c, ?_, h1, h2, h.alloc _⟩
  rw [cell_of_row _ _ _ _ _ _ (heap_alloc_new w _)]; rfl
/-- two parts, laid into a new row -/
theorem prow_two (w : World) (a a' : Option Addr) (m c m' c' : Nat) (l l' : List Int) (t : TypeId) (fr : Nat × Nat) (h1 : m ≤ c) (h2 : c ≤ 9223372036854775807) (h1' : m' ≤ c') (h2' : c' ≤ 9223372036854775807) (h : SRow (fun _ => False) w a m l) (h' : SRow (fun _ => False) w a' m' l') :
    PRow (w.alloc (.cells #[.slice a m c, .slice a' m' c'] t fr)) (some ⟨w.heap.size, 0, none⟩) 2 [l, l'] := by
  refine ⟨rfl, Or.inr ⟨w.heap.size, 0, rfl, fun i hi => ?_⟩⟩
  rcases i with _ | _ | i
  · refine ⟨a, m, c, ?_, h1, h2, h.alloc _⟩
    rw [cell_of_row _ _ _ _ _ _ (heap_alloc_new w _)]; rfl
  · refine ⟨a', m', c', ?_, h1', h2', h'.alloc _⟩
    rw [cell_of_row _ _ _ _ _ _ (heap_alloc_new w _)]; rfl
  · omega
theorem prow_nil (w : World) : PRow w none 0 [] := ⟨rfl, Or.inl rfl⟩

set_option maxRecDepth 100000 in
set_option maxHeartbeats 1000000 in
theorem works_any (w : World) (hr : Roots w) :
    Calls Tryd.prog 10 #[] w fun e w' => e = .returned (.bool true) ∧ Below w.heap.size w w' := by
  have HR := Lib.hid hr
  clear hr
  have kc := fun (w : World) (C : Array Value) (n c : Nat) => Lib.run_convert_bytes_const (P := Tryd.prog) w 22 5 C n c Tryd.underlying22 Tryd.underlying5
  have kc2 := kc (w.alloc (Obj.cells #[Value.int IntKind.u8 97] 5 (1, 2))) #[Value.int IntKind.u8 98, Value.int IntKind.u8 99] 2 2
  rw [show (w.alloc (Obj.cells #[Value.int IntKind.u8 97] 5 (1, 2))).heap.size = w.heap.size + 1 from by simp] at kc2
  go_enter Tryd.func10, Tryd.ntmps10
  go_wp2_with fail
  clear kc kc2
  have hb0 : Below w.heap.size w (((w.alloc (Obj.cells #[Value.int IntKind.u8 97] 5 (1, 2))).alloc (Obj.cells #[Value.int IntKind.u8 98, Value.int IntKind.u8 99] 5 (2, 3))).alloc (Obj.cells #[Value.slice (some ⟨w.heap.size, 0, none⟩) 1 1, Value.slice (some ⟨w.heap.size + 1, 0, none⟩) 2 2] 22)) := (((Below.refl _ _).alloc (Nat.le_refl _) _).alloc (by simp) _).alloc (by simp; omega) _
  have hp := prow_two ((w.alloc (Obj.cells #[Value.int IntKind.u8 97] 5 (1, 2))).alloc (Obj.cells #[Value.int IntKind.u8 98, Value.int IntKind.u8 99] 5 (2, 3))) (some ⟨w.heap.size, 0, none⟩) (some ⟨w.heap.size + 1, 0, none⟩) 1 1 2 2 [97] [98, 99] 22 (0, 0) (by omega) (by omega) (by omega) (by omega)
    ((srow_new w [97] _ 5 (1, 2) 1 rfl (by decide) rfl).alloc _) (by have h := srow_new (w.alloc (Obj.cells #[Value.int IntKind.u8 97] 5 (1, 2))) [98, 99] #[Value.int IntKind.u8 98, Value.int IntKind.u8 99] 5 (2, 3) 2 rfl (by decide) rfl; simpa using h)
  rw [show ((w.alloc (Obj.cells #[Value.int IntKind.u8 97] 5 (1, 2))).alloc (Obj.cells #[Value.int IntKind.u8 98, Value.int IntKind.u8 99] 5 (2, 3))).heap.size = w.heap.size + 1 + 1 from by simp] at hp
  refine (sum_any [[97], [98, 99]] _ 2 2 _ (by omega) (by decide) (HR.out.below hb0) hp).mono ?_
  rintro e w1 ⟨rfl, hb1⟩
  have HB1 := Lib.hid (hb0.trans (hb1.mono hb0.size))
  clear hb0 hp hb1
  go_wp2_with fail
  refine (is_true (sum [97, 98, 99]) _ _ (sum_length _) (sum_byte _) abc_hex).mono ?_
  rintro e w2 ⟨rfl, hb2⟩
  have HB2 := Lib.hid (HB1.out.trans (hb2.mono HB1.out.size))
  clear hb2
  go_wp2_with fail
  go_ret
  exact ⟨rfl, HB2.out⟩
end Sha
end Go.Proofs.YtodbfkifendniaaDoor
