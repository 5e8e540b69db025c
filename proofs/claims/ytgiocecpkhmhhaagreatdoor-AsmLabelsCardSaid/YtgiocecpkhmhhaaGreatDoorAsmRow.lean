/- Lines and instructions in memory. -/
import Derived.Test.YtgiocecpkhmhhaaGreatDoorAsmMem
namespace Go.Proofs.YtgiocecpkhmhhaaGreatDoor
open Go.ChangeShapes Go.WideShapes Go.ChangeAt Go.RowKit
namespace Asm
open Isa
set_option linter.unusedVariables false
set_option linter.unusedSimpArgs false
/-- a line that may stand in memory -/
structure Av.wf (x : Av) : Prop where
  i : x.i.wf
  lb : x.lb.length ≤ 9223372036854775807
  tg : x.tg.length ≤ 9223372036854775807
def encA (x : Av) : List Value := [.string (sB x.lb), .int .u8 x.i.op, .int .u8 x.i.a, .int .u16 x.i.b, .int .u32 x.i.c, .string (sB x.tg)]
def avV (x : Av) : Value := .agg #[.string (sB x.lb), .int .u8 x.i.op, .int .u8 x.i.a, .int .u16 x.i.b, .int .u32 x.i.c, .string (sB x.tg)]
def encI (x : Iv) : List Value := [.int .u8 x.op, .int .u8 x.a, .int .u16 x.b, .int .u32 x.c]
structure AAt (w : World) (b off : Nat) (x : Av) : Prop where
  c0 : w.cell? ⟨b, off, none⟩ = some (.string (sB x.lb))
  c1 : w.cell? ⟨b, off + 1, none⟩ = some (.int .u8 x.i.op)
  c2 : w.cell? ⟨b, off + 2, none⟩ = some (.int .u8 x.i.a)
  c3 : w.cell? ⟨b, off + 3, none⟩ = some (.int .u16 x.i.b)
  c4 : w.cell? ⟨b, off + 4, none⟩ = some (.int .u32 x.i.c)
  c5 : w.cell? ⟨b, off + 5, none⟩ = some (.string (sB x.tg))
structure IAt (w : World) (b off : Nat) (x : Iv) : Prop where
  c0 : w.cell? ⟨b, off, none⟩ = some (.int .u8 x.op)
  c1 : w.cell? ⟨b, off + 1, none⟩ = some (.int .u8 x.a)
  c2 : w.cell? ⟨b, off + 2, none⟩ = some (.int .u16 x.b)
  c3 : w.cell? ⟨b, off + 3, none⟩ = some (.int .u32 x.c)
theorem AAt.block {w w' : World} {b off : Nat} {x : Av} (h : AAt w b off x) (hb : w'.heap[b]? = w.heap[b]?) : AAt w' b off x :=
  ⟨(World.cell?_of_block hb).trans h.c0, (World.cell?_of_block hb).trans h.c1, (World.cell?_of_block hb).trans h.c2, (World.cell?_of_block hb).trans h.c3, (World.cell?_of_block hb).trans h.c4, (World.cell?_of_block hb).trans h.c5⟩
theorem IAt.block {w w' : World} {b off : Nat} {x : Iv} (h : IAt w b off x) (hb : w'.heap[b]? = w.heap[b]?) : IAt w' b off x :=
  ⟨(World.cell?_of_block hb).trans h.c0, (World.cell?_of_block hb).trans h.c1, (World.cell?_of_block hb).trans h.c2, (World.cell?_of_block hb).trans h.c3⟩
/-- a slice with this address and length is this program -/
def ARow (w : World) (a : Option Addr) (n : Nat) (l : List Av) : Prop := l.length = n ∧ (∀ x ∈ l, x.wf) ∧ (n = 0 ∨ ∃ b off, a = some ⟨b, off, none⟩ ∧ ∀ j, j < n → AAt w b (off + j * 6) (l.getD j av0))
def iv0 : Iv := ⟨0, 0, 0, 0⟩
def IRow (w : World) (a : Option Addr) (n : Nat) (l : List Iv) : Prop := l.length = n ∧ (∀ x ∈ l, x.wf) ∧ (n = 0 ∨ ∃ b off, a = some ⟨b, off, none⟩ ∧ ∀ j, j < n → IAt w b (off + j * 4) (l.getD j iv0))
theorem ARow.below {w w' : World} {a : Option Addr} {n : Nat} {l : List Av} (h : ARow w a n l) {B : Nat} (hb : Below B w w') (hB : w.heap.size ≤ B) : ARow w' a n l := by
  obtain ⟨h1, h0, h2⟩ := h
  refine ⟨h1, h0, ?_⟩
  rcases h2 with h2 | ⟨b, off, rfl, hc⟩
  · exact .inl h2
  · exact .inr ⟨b, off, rfl, fun j hj => (hc j hj).block (hb.block b (Nat.lt_of_lt_of_le (World.block_lt_of_cell? _ _ (hc j hj).c0) hB))⟩
theorem IRow.below {w w' : World} {a : Option Addr} {n : Nat} {l : List Iv} (h : IRow w a n l) {B : Nat} (hb : Below B w w') (hB : w.heap.size ≤ B) : IRow w' a n l := by
  obtain ⟨h1, h0, h2⟩ := h
  refine ⟨h1, h0, ?_⟩
  rcases h2 with h2 | ⟨b, off, rfl, hc⟩
  · exact .inl h2
  · exact .inr ⟨b, off, rfl, fun j hj => (hc j hj).block (hb.block b (Nat.lt_of_lt_of_le (World.block_lt_of_cell? _ _ (hc j hj).c0) hB))⟩
theorem ARow.at {w : World} {a : Option Addr} {n : Nat} {l : List Av} (h : ARow w a n l) (k : Nat) (hk : k < n) : ∃ b off, a = some ⟨b, off, none⟩ ∧ AAt w b (off + k * 6) (l.getD k av0) ∧ (l.getD k av0).wf := by
  obtain ⟨h1, h0, h2⟩ := h
  obtain ⟨b, off, rfl, hc⟩ := h2.resolve_left (by omega)
  exact ⟨b, off, rfl, hc k hk, h0 _ (getD_mem _ (by omega))⟩
theorem IRow.at {w : World} {a : Option Addr} {n : Nat} {l : List Iv} (h : IRow w a n l) (k : Nat) (hk : k < n) : ∃ b off, a = some ⟨b, off, none⟩ ∧ IAt w b (off + k * 4) (l.getD k iv0) ∧ (l.getD k iv0).wf := by
  obtain ⟨h1, h0, h2⟩ := h
  obtain ⟨b, off, rfl, hc⟩ := h2.resolve_left (by omega)
  exact ⟨b, off, rfl, hc k hk, h0 _ (getD_mem _ (by omega))⟩
/-! ### The first line with a label -/
theorem find_hit {l : List Av} {s : List UInt8} {k : Nat} (hk : k < l.length) (hn : ∀ t, t < k → (l.getD t av0).lb ≠ s) (h : (l.getD k av0).lb = s) : findA l s = k := by
  have e : lbls l s = k := first_at hk (fun t ht => decide_eq_false (hn t ht)) (decide_eq_true h)
  unfold findA
  rw [e, if_pos hk]
theorem find_none {l : List Av} {s : List UInt8} (hn : ∀ t, t < l.length → (l.getD t av0).lb ≠ s) : findA l s = -1 := by
  have e : lbls l s = l.length := first_none (fun t ht => decide_eq_false (hn t ht))
  unfold findA
  rw [e, if_neg (by omega)]
set_option maxHeartbeats 1600000 in
theorem rfind_any (l : List Av) (s : List UInt8) (a : Option Addr) (n c : Nat) (hm : n ≤ 1000000000) (w : World) (h : ARow w a n l) : Calls Tryz.prog 31 #[.slice a n c, .string (sB s)] w fun e w' => e = .returned (.int .i64 (findA l s)) ∧ Below w.heap.size w w' := by
  have HA := Lib.hid (fun k (hk : k < n) => h.at k hk)
  have hln : l.length = n := h.1
  have HL := Lib.hid hln
  have HH := Lib.hid (fun k (hk : k < n) => find_hit (l := l) (s := s) (k := k) (by omega))
  have HN := Lib.hid (fun hn => find_none (l := l) (s := s) hn)
  clear h
  go_enter Tryz.func31, Tryz.ntmps31
  go_wp2_with fail
  go_loopw [5] (fun i wr => ∃ k : Nat, k ≤ n ∧ i = .int .i64 k ∧ (∀ t, t < k → (l.getD t av0).lb ≠ s) ∧ wr = w) (fun i _ => n - (intOf i).toNat)
  case atStart => exact ⟨0, by omega, rfl, fun t ht => by omega, rfl⟩
  case round =>
    obtain ⟨k, hk, rfl, hno, rfl⟩ := hrel
    have HO := Lib.hid hno
    clear hno
    by_cases hlt : k < n
    · have hd : decide ((k : Int) < (n : Int)) = true := decide_eq_true (by omega)
      have k0 : (0 : Int) ≤ k := by omega
      have k1 : (k : Int) < n := by omega
      obtain ⟨b, off, rfl, hc, _⟩ := HA.out k hlt
      have c0 := hc.c0
      have he := sB_eq (l.getD k av0).lb s
      by_cases hx : (l.getD k av0).lb = s
      · have HR : Hid (findA l s = k) := HH.out k hlt HO.out hx
        rw [decide_eq_true hx] at he
        clear hx hc
        generalize sB (l.getD k av0).lb = x at *
        generalize sB s = S at *
        go_wp2_with fail
        go_ret
        exact ⟨ret_int HR.out.symm, by go_grown⟩
      · have HX := Lib.hid hx
        rw [decide_eq_false hx] at he
        clear hx hc
        generalize sB (l.getD k av0).lb = x at *
        generalize sB s = S at *
        go_wp2_with fail
        refine ⟨⟨k + 1, by omega, by simp, fun t ht => ?_, trivial⟩, by simp [intOf]; omega⟩
        by_cases e : t = k
        · rw [e]; exact HX.out
        · exact HO.out t (by omega)
    · obtain rfl : k = n := by omega
      have HR : Hid (findA l s = -1) := HN.out (by rw [HL.out]; exact HO.out)
      have hd : decide ((k : Int) < (k : Int)) = false := decide_eq_false (by omega)
      go_wp2_with fail
      go_ret
      exact ⟨ret_int HR.out.symm, by go_grown⟩
end Asm
end Go.Proofs.YtgiocecpkhmhhaaGreatDoor
