/- What More and Sum answer, for any bytes, and that nothing that was there has turned. -/
import Derived.Test.YtfjjfddlnbaloaaCrcW2
import Derived.Deep.WholeRow
namespace Go.Proofs.Ytfjjfddlnbaloaa
open Go.ChangeShapes Go.WideShapes Go.ChangeAt Go.RowKit

/-- a slice with this address and length has these bytes -/
def Row (w : World) (a : Option Addr) (n : Nat) (l : List Int) : Prop :=
  l.length = n ∧ (∀ z ∈ l, 0 ≤ z ∧ z ≤ 255) ∧ (n = 0 ∨ ∃ b off, a = some ⟨b, off, none⟩ ∧ ∀ i, i < n → w.cell? ⟨b, off + i, none⟩ = some (.int .u8 (l.getD i 0)))

/-- what the walk is told of a slice of integers that came in -/
def IsRow (k : IntKind) (w : World) (a : Option Addr) (len cap : Nat) (zs : List Int) : Prop :=
  (a = none ∧ len = 0 ∧ cap = 0 ∧ zs = []) ∨
  ∃ x, a = some x ∧ len ≤ cap ∧ cap ≤ maxLen ∧ zs.length = cap ∧ (∀ i, i < zs.length → w.cell? (x.add i) = some (.int k (zs.getD i 0))) ∧ ∀ n ∈ zs, (Lit.int k n).wf = true

theorem IsRow.len {k : IntKind} {w : World} {a : Option Addr} {len cap : Nat} {zs : List Int} (h : IsRow k w a len cap zs) : len ≤ cap ∧ cap ≤ 9223372036854775807 := by
  rcases h with ⟨_, rfl, rfl, _⟩ | ⟨x, _, h1, h2, _⟩
  · omega
  · unfold maxLen at h2; omega

theorem IsRow.row {w : World} {a : Option Addr} {len cap : Nat} {zs : List Int} (h : IsRow .u8 w a len cap zs) : Row w a len (zs.take len) := by
  rcases h with ⟨rfl, rfl, rfl, rfl⟩ | ⟨x, rfl, h1, h2, h3, h4, h5⟩
  · exact ⟨rfl, by simp, Or.inl rfl⟩
  · refine ⟨by simp; omega, fun z hz => ?_, ?_⟩
    · have := h5 z (List.mem_of_mem_take hz)
      simpa [Lit.wf, IntKind.min, IntKind.max, IntKind.signed, IntKind.bits] using this
    · by_cases h0 : len = 0
      · exact Or.inl h0
      · obtain ⟨b, off, spot⟩ := x
        have hspot : spot = none := by simpa [Addr.add] using World.cell?_spot (h4 0 (by omega))
        subst hspot
        refine Or.inr ⟨b, off, rfl, fun i hi => ?_⟩
        have := h4 i (by omega)
        have e : (zs.take len).getD i 0 = zs.getD i 0 := by simp [List.getD, hi]
        have ea : (⟨b, off, none⟩ : Addr).add i = ⟨b, off + i, none⟩ := by unfold Addr.add; split <;> simp_all
        rw [e, ← ea]
        exact this

theorem Row.below {w w' : World} {a : Option Addr} {n : Nat} {l : List Int} (h : Row w a n l) {B : Nat} (hb : Below B w w') (hB : w.heap.size ≤ B) : Row w' a n l := by
  obtain ⟨h1, h2, h3⟩ := h
  refine ⟨h1, h2, ?_⟩
  rcases h3 with h3 | ⟨b, off, rfl, hc⟩
  · exact Or.inl h3
  · by_cases h0 : n = 0
    · exact Or.inl h0
    · refine Or.inr ⟨b, off, rfl, fun i hi => ?_⟩
      rw [hb.cell (p := ⟨b, off + i, none⟩) (Nat.lt_of_lt_of_le (World.block_lt_of_cell? _ _ (hc i hi)) hB)]
      exact hc i hi

namespace Crc
/-- the sum behind a sum -/
def more (s : W) (l : List Int) : W := ~~~ (rem (~~~ s) l)
theorem not_U (n : Int) : bits .xor .u32 4294967295 n = U (~~~ (V n)) := by
  rw [xor_U, show V 4294967295 = BitVec.allOnes 32 from by decide, BitVec.allOnes_xor]
theorem and15_range (x : Int) : 0 ≤ bits .and .u32 x 15 ∧ bits .and .u32 x 15 < 16 := by
  rw [and_U]
  have h : (V x &&& V 15).toNat < 16 := by
    rw [BitVec.toNat_and, show (V 15).toNat = 2 ^ 4 - 1 from by decide, Nat.and_two_pow_sub_one_eq_mod]; omega
  unfold U; omega
theorem V_and15 (x : Int) : V (bits .and .u32 x 15) = V x &&& 15#32 := by
  rw [and_U, V_U, show V 15 = 15#32 from by decide]
theorem bits_range (x y : Int) : 0 ≤ bits .xor .u32 x y ∧ bits .xor .u32 x y < 4294967296 := by
  rw [xor_U]; exact ⟨U_lo _, U_hi _⟩
/-- a byte goes in, as the code does it -/
theorem byte_code (r : W) (z x1 x2 : Int) (h1 : x1 = bits .xor .u32 (U r) z) (h2 : x2 = bits .xor .u32 (x1 / 16) (U (shN 4 (V (bits .and .u32 x1 15))))) :
    bits .xor .u32 (x2 / 16) (U (shN 4 (V (bits .and .u32 x2 15)))) = U (byte r z) := by
  have b1 := bits_range (U r) z
  have b2 := bits_range (x1 / 16) (U (shN 4 (V (bits .and .u32 x1 15))))
  rw [← h1] at b1
  rw [← h2] at b2
  have e1 : V x1 = r ^^^ BitVec.ofInt 32 z := by rw [h1, xor_U, V_U, V_U]; rfl
  have e2 : V x2 = V x1 >>> 4 ^^^ shN 4 (V x1 &&& 15#32) := by rw [h2, xor_U, V_U, V_U, V_and15, V_div16 _ b1.1 b1.2]
  rw [xor_U, V_U, V_and15, V_div16 _ b2.1 b2.2, byte_halves, e2, e1]
end Crc

theorem take_next (l : List Int) (k : Nat) (h : k < l.length) : l.take (k + 1) = l.take k ++ [l.getD k 0] := by
  rw [List.take_succ_eq_append_getElem h]; simp [h]

theorem more_any (s : Int) (a : Option Addr) (n cap : Nat) (l : List Int) (w : World) (hn : n ≤ 9223372036854775807) (hrow : Row w a n l) :
    Calls Try.prog 11 #[.int .u32 s, .slice a n cap] w fun e w' => e = .returned (.int .u32 (Crc.U (Crc.more (Crc.V s) l))) ∧ Below w.heap.size w w' := by
  have HRow := Lib.hid hrow
  clear hrow
  go_enter Try.func11, Try.ntmps11
  go_wp2_with fail
  refine (halves_any _).mono ?_
  rintro e w1 ⟨rfl, hb1⟩
  have hst : Sem.run Try.prog (storeCells ⟨w1.heap.size, 0, none⟩ (tabA 16).toList) (w1.alloc (.cells #[.int .u32 0, .int .u32 0, .int .u32 0, .int .u32 0, .int .u32 0, .int .u32 0, .int .u32 0, .int .u32 0, .int .u32 0, .int .u32 0, .int .u32 0, .int .u32 0, .int .u32 0, .int .u32 0, .int .u32 0, .int .u32 0] 32)) = .ok () (w1.alloc (.cells (tabA 16) 32)) := by
    rw [← tabA_zero]
    exact run_storeCells_new w1 32 _ _ (by rw [tabA_size]; kernel_rfl) (by rw [tabA_size, tabA_size]) (Array.all_eq_true_iff_forall_mem.2 fun v hv => tabA_one 16 v (by simpa using hv))
  go_wp2_with fail
  clear hst
  have hbW : Below w.heap.size w (w1.alloc (.cells (tabA 16) 32)) := hb1.alloc hb1.size _
  have HTab : Hid (∀ j, j < 16 → (w1.alloc (.cells (tabA 16) 32)).cell? ⟨w1.heap.size, j, none⟩ = some (.int .u32 (Crc.U (Crc.shN 4 (Crc.V j))))) := fun j hj => by
    rw [cell_of_row _ _ _ _ _ _ (heap_alloc_new w1 _)]; exact tabA_full j hj
  generalize w1.alloc (.cells (tabA 16) 32) = W at *
  have HRow' := Lib.hid (HRow.out.below hbW (Nat.le_refl _))
  clear HRow hb1
  generalize w1.heap.size = B at *
  have hmx : IntKind.u32.max = 4294967295 := rfl
  rw [hmx]
  clear hmx
  go_loop [6, 14] (fun r i => ∃ k : Nat, k ≤ n ∧ i = .int .i64 k ∧ r = .int .u32 (Crc.U (Crc.rem (~~~ Crc.V s) (l.take k)))) (fun _ i => n - (intOf i).toNat)
  case atStart => exact ⟨0, by omega, rfl, by rw [Crc.not_U]; rfl⟩
  case round =>
    obtain ⟨k, hk, rfl, rfl⟩ := hrel
    by_cases hlt : k < n
    · obtain ⟨hlen, hby, hcs⟩ := HRow'.out
      rcases hcs with hcs | ⟨b, off, rfl, hc⟩
      · omega
      · have hcell := hc k hlt
        have hz := hby (l.getD k 0) (by simp [show k < l.length from by omega])
        have HN := Lib.hid (take_next l k (by omega))
        generalize l.getD k 0 = z at *
        obtain ⟨z0, z1⟩ := hz
        clear hc hby hlen
        generalize hR : Crc.rem (~~~ Crc.V s) (l.take k) = R at *
        have HR := Lib.hid hR
        clear hR
        have hd : decide (k < n) = true := by simp; omega
        have k0 : (0 : Int) ≤ k := by omega
        have k1 : (k : Int) < n := by omega
        have HT1 : ∀ x : Int, W.cell? ⟨B, (bits .and .u32 x 15).toNat, none⟩ = some (.int .u32 (Crc.U (Crc.shN 4 (Crc.V (bits .and .u32 x 15))))) := fun x => by
          have r := Crc.and15_range x
          have := HTab.out (bits .and .u32 x 15).toNat (by omega)
          rw [Int.toNat_of_nonneg r.1] at this
          exact this
        have HC := Lib.hid (Crc.byte_code R z _ _ rfl rfl)
        have t1 := HT1 (bits .xor .u32 (Crc.U R) z)
        obtain ⟨p0, p1⟩ := Crc.and15_range (bits .xor .u32 (Crc.U R) z)
        have t2 := HT1 (bits .xor .u32 (bits .xor .u32 (Crc.U R) z / 16) (Crc.U (Crc.shN 4 (Crc.V (bits .and .u32 (bits .xor .u32 (Crc.U R) z) 15)))))
        obtain ⟨q0, q1⟩ := Crc.and15_range (bits .xor .u32 (bits .xor .u32 (Crc.U R) z / 16) (Crc.U (Crc.shN 4 (Crc.V (bits .and .u32 (bits .xor .u32 (Crc.U R) z) 15)))))
        clear HT1
        go_wp2
        go_round
        case rel => exact ⟨k + 1, by omega, by go_num, by rw [HC.out, HN.out, Crc.rem_snoc, HR.out]⟩
        case measure => simp [intOf]; omega
    · have hd : decide (k < n) = false := by simp; omega
      have u0 := Crc.U_lo (Crc.rem (~~~ Crc.V s) (l.take k))
      have u1 := Crc.U_hi (Crc.rem (~~~ Crc.V s) (l.take k))
      go_wp2
      go_ret
      refine ⟨ret_int ?_, hbW⟩
      show bits .xor .u32 4294967295 _ = _
      rw [Crc.not_U, Crc.V_U, List.take_of_length_le (by have := HRow'.out.1; omega)]
      rfl

theorem sum_any (a : Option Addr) (n cap : Nat) (l : List Int) (w : World) (hn : n ≤ 9223372036854775807) (hrow : Row w a n l) :
    Calls Try.prog 10 #[.slice a n cap] w fun e w' => e = .returned (.int .u32 (Crc.U (Crc.more 0#32 l))) ∧ Below w.heap.size w w' := by
  have HRow := Lib.hid hrow
  clear hrow
  go_enter Try.func10, Try.ntmps10
  go_wp2_with fail
  refine (more_any _ _ _ _ l _ hn HRow.out).mono ?_
  rintro e w1 ⟨rfl, hb1⟩
  go_wp2_with fail
  go_ret
  exact ⟨rfl, hb1⟩
end Go.Proofs.Ytfjjfddlnbaloaa
