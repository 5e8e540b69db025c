/- The document's memory: Get, Load, Store, Fetch. -/
import Derived.Test.YthpimoinognkhaaMemR2
import Derived.Laws.AppendOwn
import Derived.Deep.AppendLies
namespace Go.Proofs.Ythpimoinognkhaa
open Go.ChangeShapes Go.WideShapes Go.ChangeAt Go.RowKit
namespace Ram
set_option linter.unusedVariables false
set_option linter.unusedSimpArgs false
def bv (l : List Int) : List Value := l.map (Value.int .u8)
theorem bv_length (l : List Int) : (bv l).length = l.length := by simp [bv]
theorem bv_one (l : List Int) : ∀ u ∈ bv l, u.oneCell' = true := ints_one .u8 l
theorem bv_append (l m : List Int) : bv l ++ bv m = bv (l ++ m) := by simp [bv]
def OwnV (w : World) (B : Nat) (v : Value) (n : Nat) (l : List Int) : Prop := w.ownsRow B 5 1 v n (bv l)
theorem own_row {w : World} {B n c : Nat} {a : Option Addr} {l : List Int} (ho : OwnV w B (.slice a n c) n l) (hby : ∀ z ∈ l, 0 ≤ z ∧ z ≤ 255) : SRow (fun _ => False) w a n l := by
  have ho1 := ho.1
  rw [bv_length] at ho1
  refine ⟨by omega, hby, ?_⟩
  rcases ho.2 with ⟨h, h0⟩ | ⟨g, cap, cur, hv, hg, h1, hc, h3, h4, h5⟩
  · exact .inl h0
  · simp only [Value.slice.injEq] at hv
    obtain ⟨rfl, _, rfl⟩ := hv
    refine .inr ⟨g, 0, rfl, id, fun i hi => ?_⟩
    have hcell : w.cell? ⟨g, i, none⟩ = cur[i]? := cell_of_row _ _ _ _ _ _ h1
    rw [Nat.zero_add, hcell]
    have e : (cur.toList.take (n * 1))[i]? = (bv l)[i]? := by rw [h5]
    rw [Nat.mul_one, List.getElem?_take_of_lt hi] at e
    rw [show cur[i]? = cur.toList[i]? from by simp, e]
    simp [bv, List.getD, show i < l.length by omega]
section
variable {p : Nat → Prop} {g d : Nat} {bs : List Int} {w : World} {ar : Option Addr} {nr cr : Nat} {l : List Rg}
/-- a row, told, beside an error -/
def RowsP (l : List Int) (err : Int) (w : World) (e : Ending) (w' : World) : Prop := ∃ a n c, e = .returned (.tuple #[.slice a n c, .int .i64 err]) ∧ SRow (fun _ => False) w' a n l ∧ Below w.heap.size w w'
set_option maxHeartbeats 1000000 in
theorem rget_any (h : Ram 48 w g d bs) (a n : Nat) (ha : a ≤ 4294967295) (hn : n ≤ 4294967295) :
    Calls Try.prog 16 #[.pointer (some ⟨g, 0, none⟩), .int .u32 (a : Int), .int .u32 (n : Int)] w (RowsP (getM bs a n) (rangeE a n bs.length) w) := by
  have w1 : IntKind.u64.wrap (a : Int) = a := by simp [IntKind.wrap, IntKind.bits, IntKind.signed]; omega
  have w2 : IntKind.u64.wrap (n : Int) = n := by simp [IntKind.wrap, IntKind.bits, IntKind.signed]; omega
  have w5 : IntKind.i64.wrap (a : Int) = a := IntWalk.i64_in _ (by omega)
  have w6 : IntKind.i64.wrap (n : Int) = n := IntWalk.i64_in _ (by omega)
  have HT := Lib.hid (there_any h a n ha (by omega))
  cases hc : there a n bs.length with
  | false =>
    rw [hc] at HT
    have HE : Hid (rangeE a n bs.length = 5) := by show _ = _; unfold rangeE; rw [hc]; rfl
    have HM : Hid (getM bs a n = []) := by show _ = _; unfold getM; rw [hc]; rfl
    clear h hc
    go_enter Try.func16, Try.ntmps16
    go_wp2_with (go_at_call 27; refine HT.out.mono ?_; rintro e w3 ⟨rfl, rfl⟩)
    refine bodyPost_ret (v := .tuple #[.slice none 0 0, .int .i64 5]) (by simp [results, Try.f16, go_sem]) rfl ?_
    exact ⟨_, _, _, by rw [HE.out], by rw [HM.out]; exact srow_none _ _ _, Below.refl _ _⟩
  | true =>
    rw [hc] at HT
    have HE := Lib.hid (rangeE_ok hc)
    have HM : Hid (getM bs a n = get bs a n) := by show _ = _; unfold getM; rw [hc]; rfl
    have HLe : Hid (n ≠ 0 → a + n ≤ bs.length) := there_le hc
    have HB : Hid (∀ z ∈ get bs a n, 0 ≤ z ∧ z ≤ 255) := get_by h.1
    have HN : Hid (n ≤ 262144) := by
      show _ ≤ _
      have h2 := h.2.1
      by_cases h0 : n = 0
      · omega
      · have := HLe.out h0; omega
    have HG : Hid (n ≠ 0 → (get bs a n).length = n) := fun h0 => get_len _ _ _ (HLe.out h0)
    have HAt : Hid (∀ i, i < n → (get bs a n).getD i 0 = bs.getD (a + i) 0) := fun i hi => get_at bs a n i hi
    have HG0 : Hid ((get bs a n).length ≤ n) := by show _ ≤ _; unfold get; rw [List.length_take]; omega
    have HP : Hid (n ≠ 0 → ∀ W, Below w.heap.size w W → ∃ c, W.cell? ⟨g, 0, none⟩ = some (.slice (some ⟨d, 0, none⟩) bs.length c) ∧ ∀ i, i < bs.length → W.cell? ⟨d, i, none⟩ = some (.int .u8 (bs.getD i 0))) := by
      intro h0 W hb
      have hne : bs ≠ [] := by rintro rfl; have := HLe.out h0; simp at this; omega
      obtain ⟨c, p0, p1, p2, p3⟩ := (h.below hb (Nat.le_refl _)).parts hne
      exact ⟨c, p0, fun i hi => row_cell p2 i hi⟩
    have h26 := h.2.1
    obtain ⟨i0, hi, hz0, hz1, hz2⟩ := info_parts infoByte
    have HI := Lib.hid hi
    have HZ0 := Lib.hid hz0
    have HZ1 := Lib.hid hz1
    have HZ2 := Lib.hid hz2
    clear hi hz0 hz1 hz2 h hc
    generalize bs.length = L at *
    rw [HM.out]
    clear HM
    generalize get bs a n = G at *
    go_enter Try.func16, Try.ntmps16
    go_wp2_with (go_at_call 27; refine HT.out.mono ?_; rintro e w3 ⟨rfl, rfl⟩)
    go_loopw [8, 9] (fun v i wr => ∃ (k : Nat) (va : Option Addr) (vc : Nat), k ≤ n ∧ i = .int .i64 k ∧ v = .slice va k vc ∧ OwnV wr w3.heap.size (.slice va k vc) k (G.take k) ∧ Below w3.heap.size w3 wr) (fun _ i _ => n - (intOf i).toNat)
    case atStart => exact ⟨0, none, 0, by omega, rfl, rfl, World.ownsRow_nil _ _ _ _, Below.refl _ _⟩
    case round =>
      obtain ⟨k, va, vc, hk, rfl, rfl, hown, hbel⟩ := hrel
      have HO := Lib.hid hown
      have HBl := Lib.hid hbel
      clear hown hbel
      by_cases hlt : k < n
      · have k0 : (0 : Int) ≤ k := by omega
        have k1 : (k : Int) < n := by omega
        have hd : decide ((k : Int) < (n : Int)) = true := by simp; omega
        have hfit := HLe.out (by omega)
        have hn2 := HN.out
        obtain ⟨c, p0, p1⟩ := HP.out (by omega) wr HBl.out
        have p2 := p1 (a + k) (by omega)
        rw [← HAt.out k hlt] at p2
        have HT2 : Hid (G.take (k + 1) = G.take k ++ [G.getD k 0]) := by
          show _ = _
          have hlen : k < G.length := by rw [HG.out (by omega)]; exact hlt
          rw [List.take_succ_eq_append_getElem hlen]
          simp [List.getD, hlen]
        have v1 : IntKind.i64.wrap ((a : Int) + k) = (a : Int) + k := IntWalk.i64_in _ (by omega)
        have a0 : (0 : Int) ≤ (a : Int) + k := by omega
        have a1 : (a : Int) + k < (L : Int) := by omega
        have t1 : ((a : Int) + k).toNat = a + k := by omega
        generalize G.getD k 0 = z at *
        clear p1
        go_wp2_with (at_builtin; refine wpList_append_lies _ rfl (.tmp 23) (.tmp 34) 35 rfl w3.heap.size 5 i0 (.int .u8 0) 1 1 Try.underlying35 HI.out HZ0.out HZ1.out HZ2.out rfl (by decide) (.slice va k vc) k (bv (G.take k)) rfl (World.ownsRow.alloc HO.out _) ⟨wr.heap.size, 0, none⟩ 1 1 (bv [z]) rfl (by rfl) (World.news_of_block (w := wr.alloc (.cells #[.int .u8 z] 5)) (heap_alloc_new _ _)) (bv_one _) (by omega) (by unfold maxLen; omega) (by omega) (by have := HBl.out.size; simp; omega) _ rfl ?_; intro g2 cap2 w4 hown2 hgrow hat hlt2)
        have hb3 : Below w3.heap.size w3 w4 := Below.grown (HBl.out.alloc HBl.out.size _) hgrow (by have := HBl.out.size; simp; omega) (fun j hj => (World.ownsRow.lt HO.out j hj).1)
        rw [bv_append] at hown2
        go_wp2_with fail
        go_roundw
        case rel => exact ⟨k + 1, _, cap2, by omega, by go_num, rfl, by rw [HT2.out]; exact hown2, hb3⟩
        case measure => simp [intOf]; omega
      · have hd : decide ((k : Int) < (n : Int)) = false := by simp; omega
        obtain rfl : k = n := by omega
        go_wp2_with fail
        refine bodyPost_ret (v := .tuple #[.slice va k vc, .int .i64 0]) (by simp [results, Try.f16, go_sem]) rfl ?_
        have e := HO.out
        rw [List.take_of_length_le HG0.out] at e
        exact ⟨va, k, vc, by rw [HE.out], own_row e HB.out, HBl.out⟩
end
end Ram
end Go.Proofs.Ythpimoinognkhaa
