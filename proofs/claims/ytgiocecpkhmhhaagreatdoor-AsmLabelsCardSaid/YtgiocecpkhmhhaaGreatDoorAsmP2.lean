/- The law's own measure: programs of many lines are left alone. · Rows of a call's own, read as lines, as instructions, as bytes. · The law's small test. · The law's small test: it is met. · The law of parsing: its walk. -/
import Derived.Test.YtgiocecpkhmhhaaGreatDoorAsmP1
import Derived.Test.YtgiocecpkhmhhaaGreatDoorAsmEq
import Derived.Test.YtgiocecpkhmhhaaGreatDoorAsmR10
import Derived.Test.YtgiocecpkhmhhaaGreatDoorAsmR11
namespace Go.Proofs.YtgiocecpkhmhhaaGreatDoor
open Go.ChangeShapes Go.WideShapes Go.ChangeAt Go.RowKit
namespace Asm
open Isa
set_option linter.unusedVariables false
set_option linter.unusedSimpArgs false
theorem min_i64 (x : Int) (k : Int) : ∀ W : World, (Builtin.min_ #[3, 3] 3 #[.int .i64 x, .int .i64 k]).run Tryz.prog W = .ok (.int .i64 (min x k)) W := fun W => by
  have h : (if k < x then k else x) = min x k := by split <;> omega
  simp only [Builtin.min_, ← h]
  simp [Builtin.min2]
set_option maxRecDepth 100000 in
set_option maxHeartbeats 3200000 in
theorem great_any (l : List Av) (a : Option Addr) (n c : Nat) (w : World) (h : ARow w a n l) : Calls Tryz.prog 9 #[.slice a n c] w fun e w' =>
    ∃ g, e = .returned (.bool g) ∧ (g = false → n ≤ 3000) ∧ Below w.heap.size w w' := by
  have HR := Lib.hid (fun W (hb : Below w.heap.size w W) => h.below hb (Nat.le_refl _))
  clear h
  go_enter Tryz.func9, Tryz.ntmps9
  go_wp2_with fail
  go_loopw [3, 8] (fun m i wr => ∃ (k s : Nat), k ≤ n ∧ k ≤ s ∧ s ≤ 3000 ∧ m = .int .i64 s ∧ i = .int .i64 k ∧ Below w.heap.size w wr) (fun _ i _ => n - (intOf i).toNat)
  case atStart => exact ⟨0, 0, by omega, by omega, by omega, rfl, rfl, Below.refl _ _⟩
  case round =>
    obtain ⟨k, s, hk, hks, hs, rfl, rfl, hbel⟩ := hrel
    have HB := Lib.hid hbel
    by_cases hlt : k < n
    · have hd : decide ((k : Int) < (n : Int)) = true := decide_eq_true (by omega)
      obtain ⟨b, off, rfl, hc, hw⟩ := (HR.out wr hbel).at k hlt
      obtain ⟨c0, c1, c2, c3, c4, c5⟩ := hc
      clear hbel
      generalize l.getD k av0 = x at *
      obtain ⟨lb, ⟨op, ia, ib, ic⟩, tg⟩ := x
      simp only at *
      have hszl : ((sB lb).size : Int) = lb.length := by rw [sB_size]
      have hszt : ((sB tg).size : Int) = tg.length := by rw [sB_size]
      have hm0 := min_i64 (lb.length : Int) 65536
      have hm1 := min_i64 (tg.length : Int) 65536
      obtain ⟨p, hp⟩ : ∃ p : Nat, min (lb.length : Int) 65536 = (p : Int) := ⟨min lb.length 65536, by omega⟩
      obtain ⟨q, hq⟩ : ∃ q : Nat, min (tg.length : Int) 65536 = (q : Int) := ⟨min tg.length 65536, by omega⟩
      have hp6 : p ≤ 65536 := by omega
      have hq6 : q ≤ 65536 := by omega
      rw [hp] at hm0
      rw [hq] at hm1
      clear hp hq
      have w1 : IntKind.i64.wrap ((p : Int) + q) = (p : Int) + q := by simp [IntKind.wrap, IntKind.bits, IntKind.signed]; omega
      obtain ⟨d, hdv⟩ : ∃ d : Nat, d = (p + q) / 32 := ⟨_, rfl⟩
      have w2 : ((p : Int) + q).tdiv 32 = d := by rw [Int.tdiv_eq_ediv_of_nonneg (by omega)]; omega
      have w2' : ((p : Int) + q) / 32 = d := by omega
      have hd6 : d ≤ 4096 := by omega
      clear hdv
      have w3 : IntKind.i64.wrap (1 + (d : Int)) = 1 + (d : Int) := by simp [IntKind.wrap, IntKind.bits, IntKind.signed]; omega
      have w4 : IntKind.i64.wrap ((s : Int) + (1 + (d : Int))) = (s : Int) + (1 + (d : Int)) := by simp [IntKind.wrap, IntKind.bits, IntKind.signed]; omega
      have w5 : IntKind.i64.wrap (d : Int) = d := by simp [IntKind.wrap, IntKind.bits, IntKind.signed]; omega
      have HB2 := Lib.hid (HB.out.alloc (o := .cells #[.string (sB lb), .int .u8 op, .int .u8 ia, .int .u16 ib, .int .u32 ic, .string (sB tg)] 34) HB.out.size)
      clear hp6 hq6 hw
      generalize sB lb = LB at *
      generalize sB tg = TG at *
      generalize (lb.length : Int) = x0 at *
      generalize (tg.length : Int) = x1 at *
      by_cases hgt : s + (1 + d) ≤ 3000
      · have hg : decide ((3000 : Int) < (s : Int) + (1 + (d : Int))) = false := decide_eq_false (by omega)
        go_wp2_with fail
        exact ⟨⟨k + 1, s + (1 + d), by omega, by omega, hgt, by simp, by simp, HB2.out⟩, by simp [intOf]; omega⟩
      · have hg : decide ((3000 : Int) < (s : Int) + (1 + (d : Int))) = true := decide_eq_true (by omega)
        go_wp2_with fail
        go_ret
        exact ⟨true, rfl, by simp, HB2.out⟩
    · obtain rfl : k = n := by omega
      have hd : decide ((k : Int) < (k : Int)) = false := decide_eq_false (by omega)
      have HN : Hid (k ≤ 3000) := (by omega : k ≤ 3000)
      go_wp2_with fail
      go_ret
      exact ⟨false, rfl, fun _ => HN.out, HB.out⟩
end Asm
end Go.Proofs.YtgiocecpkhmhhaaGreatDoor
namespace Go.Proofs.YtgiocecpkhmhhaaGreatDoor
open Go.ChangeShapes Go.WideShapes Go.ChangeAt Go.RowKit
namespace Asm
open Isa
set_option linter.unusedVariables false
set_option linter.unusedSimpArgs false
theorem encs_at : ∀ (l : List Iv) (j t : Nat), j < l.length → t < 4 → (encs l)[j * 4 + t]? = (encI (l.getD j iv0))[t]?
  | [], j, t, h, _ => by simp at h
  | x :: r, 0, t, _, ht => by
    have e : encs (x :: r) = encI x ++ encs r := by simp [encs]
    rw [e, List.getElem?_append_left (by simp [encI]; omega), List.getD_cons_zero, Nat.zero_mul, Nat.zero_add]
  | x :: r, j + 1, t, h, ht => by
    have e : encs (x :: r) = encI x ++ encs r := by simp [encs]
    rw [e, List.getElem?_append_right (by simp [encI]; omega), List.getD_cons_succ, ← encs_at r j t (by simpa using h) ht]
    congr 1
    simp [encI]
    omega
theorem encAs_at : ∀ (l : List Av) (j t : Nat), j < l.length → t < 6 → (encAs l)[j * 6 + t]? = (encA (l.getD j av0))[t]?
  | [], j, t, h, _ => by simp at h
  | x :: r, 0, t, _, ht => by
    have e : encAs (x :: r) = encA x ++ encAs r := by simp [encAs]
    rw [e, List.getElem?_append_left (by simp [encA]; omega), List.getD_cons_zero, Nat.zero_mul, Nat.zero_add]
  | x :: r, j + 1, t, h, ht => by
    have e : encAs (x :: r) = encA x ++ encAs r := by simp [encAs]
    rw [e, List.getElem?_append_right (by simp [encA]; omega), List.getD_cons_succ, ← encAs_at r j t (by simpa using h) ht]
    congr 1
    simp [encA]
    omega
theorem own_irow {w : World} {S : Nat} {v : Value} {l : List Iv} (h : w.ownsRow S 32 4 v l.length (encs l)) (hw : ∀ x ∈ l, x.wf) : ∃ a c, v = .slice a l.length c ∧ l.length ≤ c ∧ c ≤ maxLen ∧ IRow w a l.length l := by
  obtain ⟨a, c, rfl, h1, h2⟩ := own_shape h
  refine ⟨a, c, rfl, h1, h2, rfl, hw, ?_⟩
  by_cases h0 : l.length = 0
  · exact .inl h0
  · right
    rcases h.2 with ⟨e, _⟩ | ⟨g, cap, cur, e, _⟩
    · injection e with e1 e2; exact absurd e2 h0
    · injection e with e1 e2 e3
      subst e1
      have key : ∀ j t v, j < l.length → t < 4 → (encI (l.getD j iv0))[t]? = some v → w.cell? ⟨g, 0 + j * 4 + t, none⟩ = some v := fun j t v hj ht hv => by
        have := World.ownsRow.cells h (g := g) rfl (j * 4 + t) v (by rw [encs_at l j t hj ht]; exact hv)
        rw [Lib.add_plain] at this
        rw [← this]
        congr 2
        omega
      exact ⟨g, 0, rfl, fun j hj => ⟨key j 0 _ hj (by omega) rfl, key j 1 _ hj (by omega) rfl, key j 2 _ hj (by omega) rfl, key j 3 _ hj (by omega) rfl⟩⟩
theorem own_arow {w : World} {S : Nat} {v : Value} {l : List Av} (h : w.ownsRow S 34 6 v l.length (encAs l)) (hw : ∀ x ∈ l, x.wf) : ∃ a c, v = .slice a l.length c ∧ l.length ≤ c ∧ c ≤ maxLen ∧ ARow w a l.length l := by
  obtain ⟨a, c, rfl, h1, h2⟩ := own_shape h
  refine ⟨a, c, rfl, h1, h2, rfl, hw, ?_⟩
  by_cases h0 : l.length = 0
  · exact .inl h0
  · right
    rcases h.2 with ⟨e, _⟩ | ⟨g, cap, cur, e, _⟩
    · injection e with e1 e2; exact absurd e2 h0
    · injection e with e1 e2 e3
      subst e1
      have key : ∀ j t v, j < l.length → t < 6 → (encA (l.getD j av0))[t]? = some v → w.cell? ⟨g, 0 + j * 6 + t, none⟩ = some v := fun j t v hj ht hv => by
        have := World.ownsRow.cells h (g := g) rfl (j * 6 + t) v (by rw [encAs_at l j t hj ht]; exact hv)
        rw [Lib.add_plain] at this
        rw [← this]
        congr 2
        omega
      exact ⟨g, 0, rfl, fun j hj => ⟨key j 0 _ hj (by omega) rfl, key j 1 _ hj (by omega) rfl, key j 2 _ hj (by omega) rfl, key j 3 _ hj (by omega) rfl, key j 4 _ hj (by omega) rfl, key j 5 _ hj (by omega) rfl⟩⟩
/-- what may be a line has short words -/
theorem may_wf {x : Av} (h : mayA x = true) (hw : x.i.wf) : x.wf := by
  unfold mayA at h
  simp only [Bool.and_eq_true, Bool.or_eq_true, decide_eq_true_eq] at h
  refine ⟨hw, ?_, ?_⟩
  · rcases h.1.1 with e | e
    · rw [e]; simp
    · have := isLbl_len e; omega
  · rcases h.2 with e | e
    · rw [e]; simp
    · have := isLbl_len e.1.1; omega
theorem parse_wf (s : List UInt8) (hs : s.length ≤ 500000) : ∀ x ∈ (parseA s).1, x.wf := by
  by_cases h : (parseA s).2.2 = 0
  · intro x hx
    have := (parse_again hs h).1
    exact may_wf (this.may x hx) (this.wf x hx)
  · have e : (parseA s).1 = [] := by
      by_cases hg : ∀ t, t < (splitL s []).length → errE (outs ((splitL s []).take t)) ((splitL s []).getD t []) = 0
      · rw [parse_good (by omega) hg] at h; exact absurd rfl h
      · have hE : ∃ t, t < (splitL s []).length ∧ errE (outs ((splitL s []).take t)) ((splitL s []).getD t []) ≠ 0 := by
          by_cases hx : ∃ t, t < (splitL s []).length ∧ errE (outs ((splitL s []).take t)) ((splitL s []).getD t []) ≠ 0
          · exact hx
          · exact absurd (fun t ht => Classical.byContradiction fun hq => hx ⟨t, ht, hq⟩) hg
        have hlt : first (fun t => decide (errE (outs ((splitL s []).take t)) ((splitL s []).getD t []) ≠ 0)) (splitL s []).length < (splitL s []).length := by
          obtain ⟨t, ht, hq⟩ := hE
          have hle := first_le (fun t => decide (errE (outs ((splitL s []).take t)) ((splitL s []).getD t []) ≠ 0)) (splitL s []).length
          refine Nat.lt_of_le_of_ne hle fun e => ?_
          have := first_miss (p := fun t => decide (errE (outs ((splitL s []).take t)) ((splitL s []).getD t []) ≠ 0)) (n := (splitL s []).length) (t := t) (by rw [e]; exact ht)
          simp at this
          exact hq this
        have hh := first_hit hlt
        simp only [decide_eq_true_eq] at hh
        rw [parse_bad' (by omega) hlt (fun t ht => by have := first_miss ht; simpa using this) hh]
    rw [e]
    intro x hx
    simp at hx
theorem asm_wf {l : List Av} (hw : ∀ x ∈ l, x.i.wf) : ∀ i ∈ asmL l, i.wf := by
  by_cases h : asmE l = 0
  · exact fun i hi => (asm_may h hw i hi).2
  · have : asmL l = [] := by
      unfold asmE at h
      unfold asmL
      split at h
      · rename_i q; rw [if_pos (.inl q)]
      · split at h
        · rename_i q; rw [if_pos (.inr (.inl q))]
        · split at h
          · rename_i q; rw [if_pos (.inr (.inr q))]
          · exact absurd rfl h
    rw [this]
    intro i hi
    simp at hi
end Asm
end Go.Proofs.YtgiocecpkhmhhaaGreatDoor
namespace Go.Proofs.YtgiocecpkhmhhaaGreatDoor
open Go.ChangeShapes Go.WideShapes Go.ChangeAt Go.RowKit
namespace Asm
open Isa
set_option linter.unusedVariables false
set_option linter.unusedSimpArgs false
theorem arow_cells {W : World} {b : Nat} {l : List Av} (h : W.heap[b]? = some (.cells (encAs l).toArray 34 (0, 0))) (hw : ∀ x ∈ l, x.wf) : ARow W (some ⟨b, 0, none⟩) l.length l := by
  refine ⟨rfl, hw, .inr ⟨b, 0, rfl, fun j hj => ?_⟩⟩
  have key : ∀ t v, t < 6 → (encA (l.getD j av0))[t]? = some v → W.cell? ⟨b, 0 + j * 6 + t, none⟩ = some v := fun t v ht hv => by
    rw [cells_at h, List.getElem?_toArray, Nat.zero_add, encAs_at l j t hj ht]; exact hv
  exact ⟨key 0 _ (by omega) rfl, key 1 _ (by omega) rfl, key 2 _ (by omega) rfl, key 3 _ (by omega) rfl, key 4 _ (by omega) rfl, key 5 _ (by omega) rfl⟩
theorem irow_cells {W : World} {b : Nat} {l : List Iv} (h : W.heap[b]? = some (.cells (encs l).toArray 32 (0, 0))) (hw : ∀ x ∈ l, x.wf) : IRow W (some ⟨b, 0, none⟩) l.length l := by
  refine ⟨rfl, hw, .inr ⟨b, 0, rfl, fun j hj => ?_⟩⟩
  have key : ∀ t v, t < 4 → (encI (l.getD j iv0))[t]? = some v → W.cell? ⟨b, 0 + j * 4 + t, none⟩ = some v := fun t v ht hv => by
    rw [cells_at h, List.getElem?_toArray, Nat.zero_add, encs_at l j t hj ht]; exact hv
  exact ⟨key 0 _ (by omega) rfl, key 1 _ (by omega) rfl, key 2 _ (by omega) rfl, key 3 _ (by omega) rfl⟩
def P1 : List Av := [⟨[97], ⟨1, 0, 0, 1⟩, []⟩, ⟨[], ⟨19, 0, 0, 0⟩, [97]⟩]
def P2 : List Av := [⟨[], ⟨19, 0, 0, 0⟩, [98]⟩]
def P3 : List Av := [⟨[97], ⟨2, 0, 0, 0⟩, []⟩, ⟨[97], ⟨2, 0, 0, 0⟩, []⟩]
def T1 : List UInt8 := [32, 97, 58, 32, 112, 117, 115, 104, 32, 49, 32, 59, 32, 111, 110, 101, 10, 106, 117, 109, 112, 32, 97]
def T2 : List UInt8 := [97, 58, 32, 112, 117, 115, 104, 32, 49, 10, 106, 117, 109, 112, 32, 97, 10]
def bads : List (List UInt8) := [[112, 117, 115, 104], [104, 111, 112, 32, 49], [112, 117, 115, 104, 32, 48, 49], [105, 110, 32, 49, 54], [65, 58, 32, 100, 117, 112]]
def badE : List Int := [100, 100, 42, 42, 101]
theorem p1_wf : ∀ x ∈ P1, x.wf := by
  intro x hx
  simp only [P1, List.mem_cons, List.not_mem_nil, or_false] at hx
  rcases hx with rfl | rfl <;> exact ⟨⟨by decide, by decide, by decide, by decide⟩, by decide, by decide⟩
theorem p2_wf : ∀ x ∈ P2, x.wf := by
  intro x hx
  simp only [P2, List.mem_cons, List.not_mem_nil, or_false] at hx
  subst hx
  exact ⟨⟨by decide, by decide, by decide, by decide⟩, by decide, by decide⟩
theorem p3_wf : ∀ x ∈ P3, x.wf := by
  intro x hx
  simp only [P3, List.mem_cons, List.not_mem_nil, or_false] at hx
  rcases hx with rfl | rfl <;> exact ⟨⟨by decide, by decide, by decide, by decide⟩, by decide, by decide⟩
def sameIv (x y : Iv) : Bool := x.op == y.op && x.a == y.a && x.b == y.b && x.c == y.c
def sameAv (x y : Av) : Bool := decide (x.lb = y.lb) && sameIv x.i y.i && decide (x.tg = y.tg)
theorem sameIv_eq {x y : Iv} (h : sameIv x y = true) : x = y := by
  obtain ⟨a, b, c, d⟩ := x
  obtain ⟨a', b', c', d'⟩ := y
  simp [sameIv] at h
  obtain ⟨⟨⟨rfl, rfl⟩, rfl⟩, rfl⟩ := h
  rfl
theorem sameAv_eq {x y : Av} (h : sameAv x y = true) : x = y := by
  simp only [sameAv, Bool.and_eq_true, decide_eq_true_eq] at h
  exact Av.eq_of h.1.1 (sameIv_eq h.1.2) h.2
def sameL {α : Type} (f : α → α → Bool) : List α → List α → Bool
  | [], [] => true
  | x :: r, y :: s => f x y && sameL f r s
  | _, _ => false
theorem sameL_eq {α : Type} {f : α → α → Bool} (hf : ∀ x y, f x y = true → x = y) : ∀ (r s : List α), sameL f r s = true → r = s
  | [], [], _ => rfl
  | x :: r, y :: s, h => by
    simp only [sameL, Bool.and_eq_true] at h
    rw [hf x y h.1, sameL_eq hf r s h.2]
  | [], y :: s, h => by simp [sameL] at h
  | x :: r, [], h => by simp [sameL] at h
theorem p1_asm : asmE P1 = 0 ∧ asmN P1 = 0 ∧ asmL P1 = [⟨1, 0, 0, 1⟩, ⟨19, 0, 0, 0⟩] :=
  ⟨by decide +kernel, by decide +kernel, sameL_eq (fun _ _ => sameIv_eq) _ _ (by decide +kernel)⟩
theorem p2_asm : asmE P2 = 101 ∧ asmN P2 = 0 := ⟨by decide +kernel, by decide +kernel⟩
theorem p3_asm : asmE P3 = 101 ∧ asmN P3 = 1 := ⟨by decide +kernel, by decide +kernel⟩
theorem p1_parse : parseA T1 = (P1, 0, 0) := by
  have h1 : (parseA T1).2.1 = 0 := by decide +kernel
  have h2 : (parseA T1).2.2 = 0 := by decide +kernel
  have h3 : (parseA T1).1 = P1 := sameL_eq (fun _ _ => sameAv_eq) _ _ (by decide +kernel)
  rw [← h3]
  exact Prod.ext rfl (Prod.ext h1 h2)
theorem p1_text : textA P1 = T2 := by decide +kernel
theorem bads_parse : ∀ k : Fin 5, (parseA (bads.getD k.val [])).1.length = 0 ∧ (parseA (bads.getD k.val [])).2.1 = 1 ∧ (parseA (bads.getD k.val [])).2.2 = badE.getD k.val 0 := by decide +kernel
theorem bads_len : ∀ k : Fin 5, (bads.getD k.val []).length ≤ 524288 := by decide +kernel
end Asm
end Go.Proofs.YtgiocecpkhmhhaaGreatDoor
namespace Go.Proofs.YtgiocecpkhmhhaaGreatDoor
open Go.ChangeShapes Go.WideShapes Go.ChangeAt Go.RowKit
namespace Asm
open Isa
set_option linter.unusedVariables false
set_option linter.unusedSimpArgs false
set_option maxRecDepth 100000 in
set_option maxHeartbeats 12800000 in
theorem known_any (w : World) (hT : TT w) : Calls Tryz.prog 8 #[] w fun e w' => e = .returned (.bool true) ∧ Below w.heap.size w w' := by
  have HT := Lib.hid (fun W (hb : Below w.heap.size w W) => hT.below hb (Nat.le_refl _))
  have hv := alloc_new w (.cells #[.int .u8 1, .int .u8 0, .int .u16 0, .int .u32 1] 32)
  have hb1 := (Below.refl w.heap.size w).alloc (Nat.le_refl _) (.cells #[.int .u8 1, .int .u8 0, .int .u16 0, .int .u32 1] 32)
  have hs1 : (w.alloc (.cells #[.int .u8 1, .int .u8 0, .int .u16 0, .int .u32 1] 32)).heap.size = w.heap.size + 1 := World.size_alloc _ _
  go_enter Tryz.func8, Tryz.ntmps8
  go_upto_region 2 with fail
  generalize w.alloc (.cells #[.int .u8 1, .int .u8 0, .int .u16 0, .int .u32 1] 32) = X1 at *
  obtain ⟨V1, hV1⟩ : ∃ V, V = w.heap.size := ⟨_, rfl⟩
  rw [← hV1] at hv ⊢
  have HV1 := Lib.hid hV1
  clear hV1
  have HV := Lib.hid hv
  have HB1 := Lib.hid hb1
  obtain ⟨c0, c1, c2, c3⟩ := cells4' hv
  have hp := alloc_new X1 (.cells (encAs P1).toArray 34)
  have hb2 := hb1.alloc hb1.size (.cells (encAs P1).toArray 34)
  have hv2 : (X1.alloc (.cells (encAs P1).toArray 34)).heap[V1]? = _ := (Below.heap_alloc _ _ _ (lt_of_block hv)).trans hv
  have hX : (X1.alloc (.cells #[.string ⟨#[97]⟩, .int .u8 1, .int .u8 0, .int .u16 0, .int .u32 1, .string ⟨#[]⟩, .string ⟨#[]⟩, .int .u8 19, .int .u8 0, .int .u16 0, .int .u32 0, .string ⟨#[97]⟩] 34)) = X1.alloc (.cells (encAs P1).toArray 34) := rfl
  go_upto_region 3 with fail
  rw [hs1] at hp
  generalize X1.alloc (.cells (encAs P1).toArray 34) = X2 at *
  obtain ⟨VP, hVP⟩ : ∃ V, V = w.heap.size + 1 := ⟨_, rfl⟩
  rw [← hVP] at hp ⊢
  clear hVP hs1 hX c0 c1 c2 c3 hb1 HB1 HV hv HV1
  have HP := Lib.hid (fun W (hb : Below X2.heap.size X2 W) => ((arow_cells hp p1_wf : ARow X2 (some ⟨VP, 0, none⟩) 2 P1).below hb (Nat.le_refl _)))
  have HV := Lib.hid (fun W (hb : Below X2.heap.size X2 W) => (hb.block _ (lt_of_block hv2)).trans hv2)
  have HB := Lib.hid (fun W (hb : Below X2.heap.size X2 W) => hb2.trans (hb.mono hb2.size))
  clear hp hv2 hb2
  go_wp2_with fail
  refine (asm_any P1 (some ⟨VP, 0, none⟩) 2 2 (by decide) X2 (HT.out X2 (HB.out _ (Below.refl _ _))).tabs (HP.out X2 (Below.refl _ _))).mono ?_
  rintro e w3 ⟨v3, rfl, ho3, hb3⟩
  rw [p1_asm.2.2] at ho3
  rw [p1_asm.1, p1_asm.2.1]
  obtain ⟨a3, k3, rfl, _, _, hr3⟩ := own_irow ho3 (by rw [← p1_asm.2.2]; exact asm_wf (fun x hx => (p1_wf x hx).i))
  have HR3 := Lib.hid hr3
  have HB3 := Lib.hid hb3
  clear ho3 hr3 hb3
  go_wp2_with fail
  refine (parse_any T1 (by decide) w3 (HT.out w3 (HB.out _ HB3.out))).mono ?_
  rintro e w4 ⟨v4, rfl, ho4, hb4⟩
  rw [p1_parse] at ho4 ⊢
  obtain ⟨a4, k4, rfl, _, _, hr4⟩ := own_arow ho4 p1_wf
  have HR4 := Lib.hid hr4
  have hb34 := HB3.out.trans (hb4.mono HB3.out.size)
  have HB4 := Lib.hid hb34
  have HR34 := Lib.hid (HR3.out.below hb4 (Nat.le_refl _))
  obtain ⟨c0, c1, c2, c3⟩ := cells4' (HV.out w4 HB4.out)
  have hx := alloc_new w4 (.cells (encs [⟨1, 0, 0, 1⟩, ⟨19, 0, 0, 0⟩]).toArray 32)
  have hX : (w4.alloc (.cells #[.int .u8 1, .int .u8 0, .int .u16 0, .int .u32 1, .int .u8 19, .int .u8 0, .int .u16 0, .int .u32 0] 32)) = w4.alloc (.cells (encs [⟨1, 0, 0, 1⟩, ⟨19, 0, 0, 0⟩]).toArray 32) := rfl
  have hb5 := (Below.refl w4.heap.size w4).alloc (Nat.le_refl _) (.cells (encs [⟨1, 0, 0, 1⟩, ⟨19, 0, 0, 0⟩]).toArray 32)
  have HI := Lib.hid (irow_cells hx (by rw [← p1_asm.2.2]; exact asm_wf (fun x hx => (p1_wf x hx).i)))
  have HR35 := Lib.hid (HR34.out.below hb5 (Nat.le_refl _))
  have HR45 := Lib.hid (HR4.out.below hb5 (Nat.le_refl _))
  have HB5 := Lib.hid (HB4.out.trans (hb5.mono HB4.out.size))
  clear ho4 hr4 hb4 hb34 hx hb5
  go_wp2_with fail
  generalize w4.alloc (.cells (encs [⟨1, 0, 0, 1⟩, ⟨19, 0, 0, 0⟩]).toArray 32) = X5 at *
  refine (sameCode_any [⟨1, 0, 0, 1⟩, ⟨19, 0, 0, 0⟩] [⟨1, 0, 0, 1⟩, ⟨19, 0, 0, 0⟩] a3 2 k3 _ 2 2 (by decide) X5 HR35.out HI.out).mono ?_
  rintro e w6 ⟨rfl, hb6⟩
  rw [decide_eq_true (rfl : ([⟨1, 0, 0, 1⟩, ⟨19, 0, 0, 0⟩] : List Iv) = _)]
  have HR46 := Lib.hid (HR45.out.below hb6 (Nat.le_refl _))
  have HB6 := Lib.hid (HB5.out.trans (hb6.mono HB5.out.size))
  clear hb6 HR35 HR45 HI HR34 HR3 HR4 HV c0 c1 c2 c3 hX
  go_wp2_with fail
  refine (same_any P1 P1 a4 2 k4 (some ⟨VP, 0, none⟩) 2 2 (by decide) w6 HR46.out (HP.out w6 HB6.out)).mono ?_
  rintro e w7 ⟨rfl, hb7⟩
  rw [decide_eq_true (rfl : P1 = P1)]
  have HB7 := Lib.hid (HB6.out.trans (hb7.mono HB6.out.size))
  clear hb7 HR46
  go_wp2_with fail
  refine (textA_any P1 (some ⟨VP, 0, none⟩) 2 2 (by decide) w7 (HT.out w7 (HB.out _ HB7.out)).tabs (HP.out w7 HB7.out)).mono ?_
  rintro e w8 ⟨rfl, hb8⟩
  rw [p1_text, show sB T2 = ⟨#[97, 58, 32, 112, 117, 115, 104, 32, 49, 10, 106, 117, 109, 112, 32, 97, 10]⟩ from rfl]
  have HB8 := Lib.hid (HB7.out.trans (hb8.mono HB7.out.size))
  clear hb8
  go_upto_region 7 with fail
  have HBw := Lib.hid (HB.out _ HB8.out)
  clear HB3 HB4 HB5 HB6 HB7 HB8 HB HP
  have hy := alloc_new w8 (.cells (bads.map fun s => Value.string (sB s)).toArray 9)
  have hb9 := HBw.out.alloc HBw.out.size (.cells (bads.map fun s => Value.string (sB s)).toArray 9)
  have hX : (w8.alloc (.cells #[.string ⟨#[112, 117, 115, 104]⟩, .string ⟨#[104, 111, 112, 32, 49]⟩, .string ⟨#[112, 117, 115, 104, 32, 48, 49]⟩, .string ⟨#[105, 110, 32, 49, 54]⟩, .string ⟨#[65, 58, 32, 100, 117, 112]⟩] 9)) = w8.alloc (.cells (bads.map fun s => Value.string (sB s)).toArray 9) := rfl
  go_wp2_with fail
  have hc5 : ∀ k, k < 5 → (w8.alloc (.cells (bads.map fun s => Value.string (sB s)).toArray 9)).cell? ⟨w8.heap.size, k, none⟩ = some (.string (sB (bads.getD k []))) := fun k hk => strs_at (L := bads) hy hk
  generalize w8.alloc (.cells (bads.map fun s => Value.string (sB s)).toArray 9) = X9 at *
  generalize w8.heap.size = VQ at *
  have HC5 := Lib.hid (fun W (hb : Below X9.heap.size X9 W) k (hk : k < 5) => (World.cell?_of_block (a := ⟨VQ, k, none⟩) (hb.block VQ (lt_of_block hy))).trans (hc5 k hk))
  have HB9 := Lib.hid (fun W (hb : Below X9.heap.size X9 W) => hb9.trans (hb.mono hb9.size))
  clear hc5 hy hb9 hX HBw
  go_loopw [67] (fun i wr => ∃ k : Nat, k ≤ 5 ∧ i = .int .i64 k ∧ Below X9.heap.size X9 wr) (fun i _ => 5 - (intOf i).toNat)
  case atStart => exact ⟨0, by omega, rfl, Below.refl _ _⟩
  case round =>
    obtain ⟨k, hk, rfl, hbel⟩ := hrel
    have HBl := Lib.hid hbel
    by_cases hlt : k < 5
    · have hd : decide ((k : Int) < 5) = true := decide_eq_true (by omega)
      have k0 : (0 : Int) ≤ k := by omega
      have k1 : (k : Int) < 5 := by omega
      have hcell := HC5.out wr hbel k hlt
      obtain ⟨q1, q2, q3⟩ := bads_parse ⟨k, hlt⟩
      simp only at q1 q2 q3
      have HPa := Lib.hid (parse_any (bads.getD k []) (bads_len ⟨k, hlt⟩) wr (HT.out wr (HB9.out wr hbel)))
      rw [q1, q2, q3] at HPa
      have HE : Hid ((badE.map fun e => Value.int .i64 e)[k]? = some (.int .i64 (badE.getD k 0))) := by
        show _ = _
        rw [List.getElem?_map, List.getD_eq_getElem?_getD, List.getElem?_eq_getElem (show k < badE.length from hlt)]
        rfl
      clear q1 q2 q3 hbel
      generalize badE.getD k 0 = E at *
      generalize parseA (bads.getD k []) = PA at *
      generalize sB (bads.getD k []) = S0 at *
      go_wp2_with fail
      refine HPa.out.mono ?_
      rintro e w2 ⟨v, rfl, ho, hb2⟩
      obtain ⟨av, cv, rfl, _, _⟩ := own_shape ho
      have HB2 := Lib.hid (HBl.out.trans (hb2.mono HBl.out.size))
      have hz := alloc_new w2 (.cells (badE.map fun e => Value.int .i64 e).toArray 26)
      have hcE : (w2.alloc (.cells (badE.map fun e => Value.int .i64 e).toArray 26)).cell? ⟨w2.heap.size, k, none⟩ = some (.int .i64 E) := by
        rw [cells_at hz k, List.getElem?_toArray]; exact HE.out
      have HB3 := Lib.hid (HB2.out.alloc HB2.out.size (.cells (badE.map fun e => Value.int .i64 e).toArray 26))
      have hX : (w2.alloc (.cells #[.int .i64 100, .int .i64 100, .int .i64 42, .int .i64 42, .int .i64 101] 26)) = w2.alloc (.cells (badE.map fun e => Value.int .i64 e).toArray 26) := rfl
      clear ho hb2 hz HPa HE
      go_wp2_with fail
      exact ⟨⟨k + 1, by omega, by simp, HB3.out⟩, by simp [intOf]; omega⟩
    · obtain rfl : k = 5 := by omega
      have hd : decide (((5 : Nat) : Int) < 5) = false := rfl
      have hd' : decide ((5 : Int) < 5) = false := rfl
      have HBr := Lib.hid (HB9.out wr HBl.out)
      clear HBl hbel HB9 HC5
      have hx := alloc_new wr (.cells #[.string ⟨#[97]⟩, .int .u8 2, .int .u8 0, .int .u16 0, .int .u32 0, .string ⟨#[]⟩] 34)
      have hb10 := HBr.out.alloc HBr.out.size (.cells #[.string ⟨#[97]⟩, .int .u8 2, .int .u8 0, .int .u16 0, .int .u32 0, .string ⟨#[]⟩] 34)
      go_upto_region 15 with fail
      generalize wr.heap.size = V14 at *
      generalize wr.alloc (.cells #[.string ⟨#[97]⟩, .int .u8 2, .int .u8 0, .int .u16 0, .int .u32 0, .string ⟨#[]⟩] 34) = X10 at *
      have hp := alloc_new X10 (.cells (encAs P2).toArray 34)
      have hb11 := hb10.alloc hb10.size (.cells (encAs P2).toArray 34)
      have hx11 : (X10.alloc (.cells (encAs P2).toArray 34)).heap[V14]? = _ := (Below.heap_alloc _ _ _ (lt_of_block hx)).trans hx
      have hX : (X10.alloc (.cells #[.string ⟨#[]⟩, .int .u8 19, .int .u8 0, .int .u16 0, .int .u32 0, .string ⟨#[98]⟩] 34)) = X10.alloc (.cells (encAs P2).toArray 34) := rfl
      have HB11 := Lib.hid hb11
      have HX11 := Lib.hid hx11
      have HA := Lib.hid (asm_any P2 (some ⟨X10.heap.size, 0, none⟩) 1 1 (by decide) _ (HT.out _ hb11).tabs (arow_cells hp p2_wf))
      clear hp hb10 hb11 hx11 hx HBr
      go_wp2_with fail
      refine HA.out.mono ?_
      rintro e w12 ⟨v12, rfl, _, hb12⟩
      rw [p2_asm.1, p2_asm.2]
      have hx12 := (hb12.block _ (lt_of_block HX11.out)).trans HX11.out
      have hb12' := HB11.out.trans (hb12.mono HB11.out.size)
      clear HA HX11 HB11 hb12 hX
      obtain ⟨y0, y1, y2, y3, y4, y5⟩ := cells6 hx12
      have hp := alloc_new w12 (.cells (encAs P3).toArray 34)
      have hb13 := hb12'.alloc hb12'.size (.cells (encAs P3).toArray 34)
      have hX : (w12.alloc (.cells #[.string ⟨#[97]⟩, .int .u8 2, .int .u8 0, .int .u16 0, .int .u32 0, .string ⟨#[]⟩, .string ⟨#[97]⟩, .int .u8 2, .int .u8 0, .int .u16 0, .int .u32 0, .string ⟨#[]⟩] 34)) = w12.alloc (.cells (encAs P3).toArray 34) := rfl
      have HB13 := Lib.hid hb13
      have HA := Lib.hid (asm_any P3 (some ⟨w12.heap.size, 0, none⟩) 2 2 (by decide) _ (HT.out _ hb13).tabs (arow_cells hp p3_wf))
      clear hp hb13 hb12' hx12
      go_wp2_with fail
      refine HA.out.mono ?_
      rintro e w14 ⟨v14, rfl, _, hb14⟩
      rw [p3_asm.1, p3_asm.2]
      have HB14 := Lib.hid (HB13.out.trans (hb14.mono HB13.out.size))
      clear HA HB13 hb14 hX
      go_wp2_with fail
      go_ret
      exact ⟨rfl, HB14.out⟩
end Asm
end Go.Proofs.YtgiocecpkhmhhaaGreatDoor
namespace Go.Proofs.YtgiocecpkhmhhaaGreatDoor
open Go.ChangeShapes Go.WideShapes Go.ChangeAt Go.RowKit
namespace Asm
open Isa
set_option linter.unusedVariables false
set_option linter.unusedSimpArgs false
theorem oneC : OneC := fun l a n c h1 h2 h3 h4 h5 w h => one_any l a n c h1 h2 h3 h4 h5 w h
theorem sB_back (s : ByteArray) : ∃ l, s = sB l ∧ s.size = l.length := ⟨s.data.toList, by cases s; simp [sB], show s.data.size = s.data.toList.length from (Array.length_toList ..).symm⟩
theorem parse_nil {s : List UInt8} (hs : s.length ≤ 524288) (h : (parseA s).2.2 ≠ 0) : (parseA s).1 = [] := by
  by_cases hg : ∀ t, t < (splitL s []).length → errE (outs ((splitL s []).take t)) ((splitL s []).getD t []) = 0
  · rw [parse_good hs hg] at h; exact absurd rfl h
  · have hE : ∃ t, t < (splitL s []).length ∧ errE (outs ((splitL s []).take t)) ((splitL s []).getD t []) ≠ 0 := by
      by_cases hx : ∃ t, t < (splitL s []).length ∧ errE (outs ((splitL s []).take t)) ((splitL s []).getD t []) ≠ 0
      · exact hx
      · exact absurd (fun t ht => Classical.byContradiction fun hq => hx ⟨t, ht, hq⟩) hg
    have hlt : first (fun t => decide (errE (outs ((splitL s []).take t)) ((splitL s []).getD t []) ≠ 0)) (splitL s []).length < (splitL s []).length := by
      obtain ⟨t, ht, hq⟩ := hE
      have hle := first_le (fun t => decide (errE (outs ((splitL s []).take t)) ((splitL s []).getD t []) ≠ 0)) (splitL s []).length
      refine Nat.lt_of_le_of_ne hle fun e => ?_
      have := first_miss (p := fun t => decide (errE (outs ((splitL s []).take t)) ((splitL s []).getD t []) ≠ 0)) (n := (splitL s []).length) (t := t) (by rw [e]; exact ht)
      simp at this
      exact hq this
    have hh := first_hit hlt
    simp only [decide_eq_true_eq] at hh
    rw [parse_bad' hs hlt (fun t ht => by have := first_miss ht; simpa using this) hh]
theorem parse_len (s : List UInt8) (hs : s.length ≤ 500000) : (parseA s).1.length ≤ 16384 := by
  by_cases h : (parseA s).2.2 = 0
  · exact (parse_again hs h).2.2.1
  · rw [parse_nil (by omega) h]; simp
set_option maxRecDepth 100000 in
set_option maxHeartbeats 6400000 in
theorem parses_walk (w : World) (hT : TT w) (s : ByteArray) (hs : s.size ≤ 9223372036854775807) : Calls Tryz.prog 5 #[.string s] w fun e w' => e = .returned (.bool true) ∧ Below w.heap.size w w' := by
  obtain ⟨l, hl, hsz⟩ := sB_back s
  have hsz' : (s.size : Int) = l.length := by rw [hsz]
  have HK := Lib.hid (known_any w hT)
  have HP := Lib.hid (fun (hle : l.length ≤ 20000) W (hb : Below w.heap.size w W) => parse_any l (by omega) W (hT.below hb (Nat.le_refl _)))
  have HR := Lib.hid (fun (hle : l.length ≤ 20000) W => rparse_any oneC l (by omega) W)
  have HW := Lib.hid (fun (hle : l.length ≤ 20000) => And.intro (parse_wf l (by omega)) (parse_len l (by omega)))
  rw [← hl] at HP HR
  clear hl hsz hs hT
  generalize parseA l = P at *
  obtain ⟨out, n, e⟩ := P
  simp only at HP HR HW
  go_enter Tryz.func5, Tryz.ntmps5
  go_wp2_with fail
  refine HK.out.mono ?_
  rintro e1 w1 ⟨rfl, hb1⟩
  have HB1 := Lib.hid hb1
  clear hb1 HK
  by_cases hle : l.length ≤ 20000
  · have hd : decide ((20000 : Int) < (l.length : Int)) = false := decide_eq_false (by omega)
    have HP := Lib.hid (HP.out hle w1 HB1.out)
    have HR := Lib.hid (HR.out hle)
    have HW := Lib.hid (HW.out hle)
    clear hle
    go_wp2_with fail
    refine HP.out.mono ?_
    rintro e2 w2 ⟨v2, rfl, ho2, hb2⟩
    obtain ⟨a2, c2, rfl, h21, _, hr2⟩ := own_arow ho2 HW.out.1
    have HB2 := Lib.hid (HB1.out.trans (hb2.mono HB1.out.size))
    clear ho2 hb2
    go_wp2_with fail
    refine (HR.out w2).mono ?_
    rintro e3 w3 ⟨v3, rfl, ho3, hb3⟩
    obtain ⟨a3, c3, rfl, h31, _, hr3⟩ := own_arow ho3 HW.out.1
    have HB3 := Lib.hid (HB2.out.trans (hb3.mono HB2.out.size))
    have hS := same_any out out a2 out.length c2 a3 out.length c3 (by have := HW.out.2; omega) w3 (hr2.below hb3 (Nat.le_refl _)) hr3
    rw [decide_eq_true (rfl : out = out)] at hS
    have HS := Lib.hid hS
    clear hS hr2 ho3 hb3 hr3 HR HP HW h21 h31
    go_wp2_with fail
    refine HS.out.mono ?_
    rintro e4 w4 ⟨rfl, hb4⟩
    have HB4 := Lib.hid (HB3.out.trans (hb4.mono HB3.out.size))
    clear hb4
    go_wp2_with fail
    go_ret
    exact ⟨rfl, HB4.out⟩
  · have hd : decide ((20000 : Int) < (l.length : Int)) = true := decide_eq_true (by omega)
    clear hle
    go_wp2_with fail
    go_ret
    exact ⟨rfl, HB1.out⟩
end Asm
end Go.Proofs.YtgiocecpkhmhhaaGreatDoor
