/- A writer in memory: number. -/
import Derived.Test.YtimhppgepiikbaaWireW1
namespace Go.Proofs.Ytimhppgepiikbaa
open Go.ChangeShapes Go.WideShapes Go.ChangeAt Go.RowKit
namespace Wire
variable {gu : Option (Nat × Obj)}
set_option linter.unusedVariables false
theorem own_set {w : World} {B g : Nat} {v : Value} {n : Nat} {xs : List Value} {a : Addr} {cs : Array Value} {fr : Nat × Nat} (h : w.ownsRow B 5 1 v n xs) (hg : w.heap[g]? = some (.cells cs 29 fr)) (ha : a.block = g) (u : Value) : (w.setCell a u).ownsRow B 5 1 v n xs := by
  refine ownsRow_setCell_other h ?_ u
  intro hb
  rcases h.2 with ⟨rfl, _⟩ | ⟨g', cap, cur, rfl, _, hg', _⟩
  · simp [Value.ownBlock] at hb
  · simp only [Value.ownBlock, Option.some.injEq] at hb
    rw [hb, ha, hg] at hg'
    simp at hg'
theorem own_ne {w : World} {B g : Nat} {v : Value} {n : Nat} {xs : List Value} {cs : Array Value} {fr : Nat × Nat} (h : w.ownsRow B 5 1 v n xs) (hg : w.heap[g]? = some (.cells cs 29 fr)) : some g ≠ v.ownBlock := by
  intro hb
  rcases h.2 with ⟨rfl, _⟩ | ⟨g', cap, cur, rfl, _, hg', _⟩
  · simp [Value.ownBlock] at hb
  · simp only [Value.ownBlock, Option.some.injEq] at hb
    rw [← hb, hg] at hg'
    simp at hg'
theorem byte_at (n : Int) (k : Nat) : IntKind.u8.wrap (n / 2 ^ (8 * k)) = n / 256 ^ k % 256 := by
  rw [show (2 : Int) ^ (8 * k) = 256 ^ k from by rw [Int.pow_mul]; rfl]
  simp [IntKind.wrap, IntKind.bits, IntKind.signed]
theorem guest_grown {g g2 un uc m c : Nat} {ua : Option Addr} {w W2 : World} {o : Obj} (h : Guest gu g (.slice ua un uc) w) (hgr : (w.alloc o).drew.grownBy W2 (Value.slice ua un uc).ownBlock) (hat : (Value.slice ua un uc).ownBlock = some g2 ∨ g2 = (w.alloc o).drew.heap.size) : Guest gu g (.slice (some ⟨g2, 0, none⟩) m c) W2 := by
  intro u x e
  obtain ⟨h1, h2, h3⟩ := h u x e
  have hlt := lt_of_block h1
  refine ⟨(hgr.block u (by simp; omega) h3).trans ((Below.heap_alloc _ _ _ hlt).trans h1), h2, ?_⟩
  rcases hat with hat | hat
  · rw [hat] at h3; exact h3
  · intro hh
    simp [Value.ownBlock] at hh hat
    omega
theorem num_step {B g g2 cap2 un uc k : Nat} {w2 : World} {ua : Option Addr} {l : List Int} {n : Int} (hg : w2.heap[g]? = some (.cells #[.slice ua un uc, .int .i64 0] 29 (0, 0)))
    (ho : w2.ownsRow B 5 1 (.slice (some ⟨g2, 0, none⟩) (un + 1) cap2) (un + 1) (bv (l ++ le k n) ++ [.int .u8 (IntKind.u8.wrap (n / 2 ^ (8 * k)))])) (hB : B ≤ g) (hl : un + 1 ≤ 524288) (hby : ∀ z ∈ l, 0 ≤ z ∧ z ≤ 255) (hgu : Guest gu g (.slice (some ⟨g2, 0, none⟩) (un + 1) cap2) w2) :
    WAt gu B g (w2.setCell ⟨g, 0, none⟩ (.slice (some ⟨g2, 0, none⟩) (un + 1) cap2)) (l ++ le (k + 1) n) 0 := by
  refine ⟨_, _, _, row_setCell hg, hB, ?_, hl, ?_, by omega, fun u o e => ⟨(Below.heap_setCell _ _ _ _ (hgu u o e).2.1).trans (hgu u o e).1, (hgu u o e).2⟩⟩
  · have := own_set ho hg (a := ⟨g, 0, none⟩) rfl (.slice (some ⟨g2, 0, none⟩) (un + 1) cap2)
    rw [byte_at n k] at this
    rw [le_snoc, ← List.append_assoc, ← bv_append]
    exact this
  · intro z hz
    rcases List.mem_append.1 hz with hz | hz
    · exact hby z hz
    · exact le_byte _ _ z hz
set_option maxHeartbeats 1000000 in
set_option maxRecDepth 100000 in
theorem number_ok (B g : Nat) (w : World) (l : List Int) (n : Int) (s : Nat) (h0 : 0 ≤ n) (h1 : n ≤ 18446744073709551615) (hs : s ≤ 8) (hB : B ≤ w.heap.size) (h : WAt gu B g w l 0) (hfit : l.length + s ≤ 524288) :
    Calls Try.prog 37 #[.pointer (some ⟨g, 0, none⟩), .int .u64 n, .int .i64 s] w fun r w' => r = .returned (.tuple #[]) ∧ WAt gu B g w' (l ++ le s n) 0 ∧ Below B w w' := by
  obtain ⟨va, vn, vc, hg, hBg, hown, hn, hby, _, hgu⟩ := h
  have HG := Lib.hid hg
  have HGu := Lib.hid hgu
  have HO := Lib.hid hown
  have HBy := Lib.hid hby
  have hl : l.length = vn := by have := hown.1; rw [bv_length] at this; omega
  have c0 : w.cell? ⟨g, 0, none⟩ = some (.slice va vn vc) := by rw [cell_of_row _ _ _ _ _ _ hg]; rfl
  have HL := Lib.hid hl
  clear hg hown hby hl hgu
  obtain ⟨i0, hi, hz0, hz1, hz2⟩ := info_parts infoByte
  have HI := Lib.hid hi
  have HZ0 := Lib.hid hz0
  have HZ1 := Lib.hid hz1
  have HZ2 := Lib.hid hz2
  clear hi hz0 hz1 hz2
  have d1 : decide ((524288 : Int) < (vn : Int) + s) = false := by have := HL.out; simp; omega
  go_enter Try.func37, Try.ntmps37
  go_wp2_with fail
  refine (well_any g w _ 0 HG.out).mono ?_
  rintro r w1 ⟨rfl, rfl⟩
  go_wp2_with fail
  clear c0
  go_loopw [21] (fun i wr => ∃ k : Nat, k ≤ s ∧ i = .int .i64 k ∧ WAt gu B g wr (l ++ le k n) 0 ∧ Below B w wr) (fun i _ => s - (intOf i).toNat)
  case atStart => exact ⟨0, by omega, rfl, ⟨va, vn, vc, HG.out, hBg, by simpa [le] using HO.out, hn, by simpa [le] using HBy.out, by omega, HGu.out⟩, Below.refl _ _⟩
  case round =>
    obtain ⟨k, hk, rfl, hw, hbel⟩ := hrel
    have HB := Lib.hid hbel
    clear hbel HO HG
    by_cases hlt : k < s
    · have k0 : (0 : Int) ≤ k := by omega
      have k1 : (k : Int) < s := by omega
      have hd : decide ((k : Int) < (s : Int)) = true := by simp; omega
      obtain ⟨ua, un, uc, hg, _, hown, hn2, _, _, hgu2⟩ := hw
      have HGu2 := Lib.hid hgu2
      clear hgu2
      have HG := Lib.hid hg
      have HO := Lib.hid hown
      have hun : un = l.length + k := by have := hown.1; rw [bv_length, List.length_append, le_length] at this; omega
      have HUn := Lib.hid hun
      clear hun
      have c0 : wr.cell? ⟨g, 0, none⟩ = some (.slice ua un uc) := by rw [cell_of_row _ _ _ _ _ _ hg]; rfl
      have f0 := row_free hg 0
      have hlg := lt_of_block hg
      have hne := own_ne hown hg
      have HNe := Lib.hid hne
      clear hne
      clear hg hown
      have m0 : IntKind.i64.wrap (8 * (k : Int)) = 8 * k := IntWalk.i64_in _ (by omega)
      have m1 : (0 : Int) ≤ 8 * k := by omega
      have m2 : (8 * (k : Int)).toNat = 8 * k := by omega
      go_wp2_with fail
      go_region_law (refine step_append_lies _ rfl (.tmp 28) (.tmp 34) 26 rfl B 5 i0 (.int .u8 0) 1 1 Try.underlying26 HI.out HZ0.out HZ1.out HZ2.out rfl (by decide) (.slice ua un uc) un (bv (l ++ le k n)) rfl (HO.out.alloc _) ⟨wr.heap.size, 0, none⟩ 1 1 _ rfl (by rfl) (World.news_of_block (heap_alloc_new _ _)) (by intro u hu; simp at hu; subst hu; rfl) (by omega) (by unfold maxLen; omega) (by omega) (by have := HB.out.size; simp; omega) _ rfl ?_; intro g2 cap2 w2 hown2 hgrow hat hlt2; have HGu3 := Lib.hid (guest_grown (m := un + 1) (c := cap2) HGu2.out hgrow hat); have hg2 : w2.heap[g]? = some (.cells #[.slice ua un uc, .int .i64 0] 29 (0, 0)) := (by rw [hgrow.block g (by simp; omega) HNe.out]; exact (Below.heap_alloc _ _ _ hlg).trans HG.out); have c2 : w2.cell? ⟨g, 0, none⟩ = some (.slice ua un uc) := (by rw [cell_of_row _ _ _ _ _ _ hg2]; rfl); have f2 := row_free hg2 0; have HG2 := Lib.hid hg2; have HO2 := Lib.hid hown2; have HGr := Lib.hid hgrow; clear hg2 hown2 hgrow)
      all_goals
        clear m0 m1 m2 c0 f0
        go_wp2_with fail
        go_roundw
        case rel => exact ⟨k + 1, by omega, by go_num, num_step HG2.out HO2.out hBg (by have := HL.out; have := HUn.out; omega) HBy.out HGu3.out, (Below.grown (HB.out.alloc (Nat.le_trans hB HB.out.size) _).drew HGr.out (by simp; have := HB.out.size; omega) (fun j hj => (HO.out.lt j hj).1)).setCell hBg _⟩
        case measure => simp [intOf]; omega
    · have hd : decide ((k : Int) < (s : Int)) = false := by simp; omega
      obtain rfl : k = s := by omega
      have HW := Lib.hid hw
      clear hw
      go_wp2_with fail
      go_end0
      exact ⟨rfl, HW.out, HB.out⟩
theorem WAt.cells {B g : Nat} {w : World} {l : List Int} {e : Int} (h : WAt gu B g w l e) : ∃ v, w.heap[g]? = some (.cells #[v, .int .i64 e] 29 (0, 0)) := by
  obtain ⟨va, n, c, h, _⟩ := h; exact ⟨_, h⟩
theorem wat_err {B g : Nat} {w : World} {e : Int} (hgu : Guest gu g (.slice none 0 0) w) (h : w.heap[g]? = some (.cells #[.slice none 0 0, .int .i64 e] 29 (0, 0))) (hB : B ≤ g) (he : 0 ≤ e ∧ e ≤ 1000) : WAt gu B g w [] e :=
  ⟨none, 0, 0, h, hB, World.ownsRow_nil _ _ _ _, by omega, by simp, he, hgu⟩
theorem guest_kept {g : Nat} {w w' : World} {v : Value} (h : Guest gu g v w) (hk : Kept (· = g) w w') : Guest gu g v w' := fun u o e => ⟨(hk.block u (lt_of_block (h u o e).1) (h u o e).2.1).trans (h u o e).1, (h u o e).2⟩
theorem fail_any (B g : Nat) (w : World) (s : List Int × Int) (e : Int) (h : WAt gu B g w s.1 s.2) (hB : B ≤ w.heap.size) (he : 0 ≤ e ∧ e ≤ 1000) :
    Calls Try.prog 38 #[.pointer (some ⟨g, 0, none⟩), .int .i64 e] w fun r w' => r = .returned (.tuple #[]) ∧ WAt gu B g w' (fail s e).1 (fail s e).2 ∧ Below B w w' := by
  obtain ⟨l, e0⟩ := s
  simp only at h
  obtain ⟨v, hv⟩ := h.cells
  have hBg : B ≤ g := by obtain ⟨_, _, _, _, h, _⟩ := h; exact h
  have hgq : Guest gu g (.slice none 0 0) w := by obtain ⟨_, _, _, _, _, _, _, _, _, hq⟩ := h; exact fun u o e => ⟨(hq u o e).1, (hq u o e).2.1, by simp [Value.ownBlock]⟩
  by_cases h0 : e0 = 0
  · subst h0
    refine (fail_ok g w v e hv).mono ?_
    rintro r w' ⟨rfl, h1, h2⟩
    exact ⟨rfl, wat_err (guest_kept hgq h2) h1 hBg he, h2.toBelow hB (fun k hk => by omega)⟩
  · refine (fail_no g w v e e0 h0 hv).mono ?_
    rintro r w' ⟨rfl, rfl⟩
    exact ⟨rfl, by simp only [fail]; rw [if_neg h0]; exact h, Below.refl _ _⟩
theorem number_over (B g : Nat) (w : World) (l : List Int) (n : Int) (s : Nat) (hs : s ≤ 8) (hB : B ≤ w.heap.size) (h : WAt gu B g w l 0) (hfit : 524288 < l.length + s) :
    Calls Try.prog 37 #[.pointer (some ⟨g, 0, none⟩), .int .u64 n, .int .i64 s] w fun r w' => r = .returned (.tuple #[]) ∧ WAt gu B g w' [] 3 ∧ Below B w w' := by
  have HW := Lib.hid h
  obtain ⟨va, vn, vc, hg, hBg, hown, hn, hby, _⟩ := h
  have HG := Lib.hid hg
  have hl : l.length = vn := by have := hown.1; rw [bv_length] at this; omega
  have c0 : w.cell? ⟨g, 0, none⟩ = some (.slice va vn vc) := by rw [cell_of_row _ _ _ _ _ _ hg]; rfl
  have d1 : decide ((524288 : Int) < (vn : Int) + s) = true := by simp; omega
  clear hg hown hby hl
  go_enter Try.func37, Try.ntmps37
  go_wp2_with fail
  refine (well_any g w _ 0 HG.out).mono ?_
  rintro r w1 ⟨rfl, rfl⟩
  go_wp2_with fail
  refine (fail_any B g w (l, 0) 3 HW.out hB (by omega)).mono ?_
  rintro r w1 ⟨rfl, h1, h2⟩
  go_wp2_with fail
  refine bodyPost_ret (results_none rfl _ _ _) rfl ?_
  exact ⟨rfl, h1, h2⟩
theorem number_no (g : Nat) (w : World) (v : Value) (e n : Int) (s : Int) (he : ¬ e = 0) (h : w.heap[g]? = some (.cells #[v, .int .i64 e] 29 (0, 0))) :
    Calls Try.prog 37 #[.pointer (some ⟨g, 0, none⟩), .int .u64 n, .int .i64 s] w fun r w' => r = .returned (.tuple #[]) ∧ w = w' := by
  have HH := Lib.hid h
  have hd : decide (e = 0) = false := by simpa using he
  have HE := Lib.hid he
  clear h he
  go_enter Try.func37, Try.ntmps37
  go_wp2_with fail
  refine (well_any g w v e HH.out).mono ?_
  rintro r w1 ⟨rfl, rfl⟩
  go_wp2_with fail
  refine bodyPost_ret (results_none rfl _ _ _) rfl ?_
  exact ⟨rfl, rfl⟩
/-- a state of a writer in memory -/
def WSt (gu : Option (Nat × Obj)) (B g : Nat) (w : World) (s : List Int × Int) : Prop := WAt gu B g w s.1 s.2
theorem number_any (B g : Nat) (w : World) (s : List Int × Int) (n : Int) (m : Nat) (h0 : 0 ≤ n) (h1 : n ≤ 18446744073709551615) (hm : m ≤ 8) (hB : B ≤ w.heap.size) (h : WSt gu B g w s) :
    Calls Try.prog 37 #[.pointer (some ⟨g, 0, none⟩), .int .u64 n, .int .i64 m] w fun r w' => r = .returned (.tuple #[]) ∧ WSt gu B g w' (num s n m) ∧ Below B w w' := by
  obtain ⟨l, e⟩ := s
  have h' : WAt gu B g w l e := h
  by_cases he : e = 0
  · subst he
    by_cases hf : 524288 < l.length + m
    · refine (number_over B g w l n m hm hB h hf).mono ?_
      rintro r w' ⟨rfl, h2, h3⟩
      exact ⟨rfl, by unfold WSt; simp only [num, if_true]; rw [if_pos hf]; exact h2, h3⟩
    · refine (number_ok B g w l n m h0 h1 hm hB h (by omega)).mono ?_
      rintro r w' ⟨rfl, h2, h3⟩
      exact ⟨rfl, by unfold WSt; simp only [num, if_true]; rw [if_neg hf]; exact h2, h3⟩
  · obtain ⟨v, hv⟩ := h'.cells
    refine (number_no g w v e n m he hv).mono ?_
    rintro r w' ⟨rfl, rfl⟩
    exact ⟨rfl, by unfold WSt; simp only [num]; rw [if_neg he]; exact h', Below.refl _ _⟩
end Wire
end Go.Proofs.Ytimhppgepiikbaa
