/- New. -/
import Derived.Test.YtoighaicdakbkaaFieldW2
namespace Go.Proofs.Ytoighaicdakbkaa
open Go.ChangeShapes Go.WideShapes Go.ChangeAt Go.RowKit
namespace Fld
set_option linter.unusedVariables false
set_option linter.unusedSimpArgs false
/-- a new field -/
def NewP (s : Fv) (w : World) (e : Ending) (w' : World) : Prop :=
  ∃ a, e = .returned (.tuple #[.pointer (some ⟨a.g, 0, none⟩), .int .i64 0]) ∧ Fd w' a s ∧ (∀ k, a.own k → w.heap.size ≤ k) ∧ Below w.heap.size w w'
theorem new_no (d : Df) (b : Option Addr) (c : Nat) (hl : d.safe.length ≤ 9223372036854775807) (hm : d.may = false) (w : World) :
    Calls Try.prog 7 #[.agg #[.int .i64 d.ins, .slice b d.safe.length c, .int .u32 d.rd, .int .i64 d.wr]] w fun e w' => e = .returned (.tuple #[.pointer none, .int .i64 2]) ∧ Below w.heap.size w w' := by
  have HC := Lib.hid (fun W => check_any d b c hl W)
  rw [hm] at HC
  simp only [Bool.false_eq_true, if_false] at HC
  clear hm
  generalize d.safe.length = n at *
  generalize d.ins = i at *
  generalize d.rd = r at *
  generalize d.wr = x at *
  go_enter Try.func7, Try.ntmps7
  go_wp2_with (go_at_call 9; refine (HC.out _).mono ?_; rintro e w1 ⟨rfl, hb⟩)
  refine bodyPost_ret (v := .tuple #[.pointer none, .int .i64 2]) (by simp [results, Try.f7, go_sem]) rfl ?_
  exact ⟨rfl, (below_alloc w _).trans (hb.mono (by simp))⟩
theorem heap_last (V : World) (o : Obj) (k : Nat) (h : k = V.heap.size) : (V.alloc o).drew.heap[k]? = some o := by subst h; exact heap_alloc_new V o
theorem box_cells {W : World} {S n c : Nat} {b : Option Addr} {i r x : Int} (h : W.heap[S]? = some (.cells #[.int .i64 i, .slice b n c, .int .u32 r, .int .i64 x] 25 (0, 0))) :
    W.cell? ⟨S, 0, none⟩ = some (.int .i64 i) ∧ W.cell? ⟨S, 1, none⟩ = some (.slice b n c) ∧ W.cell? ⟨S, 2, none⟩ = some (.int .u32 r) ∧ W.cell? ⟨S, 3, none⟩ = some (.int .i64 x) := by
  refine ⟨?_, ?_, ?_, ?_⟩ <;> (rw [cell_of_row _ _ _ _ _ _ h]; rfl)
set_option maxHeartbeats 4000000 in
theorem new_any (d : Df) {b : Option Addr} {c : Nat} {p : Nat → Prop} {w : World} (hr : NRow p w b d.safe.length d.safe) (h0 : 0 ≤ d.rd) (hm : d.may = true) :
    Calls Try.prog 7 #[.agg #[.int .i64 d.ins, .slice b d.safe.length c, .int .u32 d.rd, .int .i64 d.wr]] w (NewP (newF d) w) := by
  obtain ⟨m1, m2, m3, m4, m5, m6⟩ := may_iff.1 hm
  have HC := Lib.hid (fun W => check_any d b c (by omega) W)
  rw [hm] at HC
  simp only [if_true] at HC
  obtain ⟨M, hM⟩ := Int.eq_ofNat_of_zero_le m1
  have HCp := Lib.hid (fun W (hb : Below w.heap.size w W) => copied_any (c := c) (hr.below hb (Nat.le_refl _)) (by omega))
  have HOk := Lib.hid (newF_ok hm h0)
  have HM : Hid (d.ins.toNat = M) := by show _ = _; rw [hM]; rfl
  rw [hM] at HC ⊢
  have hmk1 := fun W => run_make_nums W M (by omega)
  have hmk2 := fun W => run_make_puts W d.safe.length (by omega)
  have HL1 : Hid ((List.replicate M (0 : Int)).length = M) := by show _ = _; simp
  have HF : Hid (∀ W a, W.heap[a.g]? = some (.cells #[.int .u32 d.rd, .int .i64 d.wr, .slice (some ⟨a.bs, 0, none⟩) d.safe.length d.safe.length, .slice (some ⟨a.bi, 0, none⟩) M M, .slice (some ⟨a.bo, 0, none⟩) d.safe.length d.safe.length, .slice (some ⟨a.bp, 0, none⟩) d.safe.length d.safe.length] 56 (0, 0)) →
      W.heap[a.bs]? = some (.cells (nums d.safe).toArray 23 (0, 0)) → W.heap[a.bi]? = some (.cells (nums (List.replicate M 0)).toArray 23 (0, 0)) → W.heap[a.bo]? = some (.cells (nums d.safe).toArray 23 (0, 0)) →
      W.heap[a.bp]? = some (.cells (putC (List.replicate d.safe.length none)).toArray 61 (0, 0)) → a.bs ≠ a.bi → a.bs ≠ a.bo → a.bi ≠ a.bo → Fd W a (newF d)) := fun W a q1 q2 q3 q4 q5 q6 q7 q8 => by
    have e : (newF d) = ⟨d.rd, d.wr, d.safe, List.replicate M 0, d.safe, List.replicate d.safe.length none⟩ := by unfold newF; rw [HM.out]
    have hok := HOk.out
    rw [e] at hok ⊢
    exact ⟨hok, by simp only [HL1.out]; exact q1, q2, q3, q4, q5, q6, q7, q8⟩
  clear hr h0 hm hM m1 m2 m3 m4 m5 m6 HM HL1 HOk
  generalize newF d = S' at *
  generalize (nums d.safe).toArray = Z0 at *
  generalize (nums (List.replicate M 0)).toArray = Z1 at *
  generalize (putC (List.replicate d.safe.length none)).toArray = Z2 at *
  generalize d.safe.length = n at *
  generalize d.rd = r at *
  generalize d.wr = x at *
  have HB0 := Lib.hid (below_alloc w (.cells #[.int .i64 (M : Int), .slice b n c, .int .u32 r, .int .i64 x] 25))
  have HX0 := Lib.hid (heap_alloc_new w (.cells #[.int .i64 (M : Int), .slice b n c, .int .u32 r, .int .i64 x] 25))
  go_enter Try.func7, Try.ntmps7
  go_wp2_with (go_at_call 9; refine (HC.out _).mono ?_; rintro e w1 ⟨rfl, hb⟩)
  have HB1 := Lib.hid (HB0.out.trans (hb.mono HB0.out.size))
  have HX1 := Lib.hid ((hb.block w.heap.size (lt_of_block HX0.out)).trans HX0.out)
  have HC1 := Lib.hid (fun W (hbW : Below w1.heap.size w1 W) => HCp.out W (HB1.out.trans (hbW.mono HB1.out.size)))
  have HY := Lib.hid (fun W (hbW : Below w1.heap.size w1 W) => box_cells ((hbW.block w.heap.size (lt_of_block HX1.out)).trans HX1.out))
  clear hb HB0 HX0 HCp HC
  obtain ⟨S, hS⟩ : ∃ S, w.heap.size = S := ⟨_, rfl⟩
  rw [hS] at HB1 HX1 HY ⊢
  have HS := Lib.hid hS
  clear hS
  go_region_held3 (fun w' => w'.cell? ⟨S, 0, none⟩ = some (.int .i64 (M : Int)) ∧ w'.cell? ⟨S, 1, none⟩ = some (.slice b n c) ∧ w'.cell? ⟨S, 2, none⟩ = some (.int .u32 r) ∧ w'.cell? ⟨S, 3, none⟩ = some (.int .i64 x)) (first | exact HY.out _ (by go_grown) | go_keep) (first
    | (go_at_call 24; refine (HC1.out _ (by go_grown)).mono ?_; rintro e w' ⟨rfl, rfl⟩))
  all_goals
    rename_i hK _
    refine hK _ _ ?_
    go_wp2_with fail
    refine bodyPost_ret (by simp [results, Try.f7, go_sem]; rfl) rfl ?_
    refine ⟨⟨_, _, _, _, _⟩, rfl, HF.out _ ⟨_, _, _, _, _⟩ (heap_last _ _ _ ?_) ?_ ?_ ?_ ?_ ?_ ?_ ?_, ?_, ?_⟩
    case refine_10 => 
      rw [HS.out]
      refine HB1.out.trans ?_
      refine Below.mono (B := w1.heap.size) ?_ (by have := HB1.out.size; have := HS.out; omega)
      go_grown
    case refine_9 =>
      have := HB1.out.size
      have := HS.out
      rintro k (rfl | rfl | rfl | rfl | rfl) <;> (simp only; omega)
    all_goals first
      | (simp; done)
      | (simp only [heap_alloc_if, heap_drew]; (repeat first | rw [if_pos (by first | (simp; done) | (simp; omega))] | rw [if_neg (by first | (simp; done) | (simp; omega))]); done)
      | (intro hh; simp only [Array.length_toList] at hh; omega)
end Fld
end Go.Proofs.Ytoighaicdakbkaa
