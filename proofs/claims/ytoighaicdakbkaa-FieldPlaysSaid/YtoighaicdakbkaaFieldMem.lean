/- A field in memory: one object and four rows; new rows. -/
import Derived.Test.YtoighaicdakbkaaFieldKept
namespace Go.Proofs.Ytoighaicdakbkaa
open Go.ChangeShapes Go.WideShapes Go.ChangeAt Go.RowKit
namespace Fld
set_option linter.unusedVariables false
set_option linter.unusedSimpArgs false
/-- where a field lies -/
structure Fa where
  g : Nat
  bs : Nat
  bi : Nat
  bo : Nat
  bp : Nat
def oput (p : Option Int) : List Value := [.int .u32 (p.getD 0), .bool p.isSome]
/-- what was put out, as a row's cells -/
def putC (l : List (Option Int)) : List Value := l.flatMap oput
theorem putC_len : ∀ l : List (Option Int), (putC l).length = l.length * 2
  | [] => rfl
  | p :: l => by have := putC_len l; simp only [putC] at this; simp [putC, oput, this]; omega
theorem putC_one (l : List (Option Int)) : ∀ v ∈ putC l, v.oneCell' = true := by
  intro v hv
  obtain ⟨p, _, hp⟩ := List.mem_flatMap.1 hv
  simp [oput] at hp
  rcases hp with rfl | rfl <;> rfl
theorem putC_at : ∀ (l : List (Option Int)) (i : Nat), i < l.length → (putC l)[i * 2]? = some (.int .u32 ((l.getD i none).getD 0)) ∧ (putC l)[i * 2 + 1]? = some (.bool (l.getD i none).isSome)
  | [], i, h => by simp at h
  | p :: l, 0, _ => by simp [putC, oput]
  | p :: l, i + 1, h => by
    have := putC_at l i (by simpa using h)
    have e : putC (p :: l) = oput p ++ putC l := by simp [putC]
    rw [e]
    rw [show (i + 1) * 2 = i * 2 + 2 from by omega, List.getElem?_append_right (by simp [oput]), List.getElem?_append_right (by simp [oput])]
    simpa [oput] using this
theorem putC_set : ∀ (l : List (Option Int)) (i : Nat) (x : Int), ((putC l).set (i * 2) (.int .u32 x)).set (i * 2 + 1) (.bool true) = if i < l.length then putC (l.set i (some x)) else putC l
  | [], i, x => by simp [putC]
  | p :: l, 0, x => by simp [putC, oput]
  | p :: l, i + 1, x => by
    have := putC_set l i x
    have e : ∀ q m, putC (q :: m) = oput q ++ putC m := fun q m => by simp [putC]
    rw [e, show (i + 1) * 2 = i * 2 + 2 from by omega]
    rw [List.set_append_right _ _ (by simp [oput]), List.set_append_right _ _ (by simp [oput])]
    simp only [oput, List.length_cons, List.length_nil, List.set_cons_succ, Nat.add_sub_cancel, Nat.zero_add]
    rw [show i * 2 + 2 + 1 - (1 + 1) = i * 2 + 1 from by omega, this]
    simp only [List.length_cons, Nat.add_lt_add_iff_right]
    split
    · rw [← List.singleton_append]; simp [putC, oput]
    · simp [putC, oput]
/-- a field: where it lies, and what it is -/
structure Fd (w : World) (a : Fa) (s : Fv) : Prop where
  ok : s.ok
  obj : w.heap[a.g]? = some (.cells #[.int .u32 s.rd, .int .i64 s.wr, .slice (some ⟨a.bs, 0, none⟩) s.safe.length s.safe.length, .slice (some ⟨a.bi, 0, none⟩) s.ins.length s.ins.length, .slice (some ⟨a.bo, 0, none⟩) s.safe.length s.safe.length, .slice (some ⟨a.bp, 0, none⟩) s.safe.length s.safe.length] 56 (0, 0))
  rs : w.heap[a.bs]? = some (.cells (nums s.safe).toArray 23 (0, 0))
  ri : w.heap[a.bi]? = some (.cells (nums s.ins).toArray 23 (0, 0))
  ro : w.heap[a.bo]? = some (.cells (nums s.outs).toArray 23 (0, 0))
  rp : w.heap[a.bp]? = some (.cells (putC s.puts).toArray 61 (0, 0))
  n1 : a.bs ≠ a.bi
  n2 : a.bs ≠ a.bo
  n3 : a.bi ≠ a.bo
section
variable {w w' : World} {a : Fa} {s : Fv}
theorem Fd.gs (h : Fd w a s) : a.g ≠ a.bs ∧ a.g ≠ a.bi ∧ a.g ≠ a.bo ∧ a.g ≠ a.bp ∧ a.bs ≠ a.bp ∧ a.bi ≠ a.bp ∧ a.bo ≠ a.bp :=
  ⟨ne_type h.obj h.rs (by decide), ne_type h.obj h.ri (by decide), ne_type h.obj h.ro (by decide), ne_type h.obj h.rp (by decide), ne_type h.rs h.rp (by decide), ne_type h.ri h.rp (by decide), ne_type h.ro h.rp (by decide)⟩
/-- the field's own blocks -/
def Fa.own (a : Fa) (k : Nat) : Prop := k = a.g ∨ k = a.bs ∨ k = a.bi ∨ k = a.bo ∨ k = a.bp
/-- those that may be written -/
def Fa.wr (a : Fa) (k : Nat) : Prop := k = a.bi ∨ k = a.bo ∨ k = a.bp
theorem Fd.kept (h : Fd w a s) {p : Nat → Prop} (hk : Kept p w w') (hp : ∀ k, a.own k → ¬ p k) : Fd w' a s :=
  ⟨h.ok, hk.same h.obj (hp _ (.inl rfl)), hk.same h.rs (hp _ (.inr (.inl rfl))), hk.same h.ri (hp _ (.inr (.inr (.inl rfl)))), hk.same h.ro (hp _ (.inr (.inr (.inr (.inl rfl))))), hk.same h.rp (hp _ (.inr (.inr (.inr (.inr rfl))))), h.n1, h.n2, h.n3⟩
theorem Fd.below (h : Fd w a s) (hb : Below w.heap.size w w') : Fd w' a s := h.kept (p := fun _ => False) (Kept.of_below hb) (fun _ _ => id)
theorem Fd.drew (h : Fd w a s) : Fd w.drew a s := h.below (below_drewN (Below.refl _ _) 1)
theorem Fd.lt (h : Fd w a s) : ∀ k, a.own k → k < w.heap.size := by
  rintro k (rfl | rfl | rfl | rfl | rfl)
  · exact lt_of_block h.obj
  · exact lt_of_block h.rs
  · exact lt_of_block h.ri
  · exact lt_of_block h.ro
  · exact lt_of_block h.rp
theorem Fd.c0 (h : Fd w a s) : w.cell? ⟨a.g, 0, none⟩ = some (.int .u32 s.rd) := by rw [cell_of_row _ _ _ _ _ _ h.obj]; rfl
theorem Fd.c1 (h : Fd w a s) : w.cell? ⟨a.g, 1, none⟩ = some (.int .i64 s.wr) := by rw [cell_of_row _ _ _ _ _ _ h.obj]; rfl
theorem Fd.c2 (h : Fd w a s) : w.cell? ⟨a.g, 2, none⟩ = some (.slice (some ⟨a.bs, 0, none⟩) s.safe.length s.safe.length) := by rw [cell_of_row _ _ _ _ _ _ h.obj]; rfl
theorem Fd.c3 (h : Fd w a s) : w.cell? ⟨a.g, 3, none⟩ = some (.slice (some ⟨a.bi, 0, none⟩) s.ins.length s.ins.length) := by rw [cell_of_row _ _ _ _ _ _ h.obj]; rfl
theorem Fd.c4 (h : Fd w a s) : w.cell? ⟨a.g, 4, none⟩ = some (.slice (some ⟨a.bo, 0, none⟩) s.safe.length s.safe.length) := by rw [cell_of_row _ _ _ _ _ _ h.obj]; rfl
theorem Fd.c5 (h : Fd w a s) : w.cell? ⟨a.g, 5, none⟩ = some (.slice (some ⟨a.bp, 0, none⟩) s.safe.length s.safe.length) := by rw [cell_of_row _ _ _ _ _ _ h.obj]; rfl
theorem num_cell {b : Nat} {l : List Int} {t : TypeId} {fr : Nat × Nat} (h : w.heap[b]? = some (.cells (nums l).toArray t fr)) (i : Nat) (hi : i < l.length) : w.cell? ⟨b, i, none⟩ = some (.int .u32 (l.getD i 0)) := by
  rw [cell_of_row _ _ _ _ _ _ h, List.getElem?_toArray]; exact nums_at l i hi
theorem num_row {b : Nat} {l : List Int} {t : TypeId} {fr : Nat × Nat} {p : Nat → Prop} (h : w.heap[b]? = some (.cells (nums l).toArray t fr)) (hp : ¬ p b) : NRow p w (some ⟨b, 0, none⟩) l.length l :=
  ⟨rfl, .inr ⟨b, 0, rfl, hp, fun i hi => by rw [Nat.zero_add]; exact num_cell h i hi⟩⟩
theorem num_set {b : Nat} {l : List Int} {t : TypeId} {fr : Nat × Nat} (h : w.heap[b]? = some (.cells (nums l).toArray t fr)) (i : Nat) (x : Int) : (w.setCell ⟨b, i, none⟩ (.int .u32 x)).heap[b]? = some (.cells (nums (l.set i x)).toArray t fr) := by
  rw [row_setCell h]
  congr 2
  apply Array.ext'
  simp [nums, List.map_set]
theorem Fd.safe_at (h : Fd w a s) (i : Nat) (hi : i < s.safe.length) : w.cell? ⟨a.bs, i, none⟩ = some (.int .u32 (s.safe.getD i 0)) := num_cell h.rs i hi
theorem Fd.ins_at (h : Fd w a s) (i : Nat) (hi : i < s.ins.length) : w.cell? ⟨a.bi, i, none⟩ = some (.int .u32 (s.ins.getD i 0)) := num_cell h.ri i hi
theorem Fd.put_at (h : Fd w a s) (i : Nat) (hi : i < s.safe.length) : w.cell? ⟨a.bp, i * 2, none⟩ = some (.int .u32 ((s.puts.getD i none).getD 0)) ∧ w.cell? ⟨a.bp, i * 2 + 1, none⟩ = some (.bool (s.puts.getD i none).isSome) := by
  have := putC_at s.puts i (by rw [h.ok.sp]; exact hi)
  rw [cell_of_row _ _ _ _ _ _ h.rp, cell_of_row _ _ _ _ _ _ h.rp, List.getElem?_toArray, List.getElem?_toArray]
  exact this
/-- other input words, nothing put out -/
theorem Fd.latched (h : Fd w a s) (l : List Int) (hl : l.length = s.ins.length) : Fd ((w.setRow a.bi (nums l).toArray).setRow a.bp (putC (List.replicate s.safe.length none)).toArray) a (latchF s l) := by
  obtain ⟨q1, q2, q3, q4, q5, q6, q7⟩ := h.gs
  have hok := latchF_ok h.ok l
  have n1 := h.n1
  have n2 := h.n2
  have n3 := h.n3
  unfold latchF at hok ⊢
  rw [if_pos hl] at hok ⊢
  refine ⟨hok, ?_, ?_, ?_, ?_, ?_, h.n1, h.n2, h.n3⟩
  · rw [setRow_other _ _ _ _ q4, setRow_other _ _ _ _ q2, h.obj]; simp only [hl]
  · rw [setRow_other _ _ _ _ q5, setRow_other _ _ _ _ n1]; exact h.rs
  · rw [setRow_other _ _ _ _ q6]; exact setRow_heap _ _ _ _ _ _ h.ri
  · rw [setRow_other _ _ _ _ q7, setRow_other _ _ _ _ (fun e => n3 e.symm)]; exact h.ro
  · exact setRow_heap _ _ _ _ _ _ (by rw [setRow_other _ _ _ _ (fun e => q6 e.symm)]; exact h.rp)
/-- an output word put out -/
theorem Fd.put (h : Fd w a s) (i : Nat) (hi : i < s.safe.length) (x : Int) : Fd ((w.setCell ⟨a.bp, i * 2, none⟩ (.int .u32 x)).setCell ⟨a.bp, i * 2 + 1, none⟩ (.bool true)) a { s with puts := s.puts.set i (some x) } := by
  obtain ⟨q1, q2, q3, q4, q5, q6, q7⟩ := h.gs
  have hk : Kept (fun k => k = a.bp) w ((w.setCell ⟨a.bp, i * 2, none⟩ (.int .u32 x)).setCell ⟨a.bp, i * 2 + 1, none⟩ (.bool true)) := ((Kept.refl (fun k => k = a.bp) w).setCell (.inl rfl) _).setCell (.inl rfl) _
  refine ⟨⟨h.ok.rd, h.ok.wr, h.ok.si, h.ok.ss, h.ok.so, by simpa using h.ok.sp⟩, hk.same h.obj q4, hk.same h.rs q5, hk.same h.ri q6, hk.same h.ro q7, ?_, h.n1, h.n2, h.n3⟩
  rw [row_setCell (row_setCell h.rp)]
  congr 2
  apply Array.ext'
  have := putC_set s.puts i x
  rw [if_pos (by rw [h.ok.sp]; exact hi)] at this
  simpa using this
/-- other output words -/
theorem Fd.outs (h : Fd w a s) (l : List Int) (hl : l.length = s.outs.length) (hk : Kept (fun k => k = a.bo) w w') (hr : w'.heap[a.bo]? = some (.cells (nums l).toArray 23 (0, 0))) : Fd w' a { s with outs := l } := by
  obtain ⟨q1, q2, q3, q4, q5, q6, q7⟩ := h.gs
  exact ⟨⟨h.ok.rd, h.ok.wr, h.ok.si, h.ok.ss, hl.trans h.ok.so, h.ok.sp⟩, hk.same h.obj q3, hk.same h.rs h.n2, hk.same h.ri h.n3, hr, hk.same h.rp (fun e => q7 e.symm), h.n1, h.n2, h.n3⟩
/-- nothing put out -/
theorem Fd.cleared (h : Fd w a s) : Fd (w.setRow a.bp (putC (List.replicate s.safe.length none)).toArray) a { s with puts := List.replicate s.safe.length none } := by
  obtain ⟨q1, q2, q3, q4, q5, q6, q7⟩ := h.gs
  refine ⟨⟨h.ok.rd, h.ok.wr, h.ok.si, h.ok.ss, h.ok.so, by simp⟩, ?_, ?_, ?_, ?_, setRow_heap _ _ _ _ _ _ h.rp, h.n1, h.n2, h.n3⟩
  · rw [setRow_other _ _ _ _ q4]; exact h.obj
  · rw [setRow_other _ _ _ _ q5]; exact h.rs
  · rw [setRow_other _ _ _ _ q6]; exact h.ri
  · rw [setRow_other _ _ _ _ q7]; exact h.ro
end
/-! ### New rows -/
theorem uU : Try.prog.underlying 22 = some (.slice 23) := Try.underlying22
theorem uP : Try.prog.underlying 54 = some (.slice 61) := Try.underlying54
theorem sU : (Try.prog.info? 23).map (·.size) = some 1 := by kernel_rfl
theorem sP : (Try.prog.info? 61).map (·.size) = some 2 := by kernel_rfl
theorem infoU : (Try.prog.info? 23).map (fun i => (i.zero, i.size, i.bytes)) = some (some (.int .u32 0), 1, 4) := by kernel_rfl
theorem infoP : (Try.prog.info? 61).map (fun i => (i.zero, i.size, i.bytes)) = some (some (.agg #[.int .u32 0, .bool false]), 2, 8) := by kernel_rfl
theorem made_nums (n k : Nat) (h : k = 1) : Go.madeCells (Value.int .u32 0).cells (n * k) = (nums (List.replicate n 0)).toArray := by
  subst h
  apply Array.ext'
  simp [Go.madeCells, Value.cells, nums]
  apply List.ext_getElem
  · simp
  · intro i h1 h2
    simp [show i % 1 = 0 from Nat.mod_one i]
theorem putC_zero (n : Nat) : ∀ i, (putC (List.replicate n none))[i]? = if i < n * 2 then some (if i % 2 = 0 then .int .u32 0 else .bool false) else none := by
  intro i
  split
  · rename_i h
    have := putC_at (List.replicate n none) (i / 2) (by simp; omega)
    have e : (List.replicate n (none : Option Int)).getD (i / 2) none = none := by
      rw [List.getD_eq_getElem?_getD, List.getElem?_replicate]; split <;> rfl
    rw [e] at this
    rcases Nat.mod_two_eq_zero_or_one i with h2 | h2
    · rw [if_pos h2, show i = i / 2 * 2 from by omega]
      exact this.1
    · rw [if_neg (by omega), show i = i / 2 * 2 + 1 from by omega]
      exact this.2
  · rename_i h
    rw [List.getElem?_eq_none]
    rw [putC_len]; simp; omega
theorem made_puts (n k : Nat) (h : k = 2) : Go.madeCells (Value.agg #[.int .u32 0, .bool false]).cells (n * k) = (putC (List.replicate n none)).toArray := by
  subst h
  apply Array.ext_getElem?
  intro i
  rw [show (putC (List.replicate n none)).toArray[i]? = (putC (List.replicate n none))[i]? from List.getElem?_toArray .., putC_zero]
  simp only [Go.madeCells, Value.cells, Array.getElem?_map, Array.getElem?_range]
  split
  · rcases Nat.mod_two_eq_zero_or_one i with h2 | h2
    · simp [h2]
    · simp [h2]
  · simp
theorem zero_puts (n : Nat) : (Builtin.zeroCells (Value.agg #[.int .u32 0, .bool false]).cells n).toList = putC (List.replicate n none) := by
  have := made_puts n 2 rfl
  unfold Go.madeCells at this
  unfold Builtin.zeroCells
  have h2 : (Value.agg #[.int .u32 0, .bool false]).cells.size = 2 := rfl
  rw [h2] at this ⊢
  rw [this]
theorem run_make_nums (w : World) (n : Nat) (hn : n ≤ 1000000) :
    (Instr.makeSlice 22 (.int .i64 (n : Int)) (.int .i64 (n : Int))).run Try.prog w = .ok (.slice (some ⟨w.heap.size, 0, none⟩) n n) (w.alloc (.cells (nums (List.replicate n 0)).toArray 23)) := by
  obtain ⟨i, hi, hz, hs, hb⟩ := info_parts infoU
  have := run_make (P := Try.prog) w 22 23 i (.int .u32 0) uU hi hz .i64 .i64 (n : Int) (n : Int) (by omega) (by omega) (by rw [hb]; omega) (by omega)
  rw [this, Int.toNat_natCast, made_nums n i.size hs]
theorem run_make_puts (w : World) (n : Nat) (hn : n ≤ 1000000) :
    (Instr.makeSlice 54 (.int .i64 (n : Int)) (.int .i64 (n : Int))).run Try.prog w = .ok (.slice (some ⟨w.heap.size, 0, none⟩) n n) (w.alloc (.cells (putC (List.replicate n none)).toArray 61)) := by
  obtain ⟨i, hi, hz, hs, hb⟩ := info_parts infoP
  have := run_make (P := Try.prog) w 54 61 i _ uP hi hz .i64 .i64 (n : Int) (n : Int) (by omega) (by omega) (by rw [hb]; omega) (by omega)
  rw [this, Int.toNat_natCast, made_puts n i.size hs]
theorem row_src {p : Nat → Prop} {w : World} {a : Option Addr} {n : Nat} {l : List Int} (h : NRow p w a n l) : n = 0 ∨ ∃ x, a = some x ∧ ∀ j v, (nums l)[j]? = some v → w.cell? (x.add j) = some v := by
  obtain ⟨h1, h2⟩ := h
  rcases h2 with h2 | ⟨b, off, rfl, _, hc⟩
  · exact .inl h2
  · refine .inr ⟨_, rfl, fun j v hj => ?_⟩
    have hj' : j < l.length := by have := (List.getElem?_eq_some_iff.1 hj).1; simpa [nums] using this
    rw [Addr.add_mid b off j, hc j (by omega), ← hj]
    exact (nums_at l j hj').symm
theorem run_copy_nums (w : World) (g n dCap cap : Nat) (a : Option Addr) (l bl : List Int) (t ty : TypeId) {p : Nat → Prop} (hs : NRow p w a n l) (hg : w.heap[g]? = some (.cells (nums bl).toArray t (0, 0))) (hb : bl.length = n) :
    (Builtin.copy_ #[22, 22] ty #[.slice (some ⟨g, 0, none⟩) n dCap, .slice a n cap]).run Try.prog w = .ok (goInt n) (w.setRow g (nums l).toArray) :=
  run_copy_whole w _ ty _ 1 g n dCap cap a _ t (nums l) uU sU hg (by rw [nums_len, hs.1]; omega) (by simp [nums_len, hb]) (row_src hs) (nums_one l)
theorem run_clear_puts (w : World) (g n c : Nat) (l : List (Option Int)) (t ty : TypeId) (hg : w.heap[g]? = some (.cells (putC l).toArray t (0, 0))) (hl : l.length = n) :
    (Builtin.clear_ #[54] ty #[.slice (some ⟨g, 0, none⟩) n c]).run Try.prog w = .ok (.tuple #[]) (w.setRow g (putC (List.replicate n none)).toArray) :=
  run_clear_whole w _ ty _ g n c (.agg #[.int .u32 0, .bool false]) _ t _ uP (fun w => by kernel_rfl) hg (zero_puts n) (by simp [putC_len, hl]) (putC_one _)
end Fld
end Go.Proofs.Ytoighaicdakbkaa
