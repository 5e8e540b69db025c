/- The statement CrcKeeps holds: whatever the input, the call answers true, and what was handed in reads as it did. No conditions beyond the statement's own. The frame around the walk follows the guide's shell. -/
import Derived.Test.YtfjjfddlnbaloaaCrcW4
import Derived.Laws.BytesArg
import Derived.Laws.IdiomStrings
import Derived.WalkKit
import Derived.ProofKit
import Derived.OpenShut
import Derived.ShutString
import Derived.ChangeOld
import Derived.Below
namespace Go.Proofs.Ytfjjfddlnbaloaa.crcKeeps
open Go.ChangeShapes Go.WideShapes Go.ChangeAt Go.RowKit
open Go.ChangeMaps (open_string shut_string)
set_option linter.unusedVariables false

theorem own : ownKnob Try.prog.godebug = none := by kernel_rfl
theorem laidOut : laidOutB Try.prog = true := by kernel_rfl

theorem row_string (w : World) (a : Option Addr) (n cap : Nat) (l : List Int) (h : Row w a n l) :
    (convert 26 9 (.slice a n cap)).run Try.prog w = .ok (.string (strOfNums l)) w := by
  obtain ⟨h1, h2, h3⟩ := h
  rcases h3 with rfl | ⟨b, off, rfl, hc⟩
  · have hl : l = [] := List.eq_nil_of_length_eq_zero h1
    subst hl
    cases a with
    | none => rw [run_convert_bytes_nil w 26 5 Try.underlying26 Try.underlying5 0 cap 9 Try.underlying9]; rfl
    | some x =>
      rw [run_convert_bytes_string w 26 9 5 _ 0 cap Try.underlying26 Try.underlying5 Try.underlying9]
      have hl := run_loadCells_list (P := Try.prog) w x [] (fun j v hj => by simp at hj)
      rw [run_bytesToString w x 0 cap [] (by simpa using hl)]
      rfl
  · exact run_convert_bytes_arg w 26 5 Try.underlying26 Try.underlying5 b off n cap l h1 hc 9 Try.underlying9

theorem row_back (w : World) (l : List Int) (cap : Nat) (fr : Nat × Nat) (h : ∀ z ∈ l, 0 ≤ z ∧ z ≤ 255) :
    Row (w.alloc (.cells (bytesRow (strOfNums l) cap) 5 fr)) (some ⟨w.heap.size, 0, none⟩) (strOfNums l).size l := by
  refine ⟨(strOfNums_size l).symm, h, Or.inr ⟨w.heap.size, 0, rfl, fun i hi => ?_⟩⟩
  rw [cell_of_row _ _ _ _ _ _ (heap_alloc_new w _)]
  rw [strOfNums_size] at hi
  rw [Nat.zero_add, bytesRow_at _ _ _ (by simpa [strOfNums] using hi)]
  have hz := h l[i] (List.getElem_mem _)
  simp [strOfNums, hi]
  omega

theorem row_drew {w : World} {a : Option Addr} {n : Nat} {l : List Int} (h : Row w a n l) : Row w.drew a n l := h

theorem walk (a0 : Option Addr) (len0 cap0 : Nat) (z0 : List Int) (a1 : Int) (w : World) (w0 : IsRow .u8 w a0 len0 cap0 z0) (w1 : (Lit.int .u32 a1).wf = true) :
    Calls Try.prog 8 #[.slice a0 len0 cap0, .int .u32 a1] w fun e w' => e = .returned (.bool true) ∧ Below w.heap.size w w' := by
  obtain ⟨hlen, hcap⟩ := w0.len
  have hrow := w0.row
  have hby := hrow.2.1
  have hl1 := hrow.1
  generalize z0.take len0 = l at *
  have HRow := Lib.hid hrow
  have HBy := Lib.hid hby
  have HSz : Hid ((strOfNums l).size = len0) := by show _ = _; rw [strOfNums_size]; exact hl1
  clear w0 w1 hrow hby hl1
  by_cases hbig : 100000 < len0
  · go_enter Try.func8, Try.ntmps8
    go_wp2_with fail
    refine (works_any _).mono ?_
    rintro e w1 ⟨rfl, hb1⟩
    go_wp2_with fail
    go_ret
    exact ⟨rfl, hb1⟩
  · have hs1 := row_string w a0 len0 cap0 l HRow.out
    have kB := fun (w : World) => run_bytes_of_string (P := Try.prog) w 9 26 5 (strOfNums l) Try.underlying9 Try.underlying26 Try.underlying5
    go_enter Try.func8, Try.ntmps8
    go_wp2_with fail
    clear hs1
    refine (sum_any _ _ _ l _ (by omega) HRow.out).mono ?_
    rintro e w1 ⟨rfl, hb1⟩
    go_wp2_with fail
    refine (more_any _ _ _ _ l _ (by omega) (HRow.out.below hb1 (Nat.le_refl _))).mono ?_
    rintro e w2 ⟨rfl, hb2⟩
    have hb := hb1.trans (hb2.mono hb1.size)
    have hs2 := row_string w2 a0 len0 cap0 l (HRow.out.below hb (Nat.le_refl _))
    go_wp2_with fail
    clear hs2
    refine (sum_any _ _ _ l _ (by have := HSz.out; omega) (row_drew (row_back w2 l _ _ HBy.out))).mono ?_
    rintro e w3 ⟨rfl, hb3⟩
    have hb3' : Below w.heap.size w w3 := (hb.alloc hb.size _).drew.trans (hb3.mono (B' := w.heap.size) (by have := hb.size; simp; omega))
    clear hb3
    go_wp2_with fail
    refine (more_any _ _ _ _ l _ (by have := HSz.out; omega) (row_drew (row_back w3 l _ _ HBy.out))).mono ?_
    rintro e w4 ⟨rfl, hb4⟩
    have hb4' : Below w.heap.size w w4 := (hb3'.alloc hb3'.size _).drew.trans (hb4.mono (B' := w.heap.size) (by have := hb3'.size; simp; omega))
    clear hb4
    go_wp2_with fail
    refine (works_any _).mono ?_
    rintro e w5 ⟨rfl, hb5⟩
    go_wp2_with fail
    go_ret
    exact ⟨rfl, hb4'.trans (hb5.mono hb4'.size)⟩

set_option maxRecDepth 100000 in
theorem lifted (os : Os) (started : os.Started) (H : Type) (enc : TypeId × Value → H) :
    ReturnsInHanded {} Try.checked os 8 .any (Rows.crcKeepsSpec.pre6 enc Try.prog Try.f8 Rows.crcKeepsRow.domain false) (Rows.crcKeepsSpec.post enc Try.prog Try.f8 false true false false) := by
  refine returnsInHanded_of_change (C := Try.checked) own started (by kernel_rfl) Try.func8
    (ChangeSpec.witness6 (enc := enc) (C := Try.checked) false ⟨#[], #[.slice none 0 0, .int .u32 0], []⟩ 8 (by kernel_rfl) (by kernel_rfl) (by kernel_rfl) (by kernel_rfl)) ?_
  intro W base args ds gs before hval0 hW hcnd _
  have hval : ∀ (j : Nat) t v, Try.f8.params[j]? = some t → args[j]? = some v → Value.okWide Try.prog W .any base t v := hval0
  have hW' := hW
  obtain ⟨p, q, hA0, hV, rfl, hfz, hnd⟩ := hW
  have hA : DataW.TrodAll enc Try.prog W 0 (fun _ => true) true Try.f8.params.toList args.toList ds p := hA0
  rw [Try.params8] at hA hval
  obtain ⟨v0, vs0, d0, ds0, p0, q0, hargs, rfl, rfl, h0, r0⟩ := trodAll_cons hA
  obtain ⟨v1, vs1, d1, ds1, p1, q1, rfl, rfl, rfl, h1, r1⟩ := trodAll_cons r0
  obtain ⟨rfl, rfl, rfl⟩ := trodAll_nil r1
  obtain rfl : args = #[v0, v1] := by cases args; simp_all
  obtain ⟨rfl, rfl⟩ := trodVars_none hV
  obtain ⟨a0, len0, cap0, rfl⟩ := okWide_slice Try.underlying26 (hval 0 26 v0 rfl rfl)
  have k0 := h0
  have lt0 : ∀ x ∈ p0, x.block < W.heap.size := by obtain ⟨m, hm⟩ := k0; exact DataW.trod_lt m _ _ _ hm
  obtain ⟨z0, w0⟩ : ∃ zs, IsRow .u8 W a0 len0 cap0 zs := by
    obtain ⟨fuel, hf⟩ := h0
    rcases open_ints Try.underlying26 Try.underlying5 (by kernel_rfl) hf with ⟨hcs, _⟩ | ⟨x, l, c, zs, hcs, _, hl, hm, hz, _, hcell, hwz⟩
    · simp [Value.cells] at hcs
      obtain ⟨rfl, rfl, rfl⟩ := hcs
      exact ⟨[], .inl ⟨rfl, rfl, rfl, rfl⟩⟩
    · simp [Value.cells] at hcs
      obtain ⟨rfl, rfl, rfl⟩ := hcs
      exact ⟨zs, .inr ⟨_, rfl, hl, hm, by simpa using hz, hcell, hwz⟩⟩
  obtain ⟨a1, rfl, rfl, rfl, w1⟩ := open_int Try.underlying23 (hval 1 23 v1 rfl rfl) h1
  clear hA0 hval0
  refine (walk a0 len0 cap0 z0 a1 W w0 w1).mono fun e W' ⟨he, bel⟩ => ?_
  subst he
  exact ⟨_, rfl, _, _, _, [], _, [], hW', trodAll_mk1 (shut_bool Try.underlying4 _), (trodAll_cons_mk (Below.trod laidOut (by kernel_rfl) (of_decide_eq_true (by kernel_rfl)) k0 bel lt0) (trodAll_cons_mk (shut_int Try.underlying23 w1) trodAll_mk0)), rfl, bel.frame _, fun h => by cases h⟩

theorem over : Rows.crcKeepsRow.holds Try.pinned (OpenSpec.ofChange Rows.crcKeepsSpec) :=
  OpenClaim.holds_of_wide 8 Try.f8 rfl rfl rfl rfl rfl rfl rfl ⟨rfl, rfl, rfl, rfl, rfl⟩ rfl rfl rfl rfl rfl (by kernel_rfl) Try.func8 (by kernel_rfl)
    (of_decide_eq_true (by kernel_rfl)) (by unfold Func.isWrapper; first | (rw [if_pos (by decide +kernel)]; kernel_rfl) | (rw [if_neg (by decide +kernel)]; exact ⟨rfl, rfl⟩))
    (fun os started H enc _ => lifted os started H enc)

theorem proved : Rows.CrcKeepsSaid := over
#print axioms proved
end Go.Proofs.Ytfjjfddlnbaloaa.crcKeeps
