/- The document's Drop. (Made by tools/gen_portr4.py.) -/
import Derived.Test.YtcapiaempfjmeaaPortR3
import Derived.Test.YtcapiaempfjmeaaRightsTmps
namespace Go.Proofs.Ytcapiaempfjmeaa
open Go.ChangeShapes Go.WideShapes Go.ChangeAt Go.RowKit
namespace Prt
set_option linter.unusedVariables false
set_option linter.unusedSimpArgs false
attribute [local go_sem] Oper.semAt_some
/-- a new row of these words, told -/
def rowU (S0 : Nat) (M : List Int) (n : Nat) : Value → World → Prop := fun v X => ∃ nb cap, v = .slice (some ⟨nb, 0, none⟩) n cap ∧ S0 ≤ nb ∧ ∃ cs : Array Value, X.heap[nb]? = some (.cells cs 33 (0, 0)) ∧ ∀ j, j < M.length → cs[j]? = some (.int .u32 (M.getD j 0))
theorem rowU_stable (S0 : Nat) (M : List Int) (n : Nat) : Posts.Stable Posts.Ext (rowU S0 M n) := by
  rintro v X Y ⟨nb, cap, h1, h2, cs, h3, h4⟩ hE
  exact ⟨nb, cap, h1, h2, cs, (Posts.Ext.blk hE nb (lt_of_block h3)).trans h3, h4⟩
theorem made_words (n k : Nat) (h : k = 1) : Go.madeCells (Value.int .u32 0).cells (n * k) = (nums (List.replicate n 0)).toArray := by
  subst h
  apply Array.ext'
  simp [Go.madeCells, Value.cells, nums]
  apply List.ext_getElem
  · simp
  · intro i h1 h2
    simp [show i % 1 = 0 from Nat.mod_one i]
theorem infoW : (Try.prog.info? 33).map (fun i => (i.zero, i.size, i.bytes)) = some (some (.int .u32 0), 1, 4) := by kernel_rfl
theorem run_make_words (w : World) (n : Nat) (hn : n ≤ 1000000) :
    (Instr.makeSlice 49 (.int .i64 (n : Int)) (.int .i64 (n : Int))).run Try.prog w = .ok (.slice (some ⟨w.heap.size, 0, none⟩) n n) (w.alloc (.cells (nums (List.replicate n 0)).toArray 33)) := by
  obtain ⟨i, hi, hz, hs, hb⟩ := info_parts infoW
  have := run_make (P := Try.prog) w 49 33 i (.int .u32 0) Try.underlying49 hi hz .i64 .i64 (n : Int) (n : Int) (by omega) (by omega) (by rw [hb]; omega) (by omega)
  rw [this, Int.toNat_natCast, made_words n i.size hs]
def zerB (b : Bx) : Bx := { b with dr := List.replicate 16 0 }
theorem drop_two (part : Int) (l : List Bx) : (byL unsB part l).map (ifB zerB part) = byL dropB part l := by
  unfold byL
  rw [List.map_map]
  apply List.map_congr_left
  intro b _
  show ifB zerB part (if wrt b.d part = true then unsB b else b) = _
  by_cases h : wrt b.d part = true
  · rw [if_pos h, if_pos h]
    unfold ifB
    rw [if_pos (by exact h)]
    rfl
  · rw [if_neg h, if_neg h]
    unfold ifB
    rw [if_neg h]
/-- what is written, wherever the rows lie now -/
def RDoneE (r n : Nat) (a0 : Option Addr) (c0 : Nat) (l : List Bx) (T : Nat → Option Nat) (v : Value) (V : World) (e : Ending) (V' : World) : Prop := e = .returned v ∧ RfE r n a0 c0 l T V.heap.size V V'
section
variable {A0 : RA} {n : Nat} {a0 : Option Addr} {c0 : Nat} {l0 : List Bx} {T : Nat → Option Nat} {V : World} {ds : List Df}
set_option maxHeartbeats 4000000 in
theorem rDrop_any (h : Rf A0 n a0 c0 l0 T V) (hf : FRow (fun k => T k ≠ none) V a0 n ds) (hd : ∀ i, i < n → (l0[i]!).d = ds[i]!) (part : Int) :
    Calls Try.prog 24 #[.pointer (some ⟨A0.r, 0, none⟩), .int .i64 part] V (RDoneE A0.r n a0 c0 (byL dropB part l0) T (.tuple #[]) V) := by
  have HU := Lib.hid (rUnsend_any h hf hd part)
  have HF := Lib.hid hf
  have HB := Lib.hid (drop_two part l0)
  have HD : Hid (∀ i, i < n → ((byL unsB part l0)[i]!).d = ds[i]!) := fun i hi => by
    unfold byL
    rw [map_at _ _ _ (by rw [h.len]; exact hi)]
    split
    · exact hd i hi
    · exact hd i hi
  have HL : Hid ((byL unsB part l0).length = n) := by show _ = _; rw [byL_len, h.len]
  have hn16 := h.n16
  clear h hf hd
  go_enter Try.func24, Try.ntmps24
  go_wp2_with fail
  refine HU.out.mono ?_
  rintro e V1 ⟨rfl, hr, hk⟩
  have HR := Lib.hid hr
  have HK := Lib.hid hk
  generalize byL unsB part l0 = l at *
  clear hr hk HU
  go_wp2_with fail
  go_loopw [4] (fun i wr => ∃ (k : Nat) (A : RA) (T' : Nat → Option Nat), k ≤ n ∧ i = .int .i64 k ∧ A.r = A0.r ∧ Rf A n a0 c0 (foldK (ifB zerB part) (List.range k) l) T' wr ∧ (∀ x, x < V.heap.size → T' x = T x) ∧ Kept (fun k => T k ≠ none) V wr) (fun i _ => n - (intOf i).toNat)
  case atStart => exact ⟨0, A0, T, by omega, rfl, rfl, HR.out, fun _ _ => rfl, HK.out⟩
  case round =>
    clear HR HK
    obtain ⟨k, A, T', hk, rfl, hAr, hr, hTo, hkw⟩ := hrel
    have HR := Lib.hid hr
    have HK := Lib.hid hkw
    have HAr := Lib.hid hAr
    have HTo : Hid (∀ x, x < V.heap.size → T' x = T x) := hTo
    obtain ⟨o0, o1, o2, o3, o4⟩ := hr.five
    rw [← hAr]
    clear hr hkw hAr hTo
    by_cases hlt : k < n
    · have k0 : (0 : Int) ≤ k := by omega
      have k1 : (k : Int) < n := by omega
      have hdd : decide ((k : Int) < (n : Int)) = true := decide_eq_true (by omega)
      have hd2 : decide (k < n) = true := decide_eq_true hlt
      obtain ⟨b, off, rfl, _, hc⟩ := (HF.out.kept HK.out).2.2.resolve_left (by omega)
      obtain ⟨q0, q1, q2⟩ := hc k hlt
      have hkl : k < l.length := by rw [HL.out]; exact hlt
      have HEk := Lib.hid (foldK_range (ifB zerB part) l k hkl)
      have e1 := foldK_next (ifB zerB part) (List.range k) k l
      rw [← List.range_succ, HEk.out] at e1
      have HNx := Lib.hid e1
      have hw : ifB zerB part l[k]! = if (part == (ds[k]!).wr) = true then zerB l[k]! else l[k]! := by unfold ifB wrt; rw [HD.out k hlt]
      have HW := Lib.hid hw
      have hx := (HR.out.hx (by omega)).2.2.1
      rw [hx] at o3
      obtain ⟨wn, hwd⟩ : ∃ wn, wd l[k]! = wn := ⟨_, rfl⟩
      have HWd := Lib.hid hwd
      have hok := HR.out.at hlt
      rw [HEk.out] at hok
      have hwd2 : (ds[k]!).w = (wn : Int) := by
        have h1 := hok.w
        have h2 := HD.out k hlt
        rw [← h2, ← hwd]; unfold wd; omega
      have hwn : wn ≤ 1000000 := by
        have h1 := hok.w
        rw [← hwd]; unfold wd; omega
      rw [hwd2] at q0
      generalize (ds[k]!).wr = z1 at *
      clear hc e1 hw hx hkl hwd hok hwd2
      by_cases hpw : part = z1
      · have e5 : (z1 == part) = true := by simpa using hpw.symm
        have HZ : Hid (ifB zerB part l[k]! = zerB l[k]!) := HW.out.trans (if_pos (by simpa using hpw))
        clear hpw
        have hE := Posts.ext_rel
        have hst1 := rowU_stable wr.heap.size (List.replicate wn 0) wn
        go_wp2_with fail
        refine (wpIn_wide (n := 0)).1 (Posts.wpIn_region_tail hE 15 10 (Posts.At [Posts.is (.pointer (some ⟨A.r, 0, none⟩)), Posts.is (.pointer (some ⟨A.r, 0, none⟩)), Posts.is (.pointer (some ⟨A.r, 3, none⟩)), Posts.is (.slice (some ⟨A.bd, 0, none⟩) n A.cd), Posts.is (.int .i64 (k : Int)), Posts.is (.pointer (some ⟨A.r, 0, none⟩)), Posts.is (.pointer (some ⟨A.r, 0, none⟩)), Posts.is (.pointer (some ⟨A.r, 0, none⟩)), Posts.is (.slice (some ⟨b, off, none⟩) n c0), Posts.is (.int .i64 (k : Int)), Posts.is (.pointer (some ⟨b, off + k * 3, none⟩)), Posts.is (.pointer (some ⟨b, off + k * 3, none⟩)), Posts.is (.int .i64 (wn : Int)), rowU wr.heap.size (List.replicate wn 0) wn, Posts.is (.pointer (some ⟨A.bd, k, none⟩))]) (fun _ _ => True) (by kernel_rfl) (by decide) (by kernel_rfl) (by kernel_rfl) (by kernel_rfl)
          (Posts.stable_at _ (by repeat' (first | exact trivial | (refine And.intro ?_ ?_) | exact Posts.is_stable _ | exact Posts.on_stable _ _ | assumption))) trivial ?_ ?_)
        · refine ⟨?_, ?_, ?_, ?_, ?_, ?_, ?_, ?_, ?_, ?_, ?_, ?_, ?_, ?_, ?_, trivial⟩
          · intro a X hX hS hD hJ hU
            have hb := Kept.of_below (p := fun _ => False) hX
            have x0 := hb.cell o0 id
            have x3 := hb.cell o3 id
            have xq := hb.cell q0 id
            have d0 := Posts.slot (show a.eval (.tmp 0) = .pointer (some ⟨A.r, 0, none⟩) from hS.other 0 rfl)
            exact Posts.op_value (fun _ => trivial) rfl rfl (by intro c h; cases h) rfl (by rw [hS.size]; simp) (v := .pointer (some ⟨A.r, 0, none⟩)) (by simp [execOp, d0,  go_sem, x0, x3, xq, k0, k1, hlt]) rfl (hE.refl _) trivial
          · intro a X hX hS hD hJ hU
            have hb := Kept.of_below (p := fun _ => False) hX
            have x0 := hb.cell o0 id
            have x3 := hb.cell o3 id
            have xq := hb.cell q0 id
            have d27 := Posts.slot (show a.eval (.tmp 27) = .pointer (some ⟨A.r, 0, none⟩) from hD.1)
            exact Posts.op_value (fun _ => trivial) rfl rfl (by intro c h; cases h) rfl (by rw [hS.size]; simp) (v := .pointer (some ⟨A.r, 0, none⟩)) (by simp [execOp, d27,  go_sem, x0, x3, xq, k0, k1, hlt]) rfl (hE.refl _) trivial
          · intro a X hX hS hD hJ hU
            have hb := Kept.of_below (p := fun _ => False) hX
            have x0 := hb.cell o0 id
            have x3 := hb.cell o3 id
            have xq := hb.cell q0 id
            have d28 := Posts.slot (show a.eval (.tmp 28) = .pointer (some ⟨A.r, 0, none⟩) from hD.1)
            exact Posts.op_value (fun _ => trivial) rfl rfl (by intro c h; cases h) rfl (by rw [hS.size]; simp) (v := .pointer (some ⟨A.r, 3, none⟩)) (by simp [execOp, d28,  go_sem, x0, x3, xq, k0, k1, hlt]) rfl (hE.refl _) trivial
          · intro a X hX hS hD hJ hU
            have hb := Kept.of_below (p := fun _ => False) hX
            have x0 := hb.cell o0 id
            have x3 := hb.cell o3 id
            have xq := hb.cell q0 id
            have d29 := Posts.slot (show a.eval (.tmp 29) = .pointer (some ⟨A.r, 3, none⟩) from hD.1)
            exact Posts.op_value (fun _ => trivial) rfl rfl (by intro c h; cases h) rfl (by rw [hS.size]; simp) (v := .slice (some ⟨A.bd, 0, none⟩) n A.cd) (by simp [execOp, d29,  go_sem, x0, x3, xq, k0, k1, hlt]) rfl (hE.refl _) trivial
          · intro a X hX hS hD hJ hU
            have hb := Kept.of_below (p := fun _ => False) hX
            have x0 := hb.cell o0 id
            have x3 := hb.cell o3 id
            have xq := hb.cell q0 id
            have d4 := Posts.slot (show a.eval (.tmp 4) = .int .i64 (k : Int) from hS.other 4 rfl)
            exact Posts.op_value (fun _ => trivial) rfl rfl (by intro c h; cases h) rfl (by rw [hS.size]; simp) (v := .int .i64 (k : Int)) (by simp [execOp, d4,  go_sem, x0, x3, xq, k0, k1, hlt]) rfl (hE.refl _) trivial
          · intro a X hX hS hD hJ hU
            have hb := Kept.of_below (p := fun _ => False) hX
            have x0 := hb.cell o0 id
            have x3 := hb.cell o3 id
            have xq := hb.cell q0 id
            have d0 := Posts.slot (show a.eval (.tmp 0) = .pointer (some ⟨A.r, 0, none⟩) from hS.other 0 rfl)
            exact Posts.op_value (fun _ => trivial) rfl rfl (by intro c h; cases h) rfl (by rw [hS.size]; simp) (v := .pointer (some ⟨A.r, 0, none⟩)) (by simp [execOp, d0,  go_sem, x0, x3, xq, k0, k1, hlt]) rfl (hE.refl _) trivial
          · intro a X hX hS hD hJ hU
            have hb := Kept.of_below (p := fun _ => False) hX
            have x0 := hb.cell o0 id
            have x3 := hb.cell o3 id
            have xq := hb.cell q0 id
            have d32 := Posts.slot (show a.eval (.tmp 32) = .pointer (some ⟨A.r, 0, none⟩) from hD.1)
            exact Posts.op_value (fun _ => trivial) rfl rfl (by intro c h; cases h) rfl (by rw [hS.size]; simp) (v := .pointer (some ⟨A.r, 0, none⟩)) (by simp [execOp, d32,  go_sem, x0, x3, xq, k0, k1, hlt]) rfl (hE.refl _) trivial
          · intro a X hX hS hD hJ hU
            have hb := Kept.of_below (p := fun _ => False) hX
            have x0 := hb.cell o0 id
            have x3 := hb.cell o3 id
            have xq := hb.cell q0 id
            have d33 := Posts.slot (show a.eval (.tmp 33) = .pointer (some ⟨A.r, 0, none⟩) from hD.1)
            exact Posts.op_value (fun _ => trivial) rfl rfl (by intro c h; cases h) rfl (by rw [hS.size]; simp) (v := .pointer (some ⟨A.r, 0, none⟩)) (by simp [execOp, d33,  go_sem, x0, x3, xq, k0, k1, hlt]) rfl (hE.refl _) trivial
          · intro a X hX hS hD hJ hU
            have hb := Kept.of_below (p := fun _ => False) hX
            have x0 := hb.cell o0 id
            have x3 := hb.cell o3 id
            have xq := hb.cell q0 id
            have d34 := Posts.slot (show a.eval (.tmp 34) = .pointer (some ⟨A.r, 0, none⟩) from hD.1)
            exact Posts.op_value (fun _ => trivial) rfl rfl (by intro c h; cases h) rfl (by rw [hS.size]; simp) (v := .slice (some ⟨b, off, none⟩) n c0) (by simp [execOp, d34,  go_sem, x0, x3, xq, k0, k1, hlt]) rfl (hE.refl _) trivial
          · intro a X hX hS hD hJ hU
            have hb := Kept.of_below (p := fun _ => False) hX
            have x0 := hb.cell o0 id
            have x3 := hb.cell o3 id
            have xq := hb.cell q0 id
            have d4 := Posts.slot (show a.eval (.tmp 4) = .int .i64 (k : Int) from hS.other 4 rfl)
            exact Posts.op_value (fun _ => trivial) rfl rfl (by intro c h; cases h) rfl (by rw [hS.size]; simp) (v := .int .i64 (k : Int)) (by simp [execOp, d4,  go_sem, x0, x3, xq, k0, k1, hlt]) rfl (hE.refl _) trivial
          · intro a X hX hS hD hJ hU
            have hb := Kept.of_below (p := fun _ => False) hX
            have x0 := hb.cell o0 id
            have x3 := hb.cell o3 id
            have xq := hb.cell q0 id
            have d35 := Posts.slot (show a.eval (.tmp 35) = .slice (some ⟨b, off, none⟩) n c0 from hD.1)
            have d36 := Posts.slot (show a.eval (.tmp 36) = .int .i64 (k : Int) from hD.2.1)
            exact Posts.op_value (fun _ => trivial) rfl rfl (by intro c h; cases h) rfl (by rw [hS.size]; simp) (v := .pointer (some ⟨b, off + k * 3, none⟩)) (by simp [execOp, d35, d36,  go_sem, x0, x3, xq, k0, k1, hlt]) rfl (hE.refl _) trivial
          · intro a X hX hS hD hJ hU
            have hb := Kept.of_below (p := fun _ => False) hX
            have x0 := hb.cell o0 id
            have x3 := hb.cell o3 id
            have xq := hb.cell q0 id
            have d37 := Posts.slot (show a.eval (.tmp 37) = .pointer (some ⟨b, off + k * 3, none⟩) from hD.1)
            exact Posts.op_value (fun _ => trivial) rfl rfl (by intro c h; cases h) rfl (by rw [hS.size]; simp) (v := .pointer (some ⟨b, off + k * 3, none⟩)) (by simp [execOp, d37,  go_sem, x0, x3, xq, k0, k1, hlt]) rfl (hE.refl _) trivial
          · intro a X hX hS hD hJ hU
            have hb := Kept.of_below (p := fun _ => False) hX
            have x0 := hb.cell o0 id
            have x3 := hb.cell o3 id
            have xq := hb.cell q0 id
            have d38 := Posts.slot (show a.eval (.tmp 38) = .pointer (some ⟨b, off + k * 3, none⟩) from hD.1)
            exact Posts.op_value (fun _ => trivial) rfl rfl (by intro c h; cases h) rfl (by rw [hS.size]; simp) (v := .int .i64 (wn : Int)) (by simp [execOp, d38,  go_sem, x0, x3, xq, k0, k1, hlt]) rfl (hE.refl _) trivial
          · intro a X hX hS hD hJ hU
            have hb := Kept.of_below (p := fun _ => False) hX
            have x0 := hb.cell o0 id
            have x3 := hb.cell o3 id
            have xq := hb.cell q0 id
            have d39 := Posts.slot (show a.eval (.tmp 39) = .int .i64 (wn : Int) from hD.1)
            have hm := run_make_words X wn hwn
            exact Posts.op_value (fun _ => trivial) rfl rfl (by intro c h; cases h) rfl (by rw [hS.size]; simp) (v := .slice (some ⟨X.heap.size, 0, none⟩) wn wn) (Y := X.alloc (.cells (nums (List.replicate wn 0)).toArray 33)) (by simp only [execOp, Act.eval]; simp [d39, hm, go_sem]) ⟨X.heap.size, wn, rfl, hX.size, _, heap_alloc_new _ _, fun j hj => by simp only [List.getElem?_toArray]; exact nums_at _ j (by simpa using hj)⟩ (below_alloc _ _) trivial
          · intro a X hX hS hD hJ hU
            have hb := Kept.of_below (p := fun _ => False) hX
            have x0 := hb.cell o0 id
            have x3 := hb.cell o3 id
            have xq := hb.cell q0 id
            have d30 := Posts.slot (show a.eval (.tmp 30) = .slice (some ⟨A.bd, 0, none⟩) n A.cd from hD.1)
            have d31 := Posts.slot (show a.eval (.tmp 31) = .int .i64 (k : Int) from hD.2.1)
            exact Posts.op_value (fun _ => trivial) rfl rfl (by intro c h; cases h) rfl (by rw [hS.size]; simp) (v := .pointer (some ⟨A.bd, k, none⟩)) (by simp [execOp, d30, d31,  go_sem, x0, x3, xq, k0, k1, hlt]) rfl (hE.refl _) trivial
        · intro a0 Y hY hS hJt hL
          have p27 := Posts.slot (show a0.eval (.tmp 27) = .pointer (some ⟨A.r, 0, none⟩) from hL.1)
          have p28 := Posts.slot (show a0.eval (.tmp 28) = .pointer (some ⟨A.r, 0, none⟩) from hL.2.1)
          have p29 := Posts.slot (show a0.eval (.tmp 29) = .pointer (some ⟨A.r, 3, none⟩) from hL.2.2.1)
          have p30 := Posts.slot (show a0.eval (.tmp 30) = .slice (some ⟨A.bd, 0, none⟩) n A.cd from hL.2.2.2.1)
          have p31 := Posts.slot (show a0.eval (.tmp 31) = .int .i64 (k : Int) from hL.2.2.2.2.1)
          have p32 := Posts.slot (show a0.eval (.tmp 32) = .pointer (some ⟨A.r, 0, none⟩) from hL.2.2.2.2.2.1)
          have p33 := Posts.slot (show a0.eval (.tmp 33) = .pointer (some ⟨A.r, 0, none⟩) from hL.2.2.2.2.2.2.1)
          have p34 := Posts.slot (show a0.eval (.tmp 34) = .pointer (some ⟨A.r, 0, none⟩) from hL.2.2.2.2.2.2.2.1)
          have p35 := Posts.slot (show a0.eval (.tmp 35) = .slice (some ⟨b, off, none⟩) n c0 from hL.2.2.2.2.2.2.2.2.1)
          have p36 := Posts.slot (show a0.eval (.tmp 36) = .int .i64 (k : Int) from hL.2.2.2.2.2.2.2.2.2.1)
          have p37 := Posts.slot (show a0.eval (.tmp 37) = .pointer (some ⟨b, off + k * 3, none⟩) from hL.2.2.2.2.2.2.2.2.2.2.1)
          have p38 := Posts.slot (show a0.eval (.tmp 38) = .pointer (some ⟨b, off + k * 3, none⟩) from hL.2.2.2.2.2.2.2.2.2.2.2.1)
          have p39 := Posts.slot (show a0.eval (.tmp 39) = .int .i64 (wn : Int) from hL.2.2.2.2.2.2.2.2.2.2.2.2.1)
          obtain ⟨nb, cap, e40, hnb, cs, hrow, hcs⟩ : rowU wr.heap.size (List.replicate wn 0) wn (a0.eval (.tmp 40)) Y := hL.2.2.2.2.2.2.2.2.2.2.2.2.2.1
          have p40 := Posts.slot e40
          clear e40
          have p41 := Posts.slot (show a0.eval (.tmp 41) = .pointer (some ⟨A.bd, k, none⟩) from hL.2.2.2.2.2.2.2.2.2.2.2.2.2.2.1)
          have hfr := hS.frame [27, 28, 29, 30, 31, 32, 33, 34, 35, 36, 37, 38, 39, 40, 41] (fun t ht => by simp [Posts.isDst] at ht; first | (rcases ht with h | h | h | h | h | h | h | h | h | h | h | h | h | h | h <;> subst h <;> simp) | (subst ht; simp))
          simp only [List.foldl_cons, List.foldl_nil] at hfr
          have hdf := hS.defers
          simp only [Array.getD_eq_getD_getElem?] at hfr
          clear hL hS
          generalize a0.tmps[27]?.getD undef = v27 at *
          generalize a0.tmps[28]?.getD undef = v28 at *
          generalize a0.tmps[29]?.getD undef = v29 at *
          generalize a0.tmps[30]?.getD undef = v30 at *
          generalize a0.tmps[31]?.getD undef = v31 at *
          generalize a0.tmps[32]?.getD undef = v32 at *
          generalize a0.tmps[33]?.getD undef = v33 at *
          generalize a0.tmps[34]?.getD undef = v34 at *
          generalize a0.tmps[35]?.getD undef = v35 at *
          generalize a0.tmps[36]?.getD undef = v36 at *
          generalize a0.tmps[37]?.getD undef = v37 at *
          generalize a0.tmps[38]?.getD undef = v38 at *
          generalize a0.tmps[39]?.getD undef = v39 at *
          generalize a0.tmps[40]?.getD undef = v40 at *
          generalize a0.tmps[41]?.getD undef = v41 at *
          obtain rfl := p27
          obtain rfl := p28
          obtain rfl := p29
          obtain rfl := p30
          obtain rfl := p31
          obtain rfl := p32
          obtain rfl := p33
          obtain rfl := p34
          obtain rfl := p35
          obtain rfl := p36
          obtain rfl := p37
          obtain rfl := p38
          obtain rfl := p39
          obtain rfl := p41
          obtain rfl := p40
          obtain ⟨tm, df⟩ := a0
          simp only [List.setIfInBounds_toArray, List.set_cons_succ, List.set_cons_zero] at hfr hdf
          subst hfr
          subst hdf
          have HTn : Hid (T' nb = none) := by
            show _ = _
            cases e : T' nb with
            | none => rfl
            | some t => have := HR.out.lt nb (by rw [e]; simp); omega
          have HY : Hid (Rf A n (some ⟨b, off, none⟩) c0 (foldK (ifB zerB part) (List.range k) l) T' Y) := HR.out.below hY
          have HlY : Hid (nb < Y.heap.size) := lt_of_block hrow
          have HN1 := Lib.hid ((HY.out.mark HTn.out HlY.out (t := 6 + k)).wD hlt nb cap (mark_new T' nb (6 + k)) (fun j hj => by
            rw [HEk.out, HWd.out] at hj
            have hz := hcs j (by simpa using hj)
            rw [show (List.replicate wn (0 : Int)).getD j 0 = 0 from by rw [List.getD_eq_getElem?_getD, List.getElem?_replicate]; split <;> rfl] at hz
            exact ⟨by rw [cell_of_row _ _ _ _ _ _ hrow]; exact hz, by simp [World.frozen?, hrow]⟩))
          rw [HEk.out, HWd.out] at HN1
          have HcD := Lib.hid ((HY.out.cD k hlt))
          obtain ⟨y0, y1⟩ := HcD.out
          have HKY : Hid (Kept (fun x => T x ≠ none) V (Y.setCell ⟨A.bd, k, none⟩ (.slice (some ⟨nb, 0, none⟩) wn cap))) := (HK.out.trans (Kept.of_below hY)).setCell (by
            have := (HR.out.tags (by omega)).2.2.1
            by_cases hlt2 : A.bd < V.heap.size
            · left; show T A.bd ≠ none; rw [← HTo.out A.bd hlt2, this]; simp
            · right; show V.heap.size ≤ A.bd; omega) _
          have HTo2 : Hid (∀ x, x < V.heap.size → mark T' nb (6 + k) x = T x) := fun x hx => by
            have := HK.out.size
            unfold mark; rw [if_neg (by omega)]; exact HTo.out x hx
          refine Posts.tail_op 15 (by kernel_rfl) (Posts.op_done (fun _ => trivial) rfl rfl (by intro c h; cases h) (Y := Y.setCell ⟨A.bd, k, none⟩ (.slice (some ⟨nb, 0, none⟩) wn cap)) (by simp [execOp, Act.eval, y0, y1, go_sem]) ?_)
          refine ⟨by kernel_rfl, ?_⟩
          simp only [Exit.inBlock, Exit.then]
          rename_i hK
          refine hK _ _ ?_
          clear hrow hcs y0 y1 hY
          go_wp2_with fail
          go_roundw
          case rel => exact ⟨k + 1, { A with db := upd A.db k nb, dc := upd A.dc k cap }, _, by omega, by go_num, rfl, by rw [HNx.out, HZ.out]; exact HN1.out, HTo2.out, HKY.out⟩
          case measure => simp [intOf]; omega
      · have e5 : (z1 == part) = false := by simpa using fun e => hpw e.symm
        have HZ : Hid (foldK (ifB zerB part) (List.range (k + 1)) l = foldK (ifB zerB part) (List.range k) l) := by
          show _ = _
          rw [HNx.out, HW.out, if_neg (by simpa using hpw), ← HEk.out, set_self]
        clear hpw
        go_wp2_with fail
        go_roundw
        case rel => exact ⟨k + 1, A, T', by omega, by go_num, rfl, by rw [HZ.out]; exact HR.out, HTo.out, HK.out⟩
        case measure => simp [intOf]; omega
    · have hdd : decide ((k : Int) < (n : Int)) = false := decide_eq_false (by omega)
      have hd2 : decide (k < n) = false := decide_eq_false hlt
      obtain rfl : k = n := by omega
      have hall := foldK_all (ifB zerB part) l
      rw [HL.out] at hall
      go_wp2_with fail
      go_end0
      refine ⟨rfl, A, T', rfl, ?_, HTo.out, HK.out⟩
      rw [← HB.out, ← hall]
      exact HR.out
end
end Prt
end Go.Proofs.Ytcapiaempfjmeaa
