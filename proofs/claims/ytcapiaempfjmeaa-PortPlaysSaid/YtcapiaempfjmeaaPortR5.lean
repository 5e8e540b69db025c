/- The document's Commit. (Made by tools/gen_portr5.py.) -/
import Derived.Test.YtcapiaempfjmeaaPortR4
namespace Go.Proofs.Ytcapiaempfjmeaa
open Go.ChangeShapes Go.WideShapes Go.ChangeAt Go.RowKit
namespace Prt
set_option linter.unusedVariables false
set_option linter.unusedSimpArgs false
attribute [local go_sem] Oper.semAt_some
/-- a slice of nothing, with room for nothing -/
def emptyS : Value → World → Prop := fun v _ => ∃ g, v = .slice (some ⟨g, 0, none⟩) 0 0
theorem wrap_age {z : Int} (h0 : 0 ≤ z) (h1 : z ≤ 255) : IntKind.u32.wrap (z + 1) = z + 1 := by simp [IntKind.wrap, IntKind.bits, IntKind.signed]; omega
theorem empty_stable : Posts.Stable Posts.Ext emptyS := fun _ _ _ h _ => h
section
variable {A0 : RA} {n : Nat} {a0 : Option Addr} {c0 : Nat} {l : List Bx} {T : Nat → Option Nat} {V : World} {ds : List Df}
set_option maxHeartbeats 4000000 in
theorem rCommit_any (h : Rf A0 n a0 c0 l T V) :
    Calls Try.prog 20 #[.pointer (some ⟨A0.r, 0, none⟩)] V (RDoneE A0.r n a0 c0 (comL l) T (.tuple #[]) V) := by
  have HL : Hid (l.length = n) := h.len
  have HH := Lib.hid h
  have hn16 := h.n16
  clear h
  go_enter Try.func20, Try.ntmps20
  go_wp2_with fail
  go_loopw [2] (fun i wr => ∃ (k : Nat) (A : RA) (T' : Nat → Option Nat), k ≤ n ∧ i = .int .i64 k ∧ A.r = A0.r ∧ Rf A n a0 c0 (foldK comB (List.range k) l) T' wr ∧ (∀ x, x < V.heap.size → T' x = T x) ∧ Kept (fun k => T k ≠ none) V wr) (fun i _ => n - (intOf i).toNat)
  case atStart => exact ⟨0, A0, T, by omega, rfl, rfl, HH.out, fun _ _ => rfl, Kept.refl _ _⟩
  case round =>
    clear HH
    obtain ⟨k, A, T', hk, rfl, hAr, hr, hTo, hkw⟩ := hrel
    have HR := Lib.hid hr
    have HK := Lib.hid hkw
    have HTo : Hid (∀ x, x < V.heap.size → T' x = T x) := hTo
    obtain ⟨o0, o1, o2, o3, o4⟩ := hr.five
    rw [← hAr]
    clear hr hkw hAr hTo
    by_cases hlt : k < n
    · have k0 : (0 : Int) ≤ k := by omega
      have k1 : (k : Int) < n := by omega
      have hdd : decide ((k : Int) < (n : Int)) = true := decide_eq_true (by omega)
      have hd2 : decide (k < n) = true := decide_eq_true hlt
      have hkl : k < l.length := by rw [HL.out]; exact hlt
      have HkF : Hid (k < (foldK comB (List.range k) l).length) := by show _ < _; rw [foldK_len]; exact hkl
      have HEk := Lib.hid (foldK_range comB l k hkl)
      have e1 := foldK_next comB (List.range k) k l
      rw [← List.range_succ, HEk.out] at e1
      have HNx := Lib.hid e1
      obtain ⟨hxw, hxa, hxd, hxs⟩ := HR.out.hx (by omega)
      rw [hxw] at o1
      rw [hxa] at o2
      rw [hxd] at o3
      rw [hxs] at o4
      have hok := HR.out.at hlt
      rw [HEk.out] at hok
      obtain ⟨c1, c2⟩ := HR.out.cS k hlt
      obtain ⟨g1, g2⟩ := HR.out.cA k hlt
      rw [HEk.out] at c1 g1
      have hage := hok.age
      clear e1
      cases hs : (l[k]!).s with
      | true =>
        rw [hs] at c1
        have HZ : Hid (comB l[k]! = { { { l[k]! with m := (l[k]!).dr } with age := 0 } with s := false }) := by show _ = _; unfold comB; rw [if_pos hs]
        obtain ⟨u0, u1⟩ := HR.out.cD k hlt
        obtain ⟨wn, hwd⟩ : ∃ wn, wd l[k]! = wn := ⟨_, rfl⟩
        have HWd := Lib.hid hwd
        have hwn : 0 < wn ∧ wn ≤ 16 := by
          have h1 := hok.w
          rw [← hwd]; unfold wd; omega
        rw [HEk.out, hwd] at u0
        have HMl : Hid (((l[k]!).dr.take wn).length = wn) := by show _ = _; rw [List.length_take, hok.dr]; omega
        have HMd : Hid (∀ j, j < wn → ((l[k]!).dr.take wn).getD j 0 = (l[k]!).dr.getD j 0) := fun j hj => by simp [List.getD, List.getElem?_take, hj]
        have HMc : Hid (∀ j, j < ((l[k]!).dr.take wn).length → wr.cell? ⟨A.db k, j, none⟩ = some (.int .u32 (((l[k]!).dr.take wn).getD j 0))) := fun j hj => by
          have hj' : j < wn := by have := HMl.out; omega
          rw [HMd.out j hj']
          have := (HR.out.cR k hlt j (by rw [HEk.out, hwd]; exact hj')).1
          rwa [HEk.out] at this
        have HW5 := Lib.hid hwn
        obtain ⟨hwn0, hwn1⟩ := hwn
        generalize hMM : (l[k]!).dr.take wn = M at *
        have hst1 := empty_stable
        have hst2 := rowU_stable wr.heap.size M wn
        generalize A.db k = db at *
        generalize A.dc k = dc at *
        generalize (l[k]!).age = za at g1 hage
        clear u1 hwd hok hs hMM hkl
        have hE := Posts.ext_rel
        go_wp2_with fail
        clear c1 c2 g1 g2 o0
        have o0 : True := trivial
        refine (wpIn_wide (n := 0)).1 (Posts.wpIn_region_tail hE 14 12 (Posts.At [Posts.is (.pointer (some ⟨A.r, 0, none⟩)), Posts.is (.pointer (some ⟨A.r, 0, none⟩)), Posts.is (.pointer (some ⟨A.r, 1, none⟩)), Posts.is (.slice (some ⟨A.bw, 0, none⟩) n A.cw), Posts.is (.int .i64 (k : Int)), emptyS, Posts.is (.pointer (some ⟨A.r, 0, none⟩)), Posts.is (.pointer (some ⟨A.r, 0, none⟩)), Posts.is (.pointer (some ⟨A.r, 3, none⟩)), Posts.is (.slice (some ⟨A.bd, 0, none⟩) n A.cd), Posts.is (.int .i64 (k : Int)), Posts.is (.pointer (some ⟨A.bd, k, none⟩)), Posts.is (.slice (some ⟨db, 0, none⟩) wn dc), rowU wr.heap.size M wn]) (fun _ _ => True) (by kernel_rfl) (by decide) (by kernel_rfl) (by kernel_rfl) (by kernel_rfl)
          (Posts.stable_at _ (by repeat' (first | exact trivial | (refine And.intro ?_ ?_) | exact Posts.is_stable _ | exact Posts.on_stable _ _ | assumption))) trivial ?_ ?_)
        · refine ⟨?_, ?_, ?_, ?_, ?_, ?_, ?_, ?_, ?_, ?_, ?_, ?_, ?_, ?_, trivial⟩
          · intro a X hX hS hD hJ hU
            have hb := Kept.of_below (p := fun _ => False) hX
            have x1 := hb.cell o1 id
            have x3 := hb.cell o3 id
            have xd := hb.cell u0 id
            have d0 := Posts.slot (show a.eval (.tmp 0) = .pointer (some ⟨A.r, 0, none⟩) from hS.other 0 rfl)
            exact Posts.op_value (fun _ => trivial) rfl rfl (by intro c h; cases h) rfl (by rw [hS.size]; simp) (v := .pointer (some ⟨A.r, 0, none⟩)) (by simp [execOp, d0,  go_sem, x1, x3, xd, k0, k1, hlt]) rfl (hE.refl _) trivial
          · intro a X hX hS hD hJ hU
            have hb := Kept.of_below (p := fun _ => False) hX
            have x1 := hb.cell o1 id
            have x3 := hb.cell o3 id
            have xd := hb.cell u0 id
            have d19 := Posts.slot (show a.eval (.tmp 19) = .pointer (some ⟨A.r, 0, none⟩) from hD.1)
            exact Posts.op_value (fun _ => trivial) rfl rfl (by intro c h; cases h) rfl (by rw [hS.size]; simp) (v := .pointer (some ⟨A.r, 0, none⟩)) (by simp [execOp, d19,  go_sem, x1, x3, xd, k0, k1, hlt]) rfl (hE.refl _) trivial
          · intro a X hX hS hD hJ hU
            have hb := Kept.of_below (p := fun _ => False) hX
            have x1 := hb.cell o1 id
            have x3 := hb.cell o3 id
            have xd := hb.cell u0 id
            have d20 := Posts.slot (show a.eval (.tmp 20) = .pointer (some ⟨A.r, 0, none⟩) from hD.1)
            exact Posts.op_value (fun _ => trivial) rfl rfl (by intro c h; cases h) rfl (by rw [hS.size]; simp) (v := .pointer (some ⟨A.r, 1, none⟩)) (by simp [execOp, d20,  go_sem, x1, x3, xd, k0, k1, hlt]) rfl (hE.refl _) trivial
          · intro a X hX hS hD hJ hU
            have hb := Kept.of_below (p := fun _ => False) hX
            have x1 := hb.cell o1 id
            have x3 := hb.cell o3 id
            have xd := hb.cell u0 id
            have d21 := Posts.slot (show a.eval (.tmp 21) = .pointer (some ⟨A.r, 1, none⟩) from hD.1)
            exact Posts.op_value (fun _ => trivial) rfl rfl (by intro c h; cases h) rfl (by rw [hS.size]; simp) (v := .slice (some ⟨A.bw, 0, none⟩) n A.cw) (by simp [execOp, d21,  go_sem, x1, x3, xd, k0, k1, hlt]) rfl (hE.refl _) trivial
          · intro a X hX hS hD hJ hU
            have hb := Kept.of_below (p := fun _ => False) hX
            have x1 := hb.cell o1 id
            have x3 := hb.cell o3 id
            have xd := hb.cell u0 id
            have d2 := Posts.slot (show a.eval (.tmp 2) = .int .i64 (k : Int) from hS.other 2 rfl)
            exact Posts.op_value (fun _ => trivial) rfl rfl (by intro c h; cases h) rfl (by rw [hS.size]; simp) (v := .int .i64 (k : Int)) (by simp [execOp, d2,  go_sem, x1, x3, xd, k0, k1, hlt]) rfl (hE.refl _) trivial
          · intro a X hX hS hD hJ hU
            have hb := Kept.of_below (p := fun _ => False) hX
            have x1 := hb.cell o1 id
            have x3 := hb.cell o3 id
            have xd := hb.cell u0 id
            exact Posts.op_value (fun _ => trivial) rfl rfl (by intro c h; cases h) rfl (by rw [hS.size]; simp) (v := .slice (some ⟨X.heap.size, 0, none⟩) 0 0) (Y := X.alloc (.cells #[] 33)) (by simp [execOp, go_sem]) ⟨_, rfl⟩ (below_alloc _ _) trivial
          · intro a X hX hS hD hJ hU
            have hb := Kept.of_below (p := fun _ => False) hX
            have x1 := hb.cell o1 id
            have x3 := hb.cell o3 id
            have xd := hb.cell u0 id
            have d0 := Posts.slot (show a.eval (.tmp 0) = .pointer (some ⟨A.r, 0, none⟩) from hS.other 0 rfl)
            exact Posts.op_value (fun _ => trivial) rfl rfl (by intro c h; cases h) rfl (by rw [hS.size]; simp) (v := .pointer (some ⟨A.r, 0, none⟩)) (by simp [execOp, d0,  go_sem, x1, x3, xd, k0, k1, hlt]) rfl (hE.refl _) trivial
          · intro a X hX hS hD hJ hU
            have hb := Kept.of_below (p := fun _ => False) hX
            have x1 := hb.cell o1 id
            have x3 := hb.cell o3 id
            have xd := hb.cell u0 id
            have d25 := Posts.slot (show a.eval (.tmp 25) = .pointer (some ⟨A.r, 0, none⟩) from hD.1)
            exact Posts.op_value (fun _ => trivial) rfl rfl (by intro c h; cases h) rfl (by rw [hS.size]; simp) (v := .pointer (some ⟨A.r, 0, none⟩)) (by simp [execOp, d25,  go_sem, x1, x3, xd, k0, k1, hlt]) rfl (hE.refl _) trivial
          · intro a X hX hS hD hJ hU
            have hb := Kept.of_below (p := fun _ => False) hX
            have x1 := hb.cell o1 id
            have x3 := hb.cell o3 id
            have xd := hb.cell u0 id
            have d26 := Posts.slot (show a.eval (.tmp 26) = .pointer (some ⟨A.r, 0, none⟩) from hD.1)
            exact Posts.op_value (fun _ => trivial) rfl rfl (by intro c h; cases h) rfl (by rw [hS.size]; simp) (v := .pointer (some ⟨A.r, 3, none⟩)) (by simp [execOp, d26,  go_sem, x1, x3, xd, k0, k1, hlt]) rfl (hE.refl _) trivial
          · intro a X hX hS hD hJ hU
            have hb := Kept.of_below (p := fun _ => False) hX
            have x1 := hb.cell o1 id
            have x3 := hb.cell o3 id
            have xd := hb.cell u0 id
            have d27 := Posts.slot (show a.eval (.tmp 27) = .pointer (some ⟨A.r, 3, none⟩) from hD.1)
            exact Posts.op_value (fun _ => trivial) rfl rfl (by intro c h; cases h) rfl (by rw [hS.size]; simp) (v := .slice (some ⟨A.bd, 0, none⟩) n A.cd) (by simp [execOp, d27,  go_sem, x1, x3, xd, k0, k1, hlt]) rfl (hE.refl _) trivial
          · intro a X hX hS hD hJ hU
            have hb := Kept.of_below (p := fun _ => False) hX
            have x1 := hb.cell o1 id
            have x3 := hb.cell o3 id
            have xd := hb.cell u0 id
            have d2 := Posts.slot (show a.eval (.tmp 2) = .int .i64 (k : Int) from hS.other 2 rfl)
            exact Posts.op_value (fun _ => trivial) rfl rfl (by intro c h; cases h) rfl (by rw [hS.size]; simp) (v := .int .i64 (k : Int)) (by simp [execOp, d2,  go_sem, x1, x3, xd, k0, k1, hlt]) rfl (hE.refl _) trivial
          · intro a X hX hS hD hJ hU
            have hb := Kept.of_below (p := fun _ => False) hX
            have x1 := hb.cell o1 id
            have x3 := hb.cell o3 id
            have xd := hb.cell u0 id
            have d28 := Posts.slot (show a.eval (.tmp 28) = .slice (some ⟨A.bd, 0, none⟩) n A.cd from hD.1)
            have d29 := Posts.slot (show a.eval (.tmp 29) = .int .i64 (k : Int) from hD.2.1)
            exact Posts.op_value (fun _ => trivial) rfl rfl (by intro c h; cases h) rfl (by rw [hS.size]; simp) (v := .pointer (some ⟨A.bd, k, none⟩)) (by simp [execOp, d28, d29,  go_sem, x1, x3, xd, k0, k1, hlt]) rfl (hE.refl _) trivial
          · intro a X hX hS hD hJ hU
            have hb := Kept.of_below (p := fun _ => False) hX
            have x1 := hb.cell o1 id
            have x3 := hb.cell o3 id
            have xd := hb.cell u0 id
            have d30 := Posts.slot (show a.eval (.tmp 30) = .pointer (some ⟨A.bd, k, none⟩) from hD.1)
            exact Posts.op_value (fun _ => trivial) rfl rfl (by intro c h; cases h) rfl (by rw [hS.size]; simp) (v := .slice (some ⟨db, 0, none⟩) wn dc) (by simp [execOp, d30,  go_sem, x1, x3, xd, k0, k1, hlt]) rfl (hE.refl _) trivial
          · intro a X hX hS hD hJ hU
            have hb := Kept.of_below (p := fun _ => False) hX
            have x1 := hb.cell o1 id
            have x3 := hb.cell o3 id
            have xd := hb.cell u0 id
            obtain ⟨ge, e24⟩ : emptyS (a.eval (.tmp 24)) X := hD.1
            have e31 : a.eval (.tmp 31) = .slice (some ⟨db, 0, none⟩) wn dc := hD.2.1
            obtain ⟨i0, z, hi, hz0, hz1, hz2, hzs⟩ := infoU
            have hnw : ∀ j v, (nums M)[j]? = some v → X.cell? ((⟨db, 0, none⟩ : Addr).add j) = some v := fun j v hv => by
              have hj : j < M.length := by have := (List.getElem?_eq_some_iff.1 hv).1; rwa [nums_len] at this
              rw [Addr.add_mid, Nat.zero_add, ← hv, nums_at M j hj]
              exact hb.cell (HMc.out j hj) id
            have hr := fun ty => run_append_grow (P := Try.prog) X 49 ty 33 i0 z Try.underlying49 hi hz0 ⟨ge, 0, none⟩ 0 0 [] (by simp) (by simp) ⟨db, 0, none⟩ wn dc (nums M) (by rw [nums_len, HMl.out, hz1]; omega) hnw (by omega) (by omega) (growslice_fits (by omega) (by rw [hz2]; omega))
            exact Posts.op_value (fun _ => trivial) rfl rfl (by intro c h; cases h) rfl (by rw [hS.size]; simp) (Posts.append_op rfl e24 e31 (hr _)) ⟨X.heap.size, _, by rw [Nat.zero_add], hX.size, _, heap_alloc_new _ _, fun j hj => by
              have := nums_at M j hj
              have ee : ∀ (a b : Array Value), ([] : List Value).toArray ++ a ++ b = a ++ b := fun a b => by simp
              rw [ee]
              rw [Array.getElem?_append_left (by simp [nums_len]; exact hj)]
              simpa using this⟩ ((Below.refl X.heap.size X).drew.trans (below_alloc X.drew _)) trivial
        · intro af Y hY hS hJt hL
          have p19 := Posts.slot (show af.eval (.tmp 19) = .pointer (some ⟨A.r, 0, none⟩) from hL.1)
          have p20 := Posts.slot (show af.eval (.tmp 20) = .pointer (some ⟨A.r, 0, none⟩) from hL.2.1)
          have p21 := Posts.slot (show af.eval (.tmp 21) = .pointer (some ⟨A.r, 1, none⟩) from hL.2.2.1)
          have p22 := Posts.slot (show af.eval (.tmp 22) = .slice (some ⟨A.bw, 0, none⟩) n A.cw from hL.2.2.2.1)
          have p23 := Posts.slot (show af.eval (.tmp 23) = .int .i64 (k : Int) from hL.2.2.2.2.1)
          obtain ⟨ge, e24⟩ : emptyS (af.eval (.tmp 24)) Y := hL.2.2.2.2.2.1
          have p24 := Posts.slot e24
          clear e24
          have p25 := Posts.slot (show af.eval (.tmp 25) = .pointer (some ⟨A.r, 0, none⟩) from hL.2.2.2.2.2.2.1)
          have p26 := Posts.slot (show af.eval (.tmp 26) = .pointer (some ⟨A.r, 0, none⟩) from hL.2.2.2.2.2.2.2.1)
          have p27 := Posts.slot (show af.eval (.tmp 27) = .pointer (some ⟨A.r, 3, none⟩) from hL.2.2.2.2.2.2.2.2.1)
          have p28 := Posts.slot (show af.eval (.tmp 28) = .slice (some ⟨A.bd, 0, none⟩) n A.cd from hL.2.2.2.2.2.2.2.2.2.1)
          have p29 := Posts.slot (show af.eval (.tmp 29) = .int .i64 (k : Int) from hL.2.2.2.2.2.2.2.2.2.2.1)
          have p30 := Posts.slot (show af.eval (.tmp 30) = .pointer (some ⟨A.bd, k, none⟩) from hL.2.2.2.2.2.2.2.2.2.2.2.1)
          have p31 := Posts.slot (show af.eval (.tmp 31) = .slice (some ⟨db, 0, none⟩) wn dc from hL.2.2.2.2.2.2.2.2.2.2.2.2.1)
          obtain ⟨nb, cap, e32, hnb, cs, hrow, hcs⟩ : rowU wr.heap.size M wn (af.eval (.tmp 32)) Y := hL.2.2.2.2.2.2.2.2.2.2.2.2.2.1
          have p32 := Posts.slot e32
          clear e32
          have hfr := hS.frame [19, 20, 21, 22, 23, 24, 25, 26, 27, 28, 29, 30, 31, 32, 33] (fun t ht => by simp [Posts.isDst] at ht; first | (rcases ht with h | h | h | h | h | h | h | h | h | h | h | h | h | h | h <;> subst h <;> simp) | (subst ht; simp))
          simp only [List.foldl_cons, List.foldl_nil] at hfr
          have hdf := hS.defers
          simp only [Array.getD_eq_getD_getElem?] at hfr
          clear hL hS
          generalize af.tmps[19]?.getD undef = v19 at *
          generalize af.tmps[20]?.getD undef = v20 at *
          generalize af.tmps[21]?.getD undef = v21 at *
          generalize af.tmps[22]?.getD undef = v22 at *
          generalize af.tmps[23]?.getD undef = v23 at *
          generalize af.tmps[24]?.getD undef = v24 at *
          generalize af.tmps[25]?.getD undef = v25 at *
          generalize af.tmps[26]?.getD undef = v26 at *
          generalize af.tmps[27]?.getD undef = v27 at *
          generalize af.tmps[28]?.getD undef = v28 at *
          generalize af.tmps[29]?.getD undef = v29 at *
          generalize af.tmps[30]?.getD undef = v30 at *
          generalize af.tmps[31]?.getD undef = v31 at *
          generalize af.tmps[32]?.getD undef = v32 at *
          generalize af.tmps[33]?.getD undef = v33 at *
          obtain rfl := p19
          obtain rfl := p20
          obtain rfl := p21
          obtain rfl := p22
          obtain rfl := p23
          obtain rfl := p25
          obtain rfl := p26
          obtain rfl := p27
          obtain rfl := p28
          obtain rfl := p29
          obtain rfl := p30
          obtain rfl := p31
          obtain rfl := p24
          obtain rfl := p32
          obtain ⟨tm, df⟩ := af
          simp only [List.setIfInBounds_toArray, List.set_cons_succ, List.set_cons_zero] at hfr hdf
          subst hfr
          subst hdf
          have HTn : Hid (T' nb = none) := by
            show _ = _
            cases e : T' nb with
            | none => rfl
            | some t => have := HR.out.lt nb (by rw [e]; simp); omega
          have HY : Hid (Rf A n a0 c0 (foldK comB (List.range k) l) T' Y) := HR.out.below hY
          have HlY : Hid (nb < Y.heap.size) := lt_of_block hrow
          have HN1 := Lib.hid ((HY.out.mark HTn.out HlY.out (t := 5)).wW hlt nb cap (mark_new T' nb 5) (fun j hj => by
            rw [HEk.out, HWd.out] at hj
            rw [HEk.out]
            have hz := hcs j (by rw [HMl.out]; exact hj)
            rw [HMd.out j hj] at hz
            exact ⟨by rw [cell_of_row _ _ _ _ _ _ hrow]; exact hz, by simp [World.frozen?, hrow]⟩))
          rw [HEk.out, HWd.out] at HN1
          have HcW := Lib.hid ((HY.out.cW k hlt))
          obtain ⟨y0, y1⟩ := HcW.out
          -- the three worlds
          have HA1 := Lib.hid (HN1.out.wA hlt 0 (by omega))
          rw [set_at _ _ _ HkF.out, List.set_set] at HA1
          have HA2 := Lib.hid (HA1.out.wS hlt false)
          rw [set_at _ _ _ HkF.out, List.set_set] at HA2
          have HtW : Hid (∀ t, t < 5 → ∀ b, T' b = some t → (T b ≠ none ∨ V.heap.size ≤ b)) := fun t _ b hb => by
            by_cases hlt2 : b < V.heap.size
            · left; rw [← HTo.out b hlt2, hb]; simp
            · right; omega
          have hg := HR.out.tags (by omega)
          have HKY : Hid (Kept (fun x => T x ≠ none) V (((Y.setCell ⟨A.bw, k, none⟩ (.slice (some ⟨nb, 0, none⟩) wn cap)).setCell ⟨A.ba, k, none⟩ (.int .u32 0)).setCell ⟨A.bs, k, none⟩ (.bool false))) :=
            (((HK.out.trans (Kept.of_below hY)).setCell (HtW.out 1 (by omega) A.bw hg.1) _).setCell (HtW.out 2 (by omega) A.ba hg.2.1) _).setCell (HtW.out 4 (by omega) A.bs hg.2.2.2) _
          have HTo2 : Hid (∀ x, x < V.heap.size → mark T' nb 5 x = T x) := fun x hx => by
            have := HK.out.size
            unfold mark; rw [if_neg (by omega)]; exact HTo.out x hx
          refine Posts.tail_op 14 (by kernel_rfl) (Posts.op_val (fun _ => trivial) rfl rfl (by intro c h; cases h) (v := .pointer (some ⟨A.bw, k, none⟩)) (Y := Y) (by simp [execOp, Act.eval, k0, k1, hlt, go_sem]) ?_)
          refine Posts.tail_op 15 (by kernel_rfl) (Posts.op_done (fun _ => trivial) rfl rfl (by intro c h; cases h) (Y := Y.setCell ⟨A.bw, k, none⟩ (.slice (some ⟨nb, 0, none⟩) wn cap)) (by simp [execOp, Act.eval, Act.put, y0, y1, go_sem]) ?_)
          refine ⟨by kernel_rfl, ?_⟩
          simp only [Exit.inBlock, Exit.then]
          rename_i hK
          refine hK _ _ ?_
          simp [Act.put]
          obtain ⟨f0, f1, f2, f3, f4⟩ := HN1.out.five
          obtain ⟨s0, s1, s2, s3, s4⟩ := HA1.out.five
          obtain ⟨a1, a2⟩ := HN1.out.cA k hlt
          obtain ⟨b1, b2⟩ := HA1.out.cS k hlt
          simp only at f0 f1 f2 f3 f4 s0 s1 s2 s3 s4 a1 a2 b1 b2
          rw [hxa] at f2
          rw [hxs] at s4
          clear hrow hcs y0 y1 hY o0 o1 o2 o3 o4
          go_wp2_with fail
          go_roundw
          case rel => exact ⟨k + 1, { A with wb := upd A.wb k nb, wc := upd A.wc k cap }, _, by omega, by go_num, rfl, by rw [HNx.out, HZ.out]; exact HA2.out, HTo2.out, HKY.out⟩
          case measure => simp [intOf]; omega
      | false =>
        rw [hs] at c1
        have w1 : IntKind.u32.wrap ((l[k]!).age + 1) = (l[k]!).age + 1 := wrap_age hage.1 hage.2
        by_cases hmi : (l[k]!).age < 255
        · have HZ : Hid (comB l[k]! = { l[k]! with age := (l[k]!).age + 1 }) := by
            show _ = _; unfold comB; rw [if_neg (by rw [hs]; simp), Int.min_def, if_pos (by omega)]
          have HS := Lib.hid (HR.out.wA hlt ((l[k]!).age + 1) (by omega))
          rw [HEk.out] at HS
          have hg := HR.out.tags (by omega)
          have HKY := Lib.hid (HK.out.setCell (x := ⟨A.ba, k, none⟩) (by
            by_cases hlt2 : A.ba < V.heap.size
            · left; show T A.ba ≠ none; rw [← HTo.out A.ba hlt2, hg.2.1]; simp
            · right; show V.heap.size ≤ A.ba; omega) (.int .u32 ((l[k]!).age + 1)))
          have e5 : decide ((l[k]!).age < 255) = true := decide_eq_true hmi
          clear hok hs hkl
          generalize hza : (l[k]!).age = za at *
          clear hza
          go_wp2_with fail
          go_roundw
          case rel => exact ⟨k + 1, A, T', by omega, by go_num, rfl, by rw [HNx.out, HZ.out]; exact HS.out, HTo.out, HKY.out⟩
          case measure => simp [intOf]; omega
        · have HZ : Hid (foldK comB (List.range (k + 1)) l = foldK comB (List.range k) l) := by
            show _ = _
            rw [HNx.out]
            have : comB l[k]! = l[k]! := by
              unfold comB
              rw [if_neg (by rw [hs]; simp), Int.min_def, if_neg (by omega)]
              have : (l[k]!).age = 255 := by omega
              rw [← this]
            rw [this, ← HEk.out, set_self]
          have e5 : decide ((l[k]!).age < 255) = false := decide_eq_false hmi
          clear hok hs hkl
          generalize (l[k]!).age = za at *
          go_wp2_with fail
          go_roundw
          case rel => exact ⟨k + 1, A, T', by omega, by go_num, rfl, by rw [HZ.out]; exact HR.out, HTo.out, HK.out⟩
          case measure => simp [intOf]; omega
    · have hdd : decide ((k : Int) < (n : Int)) = false := decide_eq_false (by omega)
      have hd2 : decide (k < n) = false := decide_eq_false hlt
      obtain rfl : k = n := by omega
      have hall := foldK_all comB l
      rw [HL.out] at hall
      go_wp2_with fail
      go_end0
      refine ⟨rfl, A, T', rfl, ?_, HTo.out, HK.out⟩
      unfold comL
      rw [← hall]
      exact HR.out
end
end Prt
end Go.Proofs.Ytcapiaempfjmeaa
