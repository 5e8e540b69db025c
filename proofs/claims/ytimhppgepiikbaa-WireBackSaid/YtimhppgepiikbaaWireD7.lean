/- A reader in memory: bytes with their count; a reader of bytes. -/
import Derived.Test.YtimhppgepiikbaaWireD6
namespace Go.Proofs.Ytimhppgepiikbaa
open Go.ChangeShapes Go.WideShapes Go.ChangeAt Go.RowKit
namespace Wire
set_option linter.unusedVariables false
theorem RS.num_p (s : RS) (m : Nat) : s.p ≤ (s.num m).2.p := by
  unfold RS.num
  split
  · split
    · exact Nat.le_refl _
    · simp only; omega
  · exact Nat.le_refl _
theorem RS.count_p (s : RS) (most : Int) (m : Nat) : s.p ≤ (s.count most m).2.p := by
  unfold RS.count
  split
  · unfold RS.fail; split <;> exact RS.num_p s m
  · split <;> exact RS.num_p s m
set_option maxHeartbeats 1000000 in
theorem rbytes_any {q : Nat → Prop} (g : Nat) (w : World) (s : RS) (most : Int) (h : RSt q g w s) :
    Calls Try.prog 23 #[.pointer (some ⟨g, 0, none⟩), .int .i64 most] w (BytesPost q g w (s.bytes most).1 (s.bytes most).2) := by
  have HR := Lib.hid h
  obtain ⟨c0, c1⟩ := RS.count_low h most 4
  have hsp : s.p ≤ 1000000 := by obtain ⟨_, _, _, hp, _⟩ := h; exact hp
  have hC := count32_any g w s most h
  have hd := RS.count_d s most 4
  have hno := RS.count_none s most 4
  have hpp := RS.count_p s most 4
  obtain ⟨N, hN⟩ : ∃ N : Nat, (s.count most 4).1 = N := ⟨(s.count most 4).1.toNat, by omega⟩
  have hB : s.bytes most = if (s.count most 4).2.e = 0 then (if (s.d.length : Int) < (s.count most 4).2.p + (N : Int) then ([], ⟨s.d, s.p, 40⟩) else ((s.d.drop (s.count most 4).2.p).take N, ⟨s.d, (s.count most 4).2.p + N, 0⟩)) else ([], (s.count most 4).2) := by
    unfold RS.bytes
    rw [hd, hN, Int.toNat_natCast]
  rw [hN] at hno c1 hC
  clear c0 hN
  have HC := Lib.hid hC
  have HB := Lib.hid hB
  have HD := Lib.hid hd
  have HNo := Lib.hid hno
  clear hC hB hd hno h
  obtain ⟨S, hS⟩ : ∃ S, S = (s.count most 4).2 := ⟨_, rfl⟩
  rw [← hS] at HC HB HD HNo hpp
  clear hS
  obtain ⟨D, p, e⟩ := S
  simp only at HD HB HNo hpp
  have hN : (N : Int) ≤ 4294967295 := by omega
  clear c1
  by_cases he : e = 0
  · subst he
    by_cases hs : (s.d.length : Int) < (p : Int) + (N : Int)
    · have HE : Hid (s.bytes most = ([], ⟨s.d, s.p, 40⟩)) := by show _ = _; rw [HB.out, if_pos rfl, if_pos hs]
      go_enter Try.func23, Try.ntmps23
      go_wp2_with fail
      refine (rat_any g w s HR.out).mono ?_
      rintro r w1 ⟨rfl, rfl⟩
      go_wp2_with fail
      refine HC.out.mono ?_
      rintro r w1 ⟨rfl, h1, h2⟩
      have H1 := Lib.hid h1
      have H2 := Lib.hid h2
      obtain ⟨v, hv, _, hp6, hdd⟩ := h1
      obtain ⟨a, n, c, rfl, hrow, hpn, hnc, hcm, hn6⟩ := hdd rfl
      simp only at hv hp6 hrow hpn
      have HV := Lib.hid hv
      have HRow := Lib.hid hrow
      have hln : n = s.d.length := by rw [← HD.out]; exact hrow.1.symm
      have hd1 : decide ((n : Int) - (p : Int) < (N : Int)) = true := by simp; omega
      have c1 : w1.cell? ⟨g, 1, none⟩ = some (.int .i64 (p : Int)) := by rw [cell_of_row _ _ _ _ _ _ hv]; rfl
      have f1 := row_free hv 1
      clear h2 hv hrow hdd hln hs
      go_wp2_with fail
      refine (rwell_any g w1 _ _ 0 HV.out).mono ?_
      rintro r w2 ⟨rfl, rfl⟩
      go_wp2_with fail
      refine (left_any g w1 a n c p _ hpn hn6 HV.out).mono ?_
      rintro r w2 ⟨rfl, q1, rfl⟩
      have c1' : (w1.drewN q1).cell? ⟨g, 1, none⟩ = some (.int .i64 (p : Int)) := c1
      have f1' : (w1.drewN q1).frozen? ⟨g, 1, none⟩ = false := f1
      have HK2 : Hid (Kept (· = g) w (w1.drewN q1)) := H2.out.trans (Kept.of_below (below_drewN (Below.refl _ _) q1))
      have HG2 : Hid ((w1.drewN q1).heap[g]? = some (.cells #[.slice a n c, .int .i64 (p : Int), .int .i64 0] 63 (0, 0))) := HV.out
      have HRow2 : Hid (SRow (Gq q g) (w1.drewN q1) a n D) := HRow.out
      clear c1 f1
      generalize w1.drewN q1 = W at *
      go_wp2_with fail
      have HR3 : Hid (RSt q g (W.setCell ⟨g, 1, none⟩ (.int .i64 (s.p : Int))) ⟨D, s.p, 0⟩) := by
        refine ⟨_, row_setCell HG2.out, by simp, by simp only; omega, fun _ => ⟨a, n, c, rfl, HRow2.out.kept ((kept_set g 1 W _).mono fun _ h => Or.inl h), by simp only; omega, hnc, hcm, hn6⟩⟩
      refine (rfail_any g _ ⟨D, s.p, 0⟩ 40 (by omega) HR3.out).mono ?_
      rintro r w3 ⟨rfl, h3, h4⟩
      go_wp2_with fail
      go_ret
      rw [HE.out]
      have h3' : RSt q g w3 ⟨s.d, s.p, 40⟩ := by rw [← HD.out]; exact h3
      exact bytes_none h3' ((HK2.out.trans (kept_set g 1 W _)).trans h4)
    · have HE : Hid (s.bytes most = ((s.d.drop p).take N, ⟨s.d, p + N, 0⟩)) := by show _ = _; rw [HB.out, if_pos rfl, if_neg hs]
      go_enter Try.func23, Try.ntmps23
      go_wp2_with fail
      refine (rat_any g w s HR.out).mono ?_
      rintro r w1 ⟨rfl, rfl⟩
      go_wp2_with fail
      refine HC.out.mono ?_
      rintro r w1 ⟨rfl, h1, h2⟩
      have H1 := Lib.hid h1
      have H2 := Lib.hid h2
      obtain ⟨v, hv, _, hp6, hdd⟩ := h1
      obtain ⟨a, n, c, rfl, hrow, hpn, hnc, hcm, hn6⟩ := hdd rfl
      simp only at hv hp6 hrow hpn
      have HV := Lib.hid hv
      have HBy := Lib.hid hrow.2.1
      have hln : n = s.d.length := by rw [← HD.out]; exact hrow.1.symm
      have hd1 : decide ((n : Int) - (p : Int) < (N : Int)) = false := by simp; omega
      have HLn : Hid (p + N ≤ D.length) := by rw [HD.out]; show _ ≤ _; omega
      clear h2 hv hrow hdd hln hs
      go_wp2_with fail
      refine (rwell_any g w1 _ _ 0 HV.out).mono ?_
      rintro r w2 ⟨rfl, rfl⟩
      go_wp2_with fail
      refine (left_any g w1 a n c p _ hpn hn6 HV.out).mono ?_
      rintro r w2 ⟨rfl, q1, rfl⟩
      have HR2 : Hid (RSt q g (w1.drewN q1) ⟨D, p, 0⟩) := H1.out.kept (below_drewN (Below.refl _ _) q1)
      have HK2 : Hid (Kept (· = g) w (w1.drewN q1)) := H2.out.trans (Kept.of_below (below_drewN (Below.refl _ _) q1))
      generalize w1.drewN q1 = W at *
      go_wp2_with fail
      refine (take8_any g W D p N HR2.out HLn.out).mono ?_
      rintro r w3 ⟨va, vc, rfl, h3, h4, h5⟩
      have H3 := Lib.hid h3
      have H4 := Lib.hid h4
      have H5 := Lib.hid (HK2.out.trans h5)
      have HSz := Lib.hid HK2.out.size
      clear h3 h4 h5
      go_wp2_with fail
      go_ret
      rw [HE.out]
      obtain ⟨v4, hv4⟩ := H4.out.cells
      have hby : ∀ z ∈ (D.drop p).take N, 0 ≤ z ∧ z ≤ 255 := fun z hz => HBy.out z (List.mem_of_mem_drop (List.mem_of_mem_take hz))
      have ho := own_parts H3.out hby
      refine ⟨va, N, vc, rfl, ?_, ho.2.2.1, ho.2.2.2, fun h => (ho.2.1 h).2, by rw [← HD.out]; exact H4.out, H5.out, ?_⟩
      · rw [← HD.out]
        exact (srow_off H3.out hby hv4).imp (fun k _ hk => hk.imp (fun h => Nat.lt_of_lt_of_le h HSz.out) id)
      · rw [← HD.out]
        exact ⟨H3.out.1, H3.out.2.imp id fun ⟨g', cap, cur, e1, e2, e3⟩ => ⟨g', cap, cur, e1, Nat.le_trans HSz.out e2, e3⟩⟩
  · have HE : Hid (s.bytes most = ([], ⟨D, p, e⟩)) := by show _ = _; rw [HB.out, if_neg he]
    have hN0 : N = 0 := by have := HNo.out he; omega
    have hd1 : decide (e = 0) = false := by simpa using he
    subst hN0
    clear he
    go_enter Try.func23, Try.ntmps23
    go_wp2_with fail
    refine (rat_any g w s HR.out).mono ?_
    rintro r w1 ⟨rfl, rfl⟩
    go_wp2_with fail
    refine HC.out.mono ?_
    rintro r w1 ⟨rfl, h1, h2⟩
    have H1 := Lib.hid h1
    have H2 := Lib.hid h2
    obtain ⟨v, hv⟩ := h1.cells
    have HV := Lib.hid hv
    clear h1 h2 hv
    go_wp2_with fail
    refine (rwell_any g w1 _ _ e HV.out).mono ?_
    rintro r w2 ⟨rfl, rfl⟩
    go_wp2_with fail
    refine (take_none w1 _ _).mono ?_
    rintro r w2 ⟨rfl, rfl⟩
    go_wp2_with fail
    go_ret
    rw [HE.out]
    exact bytes_none H1.out H2.out
/-- a reader of these bytes -/
theorem from_any (p : Nat → Prop) (w : World) (a : Option Addr) (n c : Nat) (l : List Int) (hr : SRow p w a n l) (hn : n ≤ 1000000) (hnil : a = none → n = 0 ∧ c = 0) :
    Calls Try.prog 11 #[.slice a n c] w fun r w' => ∃ g, r = .returned (.pointer (some ⟨g, 0, none⟩)) ∧ w.heap.size ≤ g ∧ RSt (fun k => k < w.heap.size) g w' ⟨l, 0, 0⟩ ∧ Below w.heap.size w w' := by
  have HR := Lib.hid hr
  have HN := Lib.hid hnil
  clear hr hnil
  go_enter Try.func11, Try.ntmps11
  go_wp2_with fail
  refine (clone_any p w a n c l HR.out (by omega) HN.out).mono ?_
  rintro r w1 ⟨a', c', rfl, h1, h2, h3, h4, h5⟩
  have H1 := Lib.hid h1
  have H5 := Lib.hid h5
  clear h1 h4 h5
  unfold maxLen at h3
  go_wp2_with fail
  go_ret
  refine ⟨w1.heap.size, rfl, H5.out.size, ?_, H5.out.alloc H5.out.size _⟩
  have hs : SRow (Gq (fun k => k < w.heap.size) w1.heap.size) w1 a' n l := H1.out.imp (fun k hk hh => hh.elim (fun e => by omega) id)
  refine ⟨_, heap_alloc_new _ _, by simp, by simp, fun _ => ⟨a', n, c', rfl, hs.kept ((Kept.refl _ _).alloc _), Nat.zero_le _, h2, h3, hn⟩⟩
end Wire
end Go.Proofs.Ytimhppgepiikbaa
