/- A writer in memory: lists of values, put and written. -/
import Derived.Test.YtimhppgepiikbaaWireW4
namespace Go.Proofs.Ytimhppgepiikbaa
open Go.ChangeShapes Go.WideShapes Go.ChangeAt Go.RowKit
namespace Wire
variable {gu : Option (Nat × Obj)}
set_option linter.unusedVariables false
/-- the rounds that are left when k values are done -/
theorem wF_next (f : F) (k : Nat) (s : List Int × Int) {x n i : Int} {b : List Int} {sub : F} (h : f.drop k = .cons x n i b sub (f.drop (k + 1))) : wF (f.drop k) s = wF (f.drop (k + 1)) (wV x n i b sub s) := by rw [h]; rfl
set_option maxHeartbeats 1000000 in
theorem putAll_any (B g : Nat) : ∀ (m : Nat) (f : F), f.size < m → PutAllOK gu B g f := by
  intro m
  induction m with
  | zero => intro f hf; omega
  | succ m ih =>
    intro f hf w s a n c hB h hr hc hm
    have HS := Lib.hid h
    have HR := Lib.hid hr
    have HF := Lib.hid hf
    have HI := Lib.hid ih
    clear h hr hf ih
    go_enter Try.func50, Try.ntmps50
    go_wp2_with fail
    go_loopw [10] (fun i wr => ∃ (k : Nat) (t : List Int × Int), k ≤ n ∧ i = .int .i64 k ∧ WSt gu B g wr t ∧ wF f s = wF (f.drop k) t ∧ Below B w wr) (fun i _ => n - (intOf i).toNat)
    case atStart => exact ⟨0, s, by omega, rfl, HS.out, by rw [F.drop_zero], Below.refl _ _⟩
    case round =>
      obtain ⟨k, t, hk, rfl, hw, hq, hbel⟩ := hrel
      have HW := Lib.hid hw
      have HB := Lib.hid hbel
      have HQ := Lib.hid hq
      clear hw hbel HS hq
      by_cases hlt : k < n
      · have k0 : (0 : Int) ≤ k := by omega
        have k1 : (k : Int) < n := by omega
        have hd : decide ((k : Int) < (n : Int)) = true := by simp; omega
        obtain ⟨hlen, hrow⟩ := HR.out.kept (Kept.below HB.out)
        rcases hrow with hrow | ⟨bb, o, rfl, hin⟩
        · omega
        obtain ⟨x, nn, ii, bs, sub, hdr⟩ := f.drop_cons k (by omega)
        have hin' := FIn.drop f k hin
        have hnx := wF_next f k t hdr
        have hsz := f.drop_size k
        rw [hdr] at hin' hsz
        simp only [F.size] at hsz
        obtain ⟨_, g0, g1, g2, ⟨ba, bn, bc, g3, b1, b2, b3⟩, ⟨la, ln, lc, g4, l1, l2, l3, l4⟩, ⟨_, hnb, _⟩, _⟩ := hin'
        have HNx := Lib.hid hnx
        
        have hA : Below B wr (wr.alloc (.cells #[.int .i64 x, .int .u64 nn, .int .i64 ii, .slice ba bn bc, .slice la ln lc] 39)) := (Below.refl _ _).alloc (Nat.le_trans hB HB.out.size) _
        have HFr := Lib.hid (FRow.kept (show FRow (fun k => B ≤ k) wr la ln sub from ⟨l3, l4⟩) (Kept.below hA))
        have HBy := Lib.hid (b3.kept (Kept.below hA))
        have HBA := Lib.hid (HB.out.trans hA)
        have HWa := Lib.hid (HW.out.alloc (.cells #[.int .i64 x, .int .u64 nn, .int .i64 ii, .slice ba bn bc, .slice la ln lc] 39))
        have HSub := Lib.hid (HI.out sub (by have := HF.out; omega))
        have HNb := Lib.hid hnb
        obtain ⟨v, hv⟩ := HWa.out.cells
        have HV := Lib.hid hv
        clear hlen hin hdr hnx hsz b3 l3 l4 hnb hv hA
        obtain ⟨tl, e⟩ := t
        simp only at HV
        by_cases he : e = 0
        · have hde : decide (e = 0) = true := by simpa using he
          clear he
          go_wp2_with fail
          refine (well_any g _ _ e HV.out).mono ?_
          rintro r w1 ⟨rfl, rfl⟩
          go_wp2_with fail
          refine (one_any B g x nn ii bs sub HSub.out _ (tl, e) ba la bn bc ln lc (Nat.le_trans hB HBA.out.size) HWa.out HNb.out HBy.out b1 b2 HFr.out l1 l2).mono ?_
          rintro r w1 ⟨rfl, h1, h2⟩
          have H1 := Lib.hid h1
          have H2 := Lib.hid (HBA.out.trans h2)
          clear h1 h2
          go_wp2_with fail
          go_roundw
          case rel => exact ⟨k + 1, _, by omega, by go_num, H1.out, by rw [HQ.out, HNx.out], H2.out⟩
          case measure => simp [intOf]; omega
        · have hde : decide (e = 0) = false := by simpa using he
          have HA : Hid (wF f s = (tl, e)) := by show _ = _; rw [HQ.out]; exact wF_err _ _ he
          clear he
          go_wp2_with fail
          refine (well_any g _ _ e HV.out).mono ?_
          rintro r w1 ⟨rfl, rfl⟩
          go_wp2_with fail
          refine bodyPost_ret (results_none rfl _ _ _) rfl ?_
          exact ⟨rfl, by rw [HA.out]; exact HWa.out, HBA.out⟩
      · have hd : decide ((k : Int) < (n : Int)) = false := by simp; omega
        have HA : Hid (wF f s = t) := by show _ = _; rw [HQ.out, F.drop_all f k (by have := HR.out.1; omega)]; rfl
        go_wp2_with fail
        go_end0
        exact ⟨rfl, by rw [HA.out]; exact HW.out, HB.out⟩
set_option maxHeartbeats 1000000 in
theorem write_any (B g : Nat) (f : F) (w : World) (s : List Int × Int) (a : Option Addr) (n c : Nat) (hB : B ≤ w.heap.size) (h : WSt gu B g w s) (hr : FRow (fun k => B ≤ k) w a n f) (hc : n ≤ c) (hm : c ≤ 9223372036854775807) :
    Calls Try.prog 7 #[.pointer (some ⟨g, 0, none⟩), .slice a n c] w fun r w' => r = .returned (.tuple #[]) ∧ WSt gu B g w' (wF f s) ∧ Below B w w' := by
  have HS := Lib.hid h
  have HR := Lib.hid hr
  clear h hr
  go_enter Try.func7, Try.ntmps7
  go_wp2_with fail
  go_loopw [8] (fun i wr => ∃ (k : Nat) (t : List Int × Int), k ≤ n ∧ i = .int .i64 k ∧ WSt gu B g wr t ∧ wF f s = wF (f.drop k) t ∧ Below B w wr) (fun i _ => n - (intOf i).toNat)
  case atStart => exact ⟨0, s, by omega, rfl, HS.out, by rw [F.drop_zero], Below.refl _ _⟩
  case round =>
    obtain ⟨k, t, hk, rfl, hw, hq, hbel⟩ := hrel
    have HW := Lib.hid hw
    have HB := Lib.hid hbel
    have HQ := Lib.hid hq
    clear hw hbel HS hq
    by_cases hlt : k < n
    · have k0 : (0 : Int) ≤ k := by omega
      have k1 : (k : Int) < n := by omega
      have hd : decide ((k : Int) < (n : Int)) = true := by simp; omega
      obtain ⟨hlen, hrow⟩ := HR.out.kept (Kept.below HB.out)
      rcases hrow with hrow | ⟨bb, o, rfl, hin⟩
      · omega
      obtain ⟨x, nn, ii, bs, sub, hdr⟩ := f.drop_cons k (by omega)
      have hin' := FIn.drop f k hin
      have hnx := wF_next f k t hdr
      rw [hdr] at hin'
      obtain ⟨_, g0, g1, g2, ⟨ba, bn, bc, g3, b1, b2, b3⟩, ⟨la, ln, lc, g4, l1, l2, l3, l4⟩, ⟨_, hnb, _⟩, _⟩ := hin'
      have HNx := Lib.hid hnx
      have hA : Below B wr (wr.alloc (.cells #[.int .i64 x, .int .u64 nn, .int .i64 ii, .slice ba bn bc, .slice la ln lc] 39)) := (Below.refl _ _).alloc (Nat.le_trans hB HB.out.size) _
      have HFr := Lib.hid (FRow.kept (show FRow (fun k => B ≤ k) wr la ln sub from ⟨l3, l4⟩) (Kept.below hA))
      have HBy := Lib.hid (b3.kept (Kept.below hA))
      have HBA := Lib.hid (HB.out.trans hA)
      have HWa := Lib.hid (HW.out.alloc (.cells #[.int .i64 x, .int .u64 nn, .int .i64 ii, .slice ba bn bc, .slice la ln lc] 39))
      have HNb := Lib.hid hnb
      clear hlen hin hdr hnx b3 l3 l4 hnb hA
      go_wp2_with fail
      refine (one_any B g x nn ii bs sub (putAll_any B g _ sub (Nat.lt_succ_self _)) _ t ba la bn bc ln lc (Nat.le_trans hB HBA.out.size) HWa.out HNb.out HBy.out b1 b2 HFr.out l1 l2).mono ?_
      rintro r w1 ⟨rfl, h1, h2⟩
      have H1 := Lib.hid h1
      have H2 := Lib.hid (HBA.out.trans h2)
      clear h1 h2
      go_wp2_with fail
      go_roundw
      case rel => exact ⟨k + 1, _, by omega, by go_num, H1.out, by rw [HQ.out, HNx.out], H2.out⟩
      case measure => simp [intOf]; omega
    · have hd : decide ((k : Int) < (n : Int)) = false := by simp; omega
      have HA : Hid (wF f s = t) := by show _ = _; rw [HQ.out, F.drop_all f k (by have := HR.out.1; omega)]; rfl
      go_wp2_with fail
      go_end0
      exact ⟨rfl, by rw [HA.out]; exact HW.out, HB.out⟩
end Wire
end Go.Proofs.Ytimhppgepiikbaa
