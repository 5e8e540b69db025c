/- The document's own: Commit. -/
import Derived.Test.YtoighaicdakbkaaFieldR2
import Derived.Deep.DeepCutAuto
import Derived.Deep.CutBlock
import Derived.Deep.RegionHeld3
namespace Go.Proofs.Ytoighaicdakbkaa
open Go.ChangeShapes Go.WideShapes Go.ChangeAt Go.RowKit
namespace Fld
set_option linter.unusedVariables false
set_option linter.unusedSimpArgs false
section
variable {S : Nat} {d : Df} {b : Option Addr} {c : Nat} {A : Ra} {ins outs : List Int} {ps : List (Int × Int)} {V V' : World}
/-- the document's Commit, what it leaves -/
def RComP (S : Nat) (d : Df) (b : Option Addr) (c : Nat) (A : Ra) (ins outs : List Int) (V : World) (e : Ending) (V' : World) : Prop := e = .returned (.tuple #[]) ∧ RfE S d b c A ins outs [] V V'
theorem play_wf (o : List Int) (ps : List (Int × Int)) (k : Nat) : (play o (ps.take k)).length = o.length := play_len _ _
/-- the beginning of both: another row of output words, in their safe state -/
theorem com_start (h : Rf S d b c A ins outs ps V) {p : Nat → Prop} (hr : NRow p V b d.safe.length d.safe) (hcc : b = none → c = 0) (h16 : d.safe.length ≤ 1000000) :
    ∃ g cap w1, (Builtin.append_ #[22, 22] 22 #[.slice (some ⟨V.heap.size, 0, none⟩) 0 0, .slice b d.safe.length c]).run Try.prog (V.alloc (.cells #[] 23)) = .ok (.slice (some ⟨g, 0, none⟩) d.safe.length cap) w1 ∧
      Rf S d b c { A with go := g, co := cap } ins d.safe ps (w1.setCell ⟨A.r, 5, none⟩ (.slice (some ⟨g, 0, none⟩) d.safe.length cap)) ∧ V.heap.size ≤ g ∧ Kept A.own V (w1.setCell ⟨A.r, 5, none⟩ (.slice (some ⟨g, 0, none⟩) d.safe.length cap)) ∧
      w1.cell? ⟨A.r, 5, none⟩ = some (.slice (some ⟨A.go, 0, none⟩) outs.length A.co) ∧ w1.frozen? ⟨A.r, 5, none⟩ = false := by
  obtain ⟨g, cap, w1, hrun, hO, hg, hb⟩ := app_new (c := c) V hr h16 hcc 22
  have hr1 := h.below hb
  exact ⟨g, cap, w1, hrun, h.outed hb hO hg h.so.symm, hg, (Kept.of_below hb).setCell (.inl (.inl rfl)) _, hr1.c0.2.2.2.2.2.1, hr1.free 5⟩
set_option maxHeartbeats 2000000 in
theorem rcommit_false (h : Rf S d b c A ins outs ps V) {p : Nat → Prop} (hr : NRow p V b d.safe.length d.safe) (hcc : b = none → c = 0) (h16 : d.safe.length ≤ 1000000) (hpl : ps.length ≤ 100000) :
    Calls Try.prog 18 #[.pointer (some ⟨A.r, 0, none⟩), .bool false] V (RComP S d b c A ins d.safe V) := by
  obtain ⟨g, cap, w1, hrun, hf, hg, hk, c5, f5⟩ := com_start h hr hcc h16
  have HGi : Hid (A.gi ≠ g) := by have := h.lt A.gi (.inr (.inl rfl)); show _ ≠ _; omega
  have c1' : (V.alloc (.cells #[] 23)).cell? ⟨A.r, 1, none⟩ = some (.slice b d.safe.length c) := (h.below (below_alloc _ _)).c0.2.1
  have HF := Lib.hid hf
  have HK := Lib.hid hk
  have HG := Lib.hid hg
  obtain ⟨sx, sm, sk, hsl, hsm, hsx⟩ : ∃ x m k, A.pv = .slice x m k ∧ m = ps.length ∧ (0 < m → ∃ g, x = some ⟨g, 0, none⟩) := by
    rcases ownsRow_slice h.rp with ⟨e, e2⟩ | ⟨g, cap, e, _⟩
    · exact ⟨_, _, _, e, e2.symm, fun h => by omega⟩
    · exact ⟨_, _, _, e, rfl, fun _ => ⟨_, rfl⟩⟩
  have HSl := Lib.hid hsl
  have HSm := Lib.hid hsm
  have HSx := Lib.hid hsx
  have hsm' : sm ≤ 100000 := by omega
  clear h hr hf hk hg hsl hsm hsx
  go_enter Try.func18, Try.ntmps18
  go_upto_block 0 with (at_builtin; refine wpList_append_run rfl (.tmp 6) (.tmp 11) 22 22 rfl _ _ _ w1 22 rfl rfl rfl hrun ?_)
  clear hrun c5 f5 c1'
  generalize w1.setCell ⟨A.r, 5, none⟩ (.slice (some ⟨g, 0, none⟩) d.safe.length cap) = w2 at *
  obtain ⟨-, -, -, -, -, -, q6⟩ := HF.out.c0
  have g6 := HF.out.free 6
  have HF2 := Lib.hid HF.out.cleared
  have HK2 := Lib.hid (HK.out.setCell (x := ⟨A.r, 6, none⟩) (.inl (.inl rfl)) (.slice none 0 0))
  simp only at q6 g6
  rw [HSl.out] at q6
  go_wp2_with fail
  refine wp_loop_rounds 1 ?_
  rw [rounds_succ]
  by_cases h0 : 0 < sm
  · have e0 : decide ((0 : Int) < (sm : Int)) = true := decide_eq_true (by omega)
    have e1 : decide (0 < sm) = true := decide_eq_true h0
    go_wp2_with fail
    go_end0
    exact ⟨rfl, { A with go := g, co := cap, pv := .slice none 0 0 }, rfl, HF2.out, HK2.out, by
      rintro k (rfl | rfl | rfl | hk)
      · exact .inl (.inl rfl)
      · exact .inl (.inr (.inl rfl))
      · exact .inr HG.out
      · simp [Value.ownBlock] at hk⟩
  · have e0 : decide ((0 : Int) < (sm : Int)) = false := decide_eq_false (by omega)
    have e1 : decide (0 < sm) = false := decide_eq_false h0
    go_wp2_with fail
    go_end0
    exact ⟨rfl, { A with go := g, co := cap, pv := .slice none 0 0 }, rfl, HF2.out, HK2.out, by
      rintro k (rfl | rfl | rfl | hk)
      · exact .inl (.inl rfl)
      · exact .inl (.inr (.inl rfl))
      · exact .inr HG.out
      · simp [Value.ownBlock] at hk⟩
set_option maxHeartbeats 2000000 in
theorem rcommit_true (h : Rf S d b c A ins outs ps V) {p : Nat → Prop} (hr : NRow p V b d.safe.length d.safe) (hcc : b = none → c = 0) (h16 : d.safe.length ≤ 1000000) (hpl : ps.length ≤ 100000) :
    Calls Try.prog 18 #[.pointer (some ⟨A.r, 0, none⟩), .bool true] V (RComP S d b c A ins (play d.safe ps) V) := by
  obtain ⟨g, cap, w1, hrun, hf, hg, hk, c5, f5⟩ := com_start h hr hcc h16
  have HGi : Hid (A.gi ≠ g) := by have := h.lt A.gi (.inr (.inl rfl)); show _ ≠ _; omega
  have c1' : (V.alloc (.cells #[] 23)).cell? ⟨A.r, 1, none⟩ = some (.slice b d.safe.length c) := (h.below (below_alloc _ _)).c0.2.1
  have HF := Lib.hid hf
  have HK := Lib.hid hk
  have HG := Lib.hid hg
  obtain ⟨sx, sm, sk, hsl, hsm, hsx⟩ : ∃ x m k, A.pv = .slice x m k ∧ m = ps.length ∧ (0 < m → ∃ g, x = some ⟨g, 0, none⟩) := by
    rcases ownsRow_slice h.rp with ⟨e, e2⟩ | ⟨g, cap, e, _⟩
    · exact ⟨_, _, _, e, e2.symm, fun h => by omega⟩
    · exact ⟨_, _, _, e, rfl, fun _ => ⟨_, rfl⟩⟩
  have HSl := Lib.hid hsl
  have HSm := Lib.hid hsm
  have HSx := Lib.hid hsx
  have hsm' : sm ≤ 100000 := by omega
  clear h hr hf hk hg hsl hsm hsx
  go_enter Try.func18, Try.ntmps18
  go_upto_block 0 with (at_builtin; refine wpList_append_run rfl (.tmp 6) (.tmp 11) 22 22 rfl _ _ _ w1 22 rfl rfl rfl hrun ?_)
  clear hrun c5 f5 c1'
  generalize w1.setCell ⟨A.r, 5, none⟩ (.slice (some ⟨g, 0, none⟩) d.safe.length cap) = w2 at *
  go_wp2_with fail
  go_loopw [4] (fun i wr => ∃ k : Nat, k ≤ sm ∧ i = .int .i64 k ∧ Rf S d b c { A with go := g, co := cap } ins (play d.safe (ps.take k)) ps wr ∧ Kept A.own V wr) (fun i _ => sm - (intOf i).toNat)
  case atStart => exact ⟨0, by omega, rfl, HF.out, HK.out⟩
  case round =>
    clear HF HK
    obtain ⟨k, hk, rfl, hf, hkp⟩ := hrel
    have HF := Lib.hid hf
    have HK := Lib.hid hkp
    clear hf hkp
    by_cases hlt : k < sm
    · have k0 : (0 : Int) ≤ k := by omega
      have k1 : (k : Int) < sm := by omega
      have hd : decide ((k : Int) < (sm : Int)) = true := decide_eq_true (by omega)
      have hd2 : decide (k < sm) = true := decide_eq_true hlt
      obtain ⟨pb, rfl⟩ := HSx.out (by omega)
      have hkl : k < ps.length := by have := HSm.out; omega
      have HX : Hid (∀ W, Below wr.heap.size wr W → (W.cell? ⟨A.r, 5, none⟩ = some (.slice (some ⟨g, 0, none⟩) d.safe.length cap) ∧ W.cell? ⟨A.r, 6, none⟩ = some (.slice (some ⟨pb, 0, none⟩) sm sk) ∧ W.cell? ⟨pb, k * 2, none⟩ = some (.int .i64 (ps.getD k (0, 0)).1) ∧ W.cell? ⟨pb, k * 2 + 1, none⟩ = some (.int .u32 (ps.getD k (0, 0)).2))) := fun W hb => by
        have hW := HF.out.below hb
        obtain ⟨-, -, -, -, -, z5, z6⟩ := hW.c0
        have hp := hW.puts (g := pb) (cap := sk) (by simp only; rw [HSl.out, HSm.out]) k hkl
        simp only [HSl.out] at z5 z6
        rw [play_len] at z5
        exact ⟨z5, z6, hp.1, hp.2⟩
      obtain ⟨hq0, hq1⟩ := HF.out.wf (ps.getD k (0, 0)) (by rw [List.getD_eq_getElem?_getD, List.getElem?_eq_getElem hkl]; exact List.getElem_mem hkl)
      have hnx := play_next d.safe ps k hkl
      have HNx := Lib.hid hnx
      obtain ⟨q, hq⟩ : ∃ q, ps.getD k (0, 0) = q := ⟨_, rfl⟩
      rw [hq] at hq0 hq1 HNx
      simp only [hq] at HX
      obtain ⟨qn, qx⟩ := q
      simp only at hq0 hq1 HNx HX
      obtain ⟨j, rfl⟩ := Int.eq_ofNat_of_zero_le hq0
      rw [Int.toNat_natCast] at HNx
      have hj : j < d.safe.length := by omega
      have HC := Lib.hid (fun W (hb : Below wr.heap.size wr W) => (HF.out.below hb).ro.cell j (by rw [play_len]; exact hj))
      have HN := Lib.hid (fun W (hb : Below wr.heap.size wr W) => (HF.out.below hb).word HGi.out j qx (by rw [play_len]; exact hj))
      simp only [← HNx.out] at HN
      have HNe := Lib.hid HF.out.ne
      have hne6 : pb ≠ g := ((HNe.out.2.2 pb (by show Value.ownBlock A.pv = _; rw [HSl.out]; rfl)).2.2)
      have hne5 : A.r ≠ g := HNe.out.2.1
      have HSt : Hid (∀ (W : World) (u : Value), (W.cell? ⟨A.r, 5, none⟩ = some (.slice (some ⟨g, 0, none⟩) d.safe.length cap) ∧ W.cell? ⟨A.r, 6, none⟩ = some (.slice (some ⟨pb, 0, none⟩) sm sk) ∧ W.cell? ⟨pb, k * 2, none⟩ = some (.int .i64 (j : Int)) ∧ W.cell? ⟨pb, k * 2 + 1, none⟩ = some (.int .u32 qx)) →
          ((W.setCell ⟨g, j, none⟩ u).cell? ⟨A.r, 5, none⟩ = some (.slice (some ⟨g, 0, none⟩) d.safe.length cap) ∧ (W.setCell ⟨g, j, none⟩ u).cell? ⟨A.r, 6, none⟩ = some (.slice (some ⟨pb, 0, none⟩) sm sk) ∧ (W.setCell ⟨g, j, none⟩ u).cell? ⟨pb, k * 2, none⟩ = some (.int .i64 (j : Int)) ∧ (W.setCell ⟨g, j, none⟩ u).cell? ⟨pb, k * 2 + 1, none⟩ = some (.int .u32 qx))) := fun W u h => by
        have b1 : (W.setCell ⟨g, j, none⟩ u).heap[A.r]? = W.heap[A.r]? := Below.heap_setCell _ _ _ _ (fun (e : A.r = g) => hne5 e)
        have b2 : (W.setCell ⟨g, j, none⟩ u).heap[pb]? = W.heap[pb]? := Below.heap_setCell _ _ _ _ (fun (e : pb = g) => hne6 e)
        exact ⟨(World.cell?_of_block b1).trans h.1, (World.cell?_of_block b1).trans h.2.1, (World.cell?_of_block b2).trans h.2.2.1, (World.cell?_of_block b2).trans h.2.2.2⟩
      obtain ⟨y5, y6, yn, yx⟩ := HX.out wr (Below.refl _ _)
      obtain ⟨yc, yf⟩ := HC.out wr (Below.refl _ _)
      have j0 : (0 : Int) ≤ j := by omega
      have j1 : (j : Int) < d.safe.length := by omega
      clear hq hq0 hq1 hnx hne5 hne6
      generalize (play d.safe (ps.take k)).getD j 0 = old at *
      go_upto_region 4 with fail
      clear yn yx y5
      go_region_held3 (fun w' => w'.cell? ⟨A.r, 5, none⟩ = some (.slice (some ⟨g, 0, none⟩) d.safe.length cap) ∧ w'.cell? ⟨A.r, 6, none⟩ = some (.slice (some ⟨pb, 0, none⟩) sm sk) ∧ w'.cell? ⟨pb, k * 2, none⟩ = some (.int .i64 (j : Int)) ∧ w'.cell? ⟨pb, k * 2 + 1, none⟩ = some (.int .u32 qx)) (first | exact HSt.out _ _ (by assumption) | exact HX.out _ (by first | assumption | exact (Below.refl _ _).drew | exact Below.refl _ _) | go_keep) (first | fail)
      all_goals
        rename_i hK _
        refine hK _ _ ?_
        go_wp2_with fail
        go_roundw
        case rel => exact ⟨k + 1, by omega, by go_num, HN.out wr.drew (Below.refl _ _).drew, HK.out.drew.setCell (.inr HG.out) _⟩
        case measure => simp [intOf]; omega
    · have hd : decide ((k : Int) < (sm : Int)) = false := decide_eq_false (by omega)
      have hd2 : decide (k < sm) = false := decide_eq_false hlt
      obtain rfl : k = sm := by omega
      obtain ⟨-, -, -, -, -, -, q6⟩ := HF.out.c0
      have g6 := HF.out.free 6
      have HF2 := Lib.hid HF.out.cleared
      have HK2 := Lib.hid (HK.out.setCell (x := ⟨A.r, 6, none⟩) (.inl (.inl rfl)) (.slice none 0 0))
      rw [List.take_of_length_le (by have := HSm.out; omega)] at HF2
      simp only at q6 g6
      rw [HSl.out] at q6
      go_wp2_with fail
      go_end0
      exact ⟨rfl, { A with go := g, co := cap, pv := .slice none 0 0 }, rfl, HF2.out, HK2.out, by
        rintro k (rfl | rfl | rfl | hk)
        · exact .inl (.inl rfl)
        · exact .inl (.inr (.inl rfl))
        · exact .inr HG.out
        · simp [Value.ownBlock] at hk⟩
theorem rcommit_any (h : Rf S d b c A ins outs ps V) {p : Nat → Prop} (hr : NRow p V b d.safe.length d.safe) (hcc : b = none → c = 0) (h16 : d.safe.length ≤ 1000000) (hpl : ps.length ≤ 100000) (ok : Bool) :
    Calls Try.prog 18 #[.pointer (some ⟨A.r, 0, none⟩), .bool ok] V (RComP S d b c A ins (if ok = true then play d.safe ps else d.safe) V) := by
  cases ok with
  | true => exact rcommit_true h hr hcc h16 hpl
  | false => exact rcommit_false h hr hcc h16 hpl
end
end Fld
end Go.Proofs.Ytoighaicdakbkaa
