/- A reader in memory: bytes that are taken. -/
import Derived.Test.YtimhppgepiikbaaWireD5
namespace Go.Proofs.Ytimhppgepiikbaa
open Go.ChangeShapes Go.WideShapes Go.ChangeAt Go.RowKit
namespace Wire
set_option linter.unusedVariables false
theorem RSt.more {q q' : Nat → Prop} {g : Nat} {w : World} {s : RS} (h : RSt q g w s) (hq : ∀ k, k < w.heap.size → q' k → q k) : RSt q' g w s := by
  obtain ⟨v, h1, h2, h3, h4⟩ := h
  refine ⟨v, h1, h2, h3, fun he => ?_⟩
  obtain ⟨a, n, c, h5, h6, h7⟩ := h4 he
  exact ⟨a, n, c, h5, h6.imp (fun k hk hh => hh.elim (fun e => Or.inl e) fun e => Or.inr (hq k hk e)), h7⟩
/-- what is changed behind a number leaves a reader as it is -/
theorem RSt.aside {q : Nat → Prop} {g B : Nat} {w w' : World} {s : RS} (h : RSt q g w s) (hb : Below B w w') (hg : g < B) (hq : ∀ k, B ≤ k → q k) : RSt q g w' s := by
  obtain ⟨v, h1, h2, h3, h4⟩ := h
  refine ⟨v, (hb.block g hg).trans h1, h2, h3, fun he => ?_⟩
  obtain ⟨a, n, c, h5, h6, h7⟩ := h4 he
  exact ⟨a, n, c, h5, h6.kept ((Kept.below hb).mono fun k hk => Or.inr (hq k hk)), h7⟩
theorem Kept.behind {p : Nat → Prop} {w w1 w3 : World} (h : Kept p w w1) (hb : Below w.heap.size w1 w3) : Kept p w w3 := ⟨hb.os.trans h.os, hb.tape.trans h.tape, hb.output.trans h.output, Nat.le_trans h.size hb.size, fun k hk hp => (hb.block k hk).trans (h.block k hk hp)⟩
theorem RSt.lt {q : Nat → Prop} {g : Nat} {w : World} {s : RS} (h : RSt q g w s) : g < w.heap.size := by obtain ⟨v, hv⟩ := h.cells; exact lt_of_block hv
theorem OwnV.keptg {w w' : World} {B g n : Nat} {v : Value} {l : List Int} {cs : Array Value} {fr : Nat × Nat} (h : OwnV w B v n l) (hg : w.heap[g]? = some (.cells cs 63 fr)) (hk : Kept (· = g) w w') : OwnV w' B v n l := by
  have hne := own_other h hg (by decide)
  refine ⟨h.1, ?_⟩
  rcases h.2 with hn | ⟨g', cap, cur, rfl, hbg, hg', rest⟩
  · exact .inl hn
  · refine .inr ⟨g', cap, cur, rfl, hbg, (hk.block g' (lt_of_block hg') ?_).trans hg', rest⟩
    intro e
    exact hne (by simp [Value.ownBlock, e])
/-- what a byte's reading tells, where there is one -/
theorem RS.num_one (D : List Int) (p : Nat) (h : p < D.length) : RS.num ⟨D, p, 0⟩ 1 = (D.getD p 0, ⟨D, p + 1, 0⟩) := by
  simp only [RS.num, if_true]
  rw [if_neg (by omega)]
  congr 1
  rw [List.drop_eq_getElem_cons h]
  show D[p] + 256 * un ([] : List Int) = _
  simp [un, h]
set_option maxHeartbeats 1000000 in
theorem take8_any {q : Nat → Prop} (g : Nat) (w : World) (D : List Int) (p n : Nat) (h : RSt q g w ⟨D, p, 0⟩) (hn : p + n ≤ D.length) :
    Calls Try.prog 44 #[.pointer (some ⟨g, 0, none⟩), .int .i64 (n : Int), .func (.func 22) #[] #[]] w fun r w' => ∃ va vc, r = .returned (.slice va n vc) ∧ OwnV w' w.heap.size (.slice va n vc) n ((D.drop p).take n) ∧ RSt q g w' ⟨D, p + n, 0⟩ ∧ Kept (· = g) w w' := by
  obtain ⟨i0, hi, hz0, hz1, hz2⟩ := info_parts infoByte
  have HI := Lib.hid hi
  have HZ0 := Lib.hid hz0
  have HZ1 := Lib.hid hz1
  have HZ2 := Lib.hid hz2
  clear hi hz0 hz1 hz2
  have hlg := h.lt
  have hN6 : n ≤ 1000000 := by
    obtain ⟨v, _, _, _, hd⟩ := h
    obtain ⟨a, m, c, _, hs, h1, h2, h3, h4⟩ := hd rfl
    have := hs.1
    simp only at this
    omega
  have HQ : Hid (∀ (w' : World) s, RSt (fun k => q k ∨ w.heap.size ≤ k) g w' s → RSt q g w' s) := fun w' s h => h.more fun k _ hk => Or.inl hk
  have HR : Hid (RSt (fun k => q k ∨ w.heap.size ≤ k) g w ⟨D, p, 0⟩) := h.more fun k hk hh => hh.elim id fun e => by omega
  have HD := Lib.hid hn
  clear h hn
  go_enter Try.func44, Try.ntmps44
  go_wp2_with fail
  go_loopw [7, 10] (fun v i wr => ∃ (k : Nat) (va : Option Addr) (vc : Nat), k ≤ n ∧ i = .int .i64 k ∧ v = .slice va k vc ∧ OwnV wr w.heap.size (.slice va k vc) k ((D.drop p).take k) ∧ RSt (fun k => q k ∨ w.heap.size ≤ k) g wr ⟨D, p + k, 0⟩ ∧ Kept (· = g) w wr) (fun _ i _ => n - (intOf i).toNat)
  case atStart => exact ⟨0, none, 0, by omega, rfl, rfl, World.ownsRow_nil _ _ _ _, HR.out, Kept.refl _ _⟩
  case round =>
    obtain ⟨k, va, vc, hk, rfl, rfl, hown, hrs, hkp⟩ := hrel
    have HO := Lib.hid hown
    have HRs := Lib.hid hrs
    have HK := Lib.hid hkp
    clear hown hrs hkp HR
    by_cases hlt : k < n
    · have k0 : (0 : Int) ≤ k := by omega
      have k1 : (k : Int) < n := by omega
      have hd : decide ((k : Int) < (n : Int)) = true := by simp; omega
      have hone := RS.num_one D (p + k) (by have := HD.out; omega)
      have hu := ru8_any g wr _ HRs.out
      rw [hone] at hu
      have HU := Lib.hid hu
      have HT : Hid ((D.drop p).take (k + 1) = (D.drop p).take k ++ [D.getD (p + k) 0]) := by
        show _ = _
        have hlen : k < (D.drop p).length := by have := HD.out; rw [List.length_drop]; omega
        rw [List.take_succ_eq_append_getElem hlen]
        simp [show p + k < D.length from by have := HD.out; omega]
      clear hone hu
      generalize D.getD (p + k) 0 = z at *
      go_wp2_with fail
      refine HU.out.mono ?_
      rintro r w1 ⟨rfl, h1, h2⟩
      obtain ⟨v, hv⟩ := h1.cells
      obtain ⟨v0, hv0⟩ := HRs.out.cells
      have HV := Lib.hid hv
      have HO1 := Lib.hid (HO.out.keptg hv0 h2)
      have H1 := Lib.hid h1
      have H2 := Lib.hid (HK.out.trans h2)
      clear h1 h2 hv hv0
      go_wp2_with fail
      refine (rwell_any g w1 _ _ 0 HV.out).mono ?_
      rintro r w2 ⟨rfl, rfl⟩
      go_wp2_with (at_builtin; refine wpList_append_lies _ rfl (.tmp 18) (.tmp 20) 26 rfl w.heap.size 5 i0 (.int .u8 0) 1 1 Try.underlying26 HI.out HZ0.out HZ1.out HZ2.out rfl (by decide) (.slice va k vc) k (bv ((D.drop p).take k)) rfl (HO1.out.alloc _) ⟨w1.heap.size, 0, none⟩ 1 1 (bv [z]) rfl (by rfl) (World.news_of_block (w := w1.alloc (.cells #[.int .u8 z] 5)) (heap_alloc_new _ _)) (bv_one _) (by omega) (by unfold maxLen; omega) (by omega) (by have := H2.out.size; simp; omega) _ rfl ?_; intro g2 cap2 w3 hown2 hgrow hat hlt2)
      have hb3 : Below w.heap.size w1 w3 := Below.grown ((Below.refl _ _).alloc H2.out.size _) hgrow (by simp; have := H2.out.size; omega) (fun j hj => (World.ownsRow.lt HO1.out j hj).1)
      have HR3 := Lib.hid (H1.out.aside hb3 hlg (fun k hk => Or.inr hk))
      have HK3 : Hid (Kept (· = g) w w3) := H2.out.behind hb3
      rw [bv_append] at hown2
      have HO3 := Lib.hid hown2
      clear hown2 hgrow hat hlt2 hb3
      go_wp2_with fail
      go_roundw
      case rel => exact ⟨k + 1, _, cap2, by omega, by go_num, rfl, by rw [HT.out]; exact HO3.out, HR3.out, HK3.out⟩
      case measure => simp [intOf]; omega
    · have hd : decide ((k : Int) < (n : Int)) = false := by simp; omega
      obtain rfl : k = n := by omega
      go_wp2_with fail
      go_ret
      exact ⟨va, vc, rfl, HO.out, HQ.out _ _ HRs.out, HK.out⟩
/-- what the bytes' reading tells and leaves -/
def RS.bytes (s : RS) (most : Int) : List Int × RS :=
  if (s.count most 4).2.e = 0 then
    (if ((s.count most 4).2.d.length : Int) < (s.count most 4).2.p + (s.count most 4).1 then ([], ⟨s.d, s.p, 40⟩)
     else (((s.count most 4).2.d.drop (s.count most 4).2.p).take (s.count most 4).1.toNat, ⟨(s.count most 4).2.d, (s.count most 4).2.p + (s.count most 4).1.toNat, 0⟩))
  else ([], (s.count most 4).2)
theorem RS.num_d (s : RS) (m : Nat) : (s.num m).2.d = s.d := by unfold RS.num; split <;> (try split) <;> rfl
theorem RS.count_d (s : RS) (most : Int) (m : Nat) : (s.count most m).2.d = s.d := by
  unfold RS.count
  split
  · unfold RS.fail; split <;> exact RS.num_d s m
  · split <;> exact RS.num_d s m
theorem RS.count_low {q : Nat → Prop} {g : Nat} {w : World} {s : RS} (h : RSt q g w s) (most : Int) (m : Nat) : 0 ≤ (s.count most m).1 ∧ (s.count most m).1 < 256 ^ m := by
  have hp : (0 : Int) < 256 ^ m := Int.pow_pos (by omega)
  have hr := h.range m
  unfold RS.count
  split
  · exact ⟨by simp, hp⟩
  · split
    · exact hr
    · exact ⟨by simp, hp⟩
theorem RS.count_none (s : RS) (most : Int) (m : Nat) (h : ¬ (s.count most m).2.e = 0) : (s.count most m).1 = 0 := by
  revert h
  unfold RS.count
  split
  · intro _; rfl
  · split
    · intro h; exact absurd (by assumption) h
    · intro _; rfl
def BytesPost (q : Nat → Prop) (g : Nat) (w : World) (l : List Int) (s : RS) (r : Ending) (w' : World) : Prop :=
  ∃ va vn vc, r = .returned (.slice va vn vc) ∧ SRow (fun b => b < w.heap.size ∨ b = g) w' va vn l ∧ vn ≤ vc ∧ vc ≤ maxLen ∧ (va = none → vc = 0) ∧ RSt q g w' s ∧ Kept (· = g) w w' ∧ OwnV w' w.heap.size (.slice va vn vc) vn l
theorem bytes_none {q : Nat → Prop} {g : Nat} {w w' : World} {s : RS} (h : RSt q g w' s) (hk : Kept (· = g) w w') : BytesPost q g w [] s (.returned (.slice none 0 0)) w' :=
  ⟨none, 0, 0, rfl, ⟨rfl, by simp, Or.inl rfl⟩, by omega, by unfold maxLen; omega, fun _ => rfl, h, hk, World.ownsRow_nil _ _ _ _⟩
theorem srow_off {w : World} {B g n c : Nat} {a : Option Addr} {l : List Int} {cs : Array Value} {fr : Nat × Nat} (ho : OwnV w B (.slice a n c) n l) (hby : ∀ z ∈ l, 0 ≤ z ∧ z ≤ 255) (hg : w.heap[g]? = some (.cells cs 63 fr)) : SRow (fun b => b < B ∨ b = g) w a n l := by
  obtain ⟨h1, h2, h3⟩ := (own_parts ho hby).1
  refine ⟨h1, h2, ?_⟩
  rcases h3 with h3 | ⟨b, off, rfl, hb, hc⟩
  · exact Or.inl h3
  · by_cases h0 : n = 0
    · exact Or.inl h0
    refine Or.inr ⟨b, off, rfl, ?_, hc⟩
    intro hh
    rcases hh with hh | rfl
    · exact hb hh
    · have hne := own_other ho hg (by decide)
      exact hne (by simp [Value.ownBlock])
end Wire
end Go.Proofs.Ytimhppgepiikbaa
