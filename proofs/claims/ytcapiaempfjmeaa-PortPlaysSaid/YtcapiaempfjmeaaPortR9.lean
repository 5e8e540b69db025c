/- The document's New. (Made by tools/gen_portr9.py.) -/
import Derived.Test.YtcapiaempfjmeaaPortR8
import Derived.Deep.RegionLaw
namespace Go.Proofs.Ytcapiaempfjmeaa
open Go.ChangeShapes Go.WideShapes Go.ChangeAt Go.RowKit
namespace Prt
set_option linter.unusedVariables false
set_option linter.unusedSimpArgs false
theorem infoR : (Try.prog.info? 49).map (fun i => (i.zero, i.size, i.bytes)) = some (some (.slice none 0 0), 1, 24) := by kernel_rfl
/-- what New answers -/
def RNewP (n : Nat) (a0 : Option Addr) (c0 : Nat) (l : List Bx) (V : World) (e : Ending) (W : World) : Prop :=
  ∃ A T, e = .returned (.pointer (some ⟨A.r, 0, none⟩)) ∧ Rf A n a0 c0 l T W ∧ (∀ k, T k ≠ none → V.heap.size ≤ k) ∧ Below V.heap.size V W
theorem all_may {l : List Df} (h : mayL l = true) : l.length ≤ 16 ∧ ∀ k, k < l.length → (l[k]!).may = true := by
  unfold mayL at h
  simp only [Bool.and_eq_true, decide_eq_true_eq, List.all_eq_true] at h
  refine ⟨h.1, fun k hk => ?_⟩
  rw [getElem!_pos l k hk]
  exact h.2 _ (List.getElem_mem hk)
section
variable {S : Nat} {d0 : Value} {v : Nat → Value} {xs : Nat → List Value} {T Z : Nat → Option Nat} {V V2 V3 : World}
theorem NI.obj_grown (h : NI S d0 v xs T Z V) (hb : Below V.heap.size V V2) {j : Nat} (h1 : 1 ≤ j) (h2 : j ≤ 4) (hg : V2.grownBy V3 (v j).ownBlock) : V3.heap[S]? = some (.cells #[d0, v 1, v 2, v 3, v 4] 67 (0, 0)) := by
  have hn := h.below hb
  rw [hg.block S (lt_of_block hn.obj) (fun e => by have := h.tag j h1 h2 S e.symm; rw [h.tr] at this; simp at this; omega)]
  exact hn.obj
theorem heap2_new (w : World) (a b : Obj) : ((w.alloc a).alloc b).heap[w.heap.size + 1]? = some b := by have := heap_alloc_new (w.alloc a) b; simpa using this
theorem heap2_old (w : World) (a b : Obj) : ((w.alloc a).alloc b).heap[w.heap.size]? = some a := ((below_alloc (w.alloc a) b).block w.heap.size (by simp)).trans (heap_alloc_new w a)
/-- one more in a list -/
theorem NI.pushM (h : NI S d0 v xs T Z V) (hb : Below V.heap.size V V2) {j : Nat} (h1 : 1 ≤ j) (h2 : j ≤ 4) {u : Value} {g cap m : Nat} (hgr : V2.grownBy V3 (v j).ownBlock)
    (ho : V3.ownsRow (S + 1) (ty4 j) 1 (.slice (some ⟨g, 0, none⟩) m cap) m (xs j ++ [u])) (hm : m = (xs j).length + 1) (hat : (v j).ownBlock = some g ∨ g = V2.heap.size) :
    ∃ T', NI S d0 (upd v j (.slice (some ⟨g, 0, none⟩) m cap)) (upd xs j (xs j ++ [u])) T' Z (V3.setCell ⟨S, j, none⟩ (.slice (some ⟨g, 0, none⟩) m cap)) ∧ (∀ b s, T b = some s → T' b = some s) ∧ V.heap.size ≤ (V3.setCell ⟨S, j, none⟩ (.slice (some ⟨g, 0, none⟩) m cap)).heap.size := by
  refine ⟨_, NI.push (h.below hb) h1 h2 hgr ho hm hat, fun b s e => ?_, by have := hgr.size; have := hb.size; simp; omega⟩
  by_cases e2 : b = g
  · subst e2
    rcases hat with e3 | e3
    · rw [mark_new, ← e, h.tag j h1 h2 b e3]
    · have := h.lt b (by rw [e]; simp)
      have := hb.size
      omega
  · exact mark_old e e2
/-- a row of nothing but zeros, and one more in a list -/
theorem NI.pushZ (h : NI S d0 v xs T Z V) (hb : Below V.heap.size V V2) {z : Nat} (t : Nat) (hz : V2.heap[V.heap.size]? = some (.cells (nums (List.replicate z 0)).toArray 33 (0, 0)))
    {j : Nat} (h1 : 1 ≤ j) (h2 : j ≤ 4) {u : Value} {g cap m : Nat} (hgr : V2.grownBy V3 (v j).ownBlock)
    (ho : V3.ownsRow (S + 1) (ty4 j) 1 (.slice (some ⟨g, 0, none⟩) m cap) m (xs j ++ [u])) (hm : m = (xs j).length + 1) (hat : (v j).ownBlock = some g ∨ g = V2.heap.size) :
    ∃ T', NI S d0 (upd v j (.slice (some ⟨g, 0, none⟩) m cap)) (upd xs j (xs j ++ [u])) T' (upd Z V.heap.size (some z)) (V3.setCell ⟨S, j, none⟩ (.slice (some ⟨g, 0, none⟩) m cap)) ∧ (∀ b s, T b = some s → T' b = some s) ∧ T' V.heap.size = some (t + 5) ∧
      V.heap.size + 1 ≤ (V3.setCell ⟨S, j, none⟩ (.slice (some ⟨g, 0, none⟩) m cap)).heap.size := by
  have hl := lt_of_block h.obj
  have hn : T V.heap.size = none := by
    cases e2 : T V.heap.size with
    | none => rfl
    | some t => have := h.lt V.heap.size (by rw [e2]; simp); omega
  obtain ⟨T', h3, h4, h5⟩ := NI.pushM (NI.fresh (t := t) (h.below hb) hn (by omega) hz) (Below.refl _ _) h1 h2 hgr ho hm hat
  exact ⟨T', h3, fun b s e => h4 b s (mark_old e (fun e2 => by rw [e2, hn] at e; cases e)), h4 _ _ (mark_new _ _ _), by have := lt_of_block hz; omega⟩
/-- the round's end -/
theorem x4_next {X : Nat → List Value} {l : List Df} {wb db : Nat → Nat} {k m1 m3 wn : Nat} (hw : (l[k]!).w.toNat = wn) (j : Nat) (h1 : 1 ≤ j) (h2 : j ≤ 4) :
    upd (upd (upd (upd X 1 (rowsOf l wb k ++ [.slice (some ⟨m1, 0, none⟩) wn wn])) 3 (rowsOf l db k ++ [.slice (some ⟨m3, 0, none⟩) wn wn])) 2 (List.replicate k (.int .u32 255) ++ [.int .u32 255])) 4 (List.replicate k (.bool false) ++ [.bool false]) j = x4 l (upd wb k m1) (upd db k m3) (k + 1) j := by
  subst hw
  have : j = 1 ∨ j = 2 ∨ j = 3 ∨ j = 4 := by omega
  rcases this with rfl | rfl | rfl | rfl
  · exact (rows_next l wb k m1).symm
  · show _ = List.replicate (k + 1) _; rw [List.replicate_succ']; rfl
  · exact (rows_next l db k m3).symm
  · show _ = List.replicate (k + 1) _; rw [List.replicate_succ']; rfl
theorem WB.next {l : List Df} {wb db : Nat → Nat} {k m1 m3 wn : Nat} {Z1 T2 : Nat → Option Nat} (h : WB l wb db k T Z) (hlt : ∀ b s, T b = some s → b < m1) (h13 : m1 < m3) (hw : (l[k]!).w.toNat = wn)
    (hZ : Z1 = upd (upd Z m1 (some wn)) m3 (some wn)) (hT : ∀ b s, T b = some s → T2 b = some s) (ht1 : T2 m1 = some 5) (ht3 : T2 m3 = some (6 + k)) : WB l (upd wb k m1) (upd db k m3) (k + 1) T2 Z1 := by
  subst hZ
  intro i hi
  by_cases e : i = k
  · subst e
    rw [upd_same, upd_same, hw]
    exact ⟨by rw [upd_other _ _ _ _ (by omega), upd_same], ht1, by rw [upd_same], ht3⟩
  · obtain ⟨z1, t1, z2, t2⟩ := h i (by omega)
    have l1 := hlt _ _ t1
    have l2 := hlt _ _ t2
    rw [upd_other _ _ _ _ e, upd_other _ _ _ _ e]
    exact ⟨by rw [upd_other _ _ _ _ (by omega), upd_other _ _ _ _ (by omega)]; exact z1, hT _ _ t1, by rw [upd_other _ _ _ _ (by omega), upd_other _ _ _ _ (by omega)]; exact z2, hT _ _ t2⟩
def PZ (V0 : World) (S : Nat) (d0 : Value) (v : Nat → Value) (xs : Nat → List Value) (T Z : Nat → Option Nat) (k j : Nat) (u : Value) (mb z t : Nat) (W : World) : Prop :=
  ∃ g cap T', NI S d0 (upd v j (.slice (some ⟨g, 0, none⟩) (k + 1) cap)) (upd xs j (xs j ++ [u])) T' (upd Z mb (some z)) W ∧ (∀ b s, T b = some s → T' b = some s) ∧ T' mb = some (t + 5) ∧ mb + 1 ≤ W.heap.size ∧ Below V0.heap.size V0 W
theorem NI.pz {V0 : World} (h : NI S d0 v xs T Z V) (hV : Below V0.heap.size V0 V) (hS : V0.heap.size = S) (hb : Below V.heap.size V V2) {z : Nat} (t : Nat) (hz : V2.heap[V.heap.size]? = some (.cells (nums (List.replicate z 0)).toArray 33 (0, 0)))
    {j : Nat} (h1 : 1 ≤ j) (h2 : j ≤ 4) {u : Value} {g cap k : Nat} (hgr : V2.grownBy V3 (v j).ownBlock)
    (ho : V3.ownsRow (S + 1) (ty4 j) 1 (.slice (some ⟨g, 0, none⟩) (k + 1) cap) (k + 1) (xs j ++ [u])) (hm : k = (xs j).length) (hat : (v j).ownBlock = some g ∨ g = V2.heap.size) :
    PZ V0 S d0 v xs T Z k j u V.heap.size z t (V3.setCell ⟨S, j, none⟩ (.slice (some ⟨g, 0, none⟩) (k + 1) cap)) := by
  obtain ⟨T', a1, a2, a3, a4⟩ := h.pushZ hb t hz h1 h2 hgr ho (by omega) hat
  have := hV.size
  exact ⟨g, cap, T', a1, a2, a3, a4, (Below.grown (hV.trans (hb.mono hV.size)) hgr (by have := hb.size; omega) (fun b e => by have := (h.own j h1 h2).lt b e; omega)).setCell (by show V0.heap.size ≤ S; omega) _⟩
def PM (V0 : World) (S : Nat) (d0 : Value) (v : Nat → Value) (xs : Nat → List Value) (T Z : Nat → Option Nat) (k j : Nat) (u : Value) (m : Nat) (W : World) : Prop :=
  ∃ g cap T', NI S d0 (upd v j (.slice (some ⟨g, 0, none⟩) (k + 1) cap)) (upd xs j (xs j ++ [u])) T' Z W ∧ (∀ b s, T b = some s → T' b = some s) ∧ m ≤ W.heap.size ∧ Below V0.heap.size V0 W
theorem NI.pm {V0 : World} (h : NI S d0 v xs T Z V) (hV : Below V0.heap.size V0 V) (hS : V0.heap.size = S) (hb : Below V.heap.size V V2)
    {j : Nat} (h1 : 1 ≤ j) (h2 : j ≤ 4) {u : Value} {g cap k : Nat} (hgr : V2.grownBy V3 (v j).ownBlock)
    (ho : V3.ownsRow (S + 1) (ty4 j) 1 (.slice (some ⟨g, 0, none⟩) (k + 1) cap) (k + 1) (xs j ++ [u])) (hm : k = (xs j).length) (hat : (v j).ownBlock = some g ∨ g = V2.heap.size) :
    PM V0 S d0 v xs T Z k j u V.heap.size (V3.setCell ⟨S, j, none⟩ (.slice (some ⟨g, 0, none⟩) (k + 1) cap)) := by
  obtain ⟨T', a1, a2, a4⟩ := h.pushM hb h1 h2 hgr ho (by omega) hat
  have := hV.size
  exact ⟨g, cap, T', a1, a2, a4, (Below.grown (hV.trans (hb.mono hV.size)) hgr (by have := hb.size; omega) (fun b e => by have := (h.own j h1 h2).lt b e; omega)).setCell (by show V0.heap.size ≤ S; omega) _⟩
theorem rows_len (l : List Df) (wb : Nat → Nat) (k : Nat) : (rowsOf l wb k).length = k := by simp [rowsOf]
theorem may_w {d : Df} (h : d.may = true) : 1 ≤ d.w ∧ d.w ≤ 16 := by unfold Df.may at h; simp at h; omega
end
set_option maxHeartbeats 4000000 in
theorem rNew_any {p : Nat → Prop} {a0 : Option Addr} {n c0 : Nat} {l : List Df} {V : World} (h : FRow p V a0 n l) (hm : mayL l = true) :
    Calls Try.prog 10 #[.slice a0 n c0] V (RNewP n a0 c0 (l.map newB) V) := by
  have HF := Lib.hid h
  have HL : Hid (l.length = n) := h.1
  have HM := Lib.hid (all_may hm)
  have hn16 : n ≤ 16 := by rw [← h.1]; exact (all_may hm).1
  have HOk : Hid (∀ b ∈ l.map newB, b.ok) := by
    intro b hb
    obtain ⟨d, hd, rfl⟩ := List.mem_map.1 hb
    obtain ⟨i, hi, rfl⟩ := List.mem_iff_getElem.1 hd
    have h1 := (all_may hm).2 i hi
    rw [getElem!_pos l i hi] at h1
    exact newB_ok h1 (h.2.1 _ hd).1
  obtain ⟨iR, hiR, hzR0, hzR1, hzR2⟩ := info_parts infoR
  obtain ⟨iU, hiU, hzU0, hzU1, hzU2⟩ := info_parts infoW
  obtain ⟨iB, hiB, hzB0, hzB1, hzB2⟩ := info_parts infoB
  have HiR := Lib.hid hiR
  have HzR0 := Lib.hid hzR0
  have HzR1 := Lib.hid hzR1
  have HzR2 := Lib.hid hzR2
  have HiU := Lib.hid hiU
  have HzU0 := Lib.hid hzU0
  have HzU1 := Lib.hid hzU1
  have HzU2 := Lib.hid hzU2
  have HiB := Lib.hid hiB
  have HzB0 := Lib.hid hzB0
  have HzB1 := Lib.hid hzB1
  have HzB2 := Lib.hid hzB2
  clear h hm hiR hzR0 hzR1 hzR2 hiU hzU0 hzU1 hzU2 hiB hzB0 hzB1 hzB2
  go_enter Try.func10, Try.ntmps10
  go_wp2_with fail
  have HN0 : Hid (NI V.heap.size (.slice a0 n c0) (fun _ => .slice none 0 0) (x4 l (fun _ => 0) (fun _ => 0) 0) (fun x => if x = V.heap.size then some 0 else none) (fun _ => none) (V.alloc (.cells #[.slice a0 n c0, .slice none 0 0, .slice none 0 0, .slice none 0 0, .slice none 0 0] 67))) := by
    refine ⟨heap_alloc_new _ _, fun j h1 h2 => ?_, if_pos rfl, fun j _ _ b hb => by simp [Value.ownBlock] at hb, fun b z e => (by cases e), fun b hb => ?_⟩
    · have e : x4 l (fun _ => 0) (fun _ => 0) 0 j = [] := List.eq_nil_of_length_eq_zero (x4_len _ _ _ _ _)
      rw [e]
      exact World.ownsRow_nil _ _ _ _
    · by_cases e : b = V.heap.size
      · subst e; simp
      · simp [e] at hb
  go_loopw [4] (fun i wr => ∃ (k : Nat) (wb db : Nat → Nat) (v : Nat → Value) (T Z : Nat → Option Nat), k ≤ n ∧ i = .int .i64 k ∧ NI V.heap.size (.slice a0 n c0) v (x4 l wb db k) T Z wr ∧ WB l wb db k T Z ∧ Below V.heap.size V wr) (fun i _ => n - (intOf i).toNat)
  case atStart => exact ⟨0, _, _, _, _, _, by omega, rfl, HN0.out, fun i hi => by omega, below_alloc _ _⟩
  case round =>
    clear HN0
    obtain ⟨k, wb, db, v, T, Z, hk, rfl, hni, hwb, hb⟩ := hrel
    have HN := Lib.hid hni
    have HWB := Lib.hid hwb
    have HB := Lib.hid hb
    clear hni hwb hb
    obtain ⟨S, hS⟩ : ∃ S, V.heap.size = S := ⟨_, rfl⟩
    rw [hS] at HN
    rw [hS]
    have HS := Lib.hid hS
    clear hS
    by_cases hlt : k < n
    · have k0 : (0 : Int) ≤ k := by omega
      have k1 : (k : Int) < n := by omega
      have hdd : decide ((k : Int) < (n : Int)) = true := decide_eq_true (by omega)
      have hd2 : decide (k < n) = true := decide_eq_true hlt
      have hmay := HM.out.2 k (by rw [HL.out]; exact hlt)
      obtain ⟨wn, hwn⟩ := Int.eq_ofNat_of_zero_le (show 0 ≤ (l[k]!).w by have := (may_w hmay).1; omega)
      have hw16 : wn ≤ 16 := by have := (may_w hmay).2; omega
      have HWn : Hid ((l[k]!).w.toNat = wn) := by show _ = _; rw [hwn, Int.toNat_natCast]
      obtain ⟨b, off, rfl, _, hc⟩ := HF.out.2.2.resolve_left (by omega)
      have hq0 := (hc k hlt).1
      rw [hwn] at hq0
      have HQ0 := Lib.hid (fun W (hb : Below V.heap.size V W) => (Kept.of_below (p := fun _ => False) hb).cell hq0 id)
      clear hq0 hc hwn hmay
      have hx1 : x4 l wb db k 1 = rowsOf l wb k := rfl
      have hx2 : x4 l wb db k 2 = List.replicate k (.int .u32 255) := rfl
      have hx3 : x4 l wb db k 3 = rowsOf l db k := rfl
      have hx4 : x4 l wb db k 4 = List.replicate k (.bool false) := rfl
      have HX := Lib.hid (And.intro hx1 (And.intro hx2 (And.intro hx3 hx4)))
      have HXl := Lib.hid (fun j => x4_len l wb db k j)
      clear hx1 hx2 hx3 hx4
      generalize x4 l wb db k = X at *
      have hmk := fun W => run_make_words W wn (by omega)
      obtain ⟨v1, hv1⟩ : ∃ x, v 1 = x := ⟨_, rfl⟩
      have HV1 := Lib.hid hv1
      have c1 := HN.out.cell (j := 1) (by omega) (by omega)
      have hO1 := HN.out.own 1 (by omega) (by omega)
      have HSl : Hid (S < wr.heap.size) := lt_of_block HN.out.obj
      have q0 := HQ0.out wr HB.out
      rw [hv1] at c1 hO1
      rw [HXl.out 1, HX.out.1] at hO1
      have HO1 : Hid (wr.ownsRow (S + 1) 49 1 v1 k (rowsOf l wb k)) := hO1
      have a1 : ∀ o, (wr.alloc o).cell? ⟨S, 1, none⟩ = some v1 := fun o => (Kept.of_below (p := fun _ => False) (below_alloc wr o)).cell c1 id
      have aa1 : ∀ o o', ((wr.alloc o).alloc o').cell? ⟨S, 1, none⟩ = some v1 := fun o o' => (Kept.of_below (p := fun _ => False) (below_alloc (wr.alloc o) o')).cell (a1 o) id
      clear hv1 hO1
      go_upto_region 5 with fail
      go_cut [4] (fun i wx => i = .int .i64 k ∧ PZ V S (.slice (some ⟨b, off, none⟩) n c0) v X T Z k 1 (.slice (some ⟨wr.heap.size, 0, none⟩) wn wn) wr.heap.size wn 0 wx)
      case first =>
        go_region_law (refine step_append_lies _ rfl (.tmp 18) (.tmp 25) 65 rfl (S + 1) 49 iR _ 1 24 Try.underlying65 HiR.out HzR0.out HzR1.out HzR2.out rfl (by decide) v1 k (rowsOf l wb k) rfl (ownsRow_block HO1.out (fun b _ hlt => (show Below wr.heap.size wr _ from by go_grown).block b hlt)) ⟨wr.heap.size + 1, 0, none⟩ 1 1 [.slice (some ⟨wr.heap.size, 0, none⟩) wn wn] rfl (by rfl) (World.news_of_block (heap2_new wr _ _)) (by intro u hu; simp at hu; subst hu; rfl) (by omega) (by unfold maxLen; omega) (by omega) (by have := HSl.out; simp; omega) _ rfl ?_; intro g1 cap1 w1 hown hgrow hat hlt1; have hgrow' := hgrow; rw [← HV1.out] at hgrow' hat; have ho1 := HN.out.obj_grown (by go_grown) (j := 1) (by omega) (by omega) hgrow'; have HP := Lib.hid (HN.out.pz HB.out HS.out (by go_grown) 0 (by exact heap2_old wr _ _) (j := 1) (by omega) (by omega) hgrow' (by rw [HX.out.1]; exact hown) (HXl.out 1).symm hat); have d1 : w1.cell? ⟨S, 1, none⟩ = some v1 := (by rw [cell_of_row _ _ _ _ _ _ ho1]; exact congrArg some HV1.out); have f1 : w1.frozen? ⟨S, 1, none⟩ = false := (by simp [World.frozen?, ho1]); clear hown hgrow hgrow' hat ho1)
        all_goals
          go_wp2_with fail
          go_meet
          exact ⟨rfl, HP.out⟩
      case rest =>
      obtain ⟨rfl, g1, cap1, T1, hn, hm, ht, hs, hb⟩ := hcut
      rw [HX.out.1] at hn
      obtain ⟨f1, hf1⟩ : ∃ f, upd v 1 (.slice (some ⟨g1, 0, none⟩) (k + 1) cap1) = f := ⟨_, rfl⟩
      obtain ⟨X1, hX1⟩ : ∃ f, upd X 1 (rowsOf l wb k ++ [.slice (some ⟨wr.heap.size, 0, none⟩) wn wn]) = f := ⟨_, rfl⟩
      rw [hf1, hX1] at hn
      have HX1 := Lib.hid hX1
      clear hf1 hX1
      obtain ⟨Z1, hZ1⟩ : ∃ f, upd Z wr.heap.size (some wn) = f := ⟨_, rfl⟩
      rw [hZ1] at hn
      have HZ1 := Lib.hid hZ1
      clear hZ1
      have HN1 := Lib.hid hn
      have HM1 := Lib.hid hm
      have HS1 := Lib.hid hs
      have HB1 := Lib.hid hb
      have HT1 := Lib.hid ht
      clear hn hm hs hb ht q0 c1 a1 aa1 HO1 HV1 HSl
      obtain ⟨W1, hW1⟩ : ∃ w, w = wc := ⟨_, rfl⟩
      subst hW1
      have HY1 := Lib.hid (show X1 3 = rowsOf l db k ∧ X1 2 = List.replicate k (.int .u32 255) ∧ X1 4 = List.replicate k (.bool false) from by rw [← HX1.out]; exact ⟨HX.out.2.2.1, HX.out.2.1, HX.out.2.2.2⟩)
      obtain ⟨v3, hv3⟩ : ∃ x, f1 3 = x := ⟨_, rfl⟩
      have HV3 := Lib.hid hv3
      have c3 := HN1.out.cell (j := 3) (by omega) (by omega)
      have hO3 := HN1.out.own 3 (by omega) (by omega)
      have HSl : Hid (S < W1.heap.size) := lt_of_block HN1.out.obj
      have q0 := HQ0.out W1 HB1.out
      rw [hv3] at c3 hO3
      rw [HY1.out.1, rows_len] at hO3
      have HO3 : Hid (W1.ownsRow (S + 1) 49 1 v3 k (rowsOf l db k)) := hO3
      have a3 : ∀ o, (W1.alloc o).cell? ⟨S, 3, none⟩ = some v3 := fun o => (Kept.of_below (p := fun _ => False) (below_alloc W1 o)).cell c3 id
      have aa3 : ∀ o o', ((W1.alloc o).alloc o').cell? ⟨S, 3, none⟩ = some v3 := fun o o' => (Kept.of_below (p := fun _ => False) (below_alloc (W1.alloc o) o')).cell (a3 o) id
      clear hv3 hO3
      go_upto_region 6 with fail
      go_cut [4] (fun i wx => i = .int .i64 k ∧ PZ V S (.slice (some ⟨b, off, none⟩) n c0) f1 X1 T1 Z1 k 3 (.slice (some ⟨W1.heap.size, 0, none⟩) wn wn) W1.heap.size wn (1 + k) wx)
      case first =>
        go_region_law (refine step_append_lies _ rfl (.tmp 33) (.tmp 40) 65 rfl (S + 1) 49 iR _ 1 24 Try.underlying65 HiR.out HzR0.out HzR1.out HzR2.out rfl (by decide) v3 k (rowsOf l db k) rfl (ownsRow_block HO3.out (fun b _ hlt => (show Below W1.heap.size W1 _ from by go_grown).block b hlt)) ⟨W1.heap.size + 1, 0, none⟩ 1 1 [.slice (some ⟨W1.heap.size, 0, none⟩) wn wn] rfl (by rfl) (World.news_of_block (heap2_new W1 _ _)) (by intro u hu; simp at hu; subst hu; rfl) (by omega) (by unfold maxLen; omega) (by omega) (by have := HSl.out; simp; omega) _ rfl ?_; intro g3 cap3 w3 hown hgrow hat hlt3; have hgrow' := hgrow; rw [← HV3.out] at hgrow' hat; have ho3 := HN1.out.obj_grown (by go_grown) (j := 3) (by omega) (by omega) hgrow'; have HP := Lib.hid (HN1.out.pz HB1.out HS.out (by go_grown) (1 + k) (by exact heap2_old W1 _ _) (j := 3) (by omega) (by omega) hgrow' (by rw [HY1.out.1]; exact hown) (by rw [HY1.out.1, rows_len]) hat); have d3 : w3.cell? ⟨S, 3, none⟩ = some v3 := (by rw [cell_of_row _ _ _ _ _ _ ho3]; exact congrArg some HV3.out); have f3 : w3.frozen? ⟨S, 3, none⟩ = false := (by simp [World.frozen?, ho3]); clear hown hgrow hgrow' hat ho3)
        all_goals
          go_wp2_with fail
          go_meet
          exact ⟨rfl, HP.out⟩
      case rest =>
      obtain ⟨rfl, g3, cap3, T2, hn, hm, ht, hs, hb⟩ := hcut
      rw [HY1.out.1] at hn
      obtain ⟨f2, hf2⟩ : ∃ f, upd f1 3 (.slice (some ⟨g3, 0, none⟩) (k + 1) cap3) = f := ⟨_, rfl⟩
      obtain ⟨X2, hX2⟩ : ∃ f, upd X1 3 (rowsOf l db k ++ [.slice (some ⟨W1.heap.size, 0, none⟩) wn wn]) = f := ⟨_, rfl⟩
      rw [hf2, hX2] at hn
      have HX2 := Lib.hid hX2
      clear hf2 hX2
      obtain ⟨Z2, hZ2⟩ : ∃ f, upd Z1 W1.heap.size (some wn) = f := ⟨_, rfl⟩
      rw [hZ2] at hn
      have HZ2 := Lib.hid hZ2
      clear hZ2
      have HN2 := Lib.hid hn
      have HM2 := Lib.hid hm
      have HS2 := Lib.hid hs
      have HB2 := Lib.hid hb
      have HT2 := Lib.hid ht
      clear hn hm hs hb ht q0 c3 a3 aa3 HO3 HV3 HSl
      obtain ⟨W2, hW2⟩ : ∃ w, w = wc := ⟨_, rfl⟩
      subst hW2
      have HY2 := Lib.hid (show X2 2 = List.replicate k (.int .u32 255) ∧ X2 4 = List.replicate k (.bool false) from by rw [← HX2.out]; exact ⟨HY1.out.2.1, HY1.out.2.2⟩)
      obtain ⟨v2, hv2⟩ : ∃ x, f2 2 = x := ⟨_, rfl⟩
      have HV2 := Lib.hid hv2
      have c2 := HN2.out.cell (j := 2) (by omega) (by omega)
      have hO2 := HN2.out.own 2 (by omega) (by omega)
      have HSl : Hid (S < W2.heap.size) := lt_of_block HN2.out.obj
      have q0 := HQ0.out W2 HB2.out
      rw [hv2] at c2 hO2
      rw [HY2.out.1, List.length_replicate] at hO2
      have HO2 : Hid (W2.ownsRow (S + 1) 33 1 v2 k (List.replicate k (.int .u32 255))) := hO2
      have a2 : ∀ o, (W2.alloc o).cell? ⟨S, 2, none⟩ = some v2 := fun o => (Kept.of_below (p := fun _ => False) (below_alloc W2 o)).cell c2 id
      have aa2 : ∀ o o', ((W2.alloc o).alloc o').cell? ⟨S, 2, none⟩ = some v2 := fun o o' => (Kept.of_below (p := fun _ => False) (below_alloc (W2.alloc o) o')).cell (a2 o) id
      clear hv2 hO2
      go_upto_region 7 with fail
      go_cut [4] (fun i wx => i = .int .i64 k ∧ PM V S (.slice (some ⟨b, off, none⟩) n c0) f2 X2 T2 Z2 k 2 (.int .u32 255) W2.heap.size wx)
      case first =>
        go_wp2_with (at_builtin; refine wpList_append_lies _ rfl (.tmp 48) (.tmp 49) 49 rfl (S + 1) 33 iU _ 1 4 Try.underlying49 HiU.out HzU0.out HzU1.out HzU2.out rfl (by decide) v2 k (List.replicate k (.int .u32 255)) rfl (ownsRow_block HO2.out (fun b _ hlt => (show Below W2.heap.size W2 _ from by go_grown).block b hlt)) ⟨W2.heap.size, 0, none⟩ 1 1 [.int .u32 255] rfl (by rfl) (World.news_of_block (heap_alloc_new W2 _)) (by intro u hu; simp at hu; subst hu; rfl) (by omega) (by unfold maxLen; omega) (by omega) (by have := HSl.out; simp; omega) _ rfl ?_; intro g2 cap2 w2 hown hgrow hat hlt2; have hgrow' := hgrow; rw [← HV2.out] at hgrow' hat; have ho2 := HN2.out.obj_grown (by go_grown) (j := 2) (by omega) (by omega) hgrow'; have HP := Lib.hid (HN2.out.pm HB2.out HS.out (by go_grown) (j := 2) (by omega) (by omega) hgrow' (by rw [HY2.out.1]; exact hown) (by rw [HY2.out.1, List.length_replicate]) hat); have d2 : w2.cell? ⟨S, 2, none⟩ = some v2 := (by rw [cell_of_row _ _ _ _ _ _ ho2]; exact congrArg some HV2.out); have f2 : w2.frozen? ⟨S, 2, none⟩ = false := (by simp [World.frozen?, ho2]); clear hown hgrow hgrow' hat ho2)
        go_meet
        exact ⟨rfl, HP.out⟩
      case rest =>
      obtain ⟨rfl, g2, cap2, T3, hn, hm, hs, hb⟩ := hcut
      rw [HY2.out.1] at hn
      obtain ⟨f3, hf3⟩ : ∃ f, upd f2 2 (.slice (some ⟨g2, 0, none⟩) (k + 1) cap2) = f := ⟨_, rfl⟩
      obtain ⟨X3, hX3⟩ : ∃ f, upd X2 2 (List.replicate k (.int .u32 255) ++ [.int .u32 255]) = f := ⟨_, rfl⟩
      rw [hf3, hX3] at hn
      have HX3 := Lib.hid hX3
      clear hf3 hX3
      have HN3 := Lib.hid hn
      have HM3 := Lib.hid hm
      have HS3 := Lib.hid hs
      have HB3 := Lib.hid hb

      clear hn hm hs hb  q0 c2 a2 aa2 HO2 HV2 HSl
      obtain ⟨W3, hW3⟩ : ∃ w, w = wc := ⟨_, rfl⟩
      subst hW3
      have HY3 := Lib.hid (show X3 4 = List.replicate k (.bool false) from by rw [← HX3.out]; exact HY2.out.2)
      obtain ⟨v4, hv4⟩ : ∃ x, f3 4 = x := ⟨_, rfl⟩
      have HV4 := Lib.hid hv4
      have c4 := HN3.out.cell (j := 4) (by omega) (by omega)
      have hO4 := HN3.out.own 4 (by omega) (by omega)
      have HSl : Hid (S < W3.heap.size) := lt_of_block HN3.out.obj
      have q0 := HQ0.out W3 HB3.out
      rw [hv4] at c4 hO4
      rw [HY3.out, List.length_replicate] at hO4
      have HO4 : Hid (W3.ownsRow (S + 1) 4 1 v4 k (List.replicate k (.bool false))) := hO4
      have a4 : ∀ o, (W3.alloc o).cell? ⟨S, 4, none⟩ = some v4 := fun o => (Kept.of_below (p := fun _ => False) (below_alloc W3 o)).cell c4 id
      have aa4 : ∀ o o', ((W3.alloc o).alloc o').cell? ⟨S, 4, none⟩ = some v4 := fun o o' => (Kept.of_below (p := fun _ => False) (below_alloc (W3.alloc o) o')).cell (a4 o) id
      clear hv4 hO4
      go_wp2_with (at_builtin; refine wpList_append_lies _ rfl (.tmp 57) (.tmp 58) 48 rfl (S + 1) 4 iB _ 1 1 Try.underlying48 HiB.out HzB0.out HzB1.out HzB2.out rfl (by decide) v4 k (List.replicate k (.bool false)) rfl (ownsRow_block HO4.out (fun b _ hlt => (show Below W3.heap.size W3 _ from by go_grown).block b hlt)) ⟨W3.heap.size, 0, none⟩ 1 1 [.bool false] rfl (by rfl) (World.news_of_block (heap_alloc_new W3 _)) (by intro u hu; simp at hu; subst hu; rfl) (by omega) (by unfold maxLen; omega) (by omega) (by have := HSl.out; simp; omega) _ rfl ?_; intro g4 cap4 w4 hown hgrow hat hlt4; have hgrow' := hgrow; rw [← HV4.out] at hgrow' hat; have ho4 := HN3.out.obj_grown (by go_grown) (j := 4) (by omega) (by omega) hgrow'; have HP := Lib.hid (HN3.out.pm HB3.out HS.out (by go_grown) (j := 4) (by omega) (by omega) hgrow' (by rw [HY3.out]; exact hown) (by rw [HY3.out, List.length_replicate]) hat); have d4 : w4.cell? ⟨S, 4, none⟩ = some v4 := (by rw [cell_of_row _ _ _ _ _ _ ho4]; exact congrArg some HV4.out); have f4 : w4.frozen? ⟨S, 4, none⟩ = false := (by simp [World.frozen?, ho4]); clear hown hgrow hgrow' hat ho4)
      obtain ⟨g5, cap5, T5, hn5, hm5, hs5, hb5⟩ := HP.out
      clear HP
      rw [HS.out] at hb5
      have HR5 := Lib.hid hb5
      have HI5 := Lib.hid (hn5.imp (xs' := x4 l (upd wb k wr.heap.size) (upd db k W1.heap.size) (k + 1)) (fun j h1 h2 => by
        rw [HY3.out, ← HX3.out, ← HX2.out, ← HX1.out]
        exact x4_next HWn.out j h1 h2))
      have HW5 : Hid (WB l (upd wb k wr.heap.size) (upd db k W1.heap.size) (k + 1) T5 Z2) := WB.next HWB.out (fun b s e => (HN.out.lt b (by rw [e]; simp)).2) (by have := HS1.out; omega) HWn.out (by rw [HZ1.out, HZ2.out])
        (fun b s e => hm5 b s (HM3.out b s (HM2.out b s (HM1.out b s e)))) (hm5 _ _ (HM3.out _ _ (HM2.out _ _ HT1.out))) (by have := hm5 _ _ (HM3.out _ _ HT2.out); rw [this]; congr 1; omega)
      clear hn5 hm5 hs5 hb5
      go_roundw
      case rel => exact ⟨k + 1, _, _, _, _, _, by omega, by go_num, HI5.out, HW5.out, HR5.out⟩
      case measure => simp [intOf]; omega
    · have hdd : decide ((k : Int) < (n : Int)) = false := decide_eq_false (by omega)
      have hd2 : decide (k < n) = false := decide_eq_false hlt
      obtain rfl : k = n := by omega
      go_wp2_with fail
      go_ret
      obtain ⟨A, hA, hR⟩ := HN.out.made HWB.out HL.out (by omega) HOk.out
      exact ⟨A, T, by rw [hA]; rfl, hR, fun b hb => by have := HN.out.lt b hb; have := HS.out; omega, HB.out⟩
end Prt
end Go.Proofs.Ytcapiaempfjmeaa
