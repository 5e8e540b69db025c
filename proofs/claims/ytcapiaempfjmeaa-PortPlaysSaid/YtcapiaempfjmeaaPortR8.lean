/- The document's New: what stands while it is made. -/
import Derived.Test.YtcapiaempfjmeaaPortR5
import Derived.Deep.AppendLies
namespace Go.Proofs.Ytcapiaempfjmeaa
open Go.ChangeShapes Go.WideShapes Go.ChangeAt Go.RowKit
namespace Prt
set_option linter.unusedVariables false
set_option linter.unusedSimpArgs false
/-- what the four lists are of -/
def ty4 (j : Nat) : TypeId := if j = 2 then 33 else if j = 4 then 4 else 49
structure NI (S : Nat) (d0 : Value) (v : Nat → Value) (xs : Nat → List Value) (T : Nat → Option Nat) (Z : Nat → Option Nat) (V : World) : Prop where
  obj : V.heap[S]? = some (.cells #[d0, v 1, v 2, v 3, v 4] 67 (0, 0))
  own : ∀ j, 1 ≤ j → j ≤ 4 → V.ownsRow (S + 1) (ty4 j) 1 (v j) (xs j).length (xs j)
  tr : T S = some 0
  tag : ∀ j, 1 ≤ j → j ≤ 4 → ∀ b, (v j).ownBlock = some b → T b = some j
  zer : ∀ b z, Z b = some z → (∃ t, T b = some (t + 5)) ∧ V.heap[b]? = some (.cells (nums (List.replicate z 0)).toArray 33 (0, 0))
  lt : ∀ b, T b ≠ none → S ≤ b ∧ b < V.heap.size
section
variable {S : Nat} {d0 : Value} {v : Nat → Value} {xs : Nat → List Value} {T Z : Nat → Option Nat} {V V2 V3 : World}
theorem NI.kept (h : NI S d0 v xs T Z V) {p : Nat → Prop} (hk : Kept p V V2) (hp : ∀ b, T b ≠ none → ¬ p b) : NI S d0 v xs T Z V2 := by
  have hs : ∀ {b t}, T b = some t → ¬ p b := fun e => hp _ (by rw [e]; simp)
  refine ⟨hk.same h.obj (hs h.tr), fun j h1 h2 => ownsRow_block (h.own j h1 h2) fun b hb hlt => hk.block b hlt (hs (h.tag j h1 h2 b hb)), h.tr, h.tag, fun b z e => ?_, fun b hb => ⟨(h.lt b hb).1, Nat.lt_of_lt_of_le (h.lt b hb).2 hk.size⟩⟩
  obtain ⟨⟨t, ht⟩, hz⟩ := h.zer b z e
  exact ⟨⟨t, ht⟩, hk.same hz (hs ht)⟩
theorem NI.below (h : NI S d0 v xs T Z V) (hb : Below V.heap.size V V2) : NI S d0 v xs T Z V2 := h.kept (p := fun _ => False) (Kept.of_below hb) (fun _ _ => id)
/-- a block of zeros is the object's, too -/
theorem NI.fresh (h : NI S d0 v xs T Z V) {mb z t : Nat} (hn : T mb = none) (hS : S ≤ mb) (hz : V.heap[mb]? = some (.cells (nums (List.replicate z 0)).toArray 33 (0, 0))) : NI S d0 v xs (mark T mb (t + 5)) (upd Z mb (some z)) V := by
  have ho : ∀ {b s}, T b = some s → mark T mb (t + 5) b = some s := fun {b s} e => mark_old e (fun e2 => by rw [e2, hn] at e; cases e)
  refine ⟨h.obj, h.own, ho h.tr, fun j h1 h2 b hb => ho (h.tag j h1 h2 b hb), fun b y e => ?_, fun b hb => ?_⟩
  · by_cases e2 : b = mb
    · subst e2
      rw [upd_same] at e
      cases e
      exact ⟨⟨t, mark_new _ _ _⟩, hz⟩
    · rw [upd_other _ _ _ _ e2] at e
      obtain ⟨⟨s, hs⟩, h4⟩ := h.zer b y e
      exact ⟨⟨s, ho hs⟩, h4⟩
  · by_cases e2 : b = mb
    · subst e2; exact ⟨hS, lt_of_block hz⟩
    · unfold mark at hb; rw [if_neg e2] at hb; exact h.lt b hb
theorem five_set (d0 x : Value) (v : Nat → Value) {j : Nat} (h1 : 1 ≤ j) (h2 : j ≤ 4) : (#[d0, v 1, v 2, v 3, v 4] : Array Value).setIfInBounds j x = #[d0, upd v j x 1, upd v j x 2, upd v j x 3, upd v j x 4] := by
  have : j = 1 ∨ j = 2 ∨ j = 3 ∨ j = 4 := by omega
  rcases this with rfl | rfl | rfl | rfl <;> simp [upd]
/-- one of the four lists has one more -/
theorem NI.push (h : NI S d0 v xs T Z V) {j : Nat} (h1 : 1 ≤ j) (h2 : j ≤ 4) {u : Value} {g cap m : Nat} (hgr : V.grownBy V3 (v j).ownBlock)
    (ho : V3.ownsRow (S + 1) (ty4 j) 1 (.slice (some ⟨g, 0, none⟩) m cap) m (xs j ++ [u])) (hm : m = (xs j).length + 1) (hat : (v j).ownBlock = some g ∨ g = V.heap.size) :
    NI S d0 (upd v j (.slice (some ⟨g, 0, none⟩) m cap)) (upd xs j (xs j ++ [u])) (mark T g j) Z (V3.setCell ⟨S, j, none⟩ (.slice (some ⟨g, 0, none⟩) m cap)) := by
  subst hm
  have hgo : T g = some j ∨ T g = none ∧ V.heap.size ≤ g := by
    rcases hat with e | e
    · exact .inl (h.tag j h1 h2 g e)
    · right
      refine ⟨?_, by omega⟩
      cases e2 : T g with
      | none => rfl
      | some t => have := h.lt g (by rw [e2]; simp); omega
  have hT : ∀ {b s}, T b = some s → mark T g j b = some s := fun {b s} e => by
    by_cases e2 : b = g
    · subst e2
      rcases hgo with e3 | ⟨e3, _⟩
      · rw [mark_new, ← e, e3]
      · rw [e3] at e; cases e
    · exact mark_old e e2
  have hSlt := lt_of_block h.obj
  have hgS : g ≠ S := by
    rintro rfl
    rcases hgo with e3 | ⟨_, e3⟩
    · rw [h.tr] at e3; simp at e3; omega
    · omega
  have hkp : Kept (fun b => T b = some j ∨ b = S) V (V3.setCell ⟨S, j, none⟩ (.slice (some ⟨g, 0, none⟩) ((xs j).length + 1) cap)) := by
    refine Kept.setCell ((kept_grown hgr).mono (fun b _ hb => .inl (h.tag j h1 h2 b hb))) (.inl (.inr rfl)) _
  have h3 : V3.heap[S]? = some (.cells #[d0, v 1, v 2, v 3, v 4] 67 (0, 0)) := by
    rw [hgr.block S hSlt (fun e => by have := h.tag j h1 h2 S e.symm; rw [h.tr] at this; simp at this; omega)]
    exact h.obj
  have hl3 := (ho.lt g rfl).2
  refine ⟨?_, fun i i1 i2 => ?_, hT h.tr, fun i i1 i2 b hb => ?_, fun b z e => ?_, fun b hb => ?_⟩
  · rw [row_setCell h3, five_set _ _ _ h1 h2]
  · by_cases e : i = j
    · subst e
      rw [upd_same, upd_same, List.length_append, List.length_singleton]
      exact ownsRow_block ho fun b hb _ => by
        have : b = g := by simpa [Value.ownBlock] using hb.symm
        exact heap_setCell_other _ _ _ _ (fun e => hgS (by rw [← this]; exact e))
    · rw [upd_other _ _ _ _ e, upd_other _ _ _ _ e]
      exact ownsRow_block (h.own i i1 i2) fun b hb hlt => hkp.block b hlt (by
        have := h.tag i i1 i2 b hb
        rintro (e2 | rfl)
        · rw [this] at e2; simp at e2; exact e e2
        · rw [h.tr] at this; simp at this; omega)
  · by_cases e : i = j
    · subst e
      rw [upd_same] at hb
      have : b = g := by simpa [Value.ownBlock] using hb.symm
      subst this
      exact mark_new _ _ _
    · rw [upd_other _ _ _ _ e] at hb
      exact hT (h.tag i i1 i2 b hb)
  · obtain ⟨⟨t, ht⟩, hz⟩ := h.zer b z e
    refine ⟨⟨t, hT ht⟩, ?_⟩
    rw [hkp.block b (lt_of_block hz) (by
      rintro (e2 | rfl)
      · rw [ht] at e2; simp at e2; omega
      · rw [h.tr] at ht; simp at ht)]
    exact hz
  · by_cases e2 : b = g
    · subst e2
      have : S ≤ b := by
        rcases hgo with e3 | ⟨_, e3⟩
        · exact (h.lt b (by rw [e3]; simp)).1
        · omega
      exact ⟨this, by simpa using hl3⟩
    · unfold mark at hb
      rw [if_neg e2] at hb
      have := h.lt b hb
      exact ⟨this.1, Nat.lt_of_lt_of_le this.2 hkp.size⟩
theorem NI.cell (h : NI S d0 v xs T Z V) {j : Nat} (h1 : 1 ≤ j) (h2 : j ≤ 4) : V.cell? ⟨S, j, none⟩ = some (v j) := by
  rw [cell_of_row _ _ _ _ _ _ h.obj]
  have : j = 1 ∨ j = 2 ∨ j = 3 ∨ j = 4 := by omega
  rcases this with rfl | rfl | rfl | rfl <;> rfl
theorem NI.imp (h : NI S d0 v xs T Z V) {xs' : Nat → List Value} (hx : ∀ j, 1 ≤ j → j ≤ 4 → xs j = xs' j) : NI S d0 v xs' T Z V :=
  ⟨h.obj, fun j h1 h2 => by rw [← hx j h1 h2]; exact h.own j h1 h2, h.tr, h.tag, h.zer, h.lt⟩
/-- words, as many as a definition says, in these blocks -/
def rowsOf (l : List Df) (wb : Nat → Nat) (k : Nat) : List Value := (List.range k).map fun i => .slice (some ⟨wb i, 0, none⟩) (l[i]!).w.toNat (l[i]!).w.toNat
def x4 (l : List Df) (wb db : Nat → Nat) (k : Nat) (j : Nat) : List Value := if j = 1 then rowsOf l wb k else if j = 2 then List.replicate k (.int .u32 255) else if j = 3 then rowsOf l db k else List.replicate k (.bool false)
theorem x4_len (l : List Df) (wb db : Nat → Nat) (k j : Nat) : (x4 l wb db k j).length = k := by
  unfold x4 rowsOf
  split
  · simp
  · split
    · simp
    · split <;> simp
theorem rows_next (l : List Df) (wb : Nat → Nat) (k b : Nat) : rowsOf l (upd wb k b) (k + 1) = rowsOf l wb k ++ [.slice (some ⟨b, 0, none⟩) (l[k]!).w.toNat (l[k]!).w.toNat] := by
  unfold rowsOf
  rw [List.range_succ, List.map_append]
  congr 1
  · apply List.map_congr_left
    intro i hi
    rw [upd_other _ _ _ _ (by have := List.mem_range.1 hi; omega)]
  · simp [upd_same]
/-- which blocks the words lie in -/
def WB (l : List Df) (wb db : Nat → Nat) (k : Nat) (T Z : Nat → Option Nat) : Prop :=
  ∀ i, i < k → Z (wb i) = some (l[i]!).w.toNat ∧ T (wb i) = some 5 ∧ Z (db i) = some (l[i]!).w.toNat ∧ T (db i) = some (6 + i)
theorem own_cells {W : World} {base n g cap : Nat} {e : TypeId} {ys : List Value} (h : W.ownsRow base e 1 (.slice (some ⟨g, 0, none⟩) n cap) n ys) {i : Nat} {u : Value} (hi : i < n) (hu : ys[i]? = some u) : CF W g i u :=
  ⟨(h.cellAt i (by omega)).trans hu, h.frozenAt i⟩
theorem slice_form {W : World} {base n : Nat} {e : TypeId} {v : Value} {ys : List Value} (h : W.ownsRow base e 1 v n ys) : ∃ x c g, v = .slice x n c ∧ (0 < n → x = some ⟨g, 0, none⟩) := by
  obtain ⟨_, h2⟩ := h
  rcases h2 with ⟨rfl, rfl⟩ | ⟨g, cap, cur, rfl, _⟩
  · exact ⟨none, 0, 0, rfl, fun h => by omega⟩
  · exact ⟨_, cap, g, rfl, fun _ => rfl⟩
theorem zero_at (m j : Nat) : (List.replicate m (0 : Int)).getD j 0 = 0 := by by_cases h : j < m <;> simp [List.getD, List.getElem?_replicate, h]
/-- what New has made -/
theorem NI.made {l : List Df} {n : Nat} {a0 : Option Addr} {c0 : Nat} {wb db : Nat → Nat} (h : NI S (.slice a0 n c0) v (x4 l wb db n) T Z V) (hw : WB l wb db n T Z) (hl : l.length = n) (h16 : n ≤ 16) (hok : ∀ b ∈ l.map newB, b.ok) :
    ∃ A, A.r = S ∧ Rf A n a0 c0 (l.map newB) T V := by
  have ho := fun j h1 h2 => by have := h.own j h1 h2; rw [x4_len] at this; exact this
  obtain ⟨y1, c1, g1, e1, f1⟩ := slice_form (ho 1 (by omega) (by omega))
  obtain ⟨y2, c2, g2, e2, f2⟩ := slice_form (ho 2 (by omega) (by omega))
  obtain ⟨y3, c3, g3, e3, f3⟩ := slice_form (ho 3 (by omega) (by omega))
  obtain ⟨y4, c4, g4, e4, f4⟩ := slice_form (ho 4 (by omega) (by omega))
  have o1 := ho 1 (by omega) (by omega)
  have o2 := ho 2 (by omega) (by omega)
  have o3 := ho 3 (by omega) (by omega)
  have o4 := ho 4 (by omega) (by omega)
  have t1 := h.tag 1 (by omega) (by omega)
  have t2 := h.tag 2 (by omega) (by omega)
  have t3 := h.tag 3 (by omega) (by omega)
  have t4 := h.tag 4 (by omega) (by omega)
  have hob := h.obj
  rw [e1] at o1 t1 hob
  rw [e2] at o2 t2 hob
  rw [e3] at o3 t3 hob
  rw [e4] at o4 t4 hob
  have hd : ∀ i, i < n → ((l.map newB)[i]!) = newB l[i]! := fun i hi => newL_at l i (by omega)
  have hrow : ∀ (f : Nat → Nat) i, i < n → (rowsOf l f n)[i]? = some (.slice (some ⟨f i, 0, none⟩) (l[i]!).w.toNat (l[i]!).w.toNat) := fun f i hi => by
    unfold rowsOf
    rw [List.getElem?_map, List.getElem?_range hi]; rfl
  have hz : ∀ b z, V.heap[b]? = some (.cells (nums (List.replicate z 0)).toArray 33 (0, 0)) → ∀ j, j < z → CF V b j (.int .u32 0) := fun b z hb j hj => by
    refine ⟨?_, by simp [World.frozen?, hb]⟩
    rw [cell_of_row _ _ _ _ _ _ hb]
    simp [nums, hj]
  have h00 : ∀ j, (List.replicate 16 (0 : Int)).getD j 0 = 0 := zero_at 16
  refine ⟨⟨S, g1, g2, g3, g4, y1, y2, y3, y4, c1, c2, c3, c4, wb, db, fun i => (l[i]!).w.toNat, fun i => (l[i]!).w.toNat⟩, rfl, ?_⟩
  refine ⟨by simpa using hl, hok, h16, hob, fun hn => ⟨f1 hn, f2 hn, f3 hn, f4 hn⟩, h.tr, fun hn => ?_, fun i hi => (hw i hi).2.1, fun i hi => (hw i hi).2.2.2, ?_, ?_, ?_, ?_, ?_, ?_, fun b hb => (h.lt b hb).2⟩
  · refine ⟨t1 g1 ?_, t2 g2 ?_, t3 g3 ?_, t4 g4 ?_⟩
    · rw [f1 hn]; rfl
    · rw [f2 hn]; rfl
    · rw [f3 hn]; rfl
    · rw [f4 hn]; rfl
  · intro i hi
    rw [hd i hi]
    rw [f1 (by omega)] at o1
    exact own_cells o1 hi (hrow wb i hi)
  · intro i hi j hj
    rw [hd i hi] at hj ⊢
    rw [show (newB l[i]!).m.getD j 0 = 0 from h00 j]
    exact hz _ _ (h.zer _ _ (hw i hi).1).2 j hj
  · intro i hi
    rw [hd i hi]
    rw [f2 (by omega)] at o2
    exact own_cells o2 hi (by show (List.replicate n _)[i]? = _; simp [List.getElem?_replicate, hi]; rfl)
  · intro i hi
    rw [hd i hi]
    rw [f3 (by omega)] at o3
    exact own_cells o3 hi (hrow db i hi)
  · intro i hi j hj
    rw [hd i hi] at hj ⊢
    rw [show (newB l[i]!).dr.getD j 0 = 0 from h00 j]
    exact hz _ _ (h.zer _ _ (hw i hi).2.2.1).2 j hj
  · intro i hi
    rw [hd i hi]
    rw [f4 (by omega)] at o4
    exact own_cells o4 hi (by show (List.replicate n _)[i]? = _; simp [List.getElem?_replicate, hi]; rfl)
end
end Prt
end Go.Proofs.Ytcapiaempfjmeaa
