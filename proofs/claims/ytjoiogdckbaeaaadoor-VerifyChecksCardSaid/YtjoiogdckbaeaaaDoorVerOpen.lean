/- What came in, opened: rows of structs of any kind; a configuration, with how long its lists may be. -/
import Derived.Test.YtjoiogdckbaeaaaDoorCodeOpen
import Derived.Test.YtjoiogdckbaeaaaDoorVerMem
import Derived.SizedLaws
namespace Go.Proofs.YtjoiogdckbaeaaaDoor
open Go.ChangeShapes Go.WideShapes Go.ChangeAt Go.RowKit
namespace Ver
open Isa Flw
set_option linter.unusedVariables false
set_option linter.unusedSimpArgs false
section
variable {H : Type} {enc : TypeId × Value → H} {w : World} {spare : Nat → Bool} {held : Bool}
/-- all that is in a part is in the whole -/
theorem agg_w {t : TypeId} {fs : Array Field} (ht : Tryd.prog.underlying t = some (.struct fs)) {xs : List (DataW H × List MemPlace)} {R : Nat} (h : ∀ k ∈ (DataW.agg (xs.map (·.1))).weights Tryd.prog t, k ≤ R) {j : Nat} {f : Field} {y : DataW H × List MemPlace} (hf : fs[j]? = some f) (hy : xs[j]? = some y) :
    ∀ k ∈ y.1.weights Tryd.prog f.type, k ≤ R := by
  intro k hk
  refine h k ?_
  simp only [DataW.weights, ht]
  refine DataW.weights_mem_each (j := j) (t := f.type) (d := y.1) ?_ ?_ k hk
  · rw [List.getElem?_map, Array.getElem?_toList, hf]; rfl
  · rw [List.getElem?_map, hy]; rfl
/-- a slice that came in: its shape, and how much it may be -/
theorem open_shape {ts e : TypeId} (hu : Tryd.prog.underlying ts = some (.slice e)) {fuel : Nat} {cs : List Value} {x : DataW H × List MemPlace} (h : DataW.trod enc Tryd.prog w 0 spare held fuel ts cs = some x) :
    ∃ (a : Option Addr) (n c : Nat), cs = [.slice a n c] ∧ n ≤ c ∧ c ≤ 9223372036854775807 ∧ (a = none → n = 0 ∧ c = 0) ∧ (∀ R, (∀ k ∈ x.1.weights Tryd.prog ts, k ≤ R) → n * Tryd.prog.bytesOf e ≤ R) := by
  rcases DataW.trod_slice hu h with ⟨hcs, _⟩ | ⟨a, len, cap, elems, rest, n, hf, rfl, hx, _, hl, hm, hlen, hel, _, _⟩
  · exact ⟨none, 0, 0, hcs, by omega, by omega, fun _ => ⟨rfl, rfl⟩, fun R _ => by omega⟩
  · unfold maxLen at hm
    refine ⟨some a, len, cap, rfl, hl, hm, (fun q => by cases q), fun R hR => ?_⟩
    have := hR ((elems.length + rest.length) * Tryd.prog.bytesOf e) (by rw [hx]; simp only [DataW.weights, hu, List.length_map]; exact List.mem_cons_self)
    refine Nat.le_trans (Nat.mul_le_mul_right _ ?_) this
    omega
/-- a list of structs that came in, in whatever way one of them is opened -/
theorem open_row {ts e : TypeId} {sz : Nat} (hu : Tryd.prog.underlying ts = some (.slice e)) (hc : Tryd.prog.cellsOf e = sz) (hsz : 0 < sz) {Q : Type} (en : Q → List Value) (wf : Q → Prop) (q0 : Q) (hl : ∀ d, (en d).length = sz)
    (hop : ∀ (fuel : Nat) (cs : List Value) (x : DataW H × List MemPlace), DataW.trod enc Tryd.prog w 0 spare held fuel e cs = some x → ∃ d, cs = en d ∧ wf d)
    {fuel : Nat} {cs : List Value} {x : DataW H × List MemPlace} (h : DataW.trod enc Tryd.prog w 0 spare held fuel ts cs = some x) :
    ∃ (a : Option Addr) (n c : Nat) (l : List Q), cs = [.slice a n c] ∧ n ≤ c ∧ c ≤ 9223372036854775807 ∧ (a = none → n = 0 ∧ c = 0) ∧ (∀ R, (∀ k ∈ x.1.weights Tryd.prog ts, k ≤ R) → n * Tryd.prog.bytesOf e ≤ R) ∧
      l.length = n ∧ (∀ d ∈ l, wf d) ∧ (n = 0 ∨ ∃ b off, a = some ⟨b, off, none⟩ ∧ ∀ j, j < n → ∀ (r : Nat) (v : Value), (en (l.getD j q0))[r]? = some v → w.cell? ⟨b, off + j * sz + r, none⟩ = some v) := by
  obtain ⟨a, n, c, hcs, h1, h2, h3, h4⟩ := open_shape hu h
  subst hcs
  rcases DataW.trod_slice hu h with ⟨hcs, _⟩ | ⟨a', len, cap, elems, rest, m, hf, hcs, _, _, _, _, hlen, hel, _, _⟩
  · injection hcs with e1 _
    injection e1 with e1 e2 e3
    subst e1; subst e2
    exact ⟨none, 0, c, [], rfl, h1, h2, h3, h4, rfl, (fun d hd => by cases hd), .inl rfl⟩
  · injection hcs with e1 _
    injection e1 with e1 e2 e3
    subst e1; subst e2; subst e3
    rw [hc] at hel
    have key : ∀ i, i < n → ∃ d, wf d ∧ ∀ (r : Nat) (v : Value), (en d)[r]? = some v → w.cell? (a'.add (i * sz + r)) = some v := by
      intro i hi
      have hy := hel i hi
      rw [List.getElem?_eq_getElem (by omega)] at hy
      obtain ⟨cs', g1, g2⟩ := Option.bind_eq_some_iff.1 hy
      obtain ⟨_, hcl, hat⟩ := World.cells?_some g1
      obtain ⟨d, rfl, hd⟩ := hop _ _ _ g2
      refine ⟨d, hd, fun r v hr => ?_⟩
      have hrl : r < sz := by have := (List.getElem?_eq_some_iff.1 hr).1; rw [hl] at this; exact this
      have := hat r (by omega)
      rw [Go.Deep.add_add] at this
      rw [this, hr]
    by_cases h0 : n = 0
    · subst h0
      exact ⟨some a', 0, c, [], rfl, h1, h2, h3, h4, rfl, (fun d hd => by cases hd), .inl rfl⟩
    obtain ⟨b, off, spot⟩ := a'
    have hspot : spot = none := by
      obtain ⟨d, _, g⟩ := key 0 (by omega)
      have : 0 < (en d).length := by rw [hl]; exact hsz
      have g1 := g 0 _ (List.getElem?_eq_getElem this)
      simpa [Addr.add] using World.cell?_spot g1
    subst hspot
    have build : ∀ m, m ≤ n → ∃ l : List Q, l.length = m ∧ (∀ d ∈ l, wf d) ∧ ∀ j, j < m → ∀ (r : Nat) (v : Value), (en (l.getD j q0))[r]? = some v → w.cell? ⟨b, off + j * sz + r, none⟩ = some v := by
      intro m
      induction m with
      | zero => intro _; exact ⟨[], rfl, (fun d hd => by cases hd), fun j hj => by omega⟩
      | succ m ihm =>
        intro hj
        obtain ⟨l, hl1, hl0, hl2⟩ := ihm (by omega)
        obtain ⟨d, hd, g⟩ := key m (by omega)
        refine ⟨l ++ [d], by simp [hl1], fun x hx => ?_, fun j hj2 r v hr => ?_⟩
        · rcases List.mem_append.1 hx with hx | hx
          · exact hl0 x hx
          · rw [List.mem_singleton.1 hx]; exact hd
        · by_cases e : j = m
          · subst e
            have : (l ++ [d]).getD j q0 = d := by rw [List.getD_eq_getElem?_getD, List.getElem?_append_right (by omega), hl1]; simp
            rw [this] at hr
            have := g r v hr
            rw [Addr.add_mid] at this
            rw [← this, Nat.add_assoc]
          · have : (l ++ [d]).getD j q0 = l.getD j q0 := by rw [List.getD_eq_getElem?_getD, List.getD_eq_getElem?_getD, List.getElem?_append_left (by omega)]
            rw [this] at hr
            exact hl2 j (by omega) r v hr
    obtain ⟨l, hl1, hl0, hl2⟩ := build n (Nat.le_refl _)
    exact ⟨some ⟨b, off, none⟩, n, c, l, rfl, h1, h2, h3, h4, hl1, hl0, .inr ⟨b, off, rfl, hl2⟩⟩
theorem cPd : Tryd.prog.cellsOf 46 = 5 := by kernel_rfl
theorem cPt : Tryd.prog.cellsOf 48 = 3 := by kernel_rfl
theorem cHe : Tryd.prog.cellsOf 44 = 3 := by kernel_rfl
theorem cFi : Tryd.prog.cellsOf 28 = 4 := by kernel_rfl
theorem cFr : Tryd.prog.cellsOf 31 = 3 := by kernel_rfl
theorem cCf : Tryd.prog.cellsOf 33 = 14 := by kernel_rfl
theorem cIn : Tryd.prog.cellsOf 3 = 1 := by kernel_rfl
theorem cRg : Tryd.prog.cellsOf 42 = 1 := by kernel_rfl
theorem cPs : Tryd.prog.cellsOf 24 = 1 := by kernel_rfl
theorem cQs : Tryd.prog.cellsOf 25 = 1 := by kernel_rfl
theorem cUs : Tryd.prog.cellsOf 26 = 1 := by kernel_rfl
theorem cSl : Tryd.prog.cellsOf 29 = 1 := by kernel_rfl
set_option maxRecDepth 20000 in
theorem open_health {fuel : Nat} {cs : List Value} {x : DataW H × List MemPlace} (h : DataW.trod enc Tryd.prog w 0 spare held fuel 44 cs = some x) :
    ∃ t o m : Int, cs = [.int .u8 t, .int .u8 o, .int .u8 m] := by
  obtain ⟨ys, n', hn', _, hcl, hyl, hg⟩ := DataW.trod_struct Tryd.underlying44 h
  rw [cHe] at hcl
  match cs, hcl with
  | [v0, v1, v2], _ =>
    have q : ∀ j, j < 3 → ∃ y, ys[j]? = some y := fun j hj => ⟨_, List.getElem?_eq_getElem (by rw [hyl]; exact hj)⟩
    obtain ⟨y0, e0⟩ := q 0 (by omega)
    obtain ⟨y1, e1⟩ := q 1 (by omega)
    obtain ⟨y2, e2⟩ := q 2 (by omega)
    have g0 : DataW.trod enc Tryd.prog w 0 spare held n' 5 [v0] = some y0 := by have := hg 0 _ rfl; rw [e0] at this; simpa [c8] using this
    have g1 : DataW.trod enc Tryd.prog w 0 spare held n' 5 [v1] = some y1 := by have := hg 1 _ rfl; rw [e1] at this; simpa [c8] using this
    have g2 : DataW.trod enc Tryd.prog w 0 spare held n' 5 [v2] = some y2 := by have := hg 2 _ rfl; rw [e2] at this; simpa [c8] using this
    obtain ⟨a, h0, _, w0⟩ := DataW.trod_int Tryd.underlying5 g0
    obtain ⟨b, h1, _, w1⟩ := DataW.trod_int Tryd.underlying5 g1
    obtain ⟨c, h2, _, w2⟩ := DataW.trod_int Tryd.underlying5 g2
    simp at h0 h1 h2
    subst h0
    subst h1
    subst h2
    exact ⟨a, b, c, rfl⟩
set_option maxRecDepth 20000 in
theorem open_pd {fuel : Nat} {cs : List Value} {x : DataW H × List MemPlace} (h : DataW.trod enc Tryd.prog w 0 spare held fuel 46 cs = some x) :
    ∃ d : Pd, cs = encD d ∧ d.wf := by
  obtain ⟨ys, n', hn', _, hcl, hyl, hg⟩ := DataW.trod_struct Tryd.underlying46 h
  rw [cPd] at hcl
  match cs, hcl with
  | [v0, v1, v2, v3, v4], _ =>
    have q : ∀ j, j < 3 → ∃ y, ys[j]? = some y := fun j hj => ⟨_, List.getElem?_eq_getElem (by rw [hyl]; exact hj)⟩
    obtain ⟨y0, e0⟩ := q 0 (by omega)
    obtain ⟨y1, e1⟩ := q 1 (by omega)
    obtain ⟨y2, e2⟩ := q 2 (by omega)
    have g0 : DataW.trod enc Tryd.prog w 0 spare held n' 42 [v0] = some y0 := by have := hg 0 _ rfl; rw [e0] at this; simpa [cRg, cIn, cHe] using this
    have g1 : DataW.trod enc Tryd.prog w 0 spare held n' 3 [v1] = some y1 := by have := hg 1 _ rfl; rw [e1] at this; simpa [cRg, cIn, cHe] using this
    have g2 : DataW.trod enc Tryd.prog w 0 spare held n' 44 [v2, v3, v4] = some y2 := by have := hg 2 _ rfl; rw [e2] at this; simpa [cRg, cIn, cHe] using this
    obtain ⟨ra, rn, rc, h0, _⟩ := open_shape Tryd.underlying42 g0
    obtain ⟨s, h1, _, w1⟩ := DataW.trod_int Tryd.underlying3 g1
    obtain ⟨t, o, m, h2⟩ := open_health g2
    simp at h0 h1 h2
    obtain ⟨rfl, rfl, rfl⟩ := h2
    subst h0
    subst h1
    simp [Lit.wf, IntKind.min, IntKind.max, IntKind.signed, IntKind.bits] at w1
    exact ⟨⟨ra, rn, rc, s, t, o, m⟩, rfl, by unfold Pd.wf; simp only; omega⟩
set_option maxRecDepth 20000 in
theorem open_pt {fuel : Nat} {cs : List Value} {x : DataW H × List MemPlace} (h : DataW.trod enc Tryd.prog w 0 spare held fuel 48 cs = some x) :
    ∃ d : Pt, cs = encT d ∧ d.wf := by
  obtain ⟨ys, n', hn', _, hcl, hyl, hg⟩ := DataW.trod_struct Tryd.underlying48 h
  rw [cPt] at hcl
  match cs, hcl with
  | [v0, v1, v2], _ =>
    have q : ∀ j, j < 3 → ∃ y, ys[j]? = some y := fun j hj => ⟨_, List.getElem?_eq_getElem (by rw [hyl]; exact hj)⟩
    obtain ⟨y0, e0⟩ := q 0 (by omega)
    obtain ⟨y1, e1⟩ := q 1 (by omega)
    obtain ⟨y2, e2⟩ := q 2 (by omega)
    have g0 : DataW.trod enc Tryd.prog w 0 spare held n' 3 [v0] = some y0 := by have := hg 0 _ rfl; rw [e0] at this; simpa [cIn, c32] using this
    have g1 : DataW.trod enc Tryd.prog w 0 spare held n' 3 [v1] = some y1 := by have := hg 1 _ rfl; rw [e1] at this; simpa [cIn, c32] using this
    have g2 : DataW.trod enc Tryd.prog w 0 spare held n' 23 [v2] = some y2 := by have := hg 2 _ rfl; rw [e2] at this; simpa [cIn, c32] using this
    obtain ⟨a, h0, _, w0⟩ := DataW.trod_int Tryd.underlying3 g0
    obtain ⟨b, h1, _, w1⟩ := DataW.trod_int Tryd.underlying3 g1
    obtain ⟨r, h2, _, w2⟩ := DataW.trod_int Tryd.underlying23 g2
    simp at h0 h1 h2
    subst h0
    subst h1
    subst h2
    simp [Lit.wf, IntKind.min, IntKind.max, IntKind.signed, IntKind.bits] at w0 w1 w2
    exact ⟨⟨a, b, r⟩, rfl, by unfold Pt.wf; simp only; omega⟩
set_option maxRecDepth 20000 in
theorem open_fd {fuel : Nat} {cs : List Value} {x : DataW H × List MemPlace} (h : DataW.trod enc Tryd.prog w 0 spare held fuel 28 cs = some x) :
    ∃ (i : Int) (sa : Option Addr) (ns c : Nat) (r z : Int), cs = [.int .i64 i, .slice sa ns c, .int .u32 r, .int .i64 z] ∧ ns ≤ c ∧ c ≤ 9223372036854775807 ∧ (-9223372036854775808 ≤ i ∧ i ≤ 9223372036854775807) ∧ (0 ≤ r ∧ r ≤ 4294967295) ∧ (-9223372036854775808 ≤ z ∧ z ≤ 9223372036854775807) ∧
      (∀ R, (∀ k ∈ x.1.weights Tryd.prog 28, k ≤ R) → ns * Tryd.prog.bytesOf 23 ≤ R) := by
  obtain ⟨ys, n', hn', hx, hcl, hyl, hg⟩ := DataW.trod_struct Tryd.underlying28 h
  rw [cFi] at hcl
  match cs, hcl with
  | [v0, v1, v2, v3], _ =>
    have q : ∀ j, j < 4 → ∃ y, ys[j]? = some y := fun j hj => ⟨_, List.getElem?_eq_getElem (by rw [hyl]; exact hj)⟩
    obtain ⟨y0, e0⟩ := q 0 (by omega)
    obtain ⟨y1, e1⟩ := q 1 (by omega)
    obtain ⟨y2, e2⟩ := q 2 (by omega)
    obtain ⟨y3, e3⟩ := q 3 (by omega)
    have g0 : DataW.trod enc Tryd.prog w 0 spare held n' 3 [v0] = some y0 := by have := hg 0 _ rfl; rw [e0] at this; simpa [cIn, c32, cUs] using this
    have g1 : DataW.trod enc Tryd.prog w 0 spare held n' 26 [v1] = some y1 := by have := hg 1 _ rfl; rw [e1] at this; simpa [cIn, c32, cUs] using this
    have g2 : DataW.trod enc Tryd.prog w 0 spare held n' 23 [v2] = some y2 := by have := hg 2 _ rfl; rw [e2] at this; simpa [cIn, c32, cUs] using this
    have g3 : DataW.trod enc Tryd.prog w 0 spare held n' 3 [v3] = some y3 := by have := hg 3 _ rfl; rw [e3] at this; simpa [cIn, c32, cUs] using this
    obtain ⟨i, h0, _, w0⟩ := DataW.trod_int Tryd.underlying3 g0
    obtain ⟨sa, ns, c, h1, k1, k2, _, k4⟩ := open_shape Tryd.underlying26 g1
    obtain ⟨r, h2, _, w2⟩ := DataW.trod_int Tryd.underlying23 g2
    obtain ⟨z, h3, _, w3⟩ := DataW.trod_int Tryd.underlying3 g3
    simp at h0 h1 h2 h3
    subst h0
    subst h1
    subst h2
    subst h3
    simp [Lit.wf, IntKind.min, IntKind.max, IntKind.signed, IntKind.bits] at w0 w2 w3
    refine ⟨i, sa, ns, c, r, z, rfl, k1, k2, by omega, by omega, by omega, fun R hR => k4 R ?_⟩
    rw [hx] at hR
    exact agg_w Tryd.underlying28 hR (j := 1) rfl e1
set_option maxRecDepth 20000 in
theorem open_fr {fuel : Nat} {cs : List Value} {x : DataW H × List MemPlace} (h : DataW.trod enc Tryd.prog w 0 spare held fuel 31 cs = some x) :
    ∃ (fl fs : Int) (al : Option Addr) (nl cl : Nat), cs = [.int .u32 fl, .int .u32 fs, .slice al nl cl] := by
  obtain ⟨ys, n', hn', hx, hcl, hyl, hg⟩ := DataW.trod_struct Tryd.underlying31 h
  rw [cFr] at hcl
  match cs, hcl with
  | [v0, v1, v2], _ =>
    have q : ∀ j, j < 3 → ∃ y, ys[j]? = some y := fun j hj => ⟨_, List.getElem?_eq_getElem (by rw [hyl]; exact hj)⟩
    obtain ⟨y0, e0⟩ := q 0 (by omega)
    obtain ⟨y1, e1⟩ := q 1 (by omega)
    obtain ⟨y2, e2⟩ := q 2 (by omega)
    have g0 : DataW.trod enc Tryd.prog w 0 spare held n' 23 [v0] = some y0 := by have := hg 0 _ rfl; rw [e0] at this; simpa [c32, cSl] using this
    have g1 : DataW.trod enc Tryd.prog w 0 spare held n' 23 [v1] = some y1 := by have := hg 1 _ rfl; rw [e1] at this; simpa [c32, cSl] using this
    have g2 : DataW.trod enc Tryd.prog w 0 spare held n' 29 [v2] = some y2 := by have := hg 2 _ rfl; rw [e2] at this; simpa [c32, cSl] using this
    obtain ⟨a, h0, _, w0⟩ := DataW.trod_int Tryd.underlying23 g0
    obtain ⟨b, h1, _, w1⟩ := DataW.trod_int Tryd.underlying23 g1
    obtain ⟨al, nl, cl, h2, _⟩ := open_shape Tryd.underlying29 g2
    simp at h0 h1 h2
    subst h0
    subst h1
    subst h2
    exact ⟨a, b, al, nl, cl, rfl⟩
set_option maxRecDepth 20000 in
set_option maxHeartbeats 1600000 in
/-- a configuration that came in -/
theorem open_cf {fuel : Nat} {cs : List Value} {x : DataW H × List MemPlace} (h : DataW.trod enc Tryd.prog w 0 spare held fuel 33 cs = some x) :
    ∃ (m : Cm) (ds : List Pd) (c : Cf), cs = m.cells.toList ∧ CfIn w m ds c ∧ (m.ap = none → m.cp = 0) ∧ (m.aq = none → m.cq = 0) ∧
      (∀ R, (∀ k ∈ x.1.weights Tryd.prog 33, k ≤ R) → m.np * Tryd.prog.bytesOf 46 ≤ R ∧ m.nq * Tryd.prog.bytesOf 48 ≤ R ∧ m.ns * Tryd.prog.bytesOf 23 ≤ R) := by
  obtain ⟨ys, n', hn', hx, hcl, hyl, hg⟩ := DataW.trod_struct Tryd.underlying33 h
  rw [cCf] at hcl
  match cs, hcl with
  | [v0, v1, v2, v3, v4, v5, v6, v7, v8, v9, v10, v11, v12, v13], _ =>
    have q : ∀ j, j < 9 → ∃ y, ys[j]? = some y := fun j hj => ⟨_, List.getElem?_eq_getElem (by rw [hyl]; exact hj)⟩
    obtain ⟨y0, e0⟩ := q 0 (by omega)
    obtain ⟨y1, e1⟩ := q 1 (by omega)
    obtain ⟨y2, e2⟩ := q 2 (by omega)
    obtain ⟨y3, e3⟩ := q 3 (by omega)
    obtain ⟨y4, e4⟩ := q 4 (by omega)
    obtain ⟨y5, e5⟩ := q 5 (by omega)
    obtain ⟨y6, e6⟩ := q 6 (by omega)
    obtain ⟨y7, e7⟩ := q 7 (by omega)
    obtain ⟨y8, e8⟩ := q 8 (by omega)
    have g0 : DataW.trod enc Tryd.prog w 0 spare held n' 23 [v0] = some y0 := by have := hg 0 _ rfl; rw [e0] at this; simpa [cIn, c32, c8, cPs, cQs, cFi, cFr] using this
    have g1 : DataW.trod enc Tryd.prog w 0 spare held n' 24 [v1] = some y1 := by have := hg 1 _ rfl; rw [e1] at this; simpa [cIn, c32, c8, cPs, cQs, cFi, cFr] using this
    have g2 : DataW.trod enc Tryd.prog w 0 spare held n' 25 [v2] = some y2 := by have := hg 2 _ rfl; rw [e2] at this; simpa [cIn, c32, c8, cPs, cQs, cFi, cFr] using this
    have g3 : DataW.trod enc Tryd.prog w 0 spare held n' 28 [v3, v4, v5, v6] = some y3 := by have := hg 3 _ rfl; rw [e3] at this; simpa [cIn, c32, c8, cPs, cQs, cFi, cFr] using this
    have g4 : DataW.trod enc Tryd.prog w 0 spare held n' 31 [v7, v8, v9] = some y4 := by have := hg 4 _ rfl; rw [e4] at this; simpa [cIn, c32, c8, cPs, cQs, cFi, cFr] using this
    have g5 : DataW.trod enc Tryd.prog w 0 spare held n' 3 [v10] = some y5 := by have := hg 5 _ rfl; rw [e5] at this; simpa [cIn, c32, c8, cPs, cQs, cFi, cFr] using this
    have g6 : DataW.trod enc Tryd.prog w 0 spare held n' 5 [v11] = some y6 := by have := hg 6 _ rfl; rw [e6] at this; simpa [cIn, c32, c8, cPs, cQs, cFi, cFr] using this
    have g7 : DataW.trod enc Tryd.prog w 0 spare held n' 3 [v12] = some y7 := by have := hg 7 _ rfl; rw [e7] at this; simpa [cIn, c32, c8, cPs, cQs, cFi, cFr] using this
    have g8 : DataW.trod enc Tryd.prog w 0 spare held n' 3 [v13] = some y8 := by have := hg 8 _ rfl; rw [e8] at this; simpa [cIn, c32, c8, cPs, cQs, cFi, cFr] using this
    obtain ⟨mem, h0, _, _⟩ := DataW.trod_int Tryd.underlying23 g0
    obtain ⟨ap, np, cp, ds, h1, p1, p2, p3, p4, p5, p6, p7⟩ := open_row Tryd.underlying24 cPd (by omega) encD Pd.wf dz (fun _ => rfl) (fun _ _ _ h => open_pd h) g1
    obtain ⟨aq, nq, cq, po, h2, q1, q2, q3, q4, q5, q6, q7⟩ := open_row Tryd.underlying25 cPt (by omega) encT Pt.wf pz (fun _ => rfl) (fun _ _ _ h => open_pt h) g2
    obtain ⟨ins, sa, ns, cs', fr, fw, h3, r1, r2, r3, r4, r5, r6⟩ := open_fd g3
    obtain ⟨fl, fs, al, nl, cl, h4⟩ := open_fr g4
    obtain ⟨vi, h5, _, _⟩ := DataW.trod_int Tryd.underlying3 g5
    obtain ⟨dg, h6, _, _⟩ := DataW.trod_int Tryd.underlying5 g6
    obtain ⟨rq, h7, _, _⟩ := DataW.trod_int Tryd.underlying3 g7
    obtain ⟨sg, h8, _, _⟩ := DataW.trod_int Tryd.underlying3 g8
    simp only [List.cons.injEq, and_true] at h0 h1 h2 h3 h4 h5 h6 h7 h8
    obtain ⟨h3a, h3b, h3c, h3d⟩ := h3
    obtain ⟨h4a, h4b, h4c⟩ := h4
    subst h0 h1 h2 h3a h3b h3c h3d h4a h4b h4c h5 h6 h7 h8
    refine ⟨⟨mem, ap, np, cp, aq, nq, cq, ins, sa, ns, cs', fr, fw, fl, fs, al, nl, cl, vi, dg, rq, sg⟩, ds, ⟨ds.map (·.st), po, ins, ns, fr, fw⟩, rfl, ?_, fun e => (p3 e).2, fun e => (q3 e).2, fun R hR => ?_⟩
    · refine ⟨⟨p5, p6, p7.imp id ?_⟩, ⟨q5, q6, q7.imp id ?_⟩, rfl, rfl, rfl, rfl, rfl, ⟨p1, p2⟩, ⟨q1, q2⟩, ⟨r1, r2⟩, r3, r4, r5⟩
      · rintro ⟨b, off, e, hc⟩
        exact ⟨b, off, e, fun j hj => ⟨hc j hj 0 _ rfl, hc j hj 1 _ rfl, hc j hj 2 _ rfl, hc j hj 3 _ rfl, hc j hj 4 _ rfl⟩⟩
      · rintro ⟨b, off, e, hc⟩
        exact ⟨b, off, e, fun j hj => ⟨hc j hj 0 _ rfl, hc j hj 1 _ rfl, hc j hj 2 _ rfl⟩⟩
    · rw [hx] at hR
      exact ⟨p4 R (agg_w Tryd.underlying33 hR (j := 1) rfl e1), q4 R (agg_w Tryd.underlying33 hR (j := 2) rfl e2), r6 R (agg_w Tryd.underlying33 hR (j := 3) rfl e3)⟩
end
end Ver
end Go.Proofs.YtjoiogdckbaeaaaDoor
