/- The document's own answer: the padded text. -/
import Derived.Test.YtodbfkifendniaaDoorShaR2
import Derived.Laws.AppendOwnNone
namespace Go.Proofs.YtodbfkifendniaaDoor
open Go.ChangeShapes Go.WideShapes Go.ChangeAt Go.RowKit
namespace Sha
/-- what the padded text is -/
def PaddedPost (l : List Int) (w : World) (e : Ending) (w' : World) : Prop :=
  ∃ g cap, e = .returned (.slice (some ⟨g, 0, none⟩) (l ++ pad l.length).length cap) ∧ (l ++ pad l.length).length ≤ cap ∧ w.heap.size ≤ g ∧ SRow (fun _ => False) w' (some ⟨g, 0, none⟩) (l ++ pad l.length).length (l ++ pad l.length) ∧ Below w.heap.size w w'
theorem own_cap {w : World} {base n g cap : Nat} {xs : List Value} (h : w.ownsRow base 5 1 (.slice (some ⟨g, 0, none⟩) n cap) n xs) : n ≤ cap := by
  rcases h.2 with ⟨h, _⟩ | ⟨g', cap', cur, hv, _, _, hc, _⟩
  · simp at h
  · simp only [Value.slice.injEq] at hv
    omega
theorem below_own {w W W' : World} {v : Value} {n : Nat} {xs : List Value} (hB : Below w.heap.size w W) (ho : W.ownsRow w.heap.size 5 1 v n xs) {o : Obj} (hg : (W.alloc o).grownBy W' v.ownBlock) : Below w.heap.size w W' :=
  Below.grown (hB.alloc hB.size _) hg (by have := hB.size; simp; omega) (fun j hj => (ho.lt j hj).1)
theorem be8 (N : Nat) : be 8 N = [((N / 72057594037927936 % 256 : Nat) : Int), ((N / 281474976710656 % 256 : Nat) : Int), ((N / 1099511627776 % 256 : Nat) : Int), ((N / 4294967296 % 256 : Nat) : Int), ((N / 16777216 % 256 : Nat) : Int), ((N / 65536 % 256 : Nat) : Int), ((N / 256 % 256 : Nat) : Int), ((N / 1 % 256 : Nat) : Int)] := rfl

theorem padded_fin {l : List Int} {n j g cap : Nat} {w W : World} (hl : l.length = n) (hn : n ≤ 100000) (hj : j = fill n - 1) (hby : ∀ z ∈ l, 0 ≤ z ∧ z ≤ 255)
    (ho : W.ownsRow w.heap.size 5 1 (.slice (some ⟨g, 0, none⟩) (n + 1 + j + 1 + 1 + 1 + 1 + 1 + 1 + 1 + 1) cap) (n + 1 + j + 1 + 1 + 1 + 1 + 1 + 1 + 1 + 1) (bv (l ++ [128] ++ List.replicate j 0) ++ [.int .u8 ((n : Int) * 8 / 72057594037927936)] ++ [.int .u8 ((n : Int) * 8 / 281474976710656)] ++ [.int .u8 ((n : Int) * 8 / 1099511627776)] ++ [.int .u8 ((n : Int) * 8 / 4294967296)] ++ [.int .u8 ((n : Int) * 8 / 16777216)] ++ [.int .u8 ((n : Int) * 8 / 65536)] ++ [.int .u8 ((n : Int) * 8 / 256 % 256)] ++ [.int .u8 ((n : Int) * 8 % 256)]))
    (hB : Below w.heap.size w W) : PaddedPost l w (.returned (.slice (some ⟨g, 0, none⟩) (n + 1 + j + 1 + 1 + 1 + 1 + 1 + 1 + 1 + 1) cap)) W := by
  have hf1 : 1 ≤ fill n := by unfold fill; omega
  have hlen : (l ++ pad l.length).length = n + 1 + j + 1 + 1 + 1 + 1 + 1 + 1 + 1 + 1 := by rw [List.length_append, pad_length, hl]; omega
  have e1 : (n : Int) * 8 / 72057594037927936 = ((8 * n / 72057594037927936 % 256 : Nat) : Int) := by omega
  have e2 : (n : Int) * 8 / 281474976710656 = ((8 * n / 281474976710656 % 256 : Nat) : Int) := by omega
  have e3 : (n : Int) * 8 / 1099511627776 = ((8 * n / 1099511627776 % 256 : Nat) : Int) := by omega
  have e4 : (n : Int) * 8 / 4294967296 = ((8 * n / 4294967296 % 256 : Nat) : Int) := by omega
  have e5 : (n : Int) * 8 / 16777216 = ((8 * n / 16777216 % 256 : Nat) : Int) := by omega
  have e6 : (n : Int) * 8 / 65536 = ((8 * n / 65536 % 256 : Nat) : Int) := by omega
  have e7 : (n : Int) * 8 / 256 % 256 = ((8 * n / 256 % 256 : Nat) : Int) := by omega
  have e8 : (n : Int) * 8 % 256 = ((8 * n / 1 % 256 : Nat) : Int) := by omega
  have hx : bv (l ++ [128] ++ List.replicate j 0) ++ [.int .u8 ((n : Int) * 8 / 72057594037927936)] ++ [.int .u8 ((n : Int) * 8 / 281474976710656)] ++ [.int .u8 ((n : Int) * 8 / 1099511627776)] ++ [.int .u8 ((n : Int) * 8 / 4294967296)] ++ [.int .u8 ((n : Int) * 8 / 16777216)] ++ [.int .u8 ((n : Int) * 8 / 65536)] ++ [.int .u8 ((n : Int) * 8 / 256 % 256)] ++ [.int .u8 ((n : Int) * 8 % 256)] = bv (l ++ pad l.length) := by
    rw [e1, e2, e3, e4, e5, e6, e7, e8, hl, hj]
    unfold pad
    rw [be8]
    simp [bv]
  rw [hx] at ho
  refine ⟨g, cap, by rw [hlen], by rw [hlen]; exact own_cap ho, (ho.lt g rfl).1, ?_, hB⟩
  rw [hlen]
  refine srow_of_own ho ?_
  intro z hz
  rcases List.mem_append.1 hz with hz | hz
  · exact hby z hz
  · exact pad_byte _ z hz

set_option maxRecDepth 100000 in
set_option maxHeartbeats 2000000 in
theorem padded_any (l : List Int) (a : Option Addr) (n cap : Nat) (w : World) (hn : n ≤ 100000) (hnil : a = none → cap = 0) (hrow : SRow (fun _ => False) w a n l) :
    Calls Tryd.prog 33 #[.slice a n cap] w (PaddedPost l w) := by
  have HRow := Lib.hid hrow
  have HL := Lib.hid hrow.1
  have hby := hrow.2.1
  have HBy := Lib.hid hby
  clear hrow hby
  obtain ⟨i0, hi, hz0, hz1, hz2⟩ := info_parts infoByte
  have HI := Lib.hid hi
  have HZ0 := Lib.hid hz0
  have HZ1 := Lib.hid hz1
  have HZ2 := Lib.hid hz2
  clear hi hz0 hz1 hz2
  have hf1 : 1 ≤ fill n := by unfold fill; omega
  have hf2 : fill n ≤ 64 := by unfold fill; omega
  have HO : Hid ((w.alloc (.cells #[] 5)).ownsRow w.heap.size 5 1 (.slice (some ⟨w.heap.size, 0, none⟩) 0 0) 0 []) := ⟨rfl, Or.inr ⟨w.heap.size, 0, #[], rfl, Nat.le_refl _, heap_alloc_new _ _, Nat.le_refl _, by unfold maxLen; omega, rfl, rfl⟩⟩
  have HB0 : Hid (Below w.heap.size w (w.alloc (.cells #[] 5))) := (Below.refl _ _).alloc (Nat.le_refl _) _
  cases a with
  | none =>
    have hn0 : n = 0 := by
      rcases HRow.out.2.2 with h | ⟨b, off, h, _⟩
      · exact h
      · cases h
    have hl0 : l = [] := List.eq_nil_of_length_eq_zero (HL.out.trans hn0)
    have HX : Hid (Value.slice none n cap = .slice none 0 0) := by show _ = _; rw [hn0, hnil rfl]
    have HO1 : Hid ((w.alloc (.cells #[] 5)).ownsRow w.heap.size 5 1 (.slice (some ⟨w.heap.size, 0, none⟩) 0 0) n (bv l)) := by show World.ownsRow _ _ _ _ _ _ _; rw [hn0, hl0]; exact HO.out
    have HB1 := HB0
    have hnb : ∀ j u, (bv [128])[j]? = some u → ((w.alloc (.cells #[] 5)).alloc (.cells #[.int .u8 128] 5)).cell? ((⟨w.heap.size + 1, 0, none⟩ : Addr).add j) = some u := by
      have h := World.news_of_block (w := (w.alloc (.cells #[] 5)).alloc (.cells #[.int .u8 128] 5)) (heap_alloc_new _ _)
      rw [show (w.alloc (.cells #[] 5)).heap.size = w.heap.size + 1 from by simp] at h
      exact h
    have HNb := Lib.hid hnb
    clear hnb hnil hn0 hl0
    go_enter Tryd.func33, Tryd.ntmps33
    go_wp2_with (first | (at_builtin; refine wpList_append_own_none rfl (.tmp 6) (.tmp 7) 22 rfl w.heap.size 5 i0 1 Tryd.underlying22 HI.out (.slice (some ⟨w.heap.size, 0, none⟩) 0 0) 0 [] rfl HO.out HX.out ?_) | (at_builtin; refine wpList_append_lies _ rfl (.tmp 9) (.tmp 10) 22 rfl w.heap.size 5 i0 (.int .u8 0) 1 1 Tryd.underlying22 HI.out HZ0.out HZ1.out HZ2.out rfl (by decide) (.slice (some ⟨w.heap.size, 0, none⟩) 0 0) n (bv l) rfl (HO1.out.alloc _) ⟨(w.heap.size + 1), 0, none⟩ 1 1 (bv [128]) rfl rfl HNb.out (bv_one _) (by omega) (by unfold maxLen; omega) (by omega) (by have := HB1.out.size; first | (simp; omega) | simp) _ rfl ?_; intro g1 cap1 w2 hown2 hgrow2 hat2 hlt2))
    have hown2' := hown2
    rw [bv_append] at hown2'
    have HO2 := Lib.hid hown2'
    have HB2 := Lib.hid (below_own HB1.out HO1.out hgrow2)
    clear hown2 hown2' hgrow2 hat2 hlt2
    go_loopw [3] (fun v wr => ∃ j g c : Nat, j ≤ fill n - 1 ∧ v = .slice (some ⟨g, 0, none⟩) (n + 1 + j) c ∧ wr.ownsRow w.heap.size 5 1 (.slice (some ⟨g, 0, none⟩) (n + 1 + j) c) (n + 1 + j) (bv (l ++ [128] ++ List.replicate j 0)) ∧ Below w.heap.size w wr) (fun v _ => n + 1000 - sliceLen v)
    case atStart => exact ⟨0, g1, cap1, by omega, rfl, by simpa using HO2.out, HB2.out⟩
    case round =>
      obtain ⟨j, g, c, hj, rfl, hown, hbel⟩ := hrel
      have HO := Lib.hid hown
      have HB := Lib.hid hbel
      clear hown hbel HO2 HB2
      by_cases hmod : (n + 1 + j) % 64 = 56
      · have hjf : j = fill n - 1 := by unfold fill at *; omega
        have HJ := Lib.hid hjf
        clear hjf
        have hd : ((((n + 1 + j : Nat) : Int) % 64) != 56) = false := by simp; omega
        go_wp2_with fail
        refine wp_loop_rounds 9 ?_
        rw [rounds_succ]
        go_wp2_with (at_builtin; refine wpList_append_lies _ rfl (.tmp 27) (.tmp 33) 22 rfl w.heap.size 5 i0 (.int .u8 0) 1 1 Tryd.underlying22 HI.out HZ0.out HZ1.out HZ2.out rfl (by decide) (.slice (some ⟨g, 0, none⟩) (n + 1 + j) c) (n + 1 + j) _ rfl (HO.out.alloc _) ⟨wr.heap.size, 0, none⟩ 1 1 _ rfl (by rfl) (World.news_of_block (heap_alloc_new _ _)) (by intro u hu; simp at hu; subst hu; rfl) (by omega) (by unfold maxLen; omega) (by omega) (by have := HB.out.size; simp; omega) _ rfl ?_; intro gg0 cc0 ww0 oo0 gr0 att0 lt0)
        have HQ0 := Lib.hid oo0
        have HC0 := Lib.hid (below_own HB.out HO.out gr0)
        clear oo0 gr0 att0 lt0
        rw [rounds_succ]
        go_wp2_with (at_builtin; refine wpList_append_lies _ rfl (.tmp 27) (.tmp 33) 22 rfl w.heap.size 5 i0 (.int .u8 0) 1 1 Tryd.underlying22 HI.out HZ0.out HZ1.out HZ2.out rfl (by decide) (.slice (some ⟨gg0, 0, none⟩) ((n + 1 + j) + 1) cc0) ((n + 1 + j) + 1) _ rfl (HQ0.out.alloc _) ⟨ww0.heap.size, 0, none⟩ 1 1 _ rfl (by rfl) (World.news_of_block (heap_alloc_new _ _)) (by intro u hu; simp at hu; subst hu; rfl) (by omega) (by unfold maxLen; omega) (by omega) (by have := HC0.out.size; simp; omega) _ rfl ?_; intro gg1 cc1 ww1 oo1 gr1 att1 lt1)
        have HQ1 := Lib.hid oo1
        have HC1 := Lib.hid (below_own HC0.out HQ0.out gr1)
        clear oo1 gr1 att1 lt1
        rw [rounds_succ]
        go_wp2_with (at_builtin; refine wpList_append_lies _ rfl (.tmp 27) (.tmp 33) 22 rfl w.heap.size 5 i0 (.int .u8 0) 1 1 Tryd.underlying22 HI.out HZ0.out HZ1.out HZ2.out rfl (by decide) (.slice (some ⟨gg1, 0, none⟩) (((n + 1 + j) + 1) + 1) cc1) (((n + 1 + j) + 1) + 1) _ rfl (HQ1.out.alloc _) ⟨ww1.heap.size, 0, none⟩ 1 1 _ rfl (by rfl) (World.news_of_block (heap_alloc_new _ _)) (by intro u hu; simp at hu; subst hu; rfl) (by omega) (by unfold maxLen; omega) (by omega) (by have := HC1.out.size; simp; omega) _ rfl ?_; intro gg2 cc2 ww2 oo2 gr2 att2 lt2)
        have HQ2 := Lib.hid oo2
        have HC2 := Lib.hid (below_own HC1.out HQ1.out gr2)
        clear oo2 gr2 att2 lt2
        rw [rounds_succ]
        go_wp2_with (at_builtin; refine wpList_append_lies _ rfl (.tmp 27) (.tmp 33) 22 rfl w.heap.size 5 i0 (.int .u8 0) 1 1 Tryd.underlying22 HI.out HZ0.out HZ1.out HZ2.out rfl (by decide) (.slice (some ⟨gg2, 0, none⟩) ((((n + 1 + j) + 1) + 1) + 1) cc2) ((((n + 1 + j) + 1) + 1) + 1) _ rfl (HQ2.out.alloc _) ⟨ww2.heap.size, 0, none⟩ 1 1 _ rfl (by rfl) (World.news_of_block (heap_alloc_new _ _)) (by intro u hu; simp at hu; subst hu; rfl) (by omega) (by unfold maxLen; omega) (by omega) (by have := HC2.out.size; simp; omega) _ rfl ?_; intro gg3 cc3 ww3 oo3 gr3 att3 lt3)
        have HQ3 := Lib.hid oo3
        have HC3 := Lib.hid (below_own HC2.out HQ2.out gr3)
        clear oo3 gr3 att3 lt3
        rw [rounds_succ]
        go_wp2_with (at_builtin; refine wpList_append_lies _ rfl (.tmp 27) (.tmp 33) 22 rfl w.heap.size 5 i0 (.int .u8 0) 1 1 Tryd.underlying22 HI.out HZ0.out HZ1.out HZ2.out rfl (by decide) (.slice (some ⟨gg3, 0, none⟩) (((((n + 1 + j) + 1) + 1) + 1) + 1) cc3) (((((n + 1 + j) + 1) + 1) + 1) + 1) _ rfl (HQ3.out.alloc _) ⟨ww3.heap.size, 0, none⟩ 1 1 _ rfl (by rfl) (World.news_of_block (heap_alloc_new _ _)) (by intro u hu; simp at hu; subst hu; rfl) (by omega) (by unfold maxLen; omega) (by omega) (by have := HC3.out.size; simp; omega) _ rfl ?_; intro gg4 cc4 ww4 oo4 gr4 att4 lt4)
        have HQ4 := Lib.hid oo4
        have HC4 := Lib.hid (below_own HC3.out HQ3.out gr4)
        clear oo4 gr4 att4 lt4
        rw [rounds_succ]
        go_wp2_with (at_builtin; refine wpList_append_lies _ rfl (.tmp 27) (.tmp 33) 22 rfl w.heap.size 5 i0 (.int .u8 0) 1 1 Tryd.underlying22 HI.out HZ0.out HZ1.out HZ2.out rfl (by decide) (.slice (some ⟨gg4, 0, none⟩) ((((((n + 1 + j) + 1) + 1) + 1) + 1) + 1) cc4) ((((((n + 1 + j) + 1) + 1) + 1) + 1) + 1) _ rfl (HQ4.out.alloc _) ⟨ww4.heap.size, 0, none⟩ 1 1 _ rfl (by rfl) (World.news_of_block (heap_alloc_new _ _)) (by intro u hu; simp at hu; subst hu; rfl) (by omega) (by unfold maxLen; omega) (by omega) (by have := HC4.out.size; simp; omega) _ rfl ?_; intro gg5 cc5 ww5 oo5 gr5 att5 lt5)
        have HQ5 := Lib.hid oo5
        have HC5 := Lib.hid (below_own HC4.out HQ4.out gr5)
        clear oo5 gr5 att5 lt5
        rw [rounds_succ]
        go_wp2_with (at_builtin; refine wpList_append_lies _ rfl (.tmp 27) (.tmp 33) 22 rfl w.heap.size 5 i0 (.int .u8 0) 1 1 Tryd.underlying22 HI.out HZ0.out HZ1.out HZ2.out rfl (by decide) (.slice (some ⟨gg5, 0, none⟩) (((((((n + 1 + j) + 1) + 1) + 1) + 1) + 1) + 1) cc5) (((((((n + 1 + j) + 1) + 1) + 1) + 1) + 1) + 1) _ rfl (HQ5.out.alloc _) ⟨ww5.heap.size, 0, none⟩ 1 1 _ rfl (by rfl) (World.news_of_block (heap_alloc_new _ _)) (by intro u hu; simp at hu; subst hu; rfl) (by omega) (by unfold maxLen; omega) (by omega) (by have := HC5.out.size; simp; omega) _ rfl ?_; intro gg6 cc6 ww6 oo6 gr6 att6 lt6)
        have HQ6 := Lib.hid oo6
        have HC6 := Lib.hid (below_own HC5.out HQ5.out gr6)
        clear oo6 gr6 att6 lt6
        rw [rounds_succ]
        go_wp2_with (at_builtin; refine wpList_append_lies _ rfl (.tmp 27) (.tmp 33) 22 rfl w.heap.size 5 i0 (.int .u8 0) 1 1 Tryd.underlying22 HI.out HZ0.out HZ1.out HZ2.out rfl (by decide) (.slice (some ⟨gg6, 0, none⟩) ((((((((n + 1 + j) + 1) + 1) + 1) + 1) + 1) + 1) + 1) cc6) ((((((((n + 1 + j) + 1) + 1) + 1) + 1) + 1) + 1) + 1) _ rfl (HQ6.out.alloc _) ⟨ww6.heap.size, 0, none⟩ 1 1 _ rfl (by rfl) (World.news_of_block (heap_alloc_new _ _)) (by intro u hu; simp at hu; subst hu; rfl) (by omega) (by unfold maxLen; omega) (by omega) (by have := HC6.out.size; simp; omega) _ rfl ?_; intro gg7 cc7 ww7 oo7 gr7 att7 lt7)
        have HQ7 := Lib.hid oo7
        have HC7 := Lib.hid (below_own HC6.out HQ6.out gr7)
        clear oo7 gr7 att7 lt7
        rw [rounds_succ]
        go_wp2_with fail
        go_ret
        exact padded_fin HL.out hn HJ.out HBy.out HQ7.out HC7.out
      · have hjf : j + 1 ≤ fill n - 1 := by unfold fill at *; omega
        have hd : ((((n + 1 + j : Nat) : Int) % 64) != 56) = true := by simp; omega
        go_wp2_with (at_builtin; refine wpList_append_lies _ rfl (.tmp 16) (.tmp 17) 22 rfl w.heap.size 5 i0 (.int .u8 0) 1 1 Tryd.underlying22 HI.out HZ0.out HZ1.out HZ2.out rfl (by decide) (.slice (some ⟨g, 0, none⟩) (n + 1 + j) c) (n + 1 + j) (bv (l ++ [128] ++ List.replicate j 0)) rfl (HO.out.alloc _) ⟨wr.heap.size, 0, none⟩ 1 1 (bv [0]) rfl rfl (World.news_of_block (w := wr.alloc (.cells #[.int .u8 0] 5)) (heap_alloc_new _ _)) (bv_one _) (by omega) (by unfold maxLen; omega) (by omega) (by have := HB.out.size; first | (simp; omega) | simp) _ rfl ?_; intro g3 cap3 w3 hown3 hgrow3 hat3 hlt3)
        have hown3' := hown3
        rw [bv_append] at hown3'
        have HO3 := Lib.hid hown3'
        have HB3 := Lib.hid (below_own HB.out HO.out hgrow3)
        clear hown3 hown3' hgrow3 hat3 hlt3
        go_wp2_with fail
        go_roundw
        case rel =>
          refine ⟨j + 1, g3, cap3, hjf, rfl, ?_, HB3.out⟩
          have h := HO3.out
          rw [List.append_assoc _ (List.replicate j 0) [0], ← List.replicate_succ'] at h
          exact h
        case measure => simp [sliceLen]; omega
  | some ad =>
    go_enter Tryd.func33, Tryd.ntmps33
    obtain ⟨b, off, spot⟩ := ad
    have hnews : ∀ j u, (bv l)[j]? = some u → (w.alloc (.cells #[] 5)).cell? ((⟨b, off, spot⟩ : Addr).add j) = some u := by
      intro j u hu
      have hj : j < l.length := by have := (List.getElem?_eq_some_iff.1 hu).1; rwa [bv_length] at this
      rcases HRow.out.2.2 with h3 | ⟨b', o', e, _, hc⟩
      · have := HL.out; omega
      · simp only [Option.some.injEq, Addr.mk.injEq] at e
        obtain ⟨rfl, rfl, rfl⟩ := e
        exact news_of_srow ((HRow.out).alloc _) j u hu
    have HNw := Lib.hid hnews
    clear hnews
    go_wp2_with (first | (at_builtin; refine wpList_append_own _ rfl (.tmp 6) (.tmp 7) 22 rfl w.heap.size 5 i0 (.int .u8 0) 1 1 Tryd.underlying22 HI.out HZ0.out HZ1.out HZ2.out rfl (by decide) (.slice (some ⟨w.heap.size, 0, none⟩) 0 0) 0 [] rfl HO.out ⟨b, off, spot⟩ n cap (bv l) rfl (by rw [bv_length, Nat.mul_one]; exact HL.out) HNw.out (bv_one _) (by unfold maxLen; omega) (by omega) (by simp) ?_; intro v1 w1 hown1 hgrow1 hnil1; simp only [Nat.zero_add, List.nil_append] at hown1; have HO1 := Lib.hid hown1; have HB1 := Lib.hid (Below.grown HB0.out hgrow1 (by simp) (fun j hj => by simp [Value.ownBlock] at hj; omega)); clear hown1 hgrow1 hnil1) | (at_builtin; refine wpList_append_lies _ rfl (.tmp 9) (.tmp 10) 22 rfl w.heap.size 5 i0 (.int .u8 0) 1 1 Tryd.underlying22 HI.out HZ0.out HZ1.out HZ2.out rfl (by decide) v1 n (bv l) rfl (HO1.out.alloc _) ⟨w1.heap.size, 0, none⟩ 1 1 (bv [128]) rfl rfl (World.news_of_block (w := w1.alloc (.cells #[.int .u8 128] 5)) (heap_alloc_new _ _)) (bv_one _) (by omega) (by unfold maxLen; omega) (by omega) (by have := HB1.out.size; first | (simp; omega) | simp) _ rfl ?_; intro g1 cap1 w2 hown2 hgrow2 hat2 hlt2))
    have hown2' := hown2
    rw [bv_append] at hown2'
    have HO2 := Lib.hid hown2'
    have HB2 := Lib.hid (below_own HB1.out HO1.out hgrow2)
    clear hown2 hown2' hgrow2 hat2 hlt2
    go_loopw [3] (fun v wr => ∃ j g c : Nat, j ≤ fill n - 1 ∧ v = .slice (some ⟨g, 0, none⟩) (n + 1 + j) c ∧ wr.ownsRow w.heap.size 5 1 (.slice (some ⟨g, 0, none⟩) (n + 1 + j) c) (n + 1 + j) (bv (l ++ [128] ++ List.replicate j 0)) ∧ Below w.heap.size w wr) (fun v _ => n + 1000 - sliceLen v)
    case atStart => exact ⟨0, g1, cap1, by omega, rfl, by simpa using HO2.out, HB2.out⟩
    case round =>
      obtain ⟨j, g, c, hj, rfl, hown, hbel⟩ := hrel
      have HO := Lib.hid hown
      have HB := Lib.hid hbel
      clear hown hbel HO2 HB2
      by_cases hmod : (n + 1 + j) % 64 = 56
      · have hjf : j = fill n - 1 := by unfold fill at *; omega
        have HJ := Lib.hid hjf
        clear hjf
        have hd : ((((n + 1 + j : Nat) : Int) % 64) != 56) = false := by simp; omega
        go_wp2_with fail
        refine wp_loop_rounds 9 ?_
        rw [rounds_succ]
        go_wp2_with (at_builtin; refine wpList_append_lies _ rfl (.tmp 27) (.tmp 33) 22 rfl w.heap.size 5 i0 (.int .u8 0) 1 1 Tryd.underlying22 HI.out HZ0.out HZ1.out HZ2.out rfl (by decide) (.slice (some ⟨g, 0, none⟩) (n + 1 + j) c) (n + 1 + j) _ rfl (HO.out.alloc _) ⟨wr.heap.size, 0, none⟩ 1 1 _ rfl (by rfl) (World.news_of_block (heap_alloc_new _ _)) (by intro u hu; simp at hu; subst hu; rfl) (by omega) (by unfold maxLen; omega) (by omega) (by have := HB.out.size; simp; omega) _ rfl ?_; intro gg0 cc0 ww0 oo0 gr0 att0 lt0)
        have HQ0 := Lib.hid oo0
        have HC0 := Lib.hid (below_own HB.out HO.out gr0)
        clear oo0 gr0 att0 lt0
        rw [rounds_succ]
        go_wp2_with (at_builtin; refine wpList_append_lies _ rfl (.tmp 27) (.tmp 33) 22 rfl w.heap.size 5 i0 (.int .u8 0) 1 1 Tryd.underlying22 HI.out HZ0.out HZ1.out HZ2.out rfl (by decide) (.slice (some ⟨gg0, 0, none⟩) ((n + 1 + j) + 1) cc0) ((n + 1 + j) + 1) _ rfl (HQ0.out.alloc _) ⟨ww0.heap.size, 0, none⟩ 1 1 _ rfl (by rfl) (World.news_of_block (heap_alloc_new _ _)) (by intro u hu; simp at hu; subst hu; rfl) (by omega) (by unfold maxLen; omega) (by omega) (by have := HC0.out.size; simp; omega) _ rfl ?_; intro gg1 cc1 ww1 oo1 gr1 att1 lt1)
        have HQ1 := Lib.hid oo1
        have HC1 := Lib.hid (below_own HC0.out HQ0.out gr1)
        clear oo1 gr1 att1 lt1
        rw [rounds_succ]
        go_wp2_with (at_builtin; refine wpList_append_lies _ rfl (.tmp 27) (.tmp 33) 22 rfl w.heap.size 5 i0 (.int .u8 0) 1 1 Tryd.underlying22 HI.out HZ0.out HZ1.out HZ2.out rfl (by decide) (.slice (some ⟨gg1, 0, none⟩) (((n + 1 + j) + 1) + 1) cc1) (((n + 1 + j) + 1) + 1) _ rfl (HQ1.out.alloc _) ⟨ww1.heap.size, 0, none⟩ 1 1 _ rfl (by rfl) (World.news_of_block (heap_alloc_new _ _)) (by intro u hu; simp at hu; subst hu; rfl) (by omega) (by unfold maxLen; omega) (by omega) (by have := HC1.out.size; simp; omega) _ rfl ?_; intro gg2 cc2 ww2 oo2 gr2 att2 lt2)
        have HQ2 := Lib.hid oo2
        have HC2 := Lib.hid (below_own HC1.out HQ1.out gr2)
        clear oo2 gr2 att2 lt2
        rw [rounds_succ]
        go_wp2_with (at_builtin; refine wpList_append_lies _ rfl (.tmp 27) (.tmp 33) 22 rfl w.heap.size 5 i0 (.int .u8 0) 1 1 Tryd.underlying22 HI.out HZ0.out HZ1.out HZ2.out rfl (by decide) (.slice (some ⟨gg2, 0, none⟩) ((((n + 1 + j) + 1) + 1) + 1) cc2) ((((n + 1 + j) + 1) + 1) + 1) _ rfl (HQ2.out.alloc _) ⟨ww2.heap.size, 0, none⟩ 1 1 _ rfl (by rfl) (World.news_of_block (heap_alloc_new _ _)) (by intro u hu; simp at hu; subst hu; rfl) (by omega) (by unfold maxLen; omega) (by omega) (by have := HC2.out.size; simp; omega) _ rfl ?_; intro gg3 cc3 ww3 oo3 gr3 att3 lt3)
        have HQ3 := Lib.hid oo3
        have HC3 := Lib.hid (below_own HC2.out HQ2.out gr3)
        clear oo3 gr3 att3 lt3
        rw [rounds_succ]
        go_wp2_with (at_builtin; refine wpList_append_lies _ rfl (.tmp 27) (.tmp 33) 22 rfl w.heap.size 5 i0 (.int .u8 0) 1 1 Tryd.underlying22 HI.out HZ0.out HZ1.out HZ2.out rfl (by decide) (.slice (some ⟨gg3, 0, none⟩) (((((n + 1 + j) + 1) + 1) + 1) + 1) cc3) (((((n + 1 + j) + 1) + 1) + 1) + 1) _ rfl (HQ3.out.alloc _) ⟨ww3.heap.size, 0, none⟩ 1 1 _ rfl (by rfl) (World.news_of_block (heap_alloc_new _ _)) (by intro u hu; simp at hu; subst hu; rfl) (by omega) (by unfold maxLen; omega) (by omega) (by have := HC3.out.size; simp; omega) _ rfl ?_; intro gg4 cc4 ww4 oo4 gr4 att4 lt4)
        have HQ4 := Lib.hid oo4
        have HC4 := Lib.hid (below_own HC3.out HQ3.out gr4)
        clear oo4 gr4 att4 lt4
        rw [rounds_succ]
        go_wp2_with (at_builtin; refine wpList_append_lies _ rfl (.tmp 27) (.tmp 33) 22 rfl w.heap.size 5 i0 (.int .u8 0) 1 1 Tryd.underlying22 HI.out HZ0.out HZ1.out HZ2.out rfl (by decide) (.slice (some ⟨gg4, 0, none⟩) ((((((n + 1 + j) + 1) + 1) + 1) + 1) + 1) cc4) ((((((n + 1 + j) + 1) + 1) + 1) + 1) + 1) _ rfl (HQ4.out.alloc _) ⟨ww4.heap.size, 0, none⟩ 1 1 _ rfl (by rfl) (World.news_of_block (heap_alloc_new _ _)) (by intro u hu; simp at hu; subst hu; rfl) (by omega) (by unfold maxLen; omega) (by omega) (by have := HC4.out.size; simp; omega) _ rfl ?_; intro gg5 cc5 ww5 oo5 gr5 att5 lt5)
        have HQ5 := Lib.hid oo5
        have HC5 := Lib.hid (below_own HC4.out HQ4.out gr5)
        clear oo5 gr5 att5 lt5
        rw [rounds_succ]
        go_wp2_with (at_builtin; refine wpList_append_lies _ rfl (.tmp 27) (.tmp 33) 22 rfl w.heap.size 5 i0 (.int .u8 0) 1 1 Tryd.underlying22 HI.out HZ0.out HZ1.out HZ2.out rfl (by decide) (.slice (some ⟨gg5, 0, none⟩) (((((((n + 1 + j) + 1) + 1) + 1) + 1) + 1) + 1) cc5) (((((((n + 1 + j) + 1) + 1) + 1) + 1) + 1) + 1) _ rfl (HQ5.out.alloc _) ⟨ww5.heap.size, 0, none⟩ 1 1 _ rfl (by rfl) (World.news_of_block (heap_alloc_new _ _)) (by intro u hu; simp at hu; subst hu; rfl) (by omega) (by unfold maxLen; omega) (by omega) (by have := HC5.out.size; simp; omega) _ rfl ?_; intro gg6 cc6 ww6 oo6 gr6 att6 lt6)
        have HQ6 := Lib.hid oo6
        have HC6 := Lib.hid (below_own HC5.out HQ5.out gr6)
        clear oo6 gr6 att6 lt6
        rw [rounds_succ]
        go_wp2_with (at_builtin; refine wpList_append_lies _ rfl (.tmp 27) (.tmp 33) 22 rfl w.heap.size 5 i0 (.int .u8 0) 1 1 Tryd.underlying22 HI.out HZ0.out HZ1.out HZ2.out rfl (by decide) (.slice (some ⟨gg6, 0, none⟩) ((((((((n + 1 + j) + 1) + 1) + 1) + 1) + 1) + 1) + 1) cc6) ((((((((n + 1 + j) + 1) + 1) + 1) + 1) + 1) + 1) + 1) _ rfl (HQ6.out.alloc _) ⟨ww6.heap.size, 0, none⟩ 1 1 _ rfl (by rfl) (World.news_of_block (heap_alloc_new _ _)) (by intro u hu; simp at hu; subst hu; rfl) (by omega) (by unfold maxLen; omega) (by omega) (by have := HC6.out.size; simp; omega) _ rfl ?_; intro gg7 cc7 ww7 oo7 gr7 att7 lt7)
        have HQ7 := Lib.hid oo7
        have HC7 := Lib.hid (below_own HC6.out HQ6.out gr7)
        clear oo7 gr7 att7 lt7
        rw [rounds_succ]
        go_wp2_with fail
        go_ret
        exact padded_fin HL.out hn HJ.out HBy.out HQ7.out HC7.out
      · have hjf : j + 1 ≤ fill n - 1 := by unfold fill at *; omega
        have hd : ((((n + 1 + j : Nat) : Int) % 64) != 56) = true := by simp; omega
        go_wp2_with (at_builtin; refine wpList_append_lies _ rfl (.tmp 16) (.tmp 17) 22 rfl w.heap.size 5 i0 (.int .u8 0) 1 1 Tryd.underlying22 HI.out HZ0.out HZ1.out HZ2.out rfl (by decide) (.slice (some ⟨g, 0, none⟩) (n + 1 + j) c) (n + 1 + j) (bv (l ++ [128] ++ List.replicate j 0)) rfl (HO.out.alloc _) ⟨wr.heap.size, 0, none⟩ 1 1 (bv [0]) rfl rfl (World.news_of_block (w := wr.alloc (.cells #[.int .u8 0] 5)) (heap_alloc_new _ _)) (bv_one _) (by omega) (by unfold maxLen; omega) (by omega) (by have := HB.out.size; first | (simp; omega) | simp) _ rfl ?_; intro g3 cap3 w3 hown3 hgrow3 hat3 hlt3)
        have hown3' := hown3
        rw [bv_append] at hown3'
        have HO3 := Lib.hid hown3'
        have HB3 := Lib.hid (below_own HB.out HO.out hgrow3)
        clear hown3 hown3' hgrow3 hat3 hlt3
        go_wp2_with fail
        go_roundw
        case rel =>
          refine ⟨j + 1, g3, cap3, hjf, rfl, ?_, HB3.out⟩
          have h := HO3.out
          rw [List.append_assoc _ (List.replicate j 0) [0], ← List.replicate_succ'] at h
          exact h
        case measure => simp [sliceLen]; omega
end Sha
end Go.Proofs.YtodbfkifendniaaDoor
