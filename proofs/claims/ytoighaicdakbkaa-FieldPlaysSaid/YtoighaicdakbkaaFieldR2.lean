/- The document's own: Latch, Out. -/
import Derived.Test.YtoighaicdakbkaaFieldR1
import Derived.Deep.AppendLies
namespace Go.Proofs.Ytoighaicdakbkaa
open Go.ChangeShapes Go.WideShapes Go.ChangeAt Go.RowKit
namespace Fld
set_option linter.unusedVariables false
set_option linter.unusedSimpArgs false
/-- what a call of the document's field leaves: the field, wherever it lies now -/
def RfE (S : Nat) (d : Df) (b : Option Addr) (c : Nat) (A : Ra) (ins outs : List Int) (ps : List (Int × Int)) (V V' : World) : Prop :=
  ∃ A', A'.r = A.r ∧ Rf S d b c A' ins outs ps V' ∧ Kept A.own V V' ∧ ∀ k, A'.own k → A.own k ∨ V.heap.size ≤ k
section
variable {S : Nat} {d : Df} {b : Option Addr} {c : Nat} {A : Ra} {ins outs : List Int} {ps : List (Int × Int)} {V V' : World}
theorem Rf.same (h : Rf S d b c A ins outs ps V) : RfE S d b c A ins outs ps V V := ⟨A, rfl, h, Kept.refl _ _, fun _ h => .inl h⟩
theorem rlatch_no (h : Rf S d b c A ins outs ps V) {a : Option Addr} {n cc : Nat} (hn : (n : Int) ≠ d.ins) :
    Calls Try.prog 12 #[.pointer (some ⟨A.r, 0, none⟩), .slice a n cc] V fun e V' => e = .returned (.int .i64 2) ∧ V' = V := by
  obtain ⟨c0, c1, c2, c3, c4, c5, c6⟩ := h.c0
  have hne : ((n : Int) != d.ins) = true := by simpa using hn
  clear h c1 c2 c3 c4 c5 c6 hn
  go_enter Try.func12, Try.ntmps12
  go_wp2_with fail
  go_ret
  exact ⟨rfl, rfl⟩
theorem rlatch_ok (h : Rf S d b c A ins outs ps V) {p : Nat → Prop} {a : Option Addr} {n cc : Nat} {l : List Int} (hr : NRow p V a n l) (hcc : a = none → cc = 0) (hn : (n : Int) = d.ins) (h16 : n ≤ 1000000) :
    Calls Try.prog 12 #[.pointer (some ⟨A.r, 0, none⟩), .slice a n cc] V fun e V' => e = .returned (.int .i64 0) ∧ RfE S d b c A l outs [] V V' := by
  obtain ⟨c0, c1, c2, c3, c4, c5, c6⟩ := h.c0
  have hl : l.length = ins.length := by have := h.si; have := hr.1; omega
  have hll := hr.1
  rw [← hn] at c0
  have hne : ((n : Int) != (n : Int)) = false := by simp
  obtain ⟨g, cap, w1, hrun, hO, hg, hb⟩ := app_new (c := cc) V hr h16 hcc 22
  have HL := Lib.hid (h.latched hb hO hg hl)
  rw [hll] at HL
  have hr1 := h.below hb
  obtain ⟨-, -, -, -, q4, -, q6⟩ := hr1.c0
  have f4 := hr1.free 4
  have f6 := hr1.free 6
  have q6' : (w1.setCell ⟨A.r, 4, none⟩ (.slice (some ⟨g, 0, none⟩) n cap)).cell? ⟨A.r, 6, none⟩ = some A.pv := ((show CF w1 A.r 6 A.pv from ⟨q6, f6⟩).other (b' := A.r) (j' := 4) _ (fun _ => by omega)).1
  have HK : Hid (Kept A.own V ((w1.setCell ⟨A.r, 4, none⟩ (.slice (some ⟨g, 0, none⟩) n cap)).setCell ⟨A.r, 6, none⟩ (.slice none 0 0))) := ((Kept.of_below hb).setCell (.inl (.inl rfl)) _).setCell (.inl (.inl rfl)) _
  have HG := Lib.hid hg
  clear h hr hr1 c1 c2 c3 c4 c5 c6 hn hO hg hb hl hll
  go_enter Try.func12, Try.ntmps12
  go_wp2_with (at_builtin; refine wpList_append_run rfl (.tmp 14) (.tmp 15) 22 22 rfl _ _ _ w1 22 rfl rfl rfl hrun ?_)
  go_ret
  refine ⟨rfl, { A with gi := g, ci := cap, pv := .slice none 0 0 }, rfl, HL.out, HK.out, ?_⟩
  rintro k (rfl | rfl | rfl | hk)
  · exact .inl (.inl rfl)
  · exact .inr HG.out
  · exact .inl (.inr (.inr (.inl rfl)))
  · simp [Value.ownBlock] at hk
theorem infoR : (Try.prog.info? 63).map (fun i => (i.zero, i.size, i.bytes)) = some (some (.agg #[.int .i64 0, .int .u32 0]), 2, 16) := by kernel_rfl
theorem uR : Try.prog.underlying 47 = some (.slice 63) := Try.underlying47
/-- one more behind those that were put out -/
theorem app_put {w : World} {pv : Value} {ps : List (Int × Int)} (h : w.ownsRow S 63 2 pv ps.length (putR ps)) (hS : S ≤ w.heap.size) (hl : ps.length ≤ 100000) (n x : Int) (ty : TypeId) :
    ∃ v' w', (Builtin.append_ #[47, 47] ty #[pv, .slice (some ⟨w.heap.size, 0, none⟩) 1 1]).run Try.prog (w.alloc (.cells #[.int .i64 n, .int .u32 x] 63)) = .ok v' w' ∧
      w'.ownsRow S 63 2 v' (ps.length + 1) (putR ps ++ [.int .i64 n, .int .u32 x]) ∧ (w.alloc (.cells #[.int .i64 n, .int .u32 x] 63)).grownBy w' pv.ownBlock ∧ (∀ k, v'.ownBlock = some k → pv.ownBlock = some k ∨ w.heap.size ≤ k) := by
  obtain ⟨i0, hi, hz0, hz1, hz2⟩ := info_parts infoR
  have hlies := run_append_lies (P := Try.prog) (w.alloc (.cells #[.int .i64 n, .int .u32 x] 63)) 47 ty S 63 i0 _ 2 16 uR hi hz0 hz1 hz2 rfl (by decide) _ ps.length (putR ps) (h.alloc _) ⟨w.heap.size, 0, none⟩ 1 1 [.int .i64 n, .int .u32 x] rfl
    (World.news_of_block (heap_alloc_new w _)) (by intro u hu; simp at hu; rcases hu with rfl | rfl <;> rfl) (by omega) (by unfold maxLen; omega) (by omega) (by simp; omega) _ rfl
  obtain ⟨g, cap, w', h1, h2, h3, h4, h5⟩ := hlies
  refine ⟨_, w', h1, h2, h3, fun k hk => ?_⟩
  simp [Value.ownBlock] at hk
  subst hk
  rcases h4 with e | e
  · exact .inl e
  · exact .inr (by rw [e]; simp)
set_option maxHeartbeats 1000000 in
theorem rout_any (h : Rf S d b c A ins outs ps V) (hl : ps.length ≤ 100000) (part n x : Int) :
    Calls Try.prog 16 #[.pointer (some ⟨A.r, 0, none⟩), .int .i64 part, .int .i64 n, .int .u32 x] V fun e V' => e = .returned (.int .i64 (refuse (part == d.wr) n d.safe.length)) ∧
      RfE S d b c A ins outs (if refuse (part == d.wr) n d.safe.length = 0 then ps ++ [(n, x)] else ps) V V' := by
  obtain ⟨c0, c1, c2, c3, c4, c5, c6⟩ := h.c0
  obtain ⟨E, hE⟩ : ∃ E, refuse (part == d.wr) n d.safe.length = E := ⟨_, rfl⟩
  have HE := Lib.hid hE
  rw [hE]
  by_cases hp : part = d.wr
  case neg =>
    have hne : (part != d.wr) = true := by simpa using hp
    have he : E = 70 := by rw [← hE]; unfold refuse; rw [if_neg (by simpa using hp)]
    subst he
    have HS := Lib.hid h.same
    clear h hE HE hp c0 c1 c2 c4 c5 c6
    go_enter Try.func16, Try.ntmps16
    go_wp2_with fail
    go_ret
    exact ⟨rfl, HS.out⟩
  case pos =>
  have hne : (part != d.wr) = false := by simpa using hp
  have hpt : (part == d.wr) = true := by simpa using hp
  rw [hpt] at HE
  by_cases h0 : n < 0
  · have e0 : decide (n < 0) = true := decide_eq_true h0
    have he : E = 5 := by rw [← HE.out]; unfold refuse; rw [if_pos rfl, if_neg (by omega)]
    subst he
    have HS := Lib.hid h.same
    clear h hE HE hp hpt c0 c1 c2 c4 c5 c6
    go_enter Try.func16, Try.ntmps16
    go_wp2_with fail
    go_ret
    exact ⟨rfl, HS.out⟩
  have e0 : decide (n < 0) = false := decide_eq_false h0
  by_cases h1 : (d.safe.length : Int) ≤ n
  · have e1 : decide ((d.safe.length : Int) ≤ n) = true := decide_eq_true h1
    have he : E = 5 := by rw [← HE.out]; unfold refuse; rw [if_pos rfl, if_neg (by omega)]
    subst he
    have HS := Lib.hid h.same
    clear h hE HE hp hpt c0 c2 c4 c5 c6
    go_enter Try.func16, Try.ntmps16
    go_wp2_with fail
    go_ret
    exact ⟨rfl, HS.out⟩
  have e1 : decide ((d.safe.length : Int) ≤ n) = false := decide_eq_false h1
  have he : E = 0 := by rw [← HE.out]; unfold refuse; rw [if_pos rfl, if_pos (by omega)]
  subst he
  have hS := h.lt A.r (.inl rfl)
  have hfar := h.far
  obtain ⟨pv', w1, hrun, hown, hgr, hblk⟩ := app_put (w := V) h.rp (by omega) hl n x 47
  have hb := h.below (below_alloc V (.cells #[.int .i64 n, .int .u32 x] 63))
  have HP := Lib.hid (hb.put hgr hown (by omega))
  obtain ⟨q1, q2, q3⟩ := h.ne
  have hob := (hgr.block A.r (lt_of_block hb.obj) (fun e => (q3 _ e.symm).1 rfl)).trans hb.obj
  have q6 : w1.cell? ⟨A.r, 6, none⟩ = some A.pv := by rw [cell_of_row _ _ _ _ _ _ hob]; rfl
  have f6 := row_free hob 6
  have HK : Hid (Kept A.own V (w1.setCell ⟨A.r, 6, none⟩ pv')) := by
    refine Kept.setCell (p := A.own) ?_ (.inl (.inl rfl)) _
    refine (Kept.of_below (below_alloc V _)).trans ⟨hgr.os, hgr.tape, hgr.output, hgr.size, fun k hk hn => hgr.block k hk (fun e => hn (.inr (.inr (.inr e.symm))))⟩
  have HB := Lib.hid hblk
  have c6' : (V.alloc (.cells #[.int .i64 n, .int .u32 x] 63)).cell? ⟨A.r, 6, none⟩ = some A.pv := hb.c0.2.2.2.2.2.2
  obtain ⟨pk, hpk⟩ : ∃ q, A.pv = q := ⟨_, rfl⟩
  have HPk := Lib.hid hpk
  have hsl := ownsRow_slice h.rp
  rw [hpk] at hrun c6 c6' q6 hsl
  have hsl' : ∃ x m k, pk = .slice x m k := by rcases hsl with ⟨e, _⟩ | ⟨g, cap, e, _⟩; exact ⟨_, _, _, e⟩; exact ⟨_, _, _, e⟩
  obtain ⟨sx, sm, sk, rfl⟩ := hsl'
  have hpv : ∃ x m k, pv' = .slice x m k := by rcases ownsRow_slice hown with ⟨e, _⟩ | ⟨g, cap, e, _⟩; exact ⟨_, _, _, e⟩; exact ⟨_, _, _, e⟩
  obtain ⟨tx, tm, tk, rfl⟩ := hpv
  clear h hE HE hp hpt c0 c2 c4 c5 hS hfar hb hown hgr hblk q1 q2 q3 hob hsl hpk
  go_enter Try.func16, Try.ntmps16
  go_wp2_with (at_builtin; refine wpList_append_run rfl (.tmp 32) (.tmp 36) 47 47 rfl _ _ _ w1 47 rfl rfl rfl hrun ?_)
  go_ret
  refine ⟨rfl, { A with pv := .slice tx tm tk }, rfl, HP.out, HK.out, ?_⟩
  rintro k (rfl | rfl | rfl | hk)
  · exact .inl (.inl rfl)
  · exact .inl (.inr (.inl rfl))
  · exact .inl (.inr (.inr (.inl rfl)))
  · rcases HB.out k hk with e | e
    · exact .inl (.inr (.inr (.inr e)))
    · exact .inr e
end
end Fld
end Go.Proofs.Ytoighaicdakbkaa
