/- The program's answers: where labels stand, kept in a map. · The program's answers: the instruction of a line, with the place that it goes to. · The program's answers: what Assemble's closures do at each line. · The program's answers: programs assembled. -/
import Derived.Test.YtgiocecpkhmhhaaGreatDoorAsmWb
import Derived.Maps.Own
import Derived.Maps.OwnSet
import Derived.Maps.Views
namespace Go.Proofs.YtgiocecpkhmhhaaGreatDoor
open Go.ChangeShapes Go.WideShapes Go.ChangeAt Go.RowKit
namespace Asm
open Isa
set_option linter.unusedVariables false
set_option linter.unusedSimpArgs false
/-! ### A map of the call's own from strings to numbers -/
theorem keyStr : Go.Maps.Keyed Tryz.prog 9 := Go.Maps.string_keyed Tryz.underlying9
theorem zeroInt (w : World) : (zeroValue 3).run Tryz.prog w = .ok (.int .i64 0) w := by kernel_rfl
def PM (w : World) (B n : Nat) (F : List UInt8 → Option Nat) : Prop :=
  ∃ D : DataW Unit, w.ownsMap Tryz.prog 9 (plainElem Tryz.prog 3) B n D ∧ Go.Maps.IsMap D ∧ ∀ s, Go.Maps.has D (.string s) = (F s).isSome ∧ ∀ c, F s = some c → ∀ z, D.atKey (.string s) z = .lit (.int .i64 c)
theorem keyOfS (s : List UInt8) (hs : s.length ≤ 1000000000) : keyOf Tryz.prog 9 (.string (sB s)) = some (.string s) := by
  have := WideMaps.keyOf_string_mk (P := Tryz.prog) Tryz.underlying9 (s := sB s) (by rw [sB_size]; unfold maxLen; omega)
  rw [sB_list] at this
  exact this
theorem PM.below {w w' : World} {B n : Nat} {F : List UInt8 → Option Nat} (h : PM w B n F) {S : Nat} (hb : Below S w w') (hS : w.heap.size ≤ S) : PM w' B n F := by
  obtain ⟨D, h1, h2, h3⟩ := h
  exact ⟨D, h1.kept (row := none) ⟨hb.os, hb.tape, hb.output, hb.size, fun k hk _ => hb.block k (Nat.lt_of_lt_of_le hk hS)⟩ (by simp), h2, h3⟩
theorem PM.new (w : World) : PM (w.alloc (.map #[] 0)) w.heap.size 0 (fun _ => none) :=
  ⟨_, World.ownsMap_made w _ _ _, Go.Maps.isMap_empty, fun s => ⟨rfl, fun c hc => by cases hc⟩⟩
theorem PM.lt {w : World} {B n : Nat} {F : List UInt8 → Option Nat} (h : PM w B n F) : B < w.heap.size := by
  obtain ⟨D, h1, _⟩ := h
  exact h1.lt
theorem PM.look2 {w : World} {B n : Nat} {F : List UInt8 → Option Nat} (h : PM w B n F) (s : List UInt8) (hs : s.length ≤ 1000000000) :
    (Instr.lookup 54 (.map (some B)) (.string (sB s)) true).run Tryz.prog w = .ok (.tuple #[.int .i64 ((F s).getD 0 : Nat), .bool (F s).isSome]) w := by
  obtain ⟨D, h1, h2, h3⟩ := h
  obtain ⟨e1, e2⟩ := h3 s
  have hz := plainElem_int (H := Unit) (P := Tryz.prog) Tryz.underlying3 (a := 0) (q := .i64) (by decide)
  obtain ⟨v, ps, hrun, hv⟩ := h1.look_ok keyStr Tryz.underlying54 (zeroInt w) hz (keyOfS s hs)
  obtain ⟨c, rfl, hc, hwc⟩ := plainElem_int_inv Tryz.underlying3 hv
  rw [hrun, e1]
  simp only [Prod.mk.injEq] at hc
  cases hF : F s with
  | none =>
    rw [hF] at e1
    have := Go.Maps.atKey_of_not_has e1 (.lit (.int .i64 0))
    rw [this] at hc
    have q2 := hc.1
    simp only [DataW.lit.injEq, Lit.int.injEq, true_and] at q2
    simp [← q2]
  | some d =>
    have := e2 d hF (.lit (.int .i64 0))
    rw [this] at hc
    have q2 := hc.1
    simp only [DataW.lit.injEq, Lit.int.injEq, true_and] at q2
    simp [← q2]
theorem PM.look {w : World} {B n : Nat} {F : List UInt8 → Option Nat} (h : PM w B n F) (s : List UInt8) (hs : s.length ≤ 1000000000) :
    (Instr.lookup 54 (.map (some B)) (.string (sB s)) false).run Tryz.prog w = .ok (.int .i64 ((F s).getD 0 : Nat)) w := by
  obtain ⟨D, h1, h2, h3⟩ := h
  obtain ⟨e1, e2⟩ := h3 s
  obtain ⟨c, hrun, hc, hwc⟩ := h1.lookup_int keyStr Tryz.underlying54 Tryz.underlying3 (zeroInt w) (keyOfS s hs)
  rw [hrun]
  cases hF : F s with
  | none =>
    rw [hF] at e1
    have := Go.Maps.atKey_of_not_has e1 (.lit (.int .i64 0))
    rw [this] at hc
    simp only [DataW.lit.injEq, Lit.int.injEq, true_and] at hc
    simp [← hc]
  | some d =>
    have := e2 d hF (.lit (.int .i64 0))
    rw [this] at hc
    simp only [DataW.lit.injEq, Lit.int.injEq, true_and] at hc
    simp [← hc]
theorem PM.put {w : World} {B n : Nat} {F : List UInt8 → Option Nat} (h : PM w B n F) (hn : n ≤ 1000000) (s : List UInt8) (hs : s.length ≤ 1000000000) (k : Nat) (hk : k ≤ 1000000) :
    ∃ w', (Instr.mapUpdate 54 (.map (some B)) (.string (sB s)) (.int .i64 (k : Int))).run Tryz.prog w = .ok () w' ∧ PM w' B (n + 1) (fun t => if t = s then some k else F t) ∧ ∀ S, S ≤ B → S ≤ w.heap.size → Below S w w' := by
  obtain ⟨D, h1, h2, h3⟩ := h
  obtain ⟨w', hrun, r1, r2⟩ := h1.update keyStr Tryz.underlying54 (by unfold maxLen; omega) (keyOfS s hs) (plainElem_int (P := Tryz.prog) Tryz.underlying3 (a := (k : Int)) (q := .i64) (by simp [Lit.wf, IntKind.min, IntKind.max, IntKind.signed, IntKind.bits]; omega))
  refine ⟨w', hrun, ⟨_, r1, h2.put _ _, fun t => ?_⟩, fun S hS hS2 => Below.grown (Below.refl S w) r2 hS2 (fun j hj => by cases hj; exact hS)⟩
  dsimp only
  by_cases ht : t = s
  · subst ht
    rw [if_pos rfl]
    refine ⟨Go.Maps.has_put_same (k := .string t) h2 (show WideAt.IsKeyLit (.string t) from trivial) _, fun c hc z => ?_⟩
    obtain rfl := Option.some.inj hc
    exact Go.Maps.atKey_put_same (k := .string t) h2 (show WideAt.IsKeyLit (.string t) from trivial) _ _
  · rw [if_neg ht]
    have hne : (Lit.string t) ≠ .string s := fun e => ht (by injection e)
    obtain ⟨e1, e2⟩ := h3 t
    refine ⟨by rw [Go.Maps.has_put_other hne]; exact e1, fun c hc z => ?_⟩
    rw [Go.Maps.atKey_put_other hne]
    exact e2 c hc z
/-! ### Where each label stands first -/
def plF (l : List Av) : Nat → List UInt8 → Option Nat
  | 0, _ => none
  | k + 1, s => match plF l k s with | some c => some c | none => if (l.getD k av0).lb = s ∧ s ≠ [] then some k else none
theorem plF_spec (l : List Av) (s : List UInt8) : ∀ k, (plF l k s = none ∧ (s = [] ∨ ∀ t, t < k → (l.getD t av0).lb ≠ s)) ∨ (∃ c, plF l k s = some c ∧ s ≠ [] ∧ c < k ∧ (l.getD c av0).lb = s ∧ ∀ t, t < c → (l.getD t av0).lb ≠ s)
  | 0 => .inl ⟨rfl, .inr fun t ht => by omega⟩
  | k + 1 => by
    rcases plF_spec l s k with ⟨h1, h2⟩ | ⟨c, h1, h2, h3, h4, h5⟩
    · by_cases hc : (l.getD k av0).lb = s ∧ s ≠ []
      · refine .inr ⟨k, ?_, hc.2, by omega, hc.1, ?_⟩
        · rw [plF, h1]; simp only; rw [if_pos hc]
        · exact h2.resolve_left hc.2
      · refine .inl ⟨?_, ?_⟩
        · rw [plF, h1]; simp only; rw [if_neg hc]
        · by_cases hs : s = []
          · exact .inl hs
          · right
            intro t ht
            by_cases e : t = k
            · rw [e]; exact fun q => hc ⟨q, hs⟩
            · exact (h2.resolve_left hs) t (by omega)
    · exact .inr ⟨c, by rw [plF, h1], h2, by omega, h4, h5⟩
theorem plF_find (l : List Av) (s : List UInt8) (hs : s ≠ []) : (plF l l.length s = none ∧ findA l s = -1) ∨ (∃ c, plF l l.length s = some c ∧ c < l.length ∧ findA l s = c) := by
  rcases plF_spec l s l.length with ⟨h1, h2⟩ | ⟨c, h1, h2, h3, h4, h5⟩
  · exact .inl ⟨h1, find_none (h2.resolve_left hs)⟩
  · exact .inr ⟨c, h1, h3, find_hit h3 h5 h4⟩
def PlacesP (l : List Av) (n : Nat) (w : World) (e : Ending) (w' : World) : Prop := ∃ B, e = .returned (.map (some B)) ∧ w.heap.size ≤ B ∧ PM w' B n (plF l n) ∧ Below w.heap.size w w'
set_option maxRecDepth 100000 in
set_option maxHeartbeats 3200000 in
theorem placesof_any (l : List Av) (a : Option Addr) (n c : Nat) (hm : n ≤ 16384) (hlen : ∀ x ∈ l, x.lb.length ≤ 1000000000) (w : World) (h : ARow w a n l) : Calls Tryz.prog 28 #[.slice a n c] w (PlacesP l n w) := by
  have HA := Lib.hid (fun W (hb : Below w.heap.size w W) k (hk : k < n) => (h.below hb (Nat.le_refl _)).at k hk)
  have hln : l.length = n := h.1
  have HL := Lib.hid hln
  have HLen := Lib.hid hlen
  have hmm := @run_makeMap Tryz.prog
  have HP0 := Lib.hid (PM.new w)
  have HB0 := Lib.hid ((Below.refl w.heap.size w).alloc (Nat.le_refl _) (.map #[] 0))
  clear h hlen
  go_enter Tryz.func28, Tryz.ntmps28
  go_wp2_with fail
  clear hmm
  go_loopw [11] (fun i wr => ∃ k : Nat, k ≤ n ∧ i = .int .i64 k ∧ PM wr w.heap.size k (plF l k) ∧ Below w.heap.size w wr) (fun i _ => n - (intOf i).toNat)
  case atStart => exact ⟨0, by omega, rfl, HP0.out, HB0.out⟩
  case round =>
    obtain ⟨k, hk, rfl, hpm, hbel⟩ := hrel
    have HP := Lib.hid hpm
    have HBl := Lib.hid hbel
    clear hpm hbel
    by_cases hlt : k < n
    · have hd : decide ((k : Int) < (n : Int)) = true := decide_eq_true (by omega)
      have k0 : (0 : Int) ≤ k := by omega
      have k1 : (k : Int) < n := by omega
      obtain ⟨b, off, rfl, hc, hw⟩ := HA.out wr HBl.out k hlt
      obtain ⟨c0, c1, c2, c3, c4, c5⟩ := hc
      have hl0 := HLen.out (l.getD k av0) (getD_mem _ (by rw [HL.out]; exact hlt))
      have hstep : Hid (plF l (k + 1) = fun s => match plF l k s with | some c => some c | none => if (l.getD k av0).lb = s ∧ s ≠ [] then some k else none) := rfl
      have e1 := empty_is (l.getD k av0).lb
      generalize l.getD k av0 = x at *
      obtain ⟨cs, hcs⟩ : ∃ cs, cs = (.cells #[.string (sB x.lb), .int .u8 x.i.op, .int .u8 x.i.a, .int .u16 x.i.b, .int .u32 x.i.c, .string (sB x.tg)] 34 : Obj) := ⟨_, rfl⟩
      have HX := (Below.refl wr.heap.size wr).alloc (Nat.le_refl _) cs
      have HP2 := HP.out.below HX (Nat.le_refl _)
      have HB2 := HBl.out.alloc HBl.out.size cs
      rw [hcs] at HP2 HB2
      have hlook := HP2.look2 x.lb hl0
      have hput := HP2.put (by omega) x.lb hl0 k (by omega)
      obtain ⟨w2, hup, hpm2, hbel2⟩ := hput
      have HPp := Lib.hid hpm2
      have HBp := Lib.hid (HB2.trans (hbel2 _ (Nat.le_refl _) HB2.size))
      have HP2h := Lib.hid HP2
      have HB2h := Lib.hid HB2
      clear HX HP2 HB2 hpm2 hbel2 hcs hl0 hw
      obtain ⟨lb, ⟨op, ia, ib, ic⟩, tg⟩ := x
      simp only at *
      cases hF : plF l k lb with
      | some c =>
        rw [hF] at hlook
        simp only [Option.getD_some, Option.isSome_some] at hlook
        have hsame : Hid (plF l (k + 1) = plF l k) := by
          show _ = _
          rw [hstep.out]
          funext s
          cases hs : plF l k s with
          | some d => rfl
          | none =>
            simp only
            rw [if_neg]
            rintro ⟨q1, q2⟩
            rw [← q1, hF] at hs
            cases hs
        clear hF hup e1
        generalize sB lb = LB at *
        generalize sB tg = TO at *
        go_wp2_with fail
        refine ⟨⟨k + 1, by omega, by simp, ?_, HB2h.out⟩, by simp [intOf]; omega⟩
        rw [hsame.out]
        obtain ⟨D, d1, d2, d3⟩ := HP2h.out
        exact ⟨D, d1.mono (by omega), d2, d3⟩
      | none =>
        rw [hF] at hlook
        simp only [Option.getD_none, Option.isSome_none] at hlook
        by_cases hlb : lb = []
        · rw [decide_eq_true hlb] at e1
          have hsame : Hid (plF l (k + 1) = plF l k) := by
            show _ = _
            rw [hstep.out]
            funext s
            cases hs : plF l k s with
            | some d => rfl
            | none =>
              simp only
              rw [if_neg]
              rintro ⟨q1, q2⟩
              exact q2 (q1.symm.trans hlb)
          clear hF hup hlb
          generalize sB lb = LB at *
          generalize sB tg = TO at *
          go_wp2_with fail
          refine ⟨⟨k + 1, by omega, by simp, ?_, HB2h.out⟩, by simp [intOf]; omega⟩
          rw [hsame.out]
          obtain ⟨D, d1, d2, d3⟩ := HP2h.out
          exact ⟨D, d1.mono (by omega), d2, d3⟩
        · rw [decide_eq_false hlb] at e1
          have hnew : Hid (plF l (k + 1) = fun t => if t = lb then some k else plF l k t) := by
            show _ = _
            rw [hstep.out]
            funext s
            by_cases hs : s = lb
            · rw [if_pos hs, hs, hF]
              simp [hlb]
            · rw [if_neg hs]
              cases hs2 : plF l k s with
              | some d => rfl
              | none =>
                simp only
                rw [if_neg]
                rintro ⟨q1, q2⟩
                exact hs q1.symm
          clear hF hlb
          generalize sB lb = LB at *
          generalize sB tg = TO at *
          go_wp2_with fail
          refine ⟨⟨k + 1, by omega, by simp, ?_, HBp.out⟩, by simp [intOf]; omega⟩
          rw [hnew.out]
          exact HPp.out
    · obtain rfl : k = n := by omega
      have hd : decide ((k : Int) < (k : Int)) = false := decide_eq_false (by omega)
      go_wp2_with fail
      go_ret
      exact ⟨w.heap.size, rfl, Nat.le_refl _, HP.out, HBl.out⟩
end Asm
end Go.Proofs.YtgiocecpkhmhhaaGreatDoor
namespace Go.Proofs.YtgiocecpkhmhhaaGreatDoor
open Go.ChangeShapes Go.WideShapes Go.ChangeAt Go.RowKit
namespace Asm
open Isa
set_option linter.unusedVariables false
set_option linter.unusedSimpArgs false
/-- whether a line's labels are amiss -/
def plBad (F : List UInt8 → Option Nat) (x : Av) (n : Nat) : Bool := (decide (x.lb ≠ []) && decide ((F x.lb).getD 0 ≠ n)) || (decide (x.tg ≠ []) && !(F x.tg).isSome)
def plIns (F : List UInt8 → Option Nat) (x : Av) : Iv := if x.tg = [] then x.i else ⟨x.i.op, x.i.a, x.i.b, ((F x.tg).getD 0 : Nat)⟩
def plE (F : List UInt8 → Option Nat) (x : Av) (n : Nat) : Int := if plBad F x n then 101 else 0
def plI (F : List UInt8 → Option Nat) (x : Av) (n : Nat) : Iv := if plBad F x n then iv0 else plIns F x
def PlacedP (F : List UInt8 → Option Nat) (x : Av) (n : Nat) (w : World) (e : Ending) (w' : World) : Prop := e = .returned (.tuple #[iv (plI F x n), .int .i64 (plE F x n)]) ∧ Below w.heap.size w w'
theorem cells4' {w : World} {V : Nat} {v0 v1 v2 v3 : Value} {t : TypeId} {fr : Nat × Nat} (h : w.heap[V]? = some (.cells #[v0, v1, v2, v3] t fr)) :
    w.cell? ⟨V, 0, none⟩ = some v0 ∧ w.cell? ⟨V, 1, none⟩ = some v1 ∧ w.cell? ⟨V, 2, none⟩ = some v2 ∧ w.cell? ⟨V, 3, none⟩ = some v3 :=
  ⟨cells_at h 0, cells_at h 1, cells_at h 2, cells_at h 3⟩
set_option maxRecDepth 100000 in
set_option maxHeartbeats 3200000 in
theorem placed_any (F : List UInt8 → Option Nat) (x : Av) (n m B : Nat) (hl : x.lb.length ≤ 1000000000) (ht : x.tg.length ≤ 1000000000) (hF : ∀ s c, F s = some c → c ≤ 16384) (w : World) (h : PM w B m F) :
    Calls Tryz.prog 30 #[avV x, .int .i64 (n : Int), .map (some B)] w (PlacedP F x n w) := by
  have e1 := empty_is x.lb
  have e2 := empty_is x.tg
  have HG : Hid (∀ w', Below w.heap.size w w' → plBad F x n = true → PlacedP F x n w (.returned (.tuple #[.agg #[.int .u8 0, .int .u8 0, .int .u16 0, .int .u32 0], .int .i64 101])) w') := fun w' hb q => ⟨by unfold plI plE; rw [q]; rfl, hb⟩
  have HY : Hid (∀ w' (I : Iv), Below w.heap.size w w' → plBad F x n = false → plIns F x = I → PlacedP F x n w (.returned (.tuple #[iv I, .int .i64 0])) w') := fun w' I hb q q2 => ⟨by unfold plI plE; rw [q, ← q2]; rfl, hb⟩
  have HB : Hid (plBad F x n = ((decide (x.lb ≠ []) && decide ((F x.lb).getD 0 ≠ n)) || (decide (x.tg ≠ []) && !(F x.tg).isSome))) := rfl
  have HI : Hid (plIns F x = if x.tg = [] then x.i else ⟨x.i.op, x.i.a, x.i.b, ((F x.tg).getD 0 : Nat)⟩) := rfl
  have HL := Lib.hid (fun W (hb : Below w.heap.size w W) => (h.below hb (Nat.le_refl _)).look x.lb hl)
  have HL2 := Lib.hid (fun W (hb : Below w.heap.size w W) => (h.below hb (Nat.le_refl _)).look2 x.tg ht)
  have HF := Lib.hid (hF x.tg)
  obtain ⟨o, ho⟩ : ∃ o, o = (.cells #[.string (sB x.lb), .int .u8 x.i.op, .int .u8 x.i.a, .int .u16 x.i.b, .int .u32 x.i.c, .string (sB x.tg)] 34 : Obj) := ⟨_, rfl⟩
  obtain ⟨r, hr⟩ : ∃ r, r = (.cells #[.int .u8 0, .int .u8 0, .int .u16 0, .int .u32 0] 32 : Obj) := ⟨_, rfl⟩
  have hx0 := alloc_new w o
  have HX1 := (Below.refl w.heap.size w).alloc (Nat.le_refl _) o
  have hr0 := alloc_new (w.alloc o) r
  have hx1 : ((w.alloc o).alloc r).heap[w.heap.size]? = some o := (Below.heap_alloc _ _ _ (by rw [World.size_alloc]; omega)).trans hx0
  have HX := Lib.hid (HX1.alloc HX1.size r)
  rw [World.size_alloc] at hr0
  rw [ho, hr] at hx1 hr0 HX
  clear h hF hl ht hx0 HX1
  obtain ⟨x0, x1, x2, x3, x4, x5⟩ := cells6 hx1
  obtain ⟨r0, r1, r2, r3⟩ := cells4' hr0
  have hlk1 := HL.out _ HX.out
  have hlk2 := HL2.out _ HX.out
  clear ho hr
  obtain ⟨lb, ⟨op, ia, ib, ic⟩, tg⟩ := x
  unfold avV
  simp only at *
  clear HL HL2 hx1 hr0
  generalize plBad F ⟨lb, ⟨op, ia, ib, ic⟩, tg⟩ n = Bad at *
  generalize hFL : (F lb).getD 0 = fl at *
  clear hFL
  have HRr : Hid (∀ o' r', ((w.alloc o').alloc r').heap[w.heap.size + 1]? = some r') := fun o' r' => by
    have := alloc_new (w.alloc o') r'
    rw [World.size_alloc] at this
    exact this
  have HBl : Hid (∀ o' r', Below w.heap.size w ((w.alloc o').alloc r')) := fun o' r' => ((Below.refl w.heap.size w).alloc (Nat.le_refl _) o').alloc (by rw [World.size_alloc]; omega) r'
  cases hFT : F tg with
  | none =>
    rw [hFT] at HB HI hlk2
    simp only [Option.getD_none, Option.isSome_none] at hlk2
    have HI2 : Hid (tg = [] → plIns F ⟨lb, ⟨op, ia, ib, ic⟩, tg⟩ = ⟨op, ia, ib, ic⟩) := fun q => by rw [HI.out, if_pos q]
    clear HI hFT
    by_cases hlb : lb = []
    · rw [decide_eq_true hlb] at e1
      by_cases htg : tg = []
      · rw [decide_eq_true htg] at e2
        have hB : Hid (Bad = false) := by show _ = _; rw [HB.out]; simp [htg, hlb]
        have HI3 := Lib.hid (HI2.out htg)
        clear HB
        generalize sB lb = LB at *
        generalize sB tg = TO at *
        go_enter Tryz.func30, Tryz.ntmps30
        go_wp2_with fail
        obtain ⟨d0, d1, d2, d3⟩ := cells4' (HRr.out (.cells #[.string LB, .int .u8 op, .int .u8 ia, .int .u16 ib, .int .u32 ic, .string TO] 34) (.cells #[.int .u8 op, .int .u8 ia, .int .u16 ib, .int .u32 ic] 32))
        refine bodyPost_ret (v := .tuple #[.agg #[.int .u8 op, .int .u8 ia, .int .u16 ib, .int .u32 ic], .int .i64 0]) (by simp [results, Tryz.f30, go_sem, d0, d1, d2, d3]) rfl ?_
        exact HY.out _ _ (HBl.out _ _) hB.out HI3.out
      · rw [decide_eq_false htg] at e2
        have hB : Hid (Bad = true) := by show _ = _; rw [HB.out]; simp [htg]
        clear HB
        generalize sB lb = LB at *
        generalize sB tg = TO at *
        go_enter Tryz.func30, Tryz.ntmps30
        go_wp2_with fail
        obtain ⟨d0, d1, d2, d3⟩ := cells4' (HRr.out (.cells #[.string LB, .int .u8 op, .int .u8 ia, .int .u16 ib, .int .u32 ic, .string TO] 34) (.cells #[.int .u8 0, .int .u8 0, .int .u16 0, .int .u32 0] 32))
        refine bodyPost_ret (v := .tuple #[.agg #[.int .u8 0, .int .u8 0, .int .u16 0, .int .u32 0], .int .i64 101]) (by simp [results, Tryz.f30, go_sem, d0, d1, d2, d3]) rfl ?_
        exact HG.out _ (HBl.out _ _) hB.out
    · rw [decide_eq_false hlb] at e1
      by_cases hfn : fl = n
      · have gn : (((fl : Nat) : Int) != (n : Int)) = false := by simp; omega
        by_cases htg : tg = []
        · rw [decide_eq_true htg] at e2
          have hB : Hid (Bad = false) := by show _ = _; rw [HB.out]; simp [htg, hfn]
          have HI3 := Lib.hid (HI2.out htg)
          clear HB
          generalize sB lb = LB at *
          generalize sB tg = TO at *
          go_enter Tryz.func30, Tryz.ntmps30
          go_wp2_with fail
          obtain ⟨d0, d1, d2, d3⟩ := cells4' (HRr.out (.cells #[.string LB, .int .u8 op, .int .u8 ia, .int .u16 ib, .int .u32 ic, .string TO] 34) (.cells #[.int .u8 op, .int .u8 ia, .int .u16 ib, .int .u32 ic] 32))
          refine bodyPost_ret (v := .tuple #[.agg #[.int .u8 op, .int .u8 ia, .int .u16 ib, .int .u32 ic], .int .i64 0]) (by simp [results, Tryz.f30, go_sem, d0, d1, d2, d3]) rfl ?_
          exact HY.out _ _ (HBl.out _ _) hB.out HI3.out
        · rw [decide_eq_false htg] at e2
          have hB : Hid (Bad = true) := by show _ = _; rw [HB.out]; simp [htg]
          clear HB
          generalize sB lb = LB at *
          generalize sB tg = TO at *
          go_enter Tryz.func30, Tryz.ntmps30
          go_wp2_with fail
          obtain ⟨d0, d1, d2, d3⟩ := cells4' (HRr.out (.cells #[.string LB, .int .u8 op, .int .u8 ia, .int .u16 ib, .int .u32 ic, .string TO] 34) (.cells #[.int .u8 0, .int .u8 0, .int .u16 0, .int .u32 0] 32))
          refine bodyPost_ret (v := .tuple #[.agg #[.int .u8 0, .int .u8 0, .int .u16 0, .int .u32 0], .int .i64 101]) (by simp [results, Tryz.f30, go_sem, d0, d1, d2, d3]) rfl ?_
          exact HG.out _ (HBl.out _ _) hB.out
      · have gn : (((fl : Nat) : Int) != (n : Int)) = true := by simp; omega
        have hB : Hid (Bad = true) := by show _ = _; rw [HB.out]; simp [hlb, hfn]
        clear HB
        generalize sB lb = LB at *
        generalize sB tg = TO at *
        go_enter Tryz.func30, Tryz.ntmps30
        go_wp2_with fail
        obtain ⟨d0, d1, d2, d3⟩ := cells4' (HRr.out (.cells #[.string LB, .int .u8 op, .int .u8 ia, .int .u16 ib, .int .u32 ic, .string TO] 34) (.cells #[.int .u8 0, .int .u8 0, .int .u16 0, .int .u32 0] 32))
        refine bodyPost_ret (v := .tuple #[.agg #[.int .u8 0, .int .u8 0, .int .u16 0, .int .u32 0], .int .i64 101]) (by simp [results, Tryz.f30, go_sem, d0, d1, d2, d3]) rfl ?_
        exact HG.out _ (HBl.out _ _) hB.out
  | some c =>
    have hc := HF.out c hFT
    have wc : IntKind.u32.wrap (c : Int) = c := by simp [IntKind.wrap, IntKind.bits, IntKind.signed]; omega
    rw [hFT] at HB HI hlk2
    simp only [Option.getD_some, Option.isSome_some] at hlk2
    clear hFT
    by_cases htg0 : tg = []
    · have HI2 : Hid (tg = [] → plIns F ⟨lb, ⟨op, ia, ib, ic⟩, tg⟩ = ⟨op, ia, ib, ic⟩) := fun q => by rw [HI.out, if_pos q]
      have htg := htg0
      clear HI
      rw [decide_eq_true htg] at e2
      by_cases hlb : lb = []
      · rw [decide_eq_true hlb] at e1
        have hB : Hid (Bad = false) := by show _ = _; rw [HB.out]; simp [hlb, htg]
        have HI3 := Lib.hid (HI2.out htg)
        clear HB
        generalize sB lb = LB at *
        generalize sB tg = TO at *
        go_enter Tryz.func30, Tryz.ntmps30
        go_wp2_with fail
        obtain ⟨d0, d1, d2, d3⟩ := cells4' (HRr.out (.cells #[.string LB, .int .u8 op, .int .u8 ia, .int .u16 ib, .int .u32 ic, .string TO] 34) (.cells #[.int .u8 op, .int .u8 ia, .int .u16 ib, .int .u32 ic] 32))
        refine bodyPost_ret (v := .tuple #[.agg #[.int .u8 op, .int .u8 ia, .int .u16 ib, .int .u32 ic], .int .i64 0]) (by simp [results, Tryz.f30, go_sem, d0, d1, d2, d3]) rfl ?_
        exact HY.out _ _ (HBl.out _ _) hB.out HI3.out
      · rw [decide_eq_false hlb] at e1
        by_cases hfn : fl = n
        · have gn : (((fl : Nat) : Int) != (n : Int)) = false := by simp; omega
          have hB : Hid (Bad = false) := by show _ = _; rw [HB.out]; simp [hfn, htg]
          have HI3 := Lib.hid (HI2.out htg)
          clear HB
          generalize sB lb = LB at *
          generalize sB tg = TO at *
          go_enter Tryz.func30, Tryz.ntmps30
          go_wp2_with fail
          obtain ⟨d0, d1, d2, d3⟩ := cells4' (HRr.out (.cells #[.string LB, .int .u8 op, .int .u8 ia, .int .u16 ib, .int .u32 ic, .string TO] 34) (.cells #[.int .u8 op, .int .u8 ia, .int .u16 ib, .int .u32 ic] 32))
          refine bodyPost_ret (v := .tuple #[.agg #[.int .u8 op, .int .u8 ia, .int .u16 ib, .int .u32 ic], .int .i64 0]) (by simp [results, Tryz.f30, go_sem, d0, d1, d2, d3]) rfl ?_
          exact HY.out _ _ (HBl.out _ _) hB.out HI3.out
        · have gn : (((fl : Nat) : Int) != (n : Int)) = true := by simp; omega
          have hB : Hid (Bad = true) := by show _ = _; rw [HB.out]; simp [hlb, hfn]
          clear HB
          generalize sB lb = LB at *
          generalize sB tg = TO at *
          go_enter Tryz.func30, Tryz.ntmps30
          go_wp2_with fail
          obtain ⟨d0, d1, d2, d3⟩ := cells4' (HRr.out (.cells #[.string LB, .int .u8 op, .int .u8 ia, .int .u16 ib, .int .u32 ic, .string TO] 34) (.cells #[.int .u8 0, .int .u8 0, .int .u16 0, .int .u32 0] 32))
          refine bodyPost_ret (v := .tuple #[.agg #[.int .u8 0, .int .u8 0, .int .u16 0, .int .u32 0], .int .i64 101]) (by simp [results, Tryz.f30, go_sem, d0, d1, d2, d3]) rfl ?_
          exact HG.out _ (HBl.out _ _) hB.out
    · have HI2 : Hid (tg ≠ [] → plIns F ⟨lb, ⟨op, ia, ib, ic⟩, tg⟩ = ⟨op, ia, ib, (c : Int)⟩) := fun q => by rw [HI.out, if_neg q]; rfl
      have htg := htg0
      clear HI
      rw [decide_eq_false htg] at e2
      by_cases hlb : lb = []
      · rw [decide_eq_true hlb] at e1
        have hB : Hid (Bad = false) := by show _ = _; rw [HB.out]; simp [hlb]
        have HI3 := Lib.hid (HI2.out htg)
        clear HB
        generalize sB lb = LB at *
        generalize sB tg = TO at *
        go_enter Tryz.func30, Tryz.ntmps30
        go_wp2_with fail
        obtain ⟨d0, d1, d2, d3⟩ := cells4' (HRr.out (.cells #[.string LB, .int .u8 op, .int .u8 ia, .int .u16 ib, .int .u32 (c : Int), .string TO] 34) (.cells #[.int .u8 op, .int .u8 ia, .int .u16 ib, .int .u32 (c : Int)] 32))
        refine bodyPost_ret (v := .tuple #[.agg #[.int .u8 op, .int .u8 ia, .int .u16 ib, .int .u32 (c : Int)], .int .i64 0]) (by simp [results, Tryz.f30, go_sem, d0, d1, d2, d3]) rfl ?_
        exact HY.out _ _ (HBl.out _ _) hB.out HI3.out
      · rw [decide_eq_false hlb] at e1
        by_cases hfn : fl = n
        · have gn : (((fl : Nat) : Int) != (n : Int)) = false := by simp; omega
          have hB : Hid (Bad = false) := by show _ = _; rw [HB.out]; simp [hfn]
          have HI3 := Lib.hid (HI2.out htg)
          clear HB
          generalize sB lb = LB at *
          generalize sB tg = TO at *
          go_enter Tryz.func30, Tryz.ntmps30
          go_wp2_with fail
          obtain ⟨d0, d1, d2, d3⟩ := cells4' (HRr.out (.cells #[.string LB, .int .u8 op, .int .u8 ia, .int .u16 ib, .int .u32 (c : Int), .string TO] 34) (.cells #[.int .u8 op, .int .u8 ia, .int .u16 ib, .int .u32 (c : Int)] 32))
          refine bodyPost_ret (v := .tuple #[.agg #[.int .u8 op, .int .u8 ia, .int .u16 ib, .int .u32 (c : Int)], .int .i64 0]) (by simp [results, Tryz.f30, go_sem, d0, d1, d2, d3]) rfl ?_
          exact HY.out _ _ (HBl.out _ _) hB.out HI3.out
        · have gn : (((fl : Nat) : Int) != (n : Int)) = true := by simp; omega
          have hB : Hid (Bad = true) := by show _ = _; rw [HB.out]; simp [hlb, hfn]
          clear HB
          generalize sB lb = LB at *
          generalize sB tg = TO at *
          go_enter Tryz.func30, Tryz.ntmps30
          go_wp2_with fail
          obtain ⟨d0, d1, d2, d3⟩ := cells4' (HRr.out (.cells #[.string LB, .int .u8 op, .int .u8 ia, .int .u16 ib, .int .u32 ic, .string TO] 34) (.cells #[.int .u8 0, .int .u8 0, .int .u16 0, .int .u32 0] 32))
          refine bodyPost_ret (v := .tuple #[.agg #[.int .u8 0, .int .u8 0, .int .u16 0, .int .u32 0], .int .i64 101]) (by simp [results, Tryz.f30, go_sem, d0, d1, d2, d3]) rfl ?_
          exact HG.out _ (HBl.out _ _) hB.out
end Asm
end Go.Proofs.YtgiocecpkhmhhaaGreatDoor
namespace Go.Proofs.YtgiocecpkhmhhaaGreatDoor
open Go.ChangeShapes Go.WideShapes Go.ChangeAt Go.RowKit
namespace Asm
open Isa
set_option linter.unusedVariables false
set_option linter.unusedSimpArgs false
theorem PM.setCell {w : World} {B n : Nat} {F : List UInt8 → Option Nat} (h : PM w B n F) (g j : Nat) (v : Value) (hne : B ≠ g) : PM (w.setCell ⟨g, j, none⟩ v) B n F := by
  obtain ⟨D, h1, h2, h3⟩ := h
  exact ⟨D, h1.kept (row := some g) ⟨rfl, rfl, rfl, by simp [World.setCell], fun k _ hk => Below.heap_setCell _ _ _ _ (fun e => hk (by rw [e]))⟩ (fun e => hne (by injection e)), h2, h3⟩
def eMay (l : List Av) (k : Nat) : Int := if mayA (l.getD k av0) then 0 else 2
set_option maxRecDepth 100000 in
set_option maxHeartbeats 3200000 in
/-- whether the line of this number may not be -/
theorem step1_any (l : List Av) (a : Option Addr) (n c Vl : Nat) (w W : World) (hT : Tabs w) (h : ARow w a n l) (hW : Below w.heap.size w W) (hl : W.heap[Vl]? = some (.cells #[.slice a n c] 22 (0, 0))) (k : Nat) (hk : k < n) :
    Calls Tryz.prog 25 #[.int .i64 (k : Int), .pointer (some ⟨Vl, 0, none⟩)] W fun e w' => e = .returned (.int .i64 (eMay l k)) ∧ Below W.heap.size W w' := by
  obtain ⟨b, off, rfl, hc, hw⟩ := (h.below hW (Nat.le_refl _)).at k hk
  obtain ⟨c0, c1, c2, c3, c4, c5⟩ := hc
  have HM := Lib.hid (fun W' (hb : Below W.heap.size W W') => mayA_any (l.getD k av0) hw W' ((hT.below hW (Nat.le_refl _)).below hb (Nat.le_refl _)))
  have HE : Hid (eMay l k = if mayA (l.getD k av0) then 0 else 2) := rfl
  have y := cells_at hl 0
  have k0 : (0 : Int) ≤ k := by omega
  have k1 : (k : Int) < n := by omega
  clear h hT hW hl hw
  generalize eMay l k = E at *
  generalize l.getD k av0 = x at *
  generalize mayA x = M at *
  have HU := Lib.hid (fun W' => unless_any M 2 W')
  rw [← HE.out] at HU
  clear HE
  unfold avV at HM
  obtain ⟨lb, ⟨op, ia, ib, ic⟩, tg⟩ := x
  simp only at *
  go_enter Tryz.func25, Tryz.ntmps25
  go_wp2_with fail
  refine (HM.out _ (Below.refl _ _)).mono ?_
  rintro e w2 ⟨rfl, hb2⟩
  go_wp2_with fail
  refine (HU.out _).mono ?_
  rintro e w3 ⟨rfl, hw3⟩
  subst w3
  go_wp2_with fail
  go_ret
  exact ⟨rfl, hb2⟩
/-- what stands when the line of this number is to be placed -/
structure A2 (l : List Av) (a : Option Addr) (n c : Nat) (F : List UInt8 → Option Nat) (w : World) (Vl Vm Vc g B k : Nat) (W : World) : Prop where
  bel : Below w.heap.size w W
  ln : W.heap[Vl]? = some (.cells #[.slice a n c] 22 (0, 0))
  mp : W.heap[Vm]? = some (.cells #[.map (some B)] 54 (0, 0))
  pm : PM W B n F
  cb : CBox W Vc g n (lay (fun j => plI F (l.getD j av0) j) n k)
set_option maxRecDepth 100000 in
set_option maxHeartbeats 3200000 in
theorem step2_any (l : List Av) (a : Option Addr) (n c Vl Vm Vc g B : Nat) (F : List UInt8 → Option Nat) (hF : ∀ s c, F s = some c → c ≤ 16384) (w : World) (hlen : ∀ x ∈ l, x.lb.length ≤ 1000000000 ∧ x.tg.length ≤ 1000000000) (h : ARow w a n l)
    (hg : w.heap.size ≤ g) (n1 : Vl ≠ g) (n2 : Vm ≠ g) (n3 : B ≠ g) (k : Nat) (hk : k < n) (W : World) (hI : A2 l a n c F w Vl Vm Vc g B k W) :
    Calls Tryz.prog 29 #[.int .i64 (k : Int), .pointer (some ⟨Vl, 0, none⟩), .pointer (some ⟨Vm, 0, none⟩), .pointer (some ⟨Vc, 0, none⟩)] W fun e w' => e = .returned (.int .i64 (plE F (l.getD k av0) k)) ∧ A2 l a n c F w Vl Vm Vc g B (k + 1) w' := by
  obtain ⟨i1, i2, i3, i4, i5⟩ := hI
  obtain ⟨b, off, rfl, hc, hw⟩ := (h.below i1 (Nat.le_refl _)).at k hk
  obtain ⟨c0, c1, c2, c3, c4, c5⟩ := hc
  have hx := hlen (l.getD k av0) (getD_mem _ (by rw [h.1]; exact hk))
  have HR := Lib.hid (fun W' (hb : Below W.heap.size W W') => placed_any F (l.getD k av0) k n B hx.1 hx.2 hF W' (i4.below hb (Nat.le_refl _)))
  unfold PlacedP at HR
  have HLy := Lib.hid (lay_set (fun j => plI F (l.getD j av0) j) hk)
  have y1 := i5.load
  have y2 : W.cell? ⟨Vl, 0, none⟩ = some (.slice (some ⟨b, off, none⟩) n c) := cells_at i2 0
  have y3 : W.cell? ⟨Vm, 0, none⟩ = some (.map (some B)) := cells_at i3 0
  have hb0 : b < w.heap.size := by
    obtain ⟨b', off', e, hc', _⟩ := h.at k hk
    injection e with e
    injection e with e1 e2
    rw [e1]
    exact World.block_lt_of_cell? _ _ hc'.c0
  have I1 := Lib.hid i1
  have I2 := Lib.hid i2
  have I3 := Lib.hid i3
  have I4 := Lib.hid i4
  have HC := Lib.hid i5
  have k0 : (0 : Int) ≤ k := by omega
  have k1 : (k : Int) < n := by omega
  clear i1 i2 i3 i4 i5 h hlen hx hw hF
  generalize lay (fun j => plI F (l.getD j av0) j) n k = L at *
  generalize plE F (l.getD k av0) k = E at *
  generalize plI F (l.getD k av0) k = I at *
  generalize l.getD k av0 = x at *
  unfold avV at HR
  obtain ⟨lb, ⟨op, ia, ib, ic⟩, tg⟩ := x
  obtain ⟨jo, ja, jb, jc⟩ := I
  unfold iv at HR
  simp only at *
  have hk4 := Lib.hid hk
  have N1 := Lib.hid n1
  have N2 := Lib.hid n2
  have N3 := Lib.hid n3
  clear hk n1 n2 n3
  have HN4 : Hid (b ≠ g) := Lib.hid (fun e => by
    have := hb0
    omega)
  have HSk : Hid (∀ w', Below W.heap.size W w' → w'.cell? ⟨Vc, 0, none⟩ = some (.slice (some ⟨g, 0, none⟩) n n) ∧ w'.cell? ⟨Vl, 0, none⟩ = some (.slice (some ⟨b, off, none⟩) n c) ∧ w'.cell? ⟨Vm, 0, none⟩ = some (.map (some B)) ∧ w'.cell? ⟨b, off + k * 6, none⟩ = some (.string (sB lb)) ∧ w'.cell? ⟨b, off + k * 6 + 1, none⟩ = some (.int .u8 op) ∧ w'.cell? ⟨b, off + k * 6 + 2, none⟩ = some (.int .u8 ia) ∧ w'.cell? ⟨b, off + k * 6 + 3, none⟩ = some (.int .u16 ib) ∧ w'.cell? ⟨b, off + k * 6 + 4, none⟩ = some (.int .u32 ic) ∧ w'.cell? ⟨b, off + k * 6 + 5, none⟩ = some (.string (sB tg))) := fun w' hb => by
    have hcb : ∀ a v, W.cell? a = some v → w'.cell? a = some v := fun a v hv => (World.cell?_of_block (hb.block _ (World.block_lt_of_cell? _ _ hv))).trans hv
    exact ⟨hcb _ _ y1, hcb _ _ y2, hcb _ _ y3, hcb _ _ c0, hcb _ _ c1, hcb _ _ c2, hcb _ _ c3, hcb _ _ c4, hcb _ _ c5⟩
  have HSt : Hid (∀ (w' : World) j u, (w'.cell? ⟨Vc, 0, none⟩ = some (.slice (some ⟨g, 0, none⟩) n n) ∧ w'.cell? ⟨Vl, 0, none⟩ = some (.slice (some ⟨b, off, none⟩) n c) ∧ w'.cell? ⟨Vm, 0, none⟩ = some (.map (some B)) ∧ w'.cell? ⟨b, off + k * 6, none⟩ = some (.string (sB lb)) ∧ w'.cell? ⟨b, off + k * 6 + 1, none⟩ = some (.int .u8 op) ∧ w'.cell? ⟨b, off + k * 6 + 2, none⟩ = some (.int .u8 ia) ∧ w'.cell? ⟨b, off + k * 6 + 3, none⟩ = some (.int .u16 ib) ∧ w'.cell? ⟨b, off + k * 6 + 4, none⟩ = some (.int .u32 ic) ∧ w'.cell? ⟨b, off + k * 6 + 5, none⟩ = some (.string (sB tg))) → (w'.setCell ⟨g, j, none⟩ u).cell? ⟨Vc, 0, none⟩ = some (.slice (some ⟨g, 0, none⟩) n n) ∧ (w'.setCell ⟨g, j, none⟩ u).cell? ⟨Vl, 0, none⟩ = some (.slice (some ⟨b, off, none⟩) n c) ∧ (w'.setCell ⟨g, j, none⟩ u).cell? ⟨Vm, 0, none⟩ = some (.map (some B)) ∧ (w'.setCell ⟨g, j, none⟩ u).cell? ⟨b, off + k * 6, none⟩ = some (.string (sB lb)) ∧ (w'.setCell ⟨g, j, none⟩ u).cell? ⟨b, off + k * 6 + 1, none⟩ = some (.int .u8 op) ∧ (w'.setCell ⟨g, j, none⟩ u).cell? ⟨b, off + k * 6 + 2, none⟩ = some (.int .u8 ia) ∧ (w'.setCell ⟨g, j, none⟩ u).cell? ⟨b, off + k * 6 + 3, none⟩ = some (.int .u16 ib) ∧ (w'.setCell ⟨g, j, none⟩ u).cell? ⟨b, off + k * 6 + 4, none⟩ = some (.int .u32 ic) ∧ (w'.setCell ⟨g, j, none⟩ u).cell? ⟨b, off + k * 6 + 5, none⟩ = some (.string (sB tg))) := fun w' j u hh => by
    obtain ⟨h1, h2, h3, h4, h5, h6, h7, h8, h9⟩ := hh
    have q : ∀ V o v, V ≠ g → w'.cell? ⟨V, o, none⟩ = some v → (w'.setCell ⟨g, j, none⟩ u).cell? ⟨V, o, none⟩ = some v := fun V o v hV hv => (World.cell?_of_block (Below.heap_setCell w' ⟨g, j, none⟩ u V hV)).trans hv
    exact ⟨q _ _ _ HC.out.ne h1, q _ _ _ N1.out h2, q _ _ _ N2.out h3, q _ _ _ HN4.out h4, q _ _ _ HN4.out h5, q _ _ _ HN4.out h6, q _ _ _ HN4.out h7, q _ _ _ HN4.out h8, q _ _ _ HN4.out h9⟩
  have HCa := Lib.hid (fun w' (hb : Below W.heap.size W w') => (HC.out.below hb (Nat.le_refl _)))
  go_enter Tryz.func29, Tryz.ntmps29
  go_wp2_with fail
  clear hb0
  go_region_held3 (fun w' => w'.cell? ⟨Vc, 0, none⟩ = some (.slice (some ⟨g, 0, none⟩) n n) ∧ w'.cell? ⟨Vl, 0, none⟩ = some (.slice (some ⟨b, off, none⟩) n c) ∧ w'.cell? ⟨Vm, 0, none⟩ = some (.map (some B)) ∧ w'.cell? ⟨b, off + k * 6, none⟩ = some (.string (sB lb)) ∧ w'.cell? ⟨b, off + k * 6 + 1, none⟩ = some (.int .u8 op) ∧ w'.cell? ⟨b, off + k * 6 + 2, none⟩ = some (.int .u8 ia) ∧ w'.cell? ⟨b, off + k * 6 + 3, none⟩ = some (.int .u16 ib) ∧ w'.cell? ⟨b, off + k * 6 + 4, none⟩ = some (.int .u32 ic) ∧ w'.cell? ⟨b, off + k * 6 + 5, none⟩ = some (.string (sB tg))) (first | exact HSk.out _ (by assumption) | exact HSt.out _ _ _ (HSt.out _ _ _ (HSt.out _ _ _ (HSt.out _ _ _ (HSk.out _ (by assumption))))) | go_keep) (first
    | (go_at_call 30; refine (HR.out _ (by first | exact Below.refl _ _ | exact (Below.refl _ _).drew | go_grown)).mono ?_; rintro e w2 ⟨rfl, hb2⟩
       have hb3 : Below W.heap.size W w2 := (Below.refl W.heap.size W).drew.trans hb2
       have HC2 := HCa.out w2 hb3
       obtain ⟨u0, z0⟩ := HC2.at hk4.out 0 (by decide)
       obtain ⟨u1, z1⟩ := HC2.at hk4.out 1 (by decide)
       obtain ⟨u2, z2⟩ := HC2.at hk4.out 2 (by decide)
       obtain ⟨u3, z3⟩ := HC2.at hk4.out 3 (by decide)
       have f0 := HC2.free (k * 4)
       have f1 := HC2.free (k * 4 + 1)
       have f2 := HC2.free (k * 4 + 2)
       have f3 := HC2.free (k * 4 + 3)
       rw [Nat.add_zero] at z0
       have HC3 := Lib.hid HC2
       clear HC2))
  all_goals
    rename_i hK _
    refine hK _ _ ?_
    clear HSk HSt HCa
    have HB3 := Lib.hid hb3
    clear hb2 hb3 z0 z1 z2 z3 f0 f1 f2 f3 y1 y2 y3 c0 c1 c2 c3 c4 c5
    go_wp2_with fail
    go_ret
    have hkeep : ∀ V, V ≠ g → ∀ o, W.heap[V]? = some o → ((((w2.setCell ⟨g, k * 4, none⟩ (.int .u8 jo)).setCell ⟨g, k * 4 + 1, none⟩ (.int .u8 ja)).setCell ⟨g, k * 4 + 2, none⟩ (.int .u16 jb)).setCell ⟨g, k * 4 + 3, none⟩ (.int .u32 jc)).heap[V]? = some o := fun V hV o ho => by
      rw [Below.heap_setCell _ _ _ _ hV, Below.heap_setCell _ _ _ _ hV, Below.heap_setCell _ _ _ _ hV, Below.heap_setCell _ _ _ _ hV]
      exact (HB3.out.block _ (lt_of_block ho)).trans ho
    refine ⟨rfl, ⟨((((I1.out.trans (HB3.out.mono I1.out.size)).setCell hg _).setCell hg _).setCell hg _).setCell hg _, hkeep _ N1.out _ I2.out, hkeep _ N2.out _ I3.out, ((((I4.out.below HB3.out (Nat.le_refl _)).setCell _ _ _ N3.out).setCell _ _ _ N3.out).setCell _ _ _ N3.out).setCell _ _ _ N3.out, ?_⟩⟩
    rw [← HLy.out]
    exact HC3.out.put hk4.out ⟨jo, ja, jb, jc⟩
end Asm
end Go.Proofs.YtgiocecpkhmhhaaGreatDoor
namespace Go.Proofs.YtgiocecpkhmhhaaGreatDoor
open Go.ChangeShapes Go.WideShapes Go.ChangeAt Go.RowKit
namespace Asm
open Isa
set_option linter.unusedVariables false
set_option linter.unusedSimpArgs false
theorem plF_lt (l : List Av) (n : Nat) : ∀ s c, plF l n s = some c → c < n := fun s c h => by
  rcases plF_spec l s n with ⟨h1, _⟩ | ⟨d, h1, _, h3, _⟩
  · rw [h1] at h; cases h
  · rw [h1] at h; cases h; exact h3
theorem plBad_is (l : List Av) (k : Nat) (hk : k < l.length) : plBad (plF l l.length) (l.getD k av0) k = badL l k := by
  unfold plBad badL
  congr 1
  · by_cases hl : (l.getD k av0).lb = []
    · rw [hl]; simp
    · congr 1
      rcases plF_find l (l.getD k av0).lb hl with ⟨h1, h2⟩ | ⟨c, h1, h2, h3⟩
      · exfalso
        rcases plF_spec l (l.getD k av0).lb l.length with ⟨_, q⟩ | ⟨d, q, _⟩
        · exact (q.resolve_left hl) k hk rfl
        · rw [h1] at q; cases q
      · rw [h1, h3]
        simp
        constructor <;> intro e <;> omega
  · by_cases hl : (l.getD k av0).tg = []
    · rw [hl]; simp
    · congr 1
      rcases plF_find l (l.getD k av0).tg hl with ⟨h1, h2⟩ | ⟨c, h1, h2, h3⟩
      · rw [h1, h2]; rfl
      · rw [h1, h3]
        have : ¬ ((c : Int) < 0) := by omega
        simp [this]
theorem plI_is (l : List Av) (k : Nat) (hk : k < l.length) (hb : badL l k = false) : plI (plF l l.length) (l.getD k av0) k = ins l (l.getD k av0) := by
  unfold plI
  rw [plBad_is l k hk, hb]
  simp only [Bool.false_eq_true, if_false]
  unfold plIns ins
  by_cases ht : (l.getD k av0).tg = []
  · rw [if_pos ht, if_pos ht]
  · rw [if_neg ht, if_neg ht]
    rcases plF_find l (l.getD k av0).tg ht with ⟨h1, h2⟩ | ⟨c, h1, h2, h3⟩
    · exfalso
      unfold badL at hb
      rw [h2] at hb
      simp at hb
      rw [List.getD_eq_getElem?_getD] at ht
      exact ht hb.2
    · rw [h1, h3]; rfl
theorem plE_is (l : List Av) (k : Nat) (hk : k < l.length) : plE (plF l l.length) (l.getD k av0) k = if badL l k then 101 else 0 := by
  unfold plE
  rw [plBad_is l k hk]
theorem enters_a1 : ∀ args w, (callFunc 25 args).run Tryz.prog w = .ok (.enter 25 args) w := enters_of Tryz.func25 (by kernel_rfl) rfl
theorem enters_a2 : ∀ args w, (callFunc 29 args).run Tryz.prog w = .ok (.enter 29 args) w := enters_of Tryz.func29 (by kernel_rfl) rfl
theorem range_map (l : List Av) (f : Nat → Iv) (g : Av → Iv) (h : ∀ k, k < l.length → f k = g (l.getD k av0)) : (List.range l.length).map f = l.map g := by
  apply List.ext_getElem
  · simp
  · intro i h1 h2
    simp only [List.length_map] at h2
    rw [List.getElem_map, List.getElem_range, List.getElem_map, h i h2, List.getD_eq_getElem?_getD, List.getElem?_eq_getElem h2]
    rfl
def AsmP (l : List Av) (w : World) (e : Ending) (w' : World) : Prop :=
  ∃ v, e = .returned (.tuple #[v, .int .i64 (asmN l : Nat), .int .i64 (asmE l)]) ∧ w'.ownsRow w.heap.size 32 4 v (asmL l).length (encs (asmL l)) ∧ Below w.heap.size w w'
set_option maxRecDepth 100000 in
set_option maxHeartbeats 3200000 in
theorem asm_any (l : List Av) (a : Option Addr) (n c : Nat) (hm : n ≤ 1000000) (w : World) (hT : Tabs w) (h : ARow w a n l) : Calls Tryz.prog 10 #[.slice a n c] w (AsmP l w) := by
  have hln : l.length = n := h.1
  have hx0 := alloc_new w (.cells #[.slice a n c] 22)
  have HX0 := Lib.hid ((Below.refl w.heap.size w).alloc (Nat.le_refl _) (.cells #[.slice a n c] 22))
  have x0 := cells_at hx0 0
  by_cases h1 : 16384 < n
  · have HE := Lib.hid (asmE_long (l := l) (by omega))
    have hd : decide ((16384 : Int) < (n : Int)) = true := decide_eq_true (by omega)
    go_enter Tryz.func10, Tryz.ntmps10
    go_wp2_with fail
    refine bodyPost_ret (v := .tuple #[.slice none 0 0, .int .i64 0, .int .i64 3]) (by simp [results, Tryz.f10, go_sem]) rfl ?_
    obtain ⟨e1, e2, e3⟩ := HE.out
    exact ⟨_, by rw [e1, e2]; rfl, by rw [e3]; exact World.ownsRow_nil _ _ _ _, HX0.out⟩
  have hd1 : decide ((16384 : Int) < (n : Int)) = false := decide_eq_false (by omega)
  have HS1 : Hid (StepC 25 #[.pointer (some ⟨w.heap.size, 0, none⟩)] n (eMay l)
      (fun _ W => Below w.heap.size w W ∧ W.heap[w.heap.size]? = some (.cells #[.slice a n c] 22 (0, 0))) (fun _ W => Below w.heap.size w W)) := by
    intro k hk W hI
    obtain ⟨i1, i2⟩ := hI
    refine (step1_any l a n c w.heap.size w W hT h i1 i2 k hk).mono ?_
    rintro e w' ⟨rfl, j1⟩
    have j2 := i1.trans (j1.mono i1.size)
    exact ⟨rfl, fun _ => ⟨j2, (j1.block _ (lt_of_block i2)).trans i2⟩, fun _ => j2⟩
  have HBadA := Lib.hid (fun k hk hn hb => asm_badA (l := l) (k := k) (by omega) hk hn hb)
  have HBadB := Lib.hid (fun ha k hk hn hb => asm_badB (l := l) (k := k) (by omega) ha hk hn hb)
  have HGood := Lib.hid (fun ha hn => asm_good (l := l) (by omega) ha hn)
  have HL := Lib.hid hln
  have HH := Lib.hid h
  have HM : Hid (n ≤ 16384) := Lib.hid (by omega)
  clear h hT hm h1 hln
  go_enter Tryz.func10, Tryz.ntmps10
  go_wp2_with fail
  refine (first_any 25 _ enters_a1 n (by have := HM.out; omega) _ _ _ HS1.out _ ⟨HX0.out, hx0⟩).mono ?_
  intro e w2 hP
  clear hx0 x0 HX0 HS1
  rcases hP with ⟨k, hk, hno, hne, rfl, hF⟩ | ⟨hall, rfl, hI1, hI2⟩
  · have hmf : mayA (l.getD k av0) = false := by
      cases q : mayA (l.getD k av0) with
      | false => rfl
      | true => exact absurd (by unfold eMay; rw [q]; rfl) hne
    have hE : eMay l k = 2 := by unfold eMay; rw [hmf]; rfl
    obtain ⟨e1, e2, e3⟩ := HBadA.out k (by rw [HL.out]; exact hk) (fun t ht => by
      cases q : mayA (l.getD t av0) with
      | true => rfl
      | false => have := hno t ht; unfold eMay at this; rw [q] at this; simp at this) hmf
    rw [hE]
    have E1 := Lib.hid e1
    have E2 := Lib.hid e2
    have E3 := Lib.hid e3
    clear e1 e2 e3 hno hne hE hmf
    go_wp2_with fail
    refine bodyPost_ret (v := .tuple #[.slice none 0 0, .int .i64 (k : Int), .int .i64 2]) (by simp [results, Tryz.f10, go_sem]) rfl ?_
    exact ⟨_, by rw [E1.out, E2.out], by rw [E3.out]; exact World.ownsRow_nil _ _ _ _, hF⟩
  · have hmay : ∀ t, t < l.length → mayA (l.getD t av0) = true := fun t ht => by
      cases q : mayA (l.getD t av0) with
      | true => rfl
      | false => have := hall t (by rw [← HL.out]; exact ht); unfold eMay at this; rw [q] at this; simp at this
    have hlen : ∀ x ∈ l, x.lb.length ≤ 1000000000 ∧ x.tg.length ≤ 1000000000 := by
      intro x hx
      obtain ⟨i, hi, rfl⟩ := List.getElem_of_mem hx
      have := hmay i hi
      rw [List.getD_eq_getElem?_getD, List.getElem?_eq_getElem hi] at this
      simp only [Option.getD_some] at this
      unfold mayA at this
      simp only [Bool.and_eq_true, Bool.or_eq_true, decide_eq_true_eq] at this
      constructor
      · rcases this.1.1 with e | e
        · rw [e]; simp
        · have := isLbl_len e; omega
      · rcases this.2 with e | e
        · rw [e]; simp
        · have := isLbl_len e.1.1; omega
    have HMay := Lib.hid hmay
    have HLen := Lib.hid hlen
    have HI1 := Lib.hid hI1
    have HI2 := Lib.hid hI2
    have y := cells_at hI2 0
    have HPl := Lib.hid (placesof_any l a n c HM.out (fun x hx => (hlen x hx).1) w2 (HH.out.below hI1 (Nat.le_refl _)))
    clear hall hmay hlen hI1 hI2
    go_wp2_with fail
    refine HPl.out.mono ?_
    rintro e w3 ⟨B, rfl, hB, hpm, hb3⟩
    have hl3 := (hb3.block _ (lt_of_block HI2.out)).trans HI2.out
    have y3 := cells_at hl3 0
    have HB3 := HI1.out.trans (hb3.mono HI1.out.size)
    have hmk := make_code (w3.alloc (.cells #[.map (some B)] 54)) n (by have := HM.out; omega)
    rw [World.size_alloc] at hmk
    obtain ⟨om, hom⟩ : ∃ om, om = (.cells #[.map (some B)] 54 : Obj) := ⟨_, rfl⟩
    obtain ⟨oc, hoc⟩ : ∃ oc, oc = (.cells (encs (List.replicate n iv0)).toArray 32 : Obj) := ⟨_, rfl⟩
    obtain ⟨ob, hob⟩ : ∃ ob, ob = (.cells #[.slice (some ⟨w3.heap.size + 1, 0, none⟩) n n] 25 : Obj) := ⟨_, rfl⟩
    have B4 := (Below.refl w3.heap.size w3).alloc (Nat.le_refl _) om
    have B5 := B4.alloc B4.size oc
    have B6 := B5.alloc B5.size ob
    have s4 : (w3.alloc om).heap.size = w3.heap.size + 1 := World.size_alloc _ _
    have s5 : ((w3.alloc om).alloc oc).heap.size = w3.heap.size + 2 := by rw [World.size_alloc, s4]
    have m4 := alloc_new w3 om
    have m5 : ((w3.alloc om).alloc oc).heap[w3.heap.size]? = some om := (Below.heap_alloc _ _ _ (by omega)).trans m4
    have m6 : (((w3.alloc om).alloc oc).alloc ob).heap[w3.heap.size]? = some om := (Below.heap_alloc _ _ _ (by omega)).trans m5
    have c5 := alloc_new (w3.alloc om) oc
    rw [s4] at c5
    have c6 : (((w3.alloc om).alloc oc).alloc ob).heap[w3.heap.size + 1]? = some oc := (Below.heap_alloc _ _ _ (by omega)).trans c5
    have v6 := alloc_new ((w3.alloc om).alloc oc) ob
    rw [s5] at v6
    have l6 := (B6.block _ (lt_of_block hl3)).trans hl3
    have q1 : w.heap.size < w3.heap.size := lt_of_block hl3
    have Q1 := Lib.hid q1
    have hBlt := hpm.lt
    have HA0 : Hid (A2 l a n c (plF l n) w w.heap.size w3.heap.size (w3.heap.size + 2) (w3.heap.size + 1) B 0 (((w3.alloc om).alloc oc).alloc ob)) :=
      ⟨HB3.trans (B6.mono HB3.size), l6, by rw [← hom]; exact m6, hpm.below B6 (Nat.le_refl _), ⟨by rw [← hob]; exact v6, by rw [c6, hoc]; unfold lay; simp, by omega, lay_len _ (by omega)⟩⟩
    have HS2 : Hid (StepC 29 #[.pointer (some ⟨w.heap.size, 0, none⟩), .pointer (some ⟨w3.heap.size, 0, none⟩), .pointer (some ⟨w3.heap.size + 2, 0, none⟩)] n (fun k => plE (plF l n) (l.getD k av0) k)
        (fun k W => A2 l a n c (plF l n) w w.heap.size w3.heap.size (w3.heap.size + 2) (w3.heap.size + 1) B k W) (fun _ W => Below w.heap.size w W)) := by
      intro k hk W hI
      refine (step2_any l a n c w.heap.size w3.heap.size (w3.heap.size + 2) (w3.heap.size + 1) B (plF l n) (fun s d hd => by have := plF_lt l n s d hd; have := HM.out; omega) w HLen.out HH.out (by omega) (by omega) (by omega) (by omega) k hk W hI).mono ?_
      rintro e w' ⟨rfl, j1⟩
      exact ⟨rfl, fun _ => j1, fun _ => j1.bel⟩
    have z4 := cells_at ((B4.block _ q1).trans hl3) 0
    have z6 := cells_at l6 0
    rw [hom, hoc, hob] at HA0 z6
    rw [hom] at z4
    simp only [List.getElem?_toArray, List.getElem?_cons_zero] at z4 z6
    clear B4 B5 B6 s4 s5 m4 m5 m6 c5 c6 v6 l6 hl3 hom hoc hob HB3 hb3 hpm hBlt q1 hB y HPl
    go_wp2_with fail
    refine (first_any 29 _ enters_a2 n (by have := HM.out; omega) _ _ _ HS2.out _ HA0.out).mono ?_
    intro e w4 hP
    clear hmk y3 HA0 HS2 z4 z6
    have hLL := HL.out
    subst hLL
    rcases hP with ⟨k, hk, hno, hne, rfl, hF⟩ | ⟨hall, rfl, hI⟩
    · dsimp only at hno hne ⊢
      have hbad : badL l k = true := by
        cases q : badL l k with
        | true => rfl
        | false => rw [plE_is l k hk, q] at hne; exact absurd rfl hne
      have hE : plE (plF l l.length) (l.getD k av0) k = 101 := by rw [plE_is l k hk, hbad]; rfl
      obtain ⟨e1, e2, e3⟩ := HBadB.out HMay.out k hk (fun t ht => by
        cases q : badL l t with
        | false => rfl
        | true => have := hno t ht; rw [plE_is l t (by omega), q] at this; simp at this) hbad
      rw [hE]
      have E1 := Lib.hid e1
      have E2 := Lib.hid e2
      have E3 := Lib.hid e3
      clear e1 e2 e3 hno hne hE hbad
      go_wp2_with fail
      refine bodyPost_ret (v := .tuple #[.slice none 0 0, .int .i64 (k : Int), .int .i64 101]) (by simp [results, Tryz.f10, go_sem]) rfl ?_
      exact ⟨_, by rw [E1.out, E2.out], by rw [E3.out]; exact World.ownsRow_nil _ _ _ _, hF⟩
    · dsimp only at hall ⊢
      have hnb : ∀ t, t < l.length → badL l t = false := fun t ht => by
        cases q : badL l t with
        | false => rfl
        | true => have := hall t ht; rw [plE_is l t ht, q] at this; simp at this
      obtain ⟨e1, e2, e3⟩ := HGood.out HMay.out hnb
      have hlay : lay (fun j => plI (plF l l.length) (l.getD j av0) j) l.length l.length = asmL l := by
        rw [lay_all, e3]
        exact range_map l _ _ fun k hk => plI_is l k hk (hnb k hk)
      have hcb := hI.cb
      rw [hlay] at hcb
      have hlen := hcb.len
      have E1 := Lib.hid e1
      have E2 := Lib.hid e2
      have HCb := Lib.hid hcb
      have HBel := Lib.hid hI.bel
      have HLn := Lib.hid hlen
      have y := hcb.load
      clear e1 e2 e3 hall hnb hlay hcb hI hlen
      go_wp2_with fail
      refine bodyPost_ret (v := .tuple #[.slice (some ⟨w3.heap.size + 1, 0, none⟩) l.length l.length, .int .i64 0, .int .i64 0]) (by simp [results, Tryz.f10, go_sem]) rfl ?_
      refine ⟨_, by rw [E1.out, E2.out]; rfl, ?_, HBel.out⟩
      rw [HLn.out]
      refine HCb.out.own ?_ (by have := HM.out; omega)
      have := Q1.out
      omega
end Asm
end Go.Proofs.YtgiocecpkhmhhaaGreatDoor
