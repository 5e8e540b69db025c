/- taken: what regions take of a memory, gone over: the iterator keeps what it promises. -/
import Derived.Test.YtekicfaakjbmhaaRightsLib
import Derived.Shelf.Abstract
import Derived.OwnWalkIn
import Derived.TacticsInMore
import Derived.LoopNIn
import Derived.LoopIn
namespace Go.Proofs.Ytekicfaakjbmhaa
open Go.ChangeShapes Go.WideShapes Go.ChangeAt Go.RowKit
namespace Rights
set_option linter.unusedVariables false
set_option linter.unusedSimpArgs false
attribute [local go_sem] Oper.semAt_some
/-- a pair of numbers, handed to a loop's body -/
def encP (p : Int × Int) : Array Value := #[.int .u32 p.1, .int .u32 p.2]
/-- the boxes that the closure reads, and the row of the regions -/
structure TakenAt (c : Nat → Prop) (w : World) (lb wb mb : Nat) (a : Option Addr) (n cp : Nat) (l : List Rg) (m : Int) : Prop where
  cl : w.cell? ⟨lb, 0, none⟩ = some (.slice a n cp)
  cw : w.cell? ⟨wb, 0, none⟩ = some (.func (.func 35) #[] #[.pointer (some ⟨mb, 0, none⟩)])
  cm : w.cell? ⟨mb, 0, none⟩ = some (.int .u32 m)
  row : RRow w a n l
  kl : c lb
  kw : c wb
  km : c mb
  kr : ∀ b off, 0 < n → a = some ⟨b, off, none⟩ → c b
theorem TakenAt.kept {c : Nat → Prop} {w w' : World} {lb wb mb : Nat} {a : Option Addr} {n cp : Nat} {l : List Rg} {m : Int} (h : TakenAt c w lb wb mb a n cp l m) (hk : Kept (fun k => ¬ c k) w w') : TakenAt c w' lb wb mb a n cp l m :=
  ⟨hk.cell h.cl (fun x => x h.kl), hk.cell h.cw (fun x => x h.kw), hk.cell h.cm (fun x => x h.km), h.row.kept hk (fun b off h0 e x => x (h.kr b off h0 e)), h.kl, h.kw, h.km, h.kr⟩
theorem taken_take (m : Int) (l : List Rg) (k : Nat) (hk : k < l.length) : taken m (l.take (k + 1)) = taken m (l.take k) ++ (if l[k]!.s = 0 then [] else [(min l[k]!.b m, min l[k]!.e m)]) := by
  rw [getElem!_pos l k hk]
  unfold taken
  rw [List.take_add_one, List.getElem?_eq_getElem hk]
  simp only [List.filter_append, List.map_append, Option.toList_some]
  by_cases h : l[k].s = 0
  · simp [h]
  · simp [h]
theorem taken_pre (m : Int) (l : List Rg) (k : Nat) : taken m (l.take k) <+: taken m l := by
  have h : taken m l = taken m (l.take k) ++ taken m (l.drop k) := by
    conv => lhs; rw [← List.take_append_drop k l]
    simp only [taken, List.filter_append, List.map_append]
  rw [h]
  exact List.prefix_append _ _
/-- what has come when k regions are gone over -/
def Come (m : Int) (l : List Rg) (k : Nat) : List (Int × Int) := taken m (l.take k)
set_option maxHeartbeats 4000000 in
set_option maxRecDepth 100000 in
theorem seq_taken (c : Nat → Prop) (lb wb mb : Nat) (a : Option Addr) (n cp : Nat) (l : List Rg) (m : Int) (hm : 0 ≤ m ∧ m ≤ 4294967295) (hn : n ≤ 1000000) (w : World) (hT : TakenAt c w lb wb mb a n cp l m) :
    SeqQ Try.prog 36 #[.pointer (some ⟨lb, 0, none⟩), .pointer (some ⟨wb, 0, none⟩), .pointer (some ⟨mb, 0, none⟩)] encP c (taken m l ++ [(m, m)]) w := by
  intro yl J Jx W hW hJ hJx hY h0
  have HT := Lib.hid (hT.kept hW)
  have HY := Lib.hid hY
  have HJ := Lib.hid hJ
  have HJx := Lib.hid hJx
  have H0 := Lib.hid h0
  have clW := (hT.kept hW).cl
  have hlen := (hT.kept hW).row.1
  have HL := Lib.hid hlen
  clear hT hW hY hJ hJx h0 hlen
  refine callsIn_of_wp Try.func36 rfl trivial ?_ rfl
  simp only [Try.ntmps36, List.size_toArray, List.length_cons, List.length_nil, Nat.reduceAdd, Nat.reduceSub, Array.replicate_succ, Array.replicate_zero, List.push_toArray, List.append_toArray, List.nil_append, List.cons_append]
  gi_wp2_with fail
  gi_loopw [9] (fun i wr => ∃ (k : Nat) (q : Nat → Prop), k ≤ n ∧ i = .int .i64 k ∧ J (Come m l k) q wr ∧ (∀ j, q j → j < wr.heap.size) ∧ Kept (fun j => ¬ c j) W wr) (fun i _ => n - (intOf i).toNat)
  case atStart => exact ⟨0, fun _ => False, by omega, rfl, H0.out, fun _ h => h.elim, Kept.refl _ _⟩
  case round =>
    obtain ⟨k, q, hk, rfl, hJk, hqw, hkw⟩ := hrel
    have HQ := Lib.hid hqw
    clear hqw
    have hT := HT.out.kept hkw
    have HTw := Lib.hid hT
    have HJk := Lib.hid hJk
    have HK := Lib.hid hkw
    clear hJk hkw
    by_cases hlt : k < n
    · have k0 : (0 : Int) ≤ k := by omega
      have k1 : (k : Int) < n := by omega
      have hd : decide ((k : Int) < (n : Int)) = true := by simp; omega
      obtain ⟨rb, off, rfl, hrl, hin⟩ := hT.row.2.resolve_left (by omega)
      obtain ⟨g0, g1, g2⟩ := hin.at k (by rw [HL.out]; exact hlt)
      have hend := fun W => end_any (l[k]!) W
      have hb := (l[k]!).h
      have HStep : Hid (Come m l (k + 1) = Come m l k ++ (if (l[k]!).s = 0 then [] else [(min (l[k]!).b m, min (l[k]!).e m)])) := taken_take m l k (by rw [HL.out]; exact hlt)
      clear hT hin hrl
      unfold Rg.e at HStep
      generalize (l[k]!).b = b at *
      generalize (l[k]!).s = s at *
      generalize (l[k]!).r = r at *
      have c1 : IntKind.u64.wrap b = b := by simp [IntKind.wrap, IntKind.bits, IntKind.signed]; omega
      have HB := Lib.hid hb
      gi_wp2_with fail
      have H2 := Lib.hid (World.alloc_heap_new wr (.cells #[.int .u32 b, .int .u32 s, .int .u8 r] 24))
      have HA : Hid (Kept (fun j => q j ∨ none' j) wr (wr.alloc (.cells #[.int .u32 b, .int .u32 s, .int .u8 r] 24))) := (Kept.refl _ _).alloc _
      have HTV : Hid (TakenAt c (wr.alloc (.cells #[.int .u32 b, .int .u32 s, .int .u8 r] 24)) lb wb mb (some ⟨rb, off, none⟩) n cp l m) := HTw.out.kept ((Kept.refl _ _).alloc _)
      have HAc : Hid (Kept (fun j => ¬ c j) wr (wr.alloc (.cells #[.int .u32 b, .int .u32 s, .int .u8 r] 24))) := (Kept.refl _ _).alloc _
      clear g0 g1 g2 hb
      have hb := HB.out
      obtain ⟨V, hV⟩ : ∃ V, wr.heap.size = V := ⟨_, rfl⟩
      rw [hV] at H2 ⊢
      generalize wr.alloc (.cells #[.int .u32 b, .int .u32 s, .int .u8 r] 24) = V0 at *
      have hE := Posts.ext_rel
      obtain ⟨E1, hE1⟩ : ∃ E, (s != 0) = E := ⟨_, rfl⟩
      refine Posts.wpIn_region_tail Posts.ext_rel 14 6 (Posts.At [Posts.is (.pointer (some ⟨V, 1, none⟩)), Posts.is (.int .u32 s), Posts.is (.bool (E1)), Posts.is (.bool (E1)), Posts.on (E1) (.func (.yield yl) #[] #[]), Posts.on (E1) (.func (.func 35) #[] #[.pointer (some ⟨mb, 0, none⟩)]), Posts.on (E1) (.pointer (some ⟨V, 0, none⟩)), Posts.on (E1) (.int .u32 b), Posts.on (E1) (.int .u64 b), Posts.on (E1) (.int .u32 (min b m)), Posts.on (E1) (.func (.func 35) #[] #[.pointer (some ⟨mb, 0, none⟩)]), Posts.on (E1) (.agg #[.int .u32 b, .int .u32 s, .int .u8 r]), Posts.on (E1) (.int .u64 (b + s)), Posts.on (E1) (.int .u32 (min (b + s) m))]) (fun _ _ => True) (by kernel_rfl) (by decide) (by kernel_rfl) (by kernel_rfl) (by kernel_rfl)
        (Posts.stable_at _ (by repeat' (first | exact trivial | (refine And.intro ?_ ?_) | exact Posts.is_stable _ | exact Posts.on_stable _ _))) trivial ?_ ?_
      · refine ⟨?_, ?_, ?_, ?_, ?_, ?_, ?_, ?_, ?_, ?_, ?_, ?_, ?_, ?_, trivial⟩
        · intro a X hX hS hD hJ hU
          obtain ⟨x0, x1, x2⟩ := cells3 ((Posts.Ext.blk hX _ (lt_of_block H2.out)).trans H2.out)
          have hTX := HTV.out.kept (Kept.of_below hX)
          have cw := hTX.cw
          have cm := hTX.cm
          have d6 := Posts.slot (show a.eval (.tmp 6) = .pointer (some ⟨V, 0, none⟩) from hS.other 6 rfl)
          exact Posts.op_value (fun _ => trivial) rfl rfl (by intro c h; cases h) rfl (by rw [hS.size]; simp) (v := .pointer (some ⟨V, 1, none⟩)) (by simp [execOp, d6,  go_sem, x0, x1, x2, cw, cm, c1, hE1]) rfl (hE.refl _) trivial
        · intro a X hX hS hD hJ hU
          obtain ⟨x0, x1, x2⟩ := cells3 ((Posts.Ext.blk hX _ (lt_of_block H2.out)).trans H2.out)
          have hTX := HTV.out.kept (Kept.of_below hX)
          have cw := hTX.cw
          have cm := hTX.cm
          have d13 := Posts.slot (show a.eval (.tmp 13) = .pointer (some ⟨V, 1, none⟩) from hD.1)
          exact Posts.op_value (fun _ => trivial) rfl rfl (by intro c h; cases h) rfl (by rw [hS.size]; simp) (v := .int .u32 s) (by simp [execOp, d13,  go_sem, x0, x1, x2, cw, cm, c1, hE1]) rfl (hE.refl _) trivial
        · intro a X hX hS hD hJ hU
          obtain ⟨x0, x1, x2⟩ := cells3 ((Posts.Ext.blk hX _ (lt_of_block H2.out)).trans H2.out)
          have hTX := HTV.out.kept (Kept.of_below hX)
          have cw := hTX.cw
          have cm := hTX.cm
          have d14 := Posts.slot (show a.eval (.tmp 14) = .int .u32 s from hD.1)
          exact Posts.op_value (fun _ => trivial) rfl rfl (by intro c h; cases h) rfl (by rw [hS.size]; simp) (v := .bool (E1)) (by simp [execOp, d14,  go_sem, x0, x1, x2, cw, cm, c1, hE1]) rfl (hE.refl _) trivial
        · intro a X hX hS hD hJ hU
          obtain ⟨x0, x1, x2⟩ := cells3 ((Posts.Ext.blk hX _ (lt_of_block H2.out)).trans H2.out)
          have hTX := HTV.out.kept (Kept.of_below hX)
          have cw := hTX.cw
          have cm := hTX.cm
          have d15 := Posts.slot (show a.eval (.tmp 15) = .bool (E1) from hD.1)
          exact Posts.op_value (fun _ => trivial) rfl rfl (by intro c h; cases h) rfl (by rw [hS.size]; simp) (v := .bool (E1)) (by simp [execOp, d15,  go_sem, x0, x1, x2, cw, cm, c1, hE1]) rfl (hE.refl _) trivial
        · intro a X hX hS hD hJ hU
          obtain ⟨x0, x1, x2⟩ := cells3 ((Posts.Ext.blk hX _ (lt_of_block H2.out)).trans H2.out)
          have hTX := HTV.out.kept (Kept.of_below hX)
          have cw := hTX.cw
          have cm := hTX.cm
          have dg := Posts.slot (show a.eval (.tmp 16) = .bool (E1) from hD.1)
          by_cases hg : (E1) = true
          · have d0 := Posts.slot (show a.eval (.tmp 0) = .func (.yield yl) #[] #[] from hS.other 0 rfl)
            exact Posts.op_value (fun _ => trivial) rfl (Posts.wanted_yes rfl rfl rfl (by simpa [hg] using dg)) (by intro c h; cases h) rfl (by rw [hS.size]; simp) (v := .func (.yield yl) #[] #[]) (by simp [execOp, d0, hg,  go_sem, x0, x1, x2, cw, cm, c1, hE1]) (fun _ => rfl) (hE.refl _) trivial
          · exact Posts.op_skip hE (fun _ => trivial) rfl (Posts.wanted_no rfl rfl rfl (by simpa [hg] using dg)) rfl (by rw [hS.size]; simp) (fun h => absurd h hg) trivial
        · intro a X hX hS hD hJ hU
          obtain ⟨x0, x1, x2⟩ := cells3 ((Posts.Ext.blk hX _ (lt_of_block H2.out)).trans H2.out)
          have hTX := HTV.out.kept (Kept.of_below hX)
          have cw := hTX.cw
          have cm := hTX.cm
          have dg := Posts.slot (show a.eval (.tmp 16) = .bool (E1) from hD.1)
          by_cases hg : (E1) = true
          · have d2 := Posts.slot (show a.eval (.tmp 2) = .pointer (some ⟨wb, 0, none⟩) from hS.other 2 rfl)
            exact Posts.op_value (fun _ => trivial) rfl (Posts.wanted_yes rfl rfl rfl (by simpa [hg] using dg)) (by intro c h; cases h) rfl (by rw [hS.size]; simp) (v := .func (.func 35) #[] #[.pointer (some ⟨mb, 0, none⟩)]) (by simp [execOp, d2, hg,  go_sem, x0, x1, x2, cw, cm, c1, hE1]) (fun _ => rfl) (hE.refl _) trivial
          · exact Posts.op_skip hE (fun _ => trivial) rfl (Posts.wanted_no rfl rfl rfl (by simpa [hg] using dg)) rfl (by rw [hS.size]; simp) (fun h => absurd h hg) trivial
        · intro a X hX hS hD hJ hU
          obtain ⟨x0, x1, x2⟩ := cells3 ((Posts.Ext.blk hX _ (lt_of_block H2.out)).trans H2.out)
          have hTX := HTV.out.kept (Kept.of_below hX)
          have cw := hTX.cw
          have cm := hTX.cm
          have dg := Posts.slot (show a.eval (.tmp 16) = .bool (E1) from hD.1)
          by_cases hg : (E1) = true
          · have d6 := Posts.slot (show a.eval (.tmp 6) = .pointer (some ⟨V, 0, none⟩) from hS.other 6 rfl)
            exact Posts.op_value (fun _ => trivial) rfl (Posts.wanted_yes rfl rfl rfl (by simpa [hg] using dg)) (by intro c h; cases h) rfl (by rw [hS.size]; simp) (v := .pointer (some ⟨V, 0, none⟩)) (by simp [execOp, d6, hg,  go_sem, x0, x1, x2, cw, cm, c1, hE1]) (fun _ => rfl) (hE.refl _) trivial
          · exact Posts.op_skip hE (fun _ => trivial) rfl (Posts.wanted_no rfl rfl rfl (by simpa [hg] using dg)) rfl (by rw [hS.size]; simp) (fun h => absurd h hg) trivial
        · intro a X hX hS hD hJ hU
          obtain ⟨x0, x1, x2⟩ := cells3 ((Posts.Ext.blk hX _ (lt_of_block H2.out)).trans H2.out)
          have hTX := HTV.out.kept (Kept.of_below hX)
          have cw := hTX.cw
          have cm := hTX.cm
          have dg := Posts.slot (show a.eval (.tmp 16) = .bool (E1) from hD.2.1)
          by_cases hg : (E1) = true
          · have d19 := Posts.slot (show a.eval (.tmp 19) = .pointer (some ⟨V, 0, none⟩) from (hD.1 hg))
            exact Posts.op_value (fun _ => trivial) rfl (Posts.wanted_yes rfl rfl rfl (by simpa [hg] using dg)) (by intro c h; cases h) rfl (by rw [hS.size]; simp) (v := .int .u32 b) (by simp [execOp, d19, hg,  go_sem, x0, x1, x2, cw, cm, c1, hE1]) (fun _ => rfl) (hE.refl _) trivial
          · exact Posts.op_skip hE (fun _ => trivial) rfl (Posts.wanted_no rfl rfl rfl (by simpa [hg] using dg)) rfl (by rw [hS.size]; simp) (fun h => absurd h hg) trivial
        · intro a X hX hS hD hJ hU
          obtain ⟨x0, x1, x2⟩ := cells3 ((Posts.Ext.blk hX _ (lt_of_block H2.out)).trans H2.out)
          have hTX := HTV.out.kept (Kept.of_below hX)
          have cw := hTX.cw
          have cm := hTX.cm
          have dg := Posts.slot (show a.eval (.tmp 16) = .bool (E1) from hD.2.1)
          by_cases hg : (E1) = true
          · have d20 := Posts.slot (show a.eval (.tmp 20) = .int .u32 b from (hD.1 hg))
            exact Posts.op_value (fun _ => trivial) rfl (Posts.wanted_yes rfl rfl rfl (by simpa [hg] using dg)) (by intro c h; cases h) rfl (by rw [hS.size]; simp) (v := .int .u64 b) (by simp [execOp, d20, hg,  go_sem, x0, x1, x2, cw, cm, c1, hE1]) (fun _ => rfl) (hE.refl _) trivial
          · exact Posts.op_skip hE (fun _ => trivial) rfl (Posts.wanted_no rfl rfl rfl (by simpa [hg] using dg)) rfl (by rw [hS.size]; simp) (fun h => absurd h hg) trivial
        · intro a X hX hS hD hJ hU
          obtain ⟨x0, x1, x2⟩ := cells3 ((Posts.Ext.blk hX _ (lt_of_block H2.out)).trans H2.out)
          have hTX := HTV.out.kept (Kept.of_below hX)
          have cw := hTX.cw
          have cm := hTX.cm
          have dg := Posts.slot (show a.eval (.tmp 16) = .bool (E1) from hD.2.2.1)
          by_cases hg : (E1) = true
          · have d18 := Posts.slot (show a.eval (.tmp 18) = .func (.func 35) #[] #[.pointer (some ⟨mb, 0, none⟩)] from (hD.1 hg))
            have d21 := Posts.slot (show a.eval (.tmp 21) = .int .u64 b from (hD.2.1 hg))
            refine Posts.op_call (fun _ => trivial) rfl rfl (Posts.wanted_yes rfl rfl rfl (by simpa [hg] using dg)) (by intro c h; cases h) rfl (by rw [hS.size]; simp) 35 #[.int .u64 b, .pointer (some ⟨mb, 0, none⟩)] (by simp [d18, d21, go_sem]) ?_
            refine callsIn_wide.2 ((within_any b m (by omega) (by omega) hm mb X cm).mono ?_)
            rintro e Y ⟨rfl, rfl⟩
            exact ⟨_, rfl, (fun _ => rfl), Below.refl _ _, trivial⟩
          · exact Posts.op_skip hE (fun _ => trivial) rfl (Posts.wanted_no rfl rfl rfl (by simpa [hg] using dg)) rfl (by rw [hS.size]; simp) (fun h => absurd h hg) trivial
        · intro a X hX hS hD hJ hU
          obtain ⟨x0, x1, x2⟩ := cells3 ((Posts.Ext.blk hX _ (lt_of_block H2.out)).trans H2.out)
          have hTX := HTV.out.kept (Kept.of_below hX)
          have cw := hTX.cw
          have cm := hTX.cm
          have dg := Posts.slot (show a.eval (.tmp 16) = .bool (E1) from hD.1)
          by_cases hg : (E1) = true
          · have d2 := Posts.slot (show a.eval (.tmp 2) = .pointer (some ⟨wb, 0, none⟩) from hS.other 2 rfl)
            exact Posts.op_value (fun _ => trivial) rfl (Posts.wanted_yes rfl rfl rfl (by simpa [hg] using dg)) (by intro c h; cases h) rfl (by rw [hS.size]; simp) (v := .func (.func 35) #[] #[.pointer (some ⟨mb, 0, none⟩)]) (by simp [execOp, d2, hg,  go_sem, x0, x1, x2, cw, cm, c1, hE1]) (fun _ => rfl) (hE.refl _) trivial
          · exact Posts.op_skip hE (fun _ => trivial) rfl (Posts.wanted_no rfl rfl rfl (by simpa [hg] using dg)) rfl (by rw [hS.size]; simp) (fun h => absurd h hg) trivial
        · intro a X hX hS hD hJ hU
          obtain ⟨x0, x1, x2⟩ := cells3 ((Posts.Ext.blk hX _ (lt_of_block H2.out)).trans H2.out)
          have hTX := HTV.out.kept (Kept.of_below hX)
          have cw := hTX.cw
          have cm := hTX.cm
          have dg := Posts.slot (show a.eval (.tmp 16) = .bool (E1) from hD.1)
          by_cases hg : (E1) = true
          · have d6 := Posts.slot (show a.eval (.tmp 6) = .pointer (some ⟨V, 0, none⟩) from hS.other 6 rfl)
            exact Posts.op_value (fun _ => trivial) rfl (Posts.wanted_yes rfl rfl rfl (by simpa [hg] using dg)) (by intro c h; cases h) rfl (by rw [hS.size]; simp) (v := .agg #[.int .u32 b, .int .u32 s, .int .u8 r]) (by simp [execOp, d6, hg,  go_sem, x0, x1, x2, cw, cm, c1, hE1]) (fun _ => rfl) (hE.refl _) trivial
          · exact Posts.op_skip hE (fun _ => trivial) rfl (Posts.wanted_no rfl rfl rfl (by simpa [hg] using dg)) rfl (by rw [hS.size]; simp) (fun h => absurd h hg) trivial
        · intro a X hX hS hD hJ hU
          obtain ⟨x0, x1, x2⟩ := cells3 ((Posts.Ext.blk hX _ (lt_of_block H2.out)).trans H2.out)
          have hTX := HTV.out.kept (Kept.of_below hX)
          have cw := hTX.cw
          have cm := hTX.cm
          have dg := Posts.slot (show a.eval (.tmp 16) = .bool (E1) from hD.2.2.1)
          by_cases hg : (E1) = true
          · have d24 := Posts.slot (show a.eval (.tmp 24) = .agg #[.int .u32 b, .int .u32 s, .int .u8 r] from (hD.1 hg))
            refine Posts.op_call (fun _ => trivial) rfl rfl (Posts.wanted_yes rfl rfl rfl (by simpa [hg] using dg)) (by intro c h; cases h) rfl (by rw [hS.size]; simp) 21 #[.agg #[.int .u32 b, .int .u32 s, .int .u8 r]] (by simp [d24, go_sem]) ?_
            refine callsIn_wide.2 ((hend X).mono ?_)
            rintro e Y ⟨rfl, rfl⟩
            exact ⟨_, rfl, (fun _ => rfl), Below.alloc (Below.refl _ _) (Nat.le_refl _) _, trivial⟩
          · exact Posts.op_skip hE (fun _ => trivial) rfl (Posts.wanted_no rfl rfl rfl (by simpa [hg] using dg)) rfl (by rw [hS.size]; simp) (fun h => absurd h hg) trivial
        · intro a X hX hS hD hJ hU
          obtain ⟨x0, x1, x2⟩ := cells3 ((Posts.Ext.blk hX _ (lt_of_block H2.out)).trans H2.out)
          have hTX := HTV.out.kept (Kept.of_below hX)
          have cw := hTX.cw
          have cm := hTX.cm
          have dg := Posts.slot (show a.eval (.tmp 16) = .bool (E1) from hD.2.2.2.1)
          by_cases hg : (E1) = true
          · have d23 := Posts.slot (show a.eval (.tmp 23) = .func (.func 35) #[] #[.pointer (some ⟨mb, 0, none⟩)] from (hD.1 hg))
            have d25 := Posts.slot (show a.eval (.tmp 25) = .int .u64 (b + s) from (hD.2.1 hg))
            refine Posts.op_call (fun _ => trivial) rfl rfl (Posts.wanted_yes rfl rfl rfl (by simpa [hg] using dg)) (by intro c h; cases h) rfl (by rw [hS.size]; simp) 35 #[.int .u64 (b + s), .pointer (some ⟨mb, 0, none⟩)] (by simp [d23, d25, go_sem]) ?_
            refine callsIn_wide.2 ((within_any (b + s) m (by omega) (by omega) hm mb X cm).mono ?_)
            rintro e Y ⟨rfl, rfl⟩
            exact ⟨_, rfl, (fun _ => rfl), Below.refl _ _, trivial⟩
          · exact Posts.op_skip hE (fun _ => trivial) rfl (Posts.wanted_no rfl rfl rfl (by simpa [hg] using dg)) rfl (by rw [hS.size]; simp) (fun h => absurd h hg) trivial
      · intro a0 Y hY hS hJt hL
        have p16 := Posts.slot (show a0.eval (.tmp 16) = .bool (E1) from hL.2.2.2.1)
        have p17 : E1 = true → a0.tmps[17]?.getD undef = .func (.yield yl) #[] #[] := fun h => Posts.slot (show a0.eval (.tmp 17) = _ from hL.2.2.2.2.1 h)
        have p22 : E1 = true → a0.tmps[22]?.getD undef = .int .u32 (min b m) := fun h => Posts.slot (show a0.eval (.tmp 22) = _ from hL.2.2.2.2.2.2.2.2.2.1 h)
        have p26 : E1 = true → a0.tmps[26]?.getD undef = .int .u32 (min (b + s) m) := fun h => Posts.slot (show a0.eval (.tmp 26) = _ from hL.2.2.2.2.2.2.2.2.2.2.2.2.2.1 h)
        have h35 := Posts.out35 a0.tmps (hS.size.trans rfl)
        have o0 := hS.other 0 rfl
        have o1 := hS.other 1 rfl
        have o2 := hS.other 2 rfl
        have o3 := hS.other 3 rfl
        have o4 := hS.other 4 rfl
        have o5 := hS.other 5 rfl
        have o6 := hS.other 6 rfl
        have o7 := hS.other 7 rfl
        have o8 := hS.other 8 rfl
        have o9 := hS.other 9 rfl
        have o10 := hS.other 10 rfl
        have o11 := hS.other 11 rfl
        have o12 := hS.other 12 rfl
        have o30 := hS.other 30 rfl
        have o31 := hS.other 31 rfl
        have o32 := hS.other 32 rfl
        have o33 := hS.other 33 rfl
        have o34 := hS.other 34 rfl
        simp only [Array.getD_eq_getD_getElem?] at o0 o1 o2 o3 o4 o5 o6 o7 o8 o9 o10 o11 o12 o30 o31 o32 o33 o34
        simp at o0 o1 o2 o3 o4 o5 o6 o7 o8 o9 o10 o11 o12 o30 o31 o32 o33 o34
        rw [o0, o1, o2, o3, o4, o5, o6, o7, o8, o9, o10, o11, o12, o30, o31, o32, o33, o34] at h35
        generalize a0.tmps[13]?.getD undef = v13 at *
        generalize a0.tmps[14]?.getD undef = v14 at *
        generalize a0.tmps[15]?.getD undef = v15 at *
        generalize a0.tmps[16]?.getD undef = v16 at *
        generalize a0.tmps[17]?.getD undef = v17 at *
        generalize a0.tmps[18]?.getD undef = v18 at *
        generalize a0.tmps[19]?.getD undef = v19 at *
        generalize a0.tmps[20]?.getD undef = v20 at *
        generalize a0.tmps[21]?.getD undef = v21 at *
        generalize a0.tmps[22]?.getD undef = v22 at *
        generalize a0.tmps[23]?.getD undef = v23 at *
        generalize a0.tmps[24]?.getD undef = v24 at *
        generalize a0.tmps[25]?.getD undef = v25 at *
        generalize a0.tmps[26]?.getD undef = v26 at *
        generalize a0.tmps[27]?.getD undef = v27 at *
        generalize a0.tmps[28]?.getD undef = v28 at *
        generalize a0.tmps[29]?.getD undef = v29 at *
        have hdf := hS.defers
        clear hL hS o0 o1 o2 o3 o4 o5 o6 o7 o8 o9 o10 o11 o12 o30 o31 o32 o33 o34
        obtain ⟨tm, df⟩ := a0
        simp only at h35 hdf
        subst h35
        subst hdf
        have hsz : wr.heap.size ≤ Y.heap.size := ((HA.out).trans (Kept.of_below hY)).size
        obtain ⟨q2, hq2⟩ : ∃ q2 : Nat → Prop, ∀ j, q2 j ↔ (q j ∨ (wr.heap.size ≤ j ∧ j < Y.heap.size)) := ⟨_, fun _ => Iff.rfl⟩
        have HYq : Hid (∀ j, q2 j → j < Y.heap.size) := fun j hj => by
          rcases (hq2 j).1 hj with hj | hj
          · exact Nat.lt_of_lt_of_le (HQ.out j hj) hsz
          · exact hj.2
        have HJY : Hid (J (Come m l k) q2 Y) := HJ.out _ q _ wr Y HJk.out ((HA.out).trans (Kept.of_below hY)) (fun j hj => ⟨by
          rcases (hq2 j).1 hj with hj | hj
          · exact .inl hj
          · exact .inr hj.1, HYq.out j hj⟩)
        have HKY : Hid (Kept (fun j => ¬ c j) W Y) := (HK.out.trans HAc.out).trans (Kept.of_below hY)
        clear hsz hq2
        cases E1 with
        | false =>
          obtain rfl : v16 = .bool false := p16
          have HC : Hid (Come m l (k + 1) = Come m l k) := by
            have := HStep.out
            rw [if_pos (by simpa using hE1), List.append_nil] at this
            exact this
          refine Posts.tail_op 14 (by kernel_rfl) (Posts.op_no (fun _ => trivial) rfl (Posts.wanted_no rfl rfl rfl rfl) ?_)
          refine Posts.tail_op 15 (by kernel_rfl) (Posts.op_no (fun _ => trivial) rfl (Posts.wanted_no rfl rfl rfl rfl) ?_)
          refine Posts.tail_op 16 (by kernel_rfl) (Posts.op_val (fun _ => trivial) rfl rfl (by intro c h; cases h) (v := .bool false) (Y := Y) (by simp [execOp, Act.put, go_sem]) ?_)
          refine ⟨by kernel_rfl, ?_⟩
          rename_i hK
          refine hK _ _ ?_
          simp [Act.put]
          gi_wp2_with fail
          go_roundw
          case rel => exact ⟨k + 1, q2, by omega, by go_num, by rw [HC.out]; exact HJY.out, HYq.out, HKY.out⟩
          case measure => simp [intOf]; omega
        | true =>
          obtain rfl : v16 = .bool true := p16
          obtain rfl := p17 rfl
          obtain rfl := p22 rfl
          obtain rfl := p26 rfl
          have HC : Hid (Come m l (k + 1) = Come m l k ++ [(min b m, min (b + s) m)]) := by
            have := HStep.out
            rw [if_neg (by simpa using hE1)] at this
            exact this
          have hpre : Come m l k ++ [(min b m, min (b + s) m)] <+: taken m l ++ [(m, m)] := by
            rw [← HC.out]
            exact (taken_pre m l (k + 1)).trans (List.prefix_append _ _)
          obtain ⟨fn, tmps, assign, body, hy, hR⟩ := HY.out (Come m l k) (min b m, min (b + s) m) q2 Y hpre HJY.out
          dsimp only [encP] at hy
          refine Posts.tail_op 14 (by kernel_rfl) (Posts.op_round (fun _ => trivial) rfl rfl (Posts.wanted_yes rfl rfl rfl rfl) (by intro c h; cases h) (l := yl) (fn := fn) (tmps := tmps) (assign := assign) (body := body) (by simp [go_sem, hy]) ?_)
          refine RoundIn.mono hR ?_
          rintro e W3 ⟨hk3, h3⟩
          have HK3 : Hid (Kept (fun j => ¬ c j) W W3) := HKY.out.trans (hk3.mono fun j _ h => h.2)
          have hs3 := hk3.size
          have HQ3 : Hid (∀ j, q2 j → j < W3.heap.size) := fun j hj => Nat.lt_of_lt_of_le (HYq.out j hj) hs3
          clear hk3 hs3
          rcases h3 with ⟨rfl, hJ3⟩ | ⟨rfl, hJx3⟩
          · refine ⟨_, rfl, ?_⟩
            have HJ3 := Lib.hid hJ3
            clear hJ3 hy hR
            refine Posts.tail_op 15 (by kernel_rfl) (Posts.op_val (fun _ => trivial) rfl (Posts.wanted_yes rfl rfl rfl rfl) (by intro c h; cases h) (v := .bool false) (Y := W3) (by simp [execOp, Act.put, go_sem]) ?_)
            refine Posts.tail_op 16 (by kernel_rfl) (Posts.op_val (fun _ => trivial) rfl rfl (by intro c h; cases h) (v := .bool false) (Y := W3) (by simp [execOp, Act.put, go_sem]) ?_)
            refine ⟨by kernel_rfl, ?_⟩
            rename_i hK
            refine hK _ _ ?_
            simp [Act.put]
            gi_wp2_with fail
            go_roundw
            case rel => exact ⟨k + 1, q2, by omega, by go_num, by rw [HC.out]; exact HJ3.out, HQ3.out, HK3.out⟩
            case measure => simp [intOf]; omega
          · refine ⟨_, rfl, ?_⟩
            have HJ3 := Lib.hid hJx3
            have HPre := Lib.hid hpre
            clear hJx3 hy hR hpre
            refine Posts.tail_op 15 (by kernel_rfl) (Posts.op_val (fun _ => trivial) rfl (Posts.wanted_yes rfl rfl rfl rfl) (by intro c h; cases h) (v := .bool true) (Y := W3) (by simp [execOp, Act.put, go_sem]) ?_)
            refine Posts.tail_op 16 (by kernel_rfl) (Posts.op_val (fun _ => trivial) rfl rfl (by intro c h; cases h) (v := .bool true) (Y := W3) (by simp [execOp, Act.put, go_sem]) ?_)
            refine ⟨by kernel_rfl, ?_⟩
            rename_i hK
            refine hK _ _ ?_
            simp [Act.put]
            gi_wp2_with fail
            refine bodyPost_ret (results_none rfl _ _ _) rfl ?_
            first | exact ⟨⟨_, rfl⟩, .inr ⟨_, q2, HPre.out, HJ3.out⟩⟩ | exact ⟨⟨_, rfl⟩, .inr ⟨_, HPre.out, q2, HJ3.out⟩⟩
    · have hd : decide ((k : Int) < (n : Int)) = false := by simp; omega
      have hall : Come m l k = taken m l := by unfold Come; rw [List.take_of_length_le (by rw [HL.out]; omega)]
      have hJn := HJk.out
      rw [hall] at hJn
      have cm := HTw.out.cm
      obtain ⟨fn, tmps, assign, body, hy, hR⟩ := HY.out (taken m l) (m, m) q wr (List.prefix_refl _) hJn
      dsimp only [encP] at hy
      clear hT hJn hall
      gi_wp2_with fail
      refine ⟨rfl, RoundIn.mono hR ?_⟩
      rintro e W3 ⟨hk3, h3⟩
      rcases h3 with ⟨rfl, hJ3⟩ | ⟨rfl, hJx3⟩
      · gi_wp2_with fail
        go_end0
        exact ⟨⟨_, rfl⟩, .inl ⟨q, hJ3⟩⟩
      · gi_wp2_with fail
        go_end0
        exact ⟨⟨_, rfl⟩, .inr ⟨_, q, List.prefix_refl _, hJx3⟩⟩
end Rights
end Go.Proofs.Ytekicfaakjbmhaa
