/- Rows of numbers, Same, Clone; Message, Copy. -/
import Derived.Test.YtcapiaempfjmeaaPortW2
import Derived.Deep.RegionHeld3
import Derived.Laws.AppendOwn
import Derived.Maps.AppendAt
import Derived.Lib.SliceRun
import Derived.Laws.OwnMore
namespace Go.Proofs.Ytcapiaempfjmeaa
open Go.ChangeShapes Go.WideShapes Go.ChangeAt Go.RowKit
namespace Prt
set_option linter.unusedVariables false
set_option linter.unusedSimpArgs false
/-- a slice with this address and length has these numbers, in no block that may be written -/
def NRow (p : Nat → Prop) (w : World) (a : Option Addr) (n : Nat) (l : List Int) : Prop :=
  l.length = n ∧ (n = 0 ∨ ∃ b off, a = some ⟨b, off, none⟩ ∧ ¬ p b ∧ ∀ i, i < n → w.cell? ⟨b, off + i, none⟩ = some (.int .u32 (l.getD i 0)))
theorem NRow.kept {p : Nat → Prop} {w w' : World} {a : Option Addr} {n : Nat} {l : List Int} (h : NRow p w a n l) (hk : Kept p w w') : NRow p w' a n l := by
  obtain ⟨h1, h3⟩ := h
  refine ⟨h1, ?_⟩
  rcases h3 with h3 | ⟨b, off, rfl, hp, hc⟩
  · exact Or.inl h3
  · exact Or.inr ⟨b, off, rfl, hp, fun i hi => hk.cell (hc i hi) hp⟩
theorem NRow.below {p : Nat → Prop} {w w' : World} {a : Option Addr} {n : Nat} {l : List Int} (h : NRow p w a n l) {B : Nat} (hb : Below B w w') (hB : w.heap.size ≤ B) : NRow p w' a n l := h.kept (Kept.of_below (hb.mono hB))
theorem NRow.imp {p q : Nat → Prop} {w : World} {a : Option Addr} {n : Nat} {l : List Int} (h : NRow p w a n l) (hq : ∀ k, k < w.heap.size → q k → p k) : NRow q w a n l := by
  obtain ⟨h1, h3⟩ := h
  refine ⟨h1, ?_⟩
  rcases h3 with h3 | ⟨b, off, rfl, hp, hc⟩
  · exact Or.inl h3
  · by_cases h0 : n = 0
    · exact Or.inl h0
    · exact Or.inr ⟨b, off, rfl, fun x => hp (hq b (World.block_lt_of_cell? _ _ (hc 0 (by omega))) x), hc⟩
set_option maxHeartbeats 1000000 in
theorem same_any {p q : Nat → Prop} {a b : Option Addr} {n c d : Nat} {l : List Int} {w : World} (ha : NRow p w a n l) (hb : NRow q w b n l) (hn : n ≤ 300000) :
    Calls Try.prog 29 #[.slice a n c, .slice b n d] w fun e w' => e = .returned (.bool true) ∧ Below w.heap.size w w' := by
  have HA := Lib.hid ha.2
  have HB := Lib.hid hb.2
  clear ha hb
  go_enter Try.func29, Try.ntmps29
  go_wp2_with fail
  go_loopw [5] (fun i wr => ∃ k : Nat, k ≤ n ∧ i = .int .i64 k ∧ Below w.heap.size w wr) (fun i _ => n - (intOf i).toNat)
  case atStart => exact ⟨0, by omega, rfl, Below.refl _ _⟩
  case round =>
    obtain ⟨k, hk, rfl, hbel⟩ := hrel
    have HBel := Lib.hid hbel
    by_cases hlt : k < n
    · have k0 : (0 : Int) ≤ k := by omega
      have k1 : (k : Int) < n := by omega
      have hd : decide ((k : Int) < (n : Int)) = true := decide_eq_true (by omega)
      have hd2 : decide (k < n) = true := decide_eq_true hlt
      obtain ⟨b1, o1, rfl, _, h1⟩ := HA.out.resolve_left (by omega)
      obtain ⟨b2, o2, rfl, _, h2⟩ := HB.out.resolve_left (by omega)
      have e1 := (World.cell?_of_block (hbel.block b1 (World.block_lt_of_cell? _ _ (h1 k hlt)))).trans (h1 k hlt)
      have e2 := (World.cell?_of_block (hbel.block b2 (World.block_lt_of_cell? _ _ (h2 k hlt)))).trans (h2 k hlt)
      clear h1 h2 hbel
      generalize l.getD k 0 = x at e1 e2
      go_wp2_with fail
      go_quiet (fail)
      go_wp2_with fail
      go_roundw
      case rel => exact ⟨k + 1, by omega, by go_num, HBel.out.trans (below_drewN (Below.refl _ _) _)⟩
      case measure => simp [intOf]; omega
    · have hd : decide ((k : Int) < (n : Int)) = false := decide_eq_false (by omega)
      have hd2 : decide (k < n) = false := decide_eq_false hlt
      go_wp2_with fail
      go_ret
      exact ⟨rfl, HBel.out⟩
/-! ### Clone -/
theorem infoU : ∃ i0 z, Try.prog.info? 33 = some i0 ∧ i0.zero = some z ∧ i0.size = 1 ∧ i0.bytes = 4 ∧ z.cells.size = 1 := by
  have h : (Try.prog.info? 33).map (fun i => (i.zero, i.size, i.bytes)) = some (some (.int .u32 0), 1, 4) := by kernel_rfl
  obtain ⟨i0, hi, hz0, hz1, hz2⟩ := info_parts h
  exact ⟨i0, _, hi, hz0, hz1, hz2, rfl⟩
theorem row_own {w : World} {B n : Nat} {v : Value} {l : List Int} (h : w.ownsRow B 33 1 v n (nums l)) (hl : l.length = n) (h0 : 0 < n) :
    ∃ g cap, v = .slice (some ⟨g, 0, none⟩) n cap ∧ B ≤ g ∧ NRow (fun _ => False) w (some ⟨g, 0, none⟩) n l := by
  obtain ⟨_, h2⟩ := h
  rcases h2 with ⟨_, h2⟩ | ⟨g, cap, cur, rfl, hb, hg, hc, hm, hsz, ht⟩
  · omega
  · refine ⟨g, cap, rfl, hb, hl, .inr ⟨g, 0, rfl, id, fun i hi => ?_⟩⟩
    rw [Nat.zero_add, cell_of_row _ _ _ _ _ _ hg, ← nums_at l i (by omega), ← ht, List.getElem?_take_of_lt (by omega)]
    simp
def CloneP (w : World) (n : Nat) (l : List Int) (e : Ending) (w' : World) : Prop :=
  ∃ g cap, e = .returned (.slice (some ⟨g, 0, none⟩) n cap) ∧ Below w.heap.size w w' ∧ w.heap.size ≤ g ∧ NRow (fun _ => False) w' (some ⟨g, 0, none⟩) n l
theorem clone_any {b off n c : Nat} {l : List Int} {w : World} (h : NRow (fun _ => False) w (some ⟨b, off, none⟩) n l) (h0 : 0 < n) (hn : n ≤ 1000000) :
    Calls Try.prog 43 #[.slice (some ⟨b, off, none⟩) n c] w (CloneP w n l) := by
  obtain ⟨i0, z, hi, hz0, hz1, hz2, hzs⟩ := infoU
  obtain ⟨hl, hr⟩ := h
  obtain ⟨b', off', e, _, hc⟩ := hr.resolve_left (by omega)
  simp only [Option.some.injEq, Addr.mk.injEq] at e
  obtain ⟨rfl, rfl, _⟩ := e
  have HC : Hid (∀ j u, (nums l)[j]? = some u → (w.alloc (.cells #[] 33)).cell? ((⟨b, off, none⟩ : Addr).add j) = some u) := fun j u hu => by
    have hj : j < l.length := by have := (List.getElem?_eq_some_iff.1 hu).1; rwa [nums_len] at this
    rw [Addr.add_mid, World.cell?_of_block (Below.heap_alloc _ _ _ (World.block_lt_of_cell? _ _ (hc j (by omega)))), hc j (by omega), ← nums_at l j hj, hu]
  have q22 : ∀ (w : World) (a : Option Addr) (n c n' c' : Nat), (binOp .eql 49 (.slice a n c) (.slice none n' c')).run Try.prog w = .ok (.bool a.isNone) w := fun w a n c n' c' => Lib.run_eql_slice_nil w _ _ a n c n' c' Try.underlying49
  have hN := nums_len l
  have h1 := nums_one l
  have HL := Lib.hid hl
  clear hc hr
  generalize hX : nums l = X at *
  go_enter Try.func43, Try.ntmps43
  go_wp2_with (at_builtin; refine wpList_append_own _ rfl _ _ 49 rfl w.heap.size 33 i0 z 1 4 Try.underlying49 hi hz0 hz1 hz2 hzs (by decide) _ 0 [] rfl (World.ownsRow_made w #[] 0 (Nat.le_refl _) (Nat.zero_le _) rfl) ⟨b, off, none⟩ n c X rfl (by omega) HC.out h1 (by unfold maxLen; omega) (by omega) (by simp) ?_)
  intro v' w1 hown hgrow hnil
  rw [← hX] at hown
  obtain ⟨g, cap, rfl, hg, hrow⟩ := row_own hown HL.out h0
  go_wp2
  go_ret
  exact ⟨g, cap, rfl, ((Below.refl _ w).alloc (Nat.le_refl _) _).grown hgrow (by simp) (by intro k hk; simp [Value.ownBlock] at hk; omega), hg, hrow⟩
section
variable {w : World} {g : Nat} {l : List Bx}
/-! ### Message -/
theorem message_nil (port : Int) (w : World) : Calls Try.prog 28 #[.pointer none, .int .i64 port] w fun e w' => e = .returned (.tuple #[.slice none 0 0, .int .u32 0]) ∧ w' = w := by
  go_enter Try.func28, Try.ntmps28
  go_wp2_with (go_at_call 42; refine (at_nil _ _).mono ?_; rintro e w1 ⟨rfl, rfl⟩)
  refine bodyPost_ret (v := .tuple #[.slice none 0 0, .int .u32 0]) (by simp [results, Try.f28, go_sem]) rfl ⟨rfl, rfl⟩
theorem message_no (h : Pt w g l) (port : Int) (hp : ¬ (0 ≤ port ∧ port < l.length)) : Calls Try.prog 28 #[.pointer (some ⟨g, 0, none⟩), .int .i64 port] w fun e w' => e = .returned (.tuple #[.slice none 0 0, .int .u32 0]) ∧ w' = w := by
  have HA := Lib.hid (at_no h port hp)
  clear h hp
  go_enter Try.func28, Try.ntmps28
  go_wp2_with (go_at_call 42; refine HA.out.mono ?_; rintro e w1 ⟨rfl, rfl⟩)
  refine bodyPost_ret (v := .tuple #[.slice none 0 0, .int .u32 0]) (by simp [results, Try.f28, go_sem]) rfl ⟨rfl, rfl⟩
/-- the message, told: as many words as the port has -/
def msgB (b : Bx) : List Int := b.m.take b.d.w.toNat
def MsgP (b : Bx) (w : World) (e : Ending) (w' : World) : Prop :=
  ∃ a n cap, e = .returned (.tuple #[.slice (some ⟨a, 0, none⟩) n cap, .int .u32 b.age]) ∧ n = b.d.w.toNat ∧ n ≤ 16 ∧ NRow (fun _ => False) w' (some ⟨a, 0, none⟩) n (msgB b) ∧ Below w.heap.size w w'
set_option maxHeartbeats 1000000 in
theorem message_any (h : Pt w g l) {k : Nat} (hk : k < l.length) : Calls Try.prog 28 #[.pointer (some ⟨g, 0, none⟩), .int .i64 (k : Int)] w (MsgP l[k]! w) := by
  have HA := Lib.hid (at_some h hk)
  have h0 := h.at hk
  obtain ⟨n, hn⟩ := Int.eq_ofNat_of_zero_le (show 0 ≤ (l[k]!).d.w by have := h0.w; omega)
  have hw := h0.w
  rw [hn] at hw
  have HK : Hid (∀ W, Below w.heap.size w W → W.cell? ⟨g, k * 37, none⟩ = some (.int .i64 (n : Int)) ∧ W.cell? ⟨g, k * 37 + 19, none⟩ = some (.int .u32 (l[k]!).age)) := fun W hb => by
    have h1 := (h.below hb (Nat.le_refl _)).cw hk
    rw [hn] at h1
    exact ⟨h1, (h.below hb (Nat.le_refl _)).cage hk⟩
  have HR : Hid (∀ W, Below w.heap.size w W → NRow (fun _ => False) W (some ⟨g, k * 37 + 3, none⟩) n (msgB l[k]!)) := fun W hb => by
    have hm := h0.m
    refine ⟨by unfold msgB; rw [hn, List.length_take, Int.toNat_natCast, hm]; omega, .inr ⟨g, k * 37 + 3, rfl, id, fun i hi => ?_⟩⟩
    have := (h.below hb (Nat.le_refl _)).cm hk (j := i) (by omega)
    rw [Nat.add_assoc, this]
    unfold msgB
    rw [hn, Int.toNat_natCast]
    simp [List.getD, List.getElem?_take, hi]
  have HN : Hid (n = (l[k]!).d.w.toNat ∧ n ≤ 16) := ⟨by rw [hn]; rfl, by omega⟩
  have hl := h.len
  have hn0 : 0 < n := by omega
  have hn1 : n ≤ 1000000 := by omega
  have b0 : (0 : Int) ≤ n := by omega
  have b1 : (n : Int) ≤ 16 := by omega
  have b2 : n ≤ 16 := by omega
  obtain ⟨c0, c1⟩ := HK.out w (Below.refl _ _)
  clear h hw hn h0
  generalize hb : l[k]! = b at *
  clear hb hk hl
  obtain ⟨z, hz⟩ : ∃ z, b.age = z := ⟨_, rfl⟩
  have HZ := Lib.hid hz
  rw [hz] at HK c1
  clear hz
  go_enter Try.func28, Try.ntmps28
  go_wp2_with (go_at_call 42; refine HA.out.mono ?_; rintro e w1 ⟨rfl, rfl⟩)
  clear HA c0 c1
  go_region_held3 (fun w' => w'.cell? ⟨g, k * 37, none⟩ = some (.int .i64 (n : Int)) ∧ w'.cell? ⟨g, k * 37 + 19, none⟩ = some (.int .u32 z)) (first | exact HK.out _ (by first | assumption | exact Below.refl _ _ | go_grown) | go_keep) (first
    | (go_at_call 43; refine (clone_any (HR.out _ (by first | assumption | exact Below.refl _ _ | go_grown)) hn0 hn1).mono ?_; rintro e w' ⟨ga, cap, rfl, hb, hge, hrow⟩; replace hb : Below w1.heap.size w1 w' := (by first | exact hb | exact (Below.refl _ _).drew.trans hb)))
  all_goals
    rename_i hK _
    refine hK _ _ ?_
    go_wp2_with fail
    refine bodyPost_ret (v := .tuple #[.slice (some ⟨ga, 0, none⟩) n cap, .int .u32 z]) (by simp [results, Try.f28, go_sem]) rfl ?_
    exact ⟨ga, n, cap, by rw [HZ.out], HN.out.1, HN.out.2, hrow, hb⟩
/-! ### Copy -/
theorem zeroP : ∃ Z, (∀ w, (zeroValue 61).run Try.prog w = .ok (.agg Z) w) ∧ Z.size = 593 := by
  have h : (Try.prog.info? 61).map (fun i => i.zero.map (fun z => match z with | .agg c => c.size | _ => 0)) = some (some 593) := by kernel_rfl
  cases hq : Try.prog.info? 61 with
  | none => simp [hq] at h
  | some i =>
    cases hz : i.zero with
    | none => simp [hq, hz] at h
    | some z =>
      simp only [hq, hz, Option.map_some, Option.some.injEq] at h
      cases z with
      | agg c => exact ⟨c, fun w => by simp [zeroValue, typeInfo, hq, hz], h⟩
      | _ => simp at h
theorem sizeP : (Try.prog.info? 61).map (·.size) = some 593 := by kernel_rfl
theorem copy_nil (w : World) : Calls Try.prog 25 #[.pointer none] w fun e w' => e = .returned (.pointer none) ∧ w' = w := by
  go_enter Try.func25, Try.ntmps25
  go_wp2_with fail
  go_ret
  exact ⟨rfl, rfl⟩
/-- a new object -/
def NewP (l : List Bx) (w : World) (e : Ending) (w' : World) : Prop := ∃ g, e = .returned (.pointer (some ⟨g, 0, none⟩)) ∧ w.heap.size ≤ g ∧ Pt w' g l ∧ Below w.heap.size w w'
theorem copy_any (h : Pt w g l) : Calls Try.prog 25 #[.pointer (some ⟨g, 0, none⟩)] w (NewP l w) := by
  obtain ⟨cs, h1, h2, h3, h4, h5⟩ := h.row
  obtain ⟨Z, hz, hz2⟩ := zeroP
  have HSz : Hid ((Try.prog.info? 61).map (·.size) = some cs.size) := by show _ = _; rw [h2]; exact sizeP
  have H1 := Lib.hid h1
  have hst := run_storeCells_new (P := Try.prog) w 61 Z cs HSz.out (hz2.trans h2.symm) (Array.all_eq_true_iff_forall_mem.2 h3)
  have HP : Hid (Pt (w.alloc (.cells cs 61)) w.heap.size l) := ⟨h.ok, h.len, cs, heap_alloc_new _ _, h2, h3, h4, h5⟩
  clear h h1 h3 h4 h5 hz2
  go_enter Try.func25, Try.ntmps25
  go_wp2_with (with_reducible refine wpList_load_row rfl 61 _ rfl g rfl 61 cs (0, 0) _ H1.out Try.underlying61 rfl HSz.out ?_)
  go_ret
  exact ⟨_, rfl, Nat.le_refl _, HP.out, below_alloc _ _⟩
end
end Prt
end Go.Proofs.Ytcapiaempfjmeaa
