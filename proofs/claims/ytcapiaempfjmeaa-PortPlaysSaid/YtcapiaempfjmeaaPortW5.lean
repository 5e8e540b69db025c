/- New. -/
import Derived.Test.YtcapiaempfjmeaaPortW4
import Derived.Test.YtcapiaempfjmeaaRightsTmps
namespace Go.Proofs.Ytcapiaempfjmeaa
open Go.ChangeShapes Go.WideShapes Go.ChangeAt Go.RowKit
namespace Prt
set_option linter.unusedVariables false
set_option linter.unusedSimpArgs false
attribute [local go_sem] Oper.semAt_some
/-- the object, as long as its first boxes alone are laid -/
structure Pn (w : World) (g n : Nat) (l : List Bx) : Prop where
  ok : ∀ b ∈ l, b.ok
  len : l.length ≤ n
  n16 : n ≤ 16
  row : ∃ cs, w.heap[g]? = some (.cells cs 61 (0, 0)) ∧ cs.size = 593 ∧ (∀ v ∈ cs, v.oneCell' = true) ∧ cs[592]? = some (.int .i64 n) ∧
    ∀ k, k < l.length → ∀ i v, (encB l[k]!)[i]? = some v → cs[k * 37 + i]? = some v
theorem Pn.all {w : World} {g : Nat} {l : List Bx} (h : Pn w g l.length l) : Pt w g l := ⟨h.ok, h.n16, h.row⟩
theorem Pn.kept {w w' : World} {g n : Nat} {l : List Bx} (h : Pn w g n l) {p : Nat → Prop} (hk : Kept p w w') (hg : ¬ p g) : Pn w' g n l := by
  obtain ⟨cs, h1, h2⟩ := h.row
  exact ⟨h.ok, h.len, h.n16, cs, hk.same h1 hg, h2⟩
theorem Pn.lt {w : World} {g n : Nat} {l : List Bx} (h : Pn w g n l) : g < w.heap.size := by
  obtain ⟨cs, h1, _⟩ := h.row
  exact lt_of_block h1
theorem Pn.there {w : World} {g n : Nat} {l : List Bx} (h : Pn w g n l) (o m : Nat) (hn : o + m ≤ 593) : w.there g o m := by
  obtain ⟨cs, h1, h2, _⟩ := h.row
  intro j hj
  refine ⟨?_, by simp [World.frozen?, h1]⟩
  rw [cell_of_row _ _ _ _ _ _ h1, Array.getElem?_eq_getElem (by omega)]
  rfl
/-- one box more -/
theorem Pn.next {w : World} {g n : Nat} {l : List Bx} (h : Pn w g n l) (hlt : l.length < n) (b : Bx) (hb : b.ok) : Pn (w.setCells g (l.length * 37) (encB b)) g n (l ++ [b]) := by
  have hl := h.n16
  obtain ⟨cs, r1, r2, r3, r4, r5⟩ := h.row
  obtain ⟨cs', q1, q2, q3⟩ := row_setCells (encB b) (l.length * 37) w cs r1
  have h37 := encB_len hb
  rw [h37] at q3
  refine ⟨fun x hx => ?_, by simp; omega, hl, cs', q1, by omega, fun v hv => ?_, ?_, ?_⟩
  · rcases List.mem_append.1 hx with hx | hx
    · exact h.ok _ hx
    · rw [List.mem_singleton.1 hx]; exact hb
  · obtain ⟨i, hi, rfl⟩ := Array.mem_iff_getElem.1 hv
    have := q3 i (by omega)
    rw [Array.getElem?_eq_getElem hi] at this
    split at this
    · exact encB_one b _ (List.mem_of_getElem? this.symm)
    · exact r3 _ (Array.mem_of_getElem? this.symm)
  · rw [q3 592 (by omega), if_neg (by omega)]; exact r4
  · intro k hk i v hv
    rw [List.length_append, List.length_singleton] at hk
    by_cases e : k = l.length
    · subst e
      have e2 : (l ++ [b])[l.length]! = b := by
        rw [getElem!_pos (l ++ [b]) l.length (by simp), List.getElem_append_right (Nat.le_refl _)]
        simp
      rw [e2] at hv
      have hi : i < 37 := by have := (List.getElem?_eq_some_iff.1 hv).1; omega
      rw [q3 _ (by omega), if_pos (by omega), show l.length * 37 + i - l.length * 37 = i from by omega]
      exact hv
    · have e2 : (l ++ [b])[k]! = l[k]! := by
        rw [getElem!_pos (l ++ [b]) k (by simp; omega), getElem!_pos l k (by omega), List.getElem_append_left]
      rw [e2] at hv
      have hok : (l[k]!).ok := by rw [getElem!_pos l k (by omega)]; exact h.ok _ (List.getElem_mem _)
      have hi : i < 37 := by have := (List.getElem?_eq_some_iff.1 hv).1; rwa [encB_len hok] at this
      rw [q3 _ (by omega), if_neg (by omega)]
      exact r5 k (by omega) i v hv
/-! ### What is built -/
theorem base_any (n : Nat) : ∃ cs, (∀ W, (Instr.build 61 #[(1, .int .i64 n)]).run Try.prog W = .ok (.agg cs) W) ∧ cs.size = 593 ∧ cs.all (·.oneCell') = true ∧ cs[592]? = some (.int .i64 n) := by
  have h1 : (Try.prog.built 61 [(1, .int .i64 n)]).isSome = true := by kernel_rfl
  have h2 : (Try.prog.built 61 [(1, .int .i64 n)]).map (·.size) = some 593 := by kernel_rfl
  have h3 : (Try.prog.built 61 [(1, .int .i64 n)]).map (fun c => c.all (·.oneCell')) = some true := by kernel_rfl
  have h4 : (Try.prog.built 61 [(1, .int .i64 n)]).map (fun c => c[592]?) = some (some (.int .i64 n)) := by kernel_rfl
  obtain ⟨cs, hc⟩ := Option.isSome_iff_exists.1 h1
  rw [hc] at h2 h3 h4
  exact ⟨cs, fun W => run_build W _ _ cs hc, Option.some.inj h2, Option.some.inj h3, Option.some.inj h4⟩
theorem newB_built (a b c : Int) : Try.prog.built 58 [(0, .agg #[.int .i64 a, .int .i64 b, .int .u32 c]), (2, .int .u32 255)] = some (encB (newB ⟨a, b, c⟩)).toArray := by kernel_rfl
theorem run_newB (d : Df) (W : World) : (Instr.build 58 #[(0, .agg #[.int .i64 d.w, .int .i64 d.wr, .int .u32 d.rd]), (2, .int .u32 255)]).run Try.prog W = .ok (.agg (encB (newB d)).toArray) W :=
  run_build W _ _ _ (newB_built d.w d.wr d.rd)
/-- a value that is built of its parts, by an equation of its run -/
theorem wpList_build_run {ops : Array Oper} {rest : List Oper} {o : Oper} {a : Act} {w : World} {Q : Exit → Act → World → Prop} (hgd : o.guard = none) (t : TypeId) (parts : Array (Nat × Operand)) (ho : o.op = .build t parts) (v : Value)
    (ps : Array (Nat × Value)) (hps : (parts.map fun (i, x) => (i, a.eval x)) = ps) (hv : (Instr.build t ps).run Try.prog w = .ok v w) (h : wpList Try.prog ops Q rest (a.put o.dst v) w) : wpList Try.prog ops Q (o :: rest) a w := by
  subst hps
  refine wpList_plain hgd fun K hK => ?_
  have hrun : (execOp a.eval o).run Try.prog w = .ok (.value v) w := by simp [execOp, ho, hv, Result.andThen]
  unfold Oper.wp
  rw [hrun]
  exact hK _ _ h
theorem store_mid (w : World) (b o : Nat) (vs : List Value) (ht : w.there b o vs.length) (h1 : ∀ v ∈ vs, v.oneCell' = true) : (storeCells ⟨b, o, none⟩ vs 0).run Try.prog w = .ok () (w.setCells b o vs) := by
  have := run_storeCells_cells (P := Try.prog) b o vs 0 w (fun j hj => by simpa using (ht j hj).1) (fun j hj => by simpa using (ht j hj).2) h1
  simpa using this
/-- new ports, beside an error -/
def New2P (l : List Bx) (w : World) (e : Ending) (w' : World) : Prop := ∃ g, e = .returned (.tuple #[.pointer (some ⟨g, 0, none⟩), .int .i64 0]) ∧ w.heap.size ≤ g ∧ Pt w' g l ∧ Below w.heap.size w w'
theorem new_no {p : Nat → Prop} {a : Option Addr} {n c : Nat} {l : List Df} {w : World} (h : FRow p w a n l) (hn : n ≤ 9223372036854775807) (hm : mayL l = false) :
    Calls Try.prog 7 #[.slice a n c] w fun e w' => e = .returned (.tuple #[.pointer none, .int .i64 2]) ∧ Below w.heap.size w w' := by
  have hc := check_any (c := c) h hn
  unfold chkE at hc
  rw [hm] at hc
  have HC := Lib.hid hc
  clear h hc hm
  go_enter Try.func7, Try.ntmps7
  go_wp2_with (go_at_call 9; refine HC.out.mono ?_; rintro e w1 ⟨rfl, hb⟩)
  refine bodyPost_ret (v := .tuple #[.pointer none, .int .i64 2]) (by simp [results, Try.f7, go_sem]) rfl ?_
  exact ⟨rfl, hb⟩
theorem take_next (l : List Df) (k : Nat) (h : k < l.length) : (l.take (k + 1)).map newB = (l.take k).map newB ++ [newB l[k]!] := by
  rw [List.take_add_one, List.map_append, List.getElem?_eq_getElem h, getElem!_pos l k h]
  rfl
set_option maxHeartbeats 2000000 in
theorem new_any {p : Nat → Prop} {a : Option Addr} {n c : Nat} {l : List Df} {w : World} (h : FRow p w a n l) (hn : n ≤ 9223372036854775807) (hm : mayL l = true) :
    Calls Try.prog 7 #[.slice a n c] w (New2P (l.map newB) w) := by
  have hc := check_any (c := c) h hn
  unfold chkE at hc
  rw [hm] at hc
  have HC := Lib.hid hc
  have HR := Lib.hid (fun W (hb : Below w.heap.size w W) => h.below hb (Nat.le_refl _))
  have hl := h.1
  have HL := Lib.hid hl
  unfold mayL at hm
  rw [Bool.and_eq_true, decide_eq_true_eq, hl] at hm
  obtain ⟨h16, hall⟩ := hm
  have HOk : Hid (∀ k, k < n → (newB l[k]!).ok) := fun k hk => by
    have hr := h.rd hk
    rw [List.all_eq_true] at hall
    refine newB_ok (hall _ ?_) hr.1
    rw [getElem!_pos l k (by omega)]
    exact List.getElem_mem _
  obtain ⟨cs, hbu, hs, ho, h592⟩ := base_any n
  have HBu := Lib.hid hbu
  have HPn : Hid (∀ W : World, Pn (W.alloc (.cells cs 61)) W.heap.size n []) := fun W =>
    ⟨by simp, by simp, h16, cs, heap_alloc_new _ _, hs, fun v hv => Array.all_eq_true_iff_forall_mem.1 ho v hv, h592, fun k hk => by simp at hk⟩
  clear h hc hbu hs ho h592 hall hl
  go_enter Try.func7, Try.ntmps7
  go_wp2_with (first
    | (go_at_call 9; refine HC.out.mono ?_; rintro e w1 ⟨rfl, hb⟩)
    | ((with_reducible refine wpList_build_run rfl 61 _ rfl (.agg cs) #[(1, .int .i64 n)] ?_ (HBu.out _) ?_); (kernel_rfl)))
  have HPg := Lib.hid (HPn.out w1)
  have HB1 := Lib.hid (hb.trans ((below_alloc w1 (.cells cs 61)).mono hb.size))
  have HG : Hid (w.heap.size ≤ w1.heap.size) := hb.size
  clear HPn hb HBu HC
  obtain ⟨g, hg⟩ : ∃ g, w1.heap.size = g := ⟨_, rfl⟩
  rw [hg] at HPg HG ⊢
  generalize w1.alloc (.cells cs 61) = w2 at *
  clear hg
  go_loopw [19] (fun i wr => ∃ k : Nat, k ≤ n ∧ i = .int .i64 k ∧ Pn wr g n ((l.take k).map newB) ∧ Below w.heap.size w wr) (fun i _ => n - (intOf i).toNat)
  case atStart => exact ⟨0, by omega, rfl, HPg.out, HB1.out⟩
  case round =>
    obtain ⟨k, hk, rfl, hp, hbel⟩ := hrel
    have HP := Lib.hid hp
    have HB := Lib.hid hbel
    clear hp hbel HPg HB1
    by_cases hlt : k < n
    · have k0 : (0 : Int) ≤ k := by omega
      have k1 : (k : Int) < n := by omega
      have k2 : (k : Int) < 16 := by omega
      have hd : decide ((k : Int) < (n : Int)) = true := decide_eq_true (by omega)
      have hd2 : decide (k < n) = true := decide_eq_true hlt
      obtain ⟨b, off, rfl, _, hc⟩ := (HR.out _ HB.out).2.2.resolve_left (by omega)
      obtain ⟨c0, c1, c2⟩ := hc k hlt
      have HO := Lib.hid (HOk.out k hlt)
      have hlen : ((l.take k).map newB).length = k := by rw [List.length_map, List.length_take, HL.out]; omega
      have HN : Hid (∀ W, Pn W g n ((l.take k).map newB) → Pn (W.setCells g (k * 37) (encB (newB l[k]!))) g n ((l.take (k + 1)).map newB)) := fun W hW => by
        have := hW.next (by rw [hlen]; exact hlt) _ HO.out
        rw [hlen] at this
        rwa [take_next l k (by rw [HL.out]; exact hlt)]
      generalize l[k]! = d at *
      obtain ⟨z0, z1, z2⟩ := d
      have h37 := encB_len HO.out
      have h1 := encB_one (newB ⟨z0, z1, z2⟩)
      obtain ⟨X, hX⟩ : ∃ X, encB (newB ⟨z0, z1, z2⟩) = X := ⟨_, rfl⟩
      rw [hX] at HN h37 h1
      have HX := Lib.hid hX
      simp only at c0 c1 c2
      clear hX
      clear hc hlen HO
      go_wp2_with fail
      clear c0 c1 c2
      have hal := heap_alloc_new wr (.cells #[.int .i64 z0, .int .i64 z1, .int .u32 z2] 44)
      have hPa := HP.out.kept ((Kept.refl (fun _ => False) _).alloc (.cells #[.int .i64 z0, .int .i64 z1, .int .u32 z2] 44)) id
      have hBa := HB.out.trans ((below_alloc wr (.cells #[.int .i64 z0, .int .i64 z1, .int .u32 z2] 44)).mono HB.out.size)
      obtain ⟨V, hV⟩ : ∃ V, wr.heap.size = V := ⟨_, rfl⟩
      rw [hV] at hal ⊢
      generalize wr.alloc (.cells #[.int .i64 z0, .int .i64 z1, .int .u32 z2] 44) = W2 at *
      have HAl := Lib.hid hal
      have HPa := Lib.hid hPa
      have HBa := Lib.hid hBa
      clear hal hPa hBa hV
      have hE := Posts.ext_rel
      refine (wpIn_wide (n := 0)).1 (Posts.wpIn_region_tail hE 7 3 (Posts.At [Posts.is (.pointer (some ⟨g, 0, none⟩)), Posts.is (.int .i64 (k : Int)), Posts.is (.agg #[.int .i64 z0, .int .i64 z1, .int .u32 z2]), Posts.is (.agg X.toArray), Posts.is (.pointer (some ⟨g, 0, none⟩)), Posts.is (.pointer (some ⟨g, 0, none⟩)), Posts.is (.pointer (some ⟨g, k * 37, none⟩))]) (fun _ _ => True) (by kernel_rfl) (by decide) (by kernel_rfl) (by kernel_rfl) (by kernel_rfl)
        (Posts.stable_at _ (by repeat' (first | exact trivial | (refine And.intro ?_ ?_) | exact Posts.is_stable _ | exact Posts.on_stable _ _ | assumption))) trivial ?_ ?_)
      · refine ⟨?_, ?_, ?_, ?_, ?_, ?_, ?_, trivial⟩
        · intro a X9 hX hS hD hJ hU
          have hx : X9.heap[V]? = _ := (Posts.Ext.blk hX _ (lt_of_block HAl.out)).trans HAl.out
          have x0 : X9.cell? ⟨V, 0, none⟩ = some (.int .i64 z0) := by rw [cell_of_row _ _ _ _ _ _ hx]; rfl
          have x1 : X9.cell? ⟨V, 1, none⟩ = some (.int .i64 z1) := by rw [cell_of_row _ _ _ _ _ _ hx]; rfl
          have x2 : X9.cell? ⟨V, 2, none⟩ = some (.int .u32 z2) := by rw [cell_of_row _ _ _ _ _ _ hx]; rfl
          have d5 := Posts.slot (show a.eval (.tmp 5) = .pointer (some ⟨g, 0, none⟩) from hS.other 5 rfl)
          exact Posts.op_value (fun _ => trivial) rfl rfl (by intro c h; cases h) rfl (by rw [hS.size]; simp) (v := .pointer (some ⟨g, 0, none⟩)) (by simp [execOp, d5,  go_sem, x0, x1, x2, k0, k2]) rfl (hE.refl _) trivial
        · intro a X9 hX hS hD hJ hU
          have hx : X9.heap[V]? = _ := (Posts.Ext.blk hX _ (lt_of_block HAl.out)).trans HAl.out
          have x0 : X9.cell? ⟨V, 0, none⟩ = some (.int .i64 z0) := by rw [cell_of_row _ _ _ _ _ _ hx]; rfl
          have x1 : X9.cell? ⟨V, 1, none⟩ = some (.int .i64 z1) := by rw [cell_of_row _ _ _ _ _ _ hx]; rfl
          have x2 : X9.cell? ⟨V, 2, none⟩ = some (.int .u32 z2) := by rw [cell_of_row _ _ _ _ _ _ hx]; rfl
          have d6 := Posts.slot (show a.eval (.tmp 6) = .int .i64 (k : Int) from hS.other 6 rfl)
          exact Posts.op_value (fun _ => trivial) rfl rfl (by intro c h; cases h) rfl (by rw [hS.size]; simp) (v := .int .i64 (k : Int)) (by simp [execOp, d6,  go_sem, x0, x1, x2, k0, k2]) rfl (hE.refl _) trivial
        · intro a X9 hX hS hD hJ hU
          have hx : X9.heap[V]? = _ := (Posts.Ext.blk hX _ (lt_of_block HAl.out)).trans HAl.out
          have x0 : X9.cell? ⟨V, 0, none⟩ = some (.int .i64 z0) := by rw [cell_of_row _ _ _ _ _ _ hx]; rfl
          have x1 : X9.cell? ⟨V, 1, none⟩ = some (.int .i64 z1) := by rw [cell_of_row _ _ _ _ _ _ hx]; rfl
          have x2 : X9.cell? ⟨V, 2, none⟩ = some (.int .u32 z2) := by rw [cell_of_row _ _ _ _ _ _ hx]; rfl
          have d7 := Posts.slot (show a.eval (.tmp 7) = .pointer (some ⟨V, 0, none⟩) from hS.other 7 rfl)
          exact Posts.op_value (fun _ => trivial) rfl rfl (by intro c h; cases h) rfl (by rw [hS.size]; simp) (v := .agg #[.int .i64 z0, .int .i64 z1, .int .u32 z2]) (by simp [execOp, d7,  go_sem, x0, x1, x2, k0, k2]) rfl (hE.refl _) trivial
        · intro a X9 hX hS hD hJ hU
          have hx : X9.heap[V]? = _ := (Posts.Ext.blk hX _ (lt_of_block HAl.out)).trans HAl.out
          have x0 : X9.cell? ⟨V, 0, none⟩ = some (.int .i64 z0) := by rw [cell_of_row _ _ _ _ _ _ hx]; rfl
          have x1 : X9.cell? ⟨V, 1, none⟩ = some (.int .i64 z1) := by rw [cell_of_row _ _ _ _ _ _ hx]; rfl
          have x2 : X9.cell? ⟨V, 2, none⟩ = some (.int .u32 z2) := by rw [cell_of_row _ _ _ _ _ _ hx]; rfl
          have d26 := Posts.slot (show a.eval (.tmp 26) = .agg #[.int .i64 z0, .int .i64 z1, .int .u32 z2] from hD.1)
          refine Posts.op_value (fun _ => trivial) rfl rfl (by intro c h; cases h) rfl (by rw [hS.size]; simp) (v := .agg X.toArray) ?_ rfl (hE.refl _) trivial
          simp [execOp, d26, go_sem]
          rw [← HX.out]
          rfl
        · intro a X9 hX hS hD hJ hU
          have hx : X9.heap[V]? = _ := (Posts.Ext.blk hX _ (lt_of_block HAl.out)).trans HAl.out
          have x0 : X9.cell? ⟨V, 0, none⟩ = some (.int .i64 z0) := by rw [cell_of_row _ _ _ _ _ _ hx]; rfl
          have x1 : X9.cell? ⟨V, 1, none⟩ = some (.int .i64 z1) := by rw [cell_of_row _ _ _ _ _ _ hx]; rfl
          have x2 : X9.cell? ⟨V, 2, none⟩ = some (.int .u32 z2) := by rw [cell_of_row _ _ _ _ _ _ hx]; rfl
          have d24 := Posts.slot (show a.eval (.tmp 24) = .pointer (some ⟨g, 0, none⟩) from hD.1)
          exact Posts.op_value (fun _ => trivial) rfl rfl (by intro c h; cases h) rfl (by rw [hS.size]; simp) (v := .pointer (some ⟨g, 0, none⟩)) (by simp [execOp, d24,  go_sem, x0, x1, x2, k0, k2]) rfl (hE.refl _) trivial
        · intro a X9 hX hS hD hJ hU
          have hx : X9.heap[V]? = _ := (Posts.Ext.blk hX _ (lt_of_block HAl.out)).trans HAl.out
          have x0 : X9.cell? ⟨V, 0, none⟩ = some (.int .i64 z0) := by rw [cell_of_row _ _ _ _ _ _ hx]; rfl
          have x1 : X9.cell? ⟨V, 1, none⟩ = some (.int .i64 z1) := by rw [cell_of_row _ _ _ _ _ _ hx]; rfl
          have x2 : X9.cell? ⟨V, 2, none⟩ = some (.int .u32 z2) := by rw [cell_of_row _ _ _ _ _ _ hx]; rfl
          have d28 := Posts.slot (show a.eval (.tmp 28) = .pointer (some ⟨g, 0, none⟩) from hD.1)
          exact Posts.op_value (fun _ => trivial) rfl rfl (by intro c h; cases h) rfl (by rw [hS.size]; simp) (v := .pointer (some ⟨g, 0, none⟩)) (by simp [execOp, d28,  go_sem, x0, x1, x2, k0, k2]) rfl (hE.refl _) trivial
        · intro a X9 hX hS hD hJ hU
          have hx : X9.heap[V]? = _ := (Posts.Ext.blk hX _ (lt_of_block HAl.out)).trans HAl.out
          have x0 : X9.cell? ⟨V, 0, none⟩ = some (.int .i64 z0) := by rw [cell_of_row _ _ _ _ _ _ hx]; rfl
          have x1 : X9.cell? ⟨V, 1, none⟩ = some (.int .i64 z1) := by rw [cell_of_row _ _ _ _ _ _ hx]; rfl
          have x2 : X9.cell? ⟨V, 2, none⟩ = some (.int .u32 z2) := by rw [cell_of_row _ _ _ _ _ _ hx]; rfl
          have d29 := Posts.slot (show a.eval (.tmp 29) = .pointer (some ⟨g, 0, none⟩) from hD.1)
          have d25 := Posts.slot (show a.eval (.tmp 25) = .int .i64 (k : Int) from hD.2.1)
          exact Posts.op_value (fun _ => trivial) rfl rfl (by intro c h; cases h) rfl (by rw [hS.size]; simp) (v := .pointer (some ⟨g, k * 37, none⟩)) (by simp [execOp, d29, d25,  go_sem, x0, x1, x2, k0, k2]) rfl (hE.refl _) trivial
      · intro a0 Y hY hS hJt hL
        have p24 := Posts.slot (show a0.eval (.tmp 24) = .pointer (some ⟨g, 0, none⟩) from hL.1)
        have p25 := Posts.slot (show a0.eval (.tmp 25) = .int .i64 (k : Int) from hL.2.1)
        have p26 := Posts.slot (show a0.eval (.tmp 26) = .agg #[.int .i64 z0, .int .i64 z1, .int .u32 z2] from hL.2.2.1)
        have p27 := Posts.slot (show a0.eval (.tmp 27) = .agg X.toArray from hL.2.2.2.1)
        have p28 := Posts.slot (show a0.eval (.tmp 28) = .pointer (some ⟨g, 0, none⟩) from hL.2.2.2.2.1)
        have p29 := Posts.slot (show a0.eval (.tmp 29) = .pointer (some ⟨g, 0, none⟩) from hL.2.2.2.2.2.1)
        have p30 := Posts.slot (show a0.eval (.tmp 30) = .pointer (some ⟨g, k * 37, none⟩) from hL.2.2.2.2.2.2.1)
        have hfr := hS.frame [24, 25, 26, 27, 28, 29, 30] (fun t ht => by simp [Posts.isDst] at ht; first | (rcases ht with h | h | h | h | h | h | h <;> subst h <;> simp) | (subst ht; simp))
        simp only [List.foldl_cons, List.foldl_nil] at hfr
        have hdf := hS.defers
        simp only [Array.getD_eq_getD_getElem?] at hfr
        generalize a0.tmps[24]?.getD undef = v24 at *
        generalize a0.tmps[25]?.getD undef = v25 at *
        generalize a0.tmps[26]?.getD undef = v26 at *
        generalize a0.tmps[27]?.getD undef = v27 at *
        generalize a0.tmps[28]?.getD undef = v28 at *
        generalize a0.tmps[29]?.getD undef = v29 at *
        generalize a0.tmps[30]?.getD undef = v30 at *
        obtain rfl := p24
        obtain rfl := p25
        obtain rfl := p26
        obtain rfl := p27
        obtain rfl := p28
        obtain rfl := p29
        obtain rfl := p30
        clear hL hS
        obtain ⟨tm, df⟩ := a0
        simp only at hfr hdf
        subst hfr
        subst hdf
        refine Posts.tail_op 7 (by kernel_rfl) (Posts.op_done (fun _ => trivial) rfl rfl (by intro c h; cases h) (Y := Y.setCells g (k * 37) X) (by
          have hPy := HPa.out.kept (Kept.of_below (p := fun _ => False) hY) id
          have hst := store_mid Y g (k * 37) X (by rw [h37]; exact hPy.there (k * 37) 37 (by omega)) h1
          simp [execOp, Act.eval, h37, hst, go_sem]) ?_)
        refine ⟨by kernel_rfl, ?_⟩
        simp only [Exit.inBlock, Exit.then]
        rename_i hK
        refine hK _ _ ?_
        go_wp2_with fail
        go_roundw
        case rel => exact ⟨k + 1, by omega, by go_num, HN.out _ (HPa.out.kept (Kept.of_below (p := fun _ => False) hY) id), HBa.out.trans ((Kept.setCells (p := fun k => k = g) (.inl rfl) X (k * 37) Y (Kept.of_below hY)).toBelow HBa.out.size (fun k hk e => by have := HG.out; omega))⟩
        case measure => simp [intOf]; omega
    · have hd : decide ((k : Int) < (n : Int)) = false := decide_eq_false (by omega)
      have hd2 : decide (k < n) = false := decide_eq_false hlt
      have HE : Hid (l.take k = l) := List.take_of_length_le (by rw [HL.out]; omega)
      go_wp2_with fail
      refine bodyPost_ret (v := .tuple #[.pointer (some ⟨g, 0, none⟩), .int .i64 0]) (by simp [results, Try.f7, go_sem]) rfl ?_
      refine ⟨g, rfl, HG.out, Pn.all ?_, HB.out⟩
      have hp := HP.out
      rw [HE.out] at hp
      rw [List.length_map, HL.out]
      exact hp
end Prt
end Go.Proofs.Ytcapiaempfjmeaa
