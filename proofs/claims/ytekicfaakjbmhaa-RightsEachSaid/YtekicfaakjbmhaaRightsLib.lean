/- The library's calls on lists of regions: Clone, SortFunc, Index, ContainsFunc. -/
import Derived.Test.YtekicfaakjbmhaaRightsMem
import Derived.Laws.StructEq
namespace Go.Proofs.Ytekicfaakjbmhaa
open Go.ChangeShapes Go.WideShapes Go.ChangeAt Go.RowKit Go.Sort Go.Shelf
namespace Rights
set_option linter.unusedVariables false
set_option linter.unusedSimpArgs false
theorem aR (w : World) : (isAgg 24).run Try.prog w = .ok true w := Try.isAgg24 w
theorem zR (w : World) : (Go.sizeOf 24).run Try.prog w = .ok 3 w := Try.sizeOf24 w
theorem infoR : ∃ i0 z, Try.prog.info? 24 = some i0 ∧ i0.zero = some z ∧ i0.size = 3 ∧ i0.bytes = 12 ∧ z.cells.size = 3 := by
  have h : (Try.prog.info? 24).map (fun i => (i.zero, i.size, i.bytes)) = some (some (.agg #[.int .u32 0, .int .u32 0, .int .u8 0]), 3, 12) := by kernel_rfl
  obtain ⟨i0, hi, hz0, hz1, hz2⟩ := info_parts h
  exact ⟨i0, _, hi, hz0, hz1, hz2, rfl⟩
def CloneP (w : World) (n : Nat) (l : List Rg) (e : Ending) (w' : World) : Prop :=
  ∃ g cap, e = .returned (.slice g n cap) ∧ Below w.heap.size w w' ∧ (n = 0 ∨ ∃ blk, g = some ⟨blk, 0, none⟩ ∧ w.heap.size ≤ blk ∧ blk < w'.heap.size ∧ Own w' blk cap l)
set_option maxHeartbeats 2000000 in
set_option maxRecDepth 100000 in
theorem clone_any {a : Option Addr} {n c : Nat} {l : List Rg} {w : World} (h : RRow w a n l) (hn : n ≤ 1000000) :
    Calls Try.prog 23 #[.slice a n c] w (CloneP w n l) := by
  obtain ⟨i0, z, hi, hz0, hz1, hz2, hzs⟩ := infoR
  obtain ⟨hl, hr⟩ := h
  rcases hr with hr | ⟨b, off, rfl, hlt, hin⟩
  · subst hr
    cases a with
    | none => exact (AnyE.slices_Clone_nil cloneR 0 c w).mono fun e w' ⟨h1, h2⟩ => ⟨none, 0, h1, by rw [h2]; exact Below.refl _ _, .inl rfl⟩
    | some ad =>
      have q22 : ∀ (w : World) (a : Option Addr) (n c n' c' : Nat), (binOp .eql 29 (.slice a n c) (.slice none n' c')).run Try.prog w = .ok (.bool a.isNone) w := fun w a n c n' c' => Lib.run_eql_slice_nil w _ _ a n c n' c' Try.underlying29
      go_enter Try.func23, Try.ntmps23
      go_wp2_with (at_builtin; refine wpList_append_own _ rfl _ _ 29 rfl w.heap.size 24 i0 z 3 12 Try.underlying29 hi hz0 hz1 hz2 hzs (by decide) _ _ _ rfl (World.ownsRow_made w #[] 0 (Nat.le_refl _) (Nat.zero_le _) rfl) ad 0 c [] rfl rfl (by intro j u hj; simp at hj) (by intro u hu; cases hu) (by unfold maxLen; omega) (by omega) (by simp) ?_)
      intro v' w1 hown hgrow hnil
      obtain ⟨g, cap, rfl⟩ : ∃ g cap, v' = .slice g 0 cap := by
        rcases hown.2 with ⟨e, _⟩ | ⟨g, cap, cur, e, _⟩
        · exact ⟨_, _, e⟩
        · exact ⟨_, _, e⟩
      go_wp2
      go_ret
      exact ⟨g, cap, rfl, ((Below.refl _ w).alloc (Nat.le_refl _) _).grown hgrow (by simp) (by intro k hk; simp [Value.ownBlock] at hk; omega), .inl rfl⟩
  · refine (AnyE.slices_Clone cloneR i0 z 3 12 hi hz0 hz1 hz2 hzs (by decide) zR b off n c (l.flatMap enc) w (by rw [flat_len, hl]) (by unfold maxLen; omega) (by omega) ?_ ?_).mono ?_
    · intro j u hu
      have hj : j < l.length * 3 := by have := (List.getElem?_eq_some_iff.1 hu).1; rwa [flat_len] at this
      have h3 : j = j / 3 * 3 + j % 3 := by omega
      have hjl : j / 3 < l.length := by omega
      have hm : j % 3 < 3 := by omega
      have h4 : (enc l[j / 3]!)[j % 3]? = some u := by
        cases hv : (enc l[j / 3]!)[j % 3]? with
        | none => rw [List.getElem?_eq_none_iff, enc_len] at hv; omega
        | some v =>
          have := flat_get l (j / 3) (j % 3) v hjl hv
          rw [← h3, hu] at this
          exact this.symm
      have := hin (j / 3) hjl (j % 3) u h4
      rwa [Nat.add_assoc, ← h3] at this
    · intro u hu
      obtain ⟨x, _, hx⟩ := List.mem_flatMap.1 hu
      exact enc_one x u hx
    · rintro e w' ⟨v', rfl, hown, hnil, hb⟩
      obtain ⟨g, cap, rfl, h1, h2, h3, h4⟩ := own_of hown hl hnil
      exact ⟨_, cap, rfl, hb, .inr ⟨g, rfl, h1, h2, h4⟩⟩
/-! ### The sort -/
theorem getq (l : List Value) (i : Nat) (h : i < l.length) : l[i]? = some l[i]! := by rw [List.getElem?_eq_getElem h, getElem!_pos l i h]
theorem geta (d : Array Rg) (j : Nat) (h : j < d.size) : d.toList[j]! = d[j]! := by rw [getElem!_pos d j h, getElem!_pos d.toList j (by simpa using h)]; simp
def cfR (x y : Rg) : Int := cf x.b y.b
theorem ltR (x y : Rg) : ltOf cfR x y = decide (x.b < y.b) := by
  unfold ltOf cfR cf
  by_cases h1 : x.b < y.b
  · simp [h1]
  · by_cases h2 : y.b < x.b <;> simp [h1, h2]
theorem swoR : SWO (ltOf cfR) where
  irrefl x := by rw [ltR]; simp
  trans x y z h1 h2 := by rw [ltR] at *; simp at *; omega
  ntrans x y z h1 h2 := by rw [ltR] at *; simp at *; omega
theorem cmpR (blk off size : Nat) (w : World) : CmpLays Try.prog 25 #[] enc 3 cfR blk off size w := fun m os dk _ x y => by
  refine (less_any x y _).mono ?_
  rintro e w' ⟨rfl, rfl⟩
  exact ⟨rfl, 0, _, by rw [alloc_eq_grow, alloc_eq_grow, grow_grow]; rfl⟩
/-! At no element, whatever the address -/
theorem insert_none (a : Option Addr) (c : Nat) (fv : Value) (w : World) :
    Calls Try.prog 40 #[.slice a 0 c, .int .i64 0, .int .i64 0, fv] w fun e w' => e = .returned (.tuple #[]) ∧ w' = w := by
  go_enter Try.func40, Try.ntmps40
  go_wp2_with fail
  refine wp_loop_rounds 1 ?_
  rw [rounds_succ]
  go_wp2_with fail
  go_end0
  exact ⟨rfl, rfl⟩
set_option maxHeartbeats 2000000 in
theorem pdq_none (a : Option Addr) (c : Nat) (lim : Int) (fv : Value) (w : World) :
    Calls Try.prog 32 #[.slice a 0 c, .int .i64 0, .int .i64 0, .int .i64 lim, fv] w fun e w' => e = .returned (.tuple #[]) ∧ w' = w := by
  have hi := fun W => insert_none a c fv W
  go_enter Try.func32, Try.ntmps32
  go_wp2_with fail
  refine wp_loop_rounds 1 ?_
  rw [rounds_succ]
  go_wp2_with (go_at_call 40; refine (hi _).mono ?_; rintro e w' ⟨rfl, rfl⟩)
  (try simp only [Exit.inBlock, Exit.then]); refine bodyPost_ret (results_none rfl _ _ _) rfl ?_
  exact ⟨rfl, rfl⟩
theorem sort_none (a : Option Addr) (c : Nat) (fv : Value) (w : World) :
    Calls Try.prog 24 #[.slice a 0 c, fv] w fun e w' => e = .returned (.tuple #[]) ∧ w' = w := by
  have hp := fun lim W => pdq_none a c lim fv W
  have hl : ∀ W, Calls Try.prog 33 #[.int .u64 0] W fun e w' => e = .returned (.int .i64 (Lib.bitLen 0 : Nat)) ∧ w' = W := fun W =>
    Any.bits_Len (SlLaysF0.n15.bits (P := Try.prog) (ρ := sortR_ren) { sortR with }) 0 W (by omega) (by omega)
  go_enter Try.func24, Try.ntmps24
  go_wp2_with (first | (go_at_call 33; refine (hl _).mono ?_; rintro e w' ⟨rfl, rfl⟩) | (go_at_call 32; refine (hp _ _).mono ?_; rintro e w' ⟨rfl, rfl⟩))
  go_end0
  exact ⟨rfl, rfl⟩
def SortP (w : World) (n blk : Nat) (l : List Rg) (e : Ending) (w' : World) : Prop :=
  e = .returned (.tuple #[]) ∧ Kept (fun k => k = blk) w w' ∧ ∃ l', l'.Perm l ∧ l'.Pairwise (fun x y => x.b ≤ y.b) ∧ (0 < n → RIn w' blk 0 l')
theorem sort_block {α : Type} [Inhabited α] (enc : α → List Value) (k : Nat) (w : World) (blk off m : Nat) (dk : Array α) (os : Array Obj) : Kept (fun k => k = blk) w (sortWorldK enc k w blk off m dk os) := by
  refine ⟨rfl, rfl, rfl, ?_, ?_⟩
  · exact size_sortWorldK_c enc k w blk off m dk os
  · intro j hj hne
    show ((w.heap.modify blk _) ++ os)[j]? = _
    rw [Array.getElem?_append_left (by rw [Array.size_modify]; exact hj), Array.getElem?_modify]
    simp [show blk ≠ j from fun h => hne h.symm]
set_option maxHeartbeats 1000000 in
theorem sort_any {n c cap blk : Nat} {g : Option Addr} {l : List Rg} {w : World} (hl : l.length = n) (hg : n = 0 ∨ (g = some ⟨blk, 0, none⟩ ∧ blk < w.heap.size ∧ Own w blk cap l)) (hn : n ≤ 1000000) :
    Calls Try.prog 24 #[.slice g n c, .func (.func 25) #[] #[]] w (SortP w n blk l) := by
  by_cases h0 : n = 0
  · subst h0
    obtain rfl : l = [] := List.eq_nil_of_length_eq_zero hl
    exact (sort_none g c (.func (.func 25) #[] #[]) w).mono fun e w' ⟨h1, h2⟩ => ⟨h1, by rw [h2]; exact Kept.refl _ _, [], .refl _, .nil, fun h => by omega⟩
  · obtain ⟨rfl, hlt, hown⟩ := hg.resolve_left h0
    have hsz : l.toArray.size = n := by simp [hl]
    have hH : HoldsK enc 3 w blk 0 l.toArray := by
      intro j hj
      rw [size_flatK] at hj
      have hjl : j / 3 < l.length := by simp at hj; omega
      rw [get_flatK _ _ _ _ hj]
      have hm : j % 3 < 3 := by omega
      have e1 : (enc l.toArray[j / 3]!)[j % 3]? = some (enc l.toArray[j / 3]!)[j % 3]! := getq _ _ (by rw [enc_len]; exact hm)
      have e2 : l.toArray[j / 3]! = l[j / 3]! := by simp
      rw [e2] at e1 ⊢
      have h3 : j / 3 * 3 + j % 3 = j := by omega
      have := hown.cell (j / 3 * 3 + j % 3) _ (flat_get l (j / 3) (j % 3) _ hjl e1)
      rw [h3] at this
      rw [Nat.zero_add]
      exact this
    have eg : ∀ args w, (callFunc 25 args).run Try.prog w = .ok (.enter 25 args) w := enters_of Try.func25 (by kernel_rfl) rfl
    have hcon := AnyQ.slices_SortFunc sortR 3 aR zR enc enc_len enc_one cfR swoR 25 #[] blk 0 c l.toArray w eg (cmpR blk 0 _ w) hH hlt (by rw [hsz]; omega)
    rw [hsz] at hcon
    refine hcon.mono ?_
    rintro e w' ⟨rfl, d', m, os, hp, hs, rfl⟩
    have hd : d'.size = n := hp.1.trans hsz
    refine ⟨rfl, sort_block enc 3 w blk 0 m d' os, d'.toList, ?_, ?_, ?_⟩
    · have h2 := hp.2.2
      rw [Array.extract_eq_self_of_le (by omega), Array.extract_eq_self_of_le (by simp; omega)] at h2
      exact h2
    · rw [List.pairwise_iff_getElem]
      intro i j hi hj hij
      have := hs i j (Nat.zero_le _) hij (by simp at hj; omega)
      rw [ltR] at this
      simp at hi hj
      rw [getElem!_pos d' i hi, getElem!_pos d' j hj] at this
      simpa using this
    · intro _ j hj i v hv
      have hH' := holdsK_sortWorldK_c enc 3 w blk 0 l.toArray d' m os hH hlt (by rw [hd, hsz])
      simp at hj
      have hi : i < 3 := by have := (List.getElem?_eq_some_iff.1 hv).1; simpa [enc_len] using this
      have := (HoldsK.cell hH' hj hi).1
      rw [this]
      rw [geta d' j hj] at hv
      rw [← hv, getq _ _ (by rw [enc_len]; exact hi)]
/-! ### What is looked for -/
theorem eqR : EqlAt Try.prog 24 (fun x => .agg (enc x).toArray) (fun x y => decide (x = y)) := by
  refine ⟨fun x y w => ?_, GuardAt.agg _ (by kernel_rfl)⟩
  have u1 := Try.underlying22
  have a1 := Try.isAgg22
  have z1 := Try.sizeOf22
  have u2 := Try.underlying5
  have a2 := Try.isAgg5
  have z2 := Try.sizeOf5
  have hS : Try.prog.underlying 24 = some (.struct (Try.prog.fieldsOf 24)) := by kernel_rfl
  have hp : Try.prog.stoodInHeld 24 = false := by kernel_rfl
  have hxy : decide (x = y) = (x.b == y.b && (x.s == y.s && x.r == y.r)) := by
    rw [Bool.eq_iff_iff]
    simp only [decide_eq_true_eq, Bool.and_eq_true, beq_iff_eq]
    exact ⟨fun h => by subst h; simp, fun h => Rg.ext' h.1 h.2.1 h.2.2⟩
  dsimp only
  rw [hxy]
  simp only [enc]
  rw [run_eql_struct, show (10000 : Nat) = 9999 + 1 from rfl, run_equalIn_agg w 9999 24 _ _ hS hp]
  simp only [Program.fieldsOf, Try.underlying24]
  go_simp
  by_cases h1 : x.b = y.b <;> by_cases h2 : x.s = y.s <;> by_cases h3 : x.r = y.r <;> simp [h1, h2, h3]
/-- the first place at which x stands, or -1 -/
def idx (l : List Rg) (x : Rg) : Int := Lib.idxBy (fun a b => decide (a = b)) l x
theorem below_drewN {B : Nat} {w w' : World} (h : RowKit.Below B w w') (q : Nat) : RowKit.Below B w (w'.drewN q) := ⟨h.os, h.tape, h.output, h.size, h.block⟩
theorem index_any {a : Option Addr} {n c : Nat} {l : List Rg} {w : World} (h : RRow w a n l) (h0 : 0 < n) (hn : n ≤ 1000000) (x : Rg) :
    Calls Try.prog 39 #[.slice a n c, .agg #[.int .u32 x.b, .int .u32 x.s, .int .u8 x.r]] w fun e w' => e = .returned (.int .i64 (idx l x)) ∧ RowKit.Below w.heap.size w w' := by
  obtain ⟨hl, hr⟩ := h
  obtain ⟨b, off, rfl, hlt, hin⟩ := hr.resolve_left (by omega)
  have hcon := AnyQ.slices_Index indexR 3 aR zR enc enc_len (fun x y => decide (x = y)) eqR b off n c l x w (by omega) (by omega) hin
  rw [show l.take n = l from by rw [← hl, List.take_length]] at hcon
  refine hcon.mono ?_
  rintro e w' ⟨rfl, q, rfl⟩
  exact ⟨rfl, below_drewN ((RowKit.Below.refl _ _).alloc (Nat.le_refl _) _) q⟩
theorem contains_none (a : Option Addr) (c g : Nat) (lb : Array Value) (w : World) :
    Calls Try.prog 30 #[.slice a 0 c, .func (.func g) #[] lb] w fun e w' => e = .returned (.bool false) ∧ w' = w := by
  have h1 : Calls Try.prog 37 #[.slice a 0 c, .func (.func g) #[] lb] w fun e w' => e = .returned (.int .i64 (-1)) ∧ w' = w := by
    go_enter Try.func37, Try.ntmps37
    go_wp2_with fail
    refine wp_loop_rounds 1 ?_
    rw [rounds_succ]
    go_wp2_with fail
    go_ret
    exact ⟨rfl, rfl⟩
  go_enter Try.func30, Try.ntmps30
  go_wp2_with (go_at_call 37; refine h1.mono ?_; rintro e w1 ⟨rfl, rfl⟩)
  go_ret
  exact ⟨rfl, rfl⟩
theorem contains_any {a : Option Addr} {n c : Nat} {l : List Rg} {w : World} (h : RRow w a n l) (hn : n ≤ 1000000) (p : Rg → Bool) (g : Nat) (lb : Array Value) (eg : ∀ args w, (callFunc g args).run Try.prog w = .ok (.enter g args) w)
    (hp : ∀ (W : World) (x : Rg), RowKit.Below w.heap.size w W → Calls Try.prog g (#[.agg #[.int .u32 x.b, .int .u32 x.s, .int .u8 x.r]] ++ lb) W fun e w' => e = .returned (.bool (p x)) ∧ RowKit.Below w.heap.size w w') :
    Calls Try.prog 30 #[.slice a n c, .func (.func g) #[] lb] w fun e w' => e = .returned (.bool (l.any p)) ∧ RowKit.Below w.heap.size w w' := by
  obtain ⟨hl, hr⟩ := h
  by_cases h0 : n = 0
  · subst h0
    obtain rfl : l = [] := List.eq_nil_of_length_eq_zero hl
    exact (contains_none a c g lb w).mono fun e w' ⟨h1, h2⟩ => ⟨h1, by rw [h2]; exact RowKit.Below.refl _ _⟩
  obtain ⟨b, off, rfl, hlt, hin⟩ := hr.resolve_left h0
  have hcon := AnyQ.slices_ContainsFunc containsFuncR 3 aR zR enc enc_len p g lb eg b off n c l w hp (by omega) (by omega) hlt hin
  rw [show l.take n = l from by rw [← hl, List.take_length]] at hcon
  exact hcon
end Rights
end Go.Proofs.Ytekicfaakjbmhaa
