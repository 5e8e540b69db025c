/- Same: whether two values are one. -/
import Derived.Test.YtimhppgepiikbaaWireOpen
import Derived.Test.YtimhppgepiikbaaWireK
import Derived.Deep.RegionWith
namespace Go.Proofs.Ytimhppgepiikbaa
open Go.ChangeShapes Go.WideShapes Go.ChangeAt Go.RowKit
namespace Wire
set_option linter.unusedVariables false
theorem str_inj {l m : List Int} (hl : ∀ z ∈ l, 0 ≤ z ∧ z ≤ 255) (hm : ∀ z ∈ m, 0 ≤ z ∧ z ≤ 255) (h : strOfNums l = strOfNums m) : l = m := by
  have h1 : (strOfNums l).data.toList = (strOfNums m).data.toList := by rw [h]
  simp only [strOfNums] at h1
  have h2 : ∀ (a b : List Int), (∀ z ∈ a, 0 ≤ z ∧ z ≤ 255) → (∀ z ∈ b, 0 ≤ z ∧ z ≤ 255) → a.map (fun z => (UInt8.ofNat z.toNat)) = b.map (fun z => (UInt8.ofNat z.toNat)) → a = b := by
    intro a
    induction a with
    | nil => intro b _ _ h; cases b with | nil => rfl | cons => simp at h
    | cons x a ih =>
      intro b ha hb h
      cases b with
      | nil => simp at h
      | cons y b =>
        simp only [List.map_cons, List.cons.injEq] at h
        have hx := ha x (by simp)
        have hy := hb y (by simp)
        have e : x.toNat = y.toNat := by
          have := congrArg UInt8.toNat h.1
          simp only [UInt8.toNat_ofNat'] at this
          omega
        rw [ih b (fun z hz => ha z (by simp [hz])) (fun z hz => hb z (by simp [hz])) h.2]
        congr 1
        omega
  exact h2 l m hl hm (by simpa using h1)
theorem neq_str {l m : List Int} (hl : ∀ z ∈ l, 0 ≤ z ∧ z ≤ 255) (hm : ∀ z ∈ m, 0 ≤ z ∧ z ≤ 255) (h : ¬ l = m) : ((strOfNums l).toList == (strOfNums m).toList) = false := by
  rw [ByteArray.toList_eq, ByteArray.toList_eq]
  rw [beq_eq_false_iff_ne]
  intro e
  exact h (str_inj hl hm (ByteArray.ext (Array.ext' e)))
def SameEq (k n i : Int) (b : List Int) (f : F) (k' n' i' : Int) (b' : List Int) (f' : F) : Prop := k = k' ∧ n = n' ∧ i = i' ∧ b = b' ∧ f = f'
theorem same_step {f f' sub sub' t t' : F} {x nn ii y nn' ii' : Int} {bs bs' : List Int} (h : f = f' ↔ F.cons x nn ii bs sub t = F.cons y nn' ii' bs' sub' t') (hs : SameEq x nn ii bs sub y nn' ii' bs' sub') : f = f' ↔ t = t' := by
  obtain ⟨rfl, rfl, rfl, rfl, rfl⟩ := hs
  rw [h]
  simp
theorem same_stop {f f' sub sub' t t' : F} {x nn ii y nn' ii' : Int} {bs bs' : List Int} (k n i : Int) (b : List Int) (h : f = f' ↔ F.cons x nn ii bs sub t = F.cons y nn' ii' bs' sub' t') (hs : ¬ SameEq x nn ii bs sub y nn' ii' bs' sub') : ¬ SameEq k n i b f k n i b f' := by
  intro he
  have e := h.1 he.2.2.2.2
  simp only [F.cons.injEq] at e
  exact hs ⟨e.1, e.2.1, e.2.2.1, e.2.2.2.1, e.2.2.2.2.1⟩
/-- whether two are one -/
def SamePost (E : Prop) (w : World) (r : Ending) (w' : World) : Prop := ∃ sb, r = .returned (.bool sb) ∧ (sb = true ↔ E) ∧ Below w.heap.size w w'
def SameOK (f : F) : Prop := ∀ (w : World) (k n i k' n' i' : Int) (b b' : List Int) (f' : F) (ba la ba' la' : Option Addr) (bn bc ln lc bn' bc' ln' lc' : Nat),
  SRow (fun _ => False) w ba bn b → FRow (fun _ => False) w la ln f → ln ≤ lc → lc ≤ 9223372036854775807 → SRow (fun _ => False) w ba' bn' b' → FRow (fun _ => False) w la' ln' f' → ln' ≤ lc' → lc' ≤ 9223372036854775807 →
  Calls Try.prog 12 #[.agg #[.int .i64 k, .int .u64 n, .int .i64 i, .slice ba bn bc, .slice la ln lc], .agg #[.int .i64 k', .int .u64 n', .int .i64 i', .slice ba' bn' bc', .slice la' ln' lc']] w (SamePost (SameEq k n i b f k' n' i' b' f') w)
theorem same_no {E : Prop} {w w' : World} (h : ¬ E) (hb : Below w.heap.size w w') : SamePost E w (.returned (.bool false)) w' := ⟨false, rfl, ⟨fun h => by (cases h), fun e => absurd e h⟩, hb⟩
set_option maxHeartbeats 4000000 in
set_option maxRecDepth 100000 in
theorem same_any : ∀ (m : Nat) (f : F), f.size < m → SameOK f := by
  intro m
  induction m with
  | zero => intro f hf; omega
  | succ m ih =>
    intro f hf w k n i k' n' i' b b' f' ba la ba' la' bn bc ln lc bn' bc' ln' lc' hb hr hc hm hb' hr' hc' hm'
    have hB0 : Below w.heap.size w ((w.alloc (.cells #[.int .i64 k, .int .u64 n, .int .i64 i, .slice ba bn bc, .slice la ln lc] 39)).alloc (.cells #[.int .i64 k', .int .u64 n', .int .i64 i', .slice ba' bn' bc', .slice la' ln' lc'] 39)) := ((Below.refl _ _).alloc (Nat.le_refl _) _).alloc (by simp) _
    have hs := row_string bc (hb.kept (Kept.of_below hB0))
    have hs' := row_string bc' (hb'.kept (Kept.of_below hB0))
    have HBb := Lib.hid hb.2.1
    have HBb' := Lib.hid hb'.2.1
    have HR := Lib.hid (hr.kept (Kept.of_below hB0))
    have HR' := Lib.hid (hr'.kept (Kept.of_below hB0))
    have HB0 := Lib.hid hB0
    have HF := Lib.hid hf
    have HI := Lib.hid ih
    have hl1 := hr.1
    have hl2 := hr'.1
    have HL1 := Lib.hid hl1
    have HL2 := Lib.hid hl2
    clear hb hr hb' hr' hB0 hf ih hl1 hl2
    by_cases hk : k = k'
    rotate_left
    · have d1 : (k != k') = true := by simpa using hk
      have HN : Hid (¬ SameEq k n i b f k' n' i' b' f') := fun h => hk h.1
      clear hk
      go_enter Try.func12, Try.ntmps12
      go_wp2_with fail
      go_ret
      exact same_no HN.out HB0.out
    subst hk
    by_cases hn : n = n'
    rotate_left
    · have d1 : (n != n') = true := by simpa using hn
      have HN : Hid (¬ SameEq k n i b f k n' i' b' f') := fun h => hn h.2.1
      clear hn
      go_enter Try.func12, Try.ntmps12
      go_wp2_with fail
      go_ret
      exact same_no HN.out HB0.out
    subst hn
    by_cases hi : i = i'
    rotate_left
    · have d1 : (i != i') = true := by simpa using hi
      have HN : Hid (¬ SameEq k n i b f k n i' b' f') := fun h => hi h.2.2.1
      clear hi
      go_enter Try.func12, Try.ntmps12
      go_wp2_with fail
      go_ret
      exact same_no HN.out HB0.out
    subst hi
    by_cases hbb : b = b'
    rotate_left
    · have d1 := neq_str HBb.out HBb'.out hbb
      have HN : Hid (¬ SameEq k n i b f k n i b' f') := fun h => hbb h.2.2.2.1
      clear hbb
      generalize strOfNums b = X at *
      generalize strOfNums b' = Y at *
      go_enter Try.func12, Try.ntmps12
      go_wp2_with fail
      go_ret
      exact same_no HN.out HB0.out
    subst hbb
    by_cases hln : ln = ln'
    rotate_left
    · have d1 : ((ln : Int) != (ln' : Int)) = true := by simp; omega
      have d2 : (ln != ln') = true := by simp; omega
      have HN : Hid (¬ SameEq k n i b f k n i b f') := fun h => hln (by rw [← HL1.out, ← HL2.out, h.2.2.2.2])
      clear hln
      generalize strOfNums b = X at *
      go_enter Try.func12, Try.ntmps12
      go_wp2_with fail
      go_ret
      exact same_no HN.out HB0.out
    subst hln
    generalize strOfNums b = X at *
    go_enter Try.func12, Try.ntmps12
    go_wp2_with fail
    clear hs hs'
    have HV0 : Hid (((w.alloc (.cells #[.int .i64 k, .int .u64 n, .int .i64 i, .slice ba bn bc, .slice la ln lc] 39)).alloc (.cells #[.int .i64 k, .int .u64 n, .int .i64 i, .slice ba' bn' bc', .slice la' ln lc'] 39)).heap[w.heap.size]? = some (.cells #[.int .i64 k, .int .u64 n, .int .i64 i, .slice ba bn bc, .slice la ln lc] 39 (0, 0))) := heap_alloc2_old _ _ _
    have HV1 : Hid (((w.alloc (.cells #[.int .i64 k, .int .u64 n, .int .i64 i, .slice ba bn bc, .slice la ln lc] 39)).alloc (.cells #[.int .i64 k, .int .u64 n, .int .i64 i, .slice ba' bn' bc', .slice la' ln lc'] 39)).heap[w.heap.size + 1]? = some (.cells #[.int .i64 k, .int .u64 n, .int .i64 i, .slice ba' bn' bc', .slice la' ln lc'] 39 (0, 0))) := heap_alloc2_new _ _ _
    obtain ⟨W0, hW0⟩ : ∃ W, W = ((w.alloc (.cells #[.int .i64 k, .int .u64 n, .int .i64 i, .slice ba bn bc, .slice la ln lc] 39)).alloc (.cells #[.int .i64 k, .int .u64 n, .int .i64 i, .slice ba' bn' bc', .slice la' ln lc'] 39)) := ⟨_, rfl⟩
    rw [← hW0] at HV0 HV1 HB0 HR HR' ⊢
    clear hW0
    obtain ⟨V, hV⟩ : ∃ V, V = w.heap.size := ⟨_, rfl⟩
    rw [← hV] at HV0 HV1 ⊢
    have HVs := Lib.hid hV
    clear hV
    go_loopw [5] (fun j wr => ∃ q : Nat, q ≤ ln ∧ j = .int .i64 q ∧ (f = f' ↔ f.drop q = f'.drop q) ∧ Below W0.heap.size W0 wr) (fun j _ => ln - (intOf j).toNat)
    case atStart => exact ⟨0, by omega, rfl, by rw [F.drop_zero, F.drop_zero], Below.refl _ _⟩
    case round =>
      obtain ⟨q, hq, rfl, hiff, hbel⟩ := hrel
      have HIf := Lib.hid hiff
      have HB := Lib.hid hbel
      have c4 : wr.cell? ⟨V, 4, none⟩ = some (.slice la ln lc) := by rw [cell_of_row _ _ _ _ _ _ ((hbel.block V (lt_of_block HV0.out)).trans HV0.out)]; rfl
      have c4' : wr.cell? ⟨V + 1, 4, none⟩ = some (.slice la' ln lc') := by rw [cell_of_row _ _ _ _ _ _ ((hbel.block (V + 1) (lt_of_block HV1.out)).trans HV1.out)]; rfl
      clear hiff hbel
      by_cases hlt : q < ln
      · have k0 : (0 : Int) ≤ q := by omega
        have k1 : (q : Int) < ln := by omega
        have hd : decide ((q : Int) < (ln : Int)) = true := by simp; omega
        obtain ⟨hlen, hrow⟩ := HR.out.kept (Kept.of_below HB.out)
        obtain ⟨hlen', hrow'⟩ := HR'.out.kept (Kept.of_below HB.out)
        rcases hrow with hrow | ⟨bb, o, rfl, hin⟩
        · omega
        rcases hrow' with hrow' | ⟨bb', o', rfl, hin'⟩
        · omega
        obtain ⟨x, nn, ii, bs, sub, hdr⟩ := f.drop_cons q (by omega)
        obtain ⟨y, nn', ii', bs', sub', hdr'⟩ := f'.drop_cons q (by omega)
        have h1 := FIn.drop f q hin
        have h2 := FIn.drop f' q hin'
        have hsz := f.drop_size q
        rw [hdr] at h1 hsz
        rw [hdr'] at h2
        simp only [F.size] at hsz
        rw [hdr, hdr'] at HIf
        obtain ⟨_, g0, g1, g2, ⟨ca, cn, cc, g3, _, _, b3⟩, ⟨ea, en, ec, g4, l1, l2, l3⟩, _, _⟩ := h1
        obtain ⟨_, g0', g1', g2', ⟨ca', cn', cc', g3', _, _, b3'⟩, ⟨ea', en', ec', g4', l1', l2', l3'⟩, _, _⟩ := h2
        have HCall := Lib.hid (HI.out sub (by have := HF.out; omega) wr.drew x nn ii y nn' ii' bs bs' sub' ca ea ca' ea' cn cc en ec cn' cc' en' ec' b3 (FRow.kept (show FRow _ wr ea en sub from l3) ((Kept.refl _ _).drew)) l1 l2 b3' (FRow.kept (show FRow _ wr ea' en' sub' from l3') ((Kept.refl _ _).drew)) l1' l2')
        clear hlen hlen' hin hin' hdr hdr' hsz b3 l3 b3' l3'
        go_wp2_with fail
        go_region_with (go_at_call 12; refine HCall.out.mono ?_; rintro r w1 ⟨sb, rfl, hsb, hb1⟩; have HSb := Lib.hid hsb; have HB1 := Lib.hid (HB.out.drew.trans (hb1.mono HB.out.size)); clear hsb hb1)
        all_goals
          cases sb with
          | true =>
            have HN := Lib.hid (same_step HIf.out (HSb.out.1 rfl))
            go_wp2_with fail
            go_roundw
            case rel => exact ⟨q + 1, by omega, by go_num, HN.out, HB1.out⟩
            case measure => simp [intOf]; omega
          | false =>
            have HN := Lib.hid (same_stop k n i b HIf.out (fun h => by have := HSb.out.2 h; cases this))
            go_wp2_with fail
            go_ret
            exact same_no HN.out (HB0.out.trans (HB1.out.mono HB0.out.size))
      · have hd : decide ((q : Int) < (ln : Int)) = false := by simp; omega
        have HE : Hid (SameEq k n i b f k n i b f') := ⟨rfl, rfl, rfl, rfl, HIf.out.2 (by rw [F.drop_all f q (by have := HL1.out; omega), F.drop_all f' q (by have := HL2.out; omega)])⟩
        go_wp2_with fail
        go_ret
        exact ⟨true, rfl, ⟨fun _ => HE.out, fun _ => rfl⟩, HB0.out.trans (HB.out.mono HB0.out.size)⟩
end Wire
end Go.Proofs.Ytimhppgepiikbaa
