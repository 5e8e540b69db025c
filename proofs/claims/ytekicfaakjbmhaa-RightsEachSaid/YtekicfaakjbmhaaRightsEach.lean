/- The statement RightsEach holds: whatever list, memory, bytes and rights are handed in, the call answers true, and what was handed in reads as it did. No condition. -/
import Derived.Test.YtekicfaakjbmhaaRightsBits
import Derived.Test.YtekicfaakjbmhaaRightsKnown
import Derived.Test.YtekicfaakjbmhaaRightsOpen
namespace Go.Proofs.Ytekicfaakjbmhaa.rightsEach
open Go.ChangeShapes Go.WideShapes Go.ChangeAt Go.RowKit Rights
set_option linter.unusedVariables false
set_option linter.unusedSimpArgs false
/-! ### In numbers -/
/-- are these many bytes found, each by itself, in one and the same region? -/
def allB (l : List Rg) (p r : Int) : Nat → Bool
  | 0 => true
  | i + 1 => allB l p r i && (fnd l (p + i) 1 r).isSome && (fi (fnd l (p + i) 1 r) == fi (fnd l p 1 r))
theorem allB_all {l : List Rg} {p r : Int} : ∀ {n : Nat}, allB l p r n = true → ∀ i, i < n → (fnd l (p + i) 1 r).isSome = true ∧ fi (fnd l (p + i) 1 r) = fi (fnd l p 1 r)
  | 0, _, i, hi => by omega
  | n + 1, h, i, hi => by
    unfold allB at h
    simp only [Bool.and_eq_true, beq_iff_eq] at h
    by_cases e : i = n
    · subst e; exact ⟨h.1.2, h.2⟩
    · exact allB_all h.1.1 i (by omega)
theorem one_in {l : List Rg} {m p s r : Int} {k : Nat} (hg : Rights.Good l m) (ho : fnd l p s r = some k) (i : Nat) (hi : (i : Int) < s) : fnd l (p + i) 1 r = some k := by
  obtain ⟨_, h1, h2, _⟩ := fnd_some ho
  obtain ⟨h3, h4, h5⟩ := (fndP_iff _ _ _ _).1 h2
  refine fnd_hit (by decide) h1 ((fndP_iff _ _ _ _).2 ⟨by omega, by omega, h5⟩) fun j hj => ?_
  cases hf : fndP (p + i) 1 r l[j]! with
  | false => rfl
  | true =>
    exfalso
    obtain ⟨g3, g4, _⟩ := (fndP_iff _ _ _ _).1 hf
    have h6 := hg.lone.apart (i := j) (j := k) (by omega) h1 (by omega)
    rw [(overlap_iff _ _).2 ⟨p + i, by unfold Rg.Has; omega⟩] at h6
    cases h6
theorem all_of {l : List Rg} {m p s r : Int} {k : Nat} (hg : Rights.Good l m) (ho : fnd l p s r = some k) : ∀ n : Nat, (n : Int) ≤ s → allB l p r n = true
  | 0, _ => rfl
  | n + 1, h => by
    have h0 := one_in hg ho 0 (by omega)
    have h1 := one_in hg ho n (by omega)
    rw [show p + ((0 : Nat) : Int) = p from by omega] at h0
    unfold allB
    rw [all_of hg ho n (by omega), h1, h0]
    simp
theorem is_of {l : List Rg} {p r : Int} {T : Nat} (hT : 0 < T) (h : allB l p r T = true) : (fnd l p T r).isSome = true := by
  have ha := allB_all h
  obtain ⟨k, hk⟩ := Option.isSome_iff_exists.1 (ha 0 hT).1
  have h0 := hk
  rw [show p + ((0 : Nat) : Int) = p from by omega] at h0
  obtain ⟨h1, h2⟩ := ha (T - 1) (by omega)
  obtain ⟨k2, hk2⟩ := Option.isSome_iff_exists.1 h1
  rw [hk2, h0] at h2
  have e : k2 = k := by have : (k2 : Int) = k := h2; omega
  subst e
  obtain ⟨_, g1, g2, _⟩ := fnd_some h0
  obtain ⟨_, _, g3, _⟩ := fnd_some hk2
  obtain ⟨b1, b2, b3⟩ := (fndP_iff _ _ _ _).1 g2
  obtain ⟨c1, c2, c3⟩ := (fndP_iff _ _ _ _).1 g3
  cases ho : fnd l p T r with
  | some j => rfl
  | none =>
    have := fnd_none ho (by omega) k2 g1
    rw [(fndP_iff _ _ _ _).2 ⟨b1, by omega, b3⟩] at this
    cases this
theorem is_ne {l : List Rg} {p s r : Int} {k : Nat} (hk : k < l.length) (h0 : s ≠ 0) (h : fndP p s r l[k]! = true) : (fnd l p s r).isSome = true := by
  cases ho : fnd l p s r with
  | some j => rfl
  | none => rw [fnd_none ho h0 k hk] at h; cases h
theorem bits_less {a r q : Int} (ha : 0 ≤ a ∧ a ≤ 255) (hr : 0 ≤ r ∧ r ≤ 255) (hq : 0 ≤ q ∧ q ≤ 255) (h : bits .and .u8 a r = r) : (0 ≤ bits .and .u8 r q ∧ bits .and .u8 r q ≤ 255) ∧ bits .and .u8 a (bits .and .u8 r q) = bits .and .u8 r q := by
  rw [(bits8 a r ha hr).1] at h
  rw [(bits8 r q hr hq).1]
  have h1 : r.toNat &&& q.toNat ≤ r.toNat := Nat.and_le_left
  have h2 : (0 : Int) ≤ ((r.toNat &&& q.toNat : Nat) : Int) ∧ ((r.toNat &&& q.toNat : Nat) : Int) ≤ 255 := by omega
  refine ⟨h2, ?_⟩
  rw [(bits8 a _ ha h2).1, Int.toNat_natCast, ← Nat.and_assoc]
  have h3 : a.toNat &&& r.toNat = r.toNat := by omega
  rw [h3]
theorem bits_rng {r q : Int} (hr : 0 ≤ r ∧ r ≤ 255) (hq : 0 ≤ q ∧ q ≤ 255) : 0 ≤ bits .and .u8 r q ∧ bits .and .u8 r q ≤ 255 := by
  rw [(bits8 r q hr hq).1]
  have h1 : r.toNat &&& q.toNat ≤ r.toNat := Nat.and_le_left
  omega
set_option maxHeartbeats 8000000 in
set_option maxRecDepth 100000 in
theorem walk (w : World) (a : Option Addr) (n c : Nat) (l : List Rg) (h : RRow w a n l) (m : Int) (hm : 0 ≤ m ∧ m ≤ 4294967295) (p : Int) (hp : 0 ≤ p ∧ p ≤ 4294967295) (s : Int) (hs : 0 ≤ s ∧ s ≤ 4294967295) (r : Int) (hr : 0 ≤ r ∧ r ≤ 255) :
    Calls Try.prog 6 #[.slice a n c, .int .u32 m, .int .u32 p, .int .u32 s, .int .u8 r] w fun e w' => e = .returned (.bool true) ∧ Below w.heap.size w w' := by
  have HR := Lib.hid h
  clear h
  go_enter Try.func6, Try.ntmps6
  go_wp2_with fail
  refine (known_any _).mono ?_
  rintro e W0 ⟨rfl, hb⟩
  have HB := Lib.hid hb
  clear hb
  go_wp2_with fail
  refine (check_any (HR.out.below HB.out) m hm).mono ?_
  rintro e W1 ⟨⟨z, rfl, hgood⟩, hb⟩
  have HB1 := Lib.hid (HB.out.trans (hb.mono HB.out.size))
  clear hb HB
  by_cases hz : z ≠ 0
  · have hzz : (z == 0) = false := by simpa using hz
    clear hgood
    go_wp2_with fail
    exact bodyPost_ret (v := .bool true) (by simp [results, Try.f6, go_sem]) rfl ⟨rfl, HB1.out⟩
  have hz : z = 0 := by omega
  have HG := Lib.hid (hgood hz)
  have hn : n ≤ 1000000 := by have := HG.out.len; have := HR.out.1; omega
  subst hz
  clear hgood
  by_cases hbig : 100 < s
  · have hd1 : decide ((100 : Int) < s) = true := by simpa using hbig
    go_wp2_with fail
    exact bodyPost_ret (v := .bool true) (by simp [results, Try.f6, go_sem]) rfl ⟨rfl, HB1.out⟩
  have hd1 : decide ((100 : Int) < s) = false := by simpa using hbig
  by_cases h0 : s = 0
  · subst h0
    go_wp2_with fail
    exact bodyPost_ret (v := .bool true) (by simp [results, Try.f6, go_sem]) rfl ⟨rfl, HB1.out⟩
  have hd2 : (s == 0) = false := by simpa using h0
  obtain ⟨T, hT0⟩ : ∃ T : Nat, s = T := ⟨s.toNat, by omega⟩
  have HTs := Lib.hid hT0
  have hs2 : 0 ≤ s ∧ s ≤ 4294967295 := by omega
  have hT : 0 < T := by omega
  clear hT0
  obtain ⟨q, hq⟩ : ∃ q, IntKind.u8.wrap (r - 1) = q := ⟨_, rfl⟩
  have hq2 : 0 ≤ q ∧ q ≤ 255 := by rw [← hq]; simp [IntKind.wrap, IntKind.bits, IntKind.signed]; omega
  have hR' := bits_rng hr hq2
  have hs1 : IntKind.u32.wrap (s - 1) = s - 1 := by simp [IntKind.wrap, IntKind.bits, IntKind.signed]; omega
  go_wp2_with fail
  refine (find_any (HR.out.below HB1.out) hn p s r hp hs hr).mono ?_
  rintro e W3 ⟨rfl, hb⟩
  have HB3 := Lib.hid (HB1.out.trans (hb.mono HB1.out.size))
  clear hb HB1
  cases ho : fnd l p s r with
  | some k =>
    obtain ⟨_, h1, h2, _⟩ := fnd_some ho
    obtain ⟨h3, h4, h5⟩ := (fndP_iff _ _ _ _).1 h2
    obtain ⟨_, h6, _⟩ := (fits_iff _ _).1 (HG.out.fit l[k]! (by rw [getElem!_pos l k h1]; exact List.getElem_mem _))
    have HEnd : Hid (p + s ≤ 262144) := by have := HG.out.mem; show _ ≤ _; omega
    have HAll : Hid (allB l p r T = true) := all_of HG.out ho T (by have := HTs.out; omega)
    have HBit : Hid (bits .and .u8 l[k]!.r r = r) := h5
    have HLess : Hid ((fnd l p s (bits .and .u8 r q)).isSome = true) := is_ne h1 (by omega) ((fndP_iff _ _ _ _).2 ⟨h3, by omega, (bits_less l[k]!.h.2.2 hr hq2 h5).2⟩)
    have HShort : Hid ((fnd l p (max (s - 1) 1) r).isSome = true) := is_ne h1 (by omega) ((fndP_iff _ _ _ _).2 ⟨h3, by omega, h5⟩)
    have k0 : (0 : Int) ≤ k := by omega
    have k1 : (k : Int) < n := by have := HR.out.1; omega
    have k2 : decide ((n : Int) ≤ (k : Int)) = false := by simp; omega
    have hlk : k < l.length := h1
    clear ho h2 h3 h4 h5 h6 h1
    simp only [fi, Option.isSome_some]
    go_wp2_with fail
    go_loopw [13, 46] (fun al iv wr => ∃ i : Nat, i ≤ T ∧ iv = .int .u32 i ∧ al = .bool (allB l p r i) ∧ Below w.heap.size w wr) (fun _ iv _ => T - (intOf iv).toNat)
    case atStart => exact ⟨0, by omega, rfl, rfl, HB3.out⟩
    case round =>
      obtain ⟨i, hi, rfl, rfl, hbel⟩ := hrel
      have HBl := Lib.hid hbel
      clear hbel
      by_cases hlt : i < T
      · have j0 : (0 : Int) ≤ i := by omega
        have j1 : (i : Int) < s := by have := HTs.out; omega
        have hdj : decide ((i : Int) < s) = true := by simp; omega
        have c1 : IntKind.u64.wrap p = p := by simp [IntKind.wrap, IntKind.bits, IntKind.signed]; omega
        have c2 : IntKind.u64.wrap (i : Int) = i := by simp [IntKind.wrap, IntKind.bits, IntKind.signed]; omega
        have c3 : IntKind.u64.wrap (p + i) = p + i := by simp [IntKind.wrap, IntKind.bits, IntKind.signed]; omega
        by_cases hov : 4294967296 ≤ p + i
        · exact absurd HEnd.out (by have := HTs.out; omega)
        · have hdo : decide ((4294967296 : Int) ≤ p + i) = false := by simpa using hov
          have c4 : IntKind.u32.wrap (p + i) = p + i := by simp [IntKind.wrap, IntKind.bits, IntKind.signed]; omega
          have HStep : Hid (allB l p r (i + 1) = (allB l p r i && (fnd l (p + i) 1 r).isSome && (fi (fnd l (p + i) 1 r) == fi (fnd l p 1 r)))) := rfl
          go_wp2_with fail
          refine (find_any (HR.out.below HBl.out) hn (p + i) 1 r (by omega) (by decide) hr).mono ?_
          rintro e w1 ⟨rfl, hb⟩
          have HX1 := Lib.hid (HBl.out.trans (hb.mono HBl.out.size))
          clear hb
          go_wp2_with fail
          refine (find_any (HR.out.below HX1.out) hn p 1 r hp (by decide) hr).mono ?_
          rintro e w2 ⟨rfl, hb⟩
          have HX2 := Lib.hid (HX1.out.trans (hb.mono HX1.out.size))
          clear hb
          generalize (fnd l (p + i) 1 r).isSome = o1 at *
          generalize fi (fnd l (p + i) 1 r) = f1 at *
          generalize fi (fnd l p 1 r) = f0 at *
          generalize allB l p r i = A at *
          have hfe : (f1 == f0) = true ∨ (f1 == f0) = false := by cases (f1 == f0) <;> simp
          cases A with
          | false =>
            go_wp2_with fail
            go_roundw
            case rel => exact ⟨i + 1, by omega, by go_num, by rw [HStep.out]; simp, HX2.out⟩
            case measure => simp [intOf]; omega
          | true =>
            cases o1 with
            | false =>
              go_wp2_with fail
              go_roundw
              case rel => exact ⟨i + 1, by omega, by go_num, by rw [HStep.out]; simp, HX2.out⟩
              case measure => simp [intOf]; omega
            | true =>
              have HStep2 : Hid (allB l p r (i + 1) = (f1 == f0)) := by show _ = _; rw [HStep.out]; simp
              go_wp2_with fail
              go_roundw
              case rel => exact ⟨i + 1, by omega, by go_num, by rw [HStep2.out], HX2.out⟩
              case measure => simp [intOf]; omega
      · have hdj : decide ((i : Int) < s) = false := by have := HTs.out; simp; omega
        obtain rfl : i = T := by omega
        rw [HAll.out]
        obtain ⟨hl, hrow⟩ := HR.out.below HBl.out
        obtain ⟨rb, off, hab, hrl, hin⟩ := hrow.resolve_left (by omega)
        cases hab
        obtain ⟨g0, g1, g2⟩ := hin.at k (by omega)
        clear hl hrow hrl hin
        generalize l[k]! = x at *
        have hbit := HBit.out
        go_wp2_with fail
        refine (find_any (HR.out.below HBl.out) hn p s (bits .and .u8 r q) hp hs2 hR').mono ?_
        rintro e w1 ⟨rfl, hb⟩
        have HX1 := Lib.hid (HBl.out.trans (hb.mono HBl.out.size))
        clear hb
        rw [HLess.out]
        go_wp2_with fail
        refine (find_any (HR.out.below HX1.out) hn p (max (s - 1) 1) r hp (by omega) hr).mono ?_
        rintro e w2 ⟨rfl, hb⟩
        have HX2 := Lib.hid (HX1.out.trans (hb.mono HX1.out.size))
        clear hb
        rw [HShort.out]
        go_wp2_with fail
        exact bodyPost_ret (v := .bool true) (by simp [results, Try.f6, go_sem]) rfl ⟨rfl, HX2.out⟩
  | none =>
    have HAll : Hid (allB l p r T = false) := by
      show _ = _
      cases e : allB l p r T with
      | false => rfl
      | true =>
        have h9 := is_of hT e
        rw [← HTs.out, ho] at h9
        cases h9
    clear ho
    simp only [fi, Option.isSome_none]
    go_wp2_with fail
    go_loopw [13, 46] (fun al iv wr => ∃ i : Nat, i ≤ T ∧ iv = .int .u32 i ∧ al = .bool (allB l p r i) ∧ Below w.heap.size w wr) (fun _ iv _ => T - (intOf iv).toNat)
    case atStart => exact ⟨0, by omega, rfl, rfl, HB3.out⟩
    case round =>
      obtain ⟨i, hi, rfl, rfl, hbel⟩ := hrel
      have HBl := Lib.hid hbel
      clear hbel
      by_cases hlt : i < T
      · have j0 : (0 : Int) ≤ i := by omega
        have j1 : (i : Int) < s := by have := HTs.out; omega
        have hdj : decide ((i : Int) < s) = true := by simp; omega
        have c1 : IntKind.u64.wrap p = p := by simp [IntKind.wrap, IntKind.bits, IntKind.signed]; omega
        have c2 : IntKind.u64.wrap (i : Int) = i := by simp [IntKind.wrap, IntKind.bits, IntKind.signed]; omega
        have c3 : IntKind.u64.wrap (p + i) = p + i := by simp [IntKind.wrap, IntKind.bits, IntKind.signed]; omega
        by_cases hov : 4294967296 ≤ p + i
        · have hdo : decide ((4294967296 : Int) ≤ p + i) = true := by simpa using hov
          go_wp2_with fail
          refine (find_any (HR.out.below HBl.out) hn p s (bits .and .u8 r q) hp hs2 hR').mono ?_
          rintro e w1 ⟨rfl, hb⟩
          have HX1 := Lib.hid (HBl.out.trans (hb.mono HBl.out.size))
          clear hb
          go_wp2_with fail
          refine (find_any (HR.out.below HX1.out) hn p (max (s - 1) 1) r hp (by omega) hr).mono ?_
          rintro e w2 ⟨rfl, hb⟩
          have HX2 := Lib.hid (HX1.out.trans (hb.mono HX1.out.size))
          clear hb
          go_wp2_with fail
          exact bodyPost_ret (v := .bool true) (by simp [results, Try.f6, go_sem]) rfl ⟨rfl, HX2.out⟩
        · have hdo : decide ((4294967296 : Int) ≤ p + i) = false := by simpa using hov
          have c4 : IntKind.u32.wrap (p + i) = p + i := by simp [IntKind.wrap, IntKind.bits, IntKind.signed]; omega
          have HStep : Hid (allB l p r (i + 1) = (allB l p r i && (fnd l (p + i) 1 r).isSome && (fi (fnd l (p + i) 1 r) == fi (fnd l p 1 r)))) := rfl
          go_wp2_with fail
          refine (find_any (HR.out.below HBl.out) hn (p + i) 1 r (by omega) (by decide) hr).mono ?_
          rintro e w1 ⟨rfl, hb⟩
          have HX1 := Lib.hid (HBl.out.trans (hb.mono HBl.out.size))
          clear hb
          go_wp2_with fail
          refine (find_any (HR.out.below HX1.out) hn p 1 r hp (by decide) hr).mono ?_
          rintro e w2 ⟨rfl, hb⟩
          have HX2 := Lib.hid (HX1.out.trans (hb.mono HX1.out.size))
          clear hb
          generalize (fnd l (p + i) 1 r).isSome = o1 at *
          generalize fi (fnd l (p + i) 1 r) = f1 at *
          generalize fi (fnd l p 1 r) = f0 at *
          generalize allB l p r i = A at *
          have hfe : (f1 == f0) = true ∨ (f1 == f0) = false := by cases (f1 == f0) <;> simp
          cases A with
          | false =>
            go_wp2_with fail
            go_roundw
            case rel => exact ⟨i + 1, by omega, by go_num, by rw [HStep.out]; simp, HX2.out⟩
            case measure => simp [intOf]; omega
          | true =>
            cases o1 with
            | false =>
              go_wp2_with fail
              go_roundw
              case rel => exact ⟨i + 1, by omega, by go_num, by rw [HStep.out]; simp, HX2.out⟩
              case measure => simp [intOf]; omega
            | true =>
              have HStep2 : Hid (allB l p r (i + 1) = (f1 == f0)) := by show _ = _; rw [HStep.out]; simp
              go_wp2_with fail
              go_roundw
              case rel => exact ⟨i + 1, by omega, by go_num, by rw [HStep2.out], HX2.out⟩
              case measure => simp [intOf]; omega
      · have hdj : decide ((i : Int) < s) = false := by have := HTs.out; simp; omega
        obtain rfl : i = T := by omega
        rw [HAll.out]
        go_wp2_with fail
        refine (find_any (HR.out.below HBl.out) hn p s (bits .and .u8 r q) hp hs2 hR').mono ?_
        rintro e w1 ⟨rfl, hb⟩
        have HX1 := Lib.hid (HBl.out.trans (hb.mono HBl.out.size))
        clear hb
        go_wp2_with fail
        refine (find_any (HR.out.below HX1.out) hn p (max (s - 1) 1) r hp (by omega) hr).mono ?_
        rintro e w2 ⟨rfl, hb⟩
        have HX2 := Lib.hid (HX1.out.trans (hb.mono HX1.out.size))
        clear hb
        go_wp2_with fail
        exact bodyPost_ret (v := .bool true) (by simp [results, Try.f6, go_sem]) rfl ⟨rfl, HX2.out⟩
/-- what the walk gives, for every argument -/
theorem lifted (os : Os) (started : os.Started) (H : Type) (enc : TypeId × Value → H) :
    ReturnsInHanded {} Try.checked os 6 .any (Rows.rightsEachSpec.pre6 enc Try.prog Try.f6 Rows.rightsEachRow.domain false) (Rows.rightsEachSpec.post enc Try.prog Try.f6 false true false false) := by
  refine returnsInHanded_of_change (C := Try.checked) own started (by kernel_rfl) Try.func6
    (ChangeSpec.witness6 (enc := enc) (C := Try.checked) false ⟨#[], #[.slice none 0 0, .int .u32 0, .int .u32 0, .int .u32 0, .int .u8 0], []⟩ 8 (by kernel_rfl) (by kernel_rfl) (by kernel_rfl) (by kernel_rfl)) ?_
  intro W base args ds gs before hval0 hW hcnd _
  have hval : ∀ (j : Nat) t v, Try.f6.params[j]? = some t → args[j]? = some v → Value.okWide Try.prog W .any base t v := hval0
  have hW' := hW
  obtain ⟨p, q, hA0, hV, rfl, hfz, hnd⟩ := hW
  have hA : DataW.TrodAll enc Try.prog W 0 (fun _ => true) true Try.f6.params.toList args.toList ds p := hA0
  rw [Try.params6] at hA hval
  obtain ⟨v0, vs0, d0, ds0, p0, q0, hargs, rfl, rfl, h0, r0⟩ := trodAll_cons hA
  obtain ⟨v1, vs1, d1, ds1, p1, q1, rfl, rfl, rfl, h1, r1⟩ := trodAll_cons r0
  obtain ⟨v2, vs2, d2, ds2, p2, q2, rfl, rfl, rfl, h2, r2⟩ := trodAll_cons r1
  obtain ⟨v3, vs3, d3, ds3, p3, q3, rfl, rfl, rfl, h3, r3⟩ := trodAll_cons r2
  obtain ⟨v4, vs4, d4, ds4, p4, q4, rfl, rfl, rfl, h4, r4⟩ := trodAll_cons r3
  obtain ⟨rfl, rfl, rfl⟩ := trodAll_nil r4
  obtain rfl : args = #[v0, v1, v2, v3, v4] := by cases args; simp_all
  obtain ⟨rfl, rfl⟩ := trodVars_none hV
  have k0 := h0
  have lt0 : ∀ x ∈ p0, x.block < W.heap.size := by obtain ⟨m, hm⟩ := k0; exact DataW.trod_lt m _ _ _ hm
  obtain ⟨a0, len0, cap0, rfl⟩ := okWide_slice Try.underlying29 (hval 0 29 v0 rfl rfl)
  obtain ⟨z0, w0⟩ : ∃ l, RRow W a0 len0 l := by
    obtain ⟨fuel, hf⟩ := h0
    obtain ⟨a, n, c, l, hcs, h1, h2, h3⟩ := open_regions hf
    simp [Value.cells] at hcs
    obtain ⟨rfl, rfl, rfl⟩ := hcs
    exact ⟨l, h3⟩
  obtain ⟨z1, rfl, rfl, rfl, w1⟩ := open_int Try.underlying22 (hval 1 22 v1 rfl rfl) h1
  have b1 : 0 ≤ z1 ∧ z1 ≤ 4294967295 := by simp [Lit.wf, IntKind.min, IntKind.max, IntKind.signed, IntKind.bits] at w1; omega
  obtain ⟨z2, rfl, rfl, rfl, w2⟩ := open_int Try.underlying22 (hval 2 22 v2 rfl rfl) h2
  have b2 : 0 ≤ z2 ∧ z2 ≤ 4294967295 := by simp [Lit.wf, IntKind.min, IntKind.max, IntKind.signed, IntKind.bits] at w2; omega
  obtain ⟨z3, rfl, rfl, rfl, w3⟩ := open_int Try.underlying22 (hval 3 22 v3 rfl rfl) h3
  have b3 : 0 ≤ z3 ∧ z3 ≤ 4294967295 := by simp [Lit.wf, IntKind.min, IntKind.max, IntKind.signed, IntKind.bits] at w3; omega
  obtain ⟨z4, rfl, rfl, rfl, w4⟩ := open_int Try.underlying5 (hval 4 5 v4 rfl rfl) h4
  have b4 : 0 ≤ z4 ∧ z4 ≤ 255 := by simp [Lit.wf, IntKind.min, IntKind.max, IntKind.signed, IntKind.bits] at w4; omega
  clear hA0 hval0
  refine (walk W a0 len0 cap0 z0 w0 z1 b1 z2 b2 z3 b3 z4 b4).mono fun e W' ⟨he, bel⟩ => ?_
  subst he
  exact ⟨_, rfl, _, _, _, [], _, [], hW', trodAll_mk1 (shut_bool Try.underlying4 _), (trodAll_cons_mk (Below.trod laidOut (by kernel_rfl) (of_decide_eq_true (by kernel_rfl)) k0 bel lt0) (trodAll_cons_mk (shut_int Try.underlying22 w1) (trodAll_cons_mk (shut_int Try.underlying22 w2) (trodAll_cons_mk (shut_int Try.underlying22 w3) (trodAll_cons_mk (shut_int Try.underlying5 w4) trodAll_mk0))))), rfl, bel.frame _, fun h => by cases h⟩

theorem proved : Rows.RightsEachSaid :=
  OpenClaim.holds_of_wide 6 Try.f6 rfl rfl rfl rfl rfl rfl rfl ⟨rfl, rfl, rfl, rfl, rfl⟩ rfl rfl rfl rfl rfl (by kernel_rfl) Try.func6 (by kernel_rfl)
    (of_decide_eq_true (by kernel_rfl)) (by unfold Func.isWrapper; first | (rw [if_pos (by decide +kernel)]; kernel_rfl) | (rw [if_neg (by decide +kernel)]; exact ⟨rfl, rfl⟩))
    (fun os started H enc _ => lifted os started H enc)
#print axioms proved
end Go.Proofs.Ytekicfaakjbmhaa.rightsEach
