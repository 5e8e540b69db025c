/- Find and Apart. -/
import Derived.Test.YtekicfaakjbmhaaRightsLib
namespace Go.Proofs.Ytekicfaakjbmhaa
open Go.ChangeShapes Go.WideShapes Go.ChangeAt Go.RowKit
namespace Rights
set_option linter.unusedVariables false
set_option linter.unusedSimpArgs false
/-- does a region have all of these bytes, and all of these rights? -/
def fndP (at' size right : Int) (x : Rg) : Bool := decide (x.b ≤ at') && decide (at' + size ≤ x.e) && decide (bits .and .u8 x.r right = right)
def fnd (l : List Rg) (at' size right : Int) : Option Nat := if size = 0 then none else l.findIdx? (fndP at' size right)
def fi (o : Option Nat) : Int := match o with | some i => i | none => 0
theorem fnd_hit {l : List Rg} {at' size right : Int} {k : Nat} (h0 : size ≠ 0) (hk : k < l.length) (hp : fndP at' size right l[k]! = true) (hn : ∀ j, j < k → fndP at' size right l[j]! = false) : fnd l at' size right = some k := by
  unfold fnd
  rw [if_neg h0, List.findIdx?_eq_some_iff_getElem]
  refine ⟨hk, by rw [getElem!_pos l k hk] at hp; exact hp, fun j hj => ?_⟩
  have := hn j hj
  rw [getElem!_pos l j (by omega)] at this
  simpa using this
theorem fnd_miss {l : List Rg} {at' size right : Int} (hn : ∀ j, j < l.length → fndP at' size right l[j]! = false) : fnd l at' size right = none := by
  unfold fnd
  split
  · rfl
  · rw [List.findIdx?_eq_none_iff]
    intro x hx
    obtain ⟨j, hj, rfl⟩ := List.mem_iff_getElem.1 hx
    have := hn j hj
    rwa [getElem!_pos l j hj] at this
def FindP (l : List Rg) (at' size right : Int) (w : World) (e : Ending) (w' : World) : Prop := e = .returned (.tuple #[.int .i64 (fi (fnd l at' size right)), .bool (fnd l at' size right).isSome]) ∧ Below w.heap.size w w'
set_option maxHeartbeats 4000000 in
set_option maxRecDepth 100000 in
theorem find_any {a : Option Addr} {n c : Nat} {l : List Rg} {w : World} (h : RRow w a n l) (hn : n ≤ 1000000) (p size right : Int) (hp : 0 ≤ p ∧ p ≤ 4294967295) (hs : 0 ≤ size ∧ size ≤ 4294967295) (hr : 0 ≤ right ∧ right ≤ 255) :
    Calls Try.prog 18 #[.slice a n c, .int .u32 p, .int .u32 size, .int .u8 right] w (FindP l p size right w) := by
  have HR := Lib.hid h
  have HLen : Hid (l.length = n) := h.1
  clear h
  obtain ⟨hp0, hp1⟩ := hp
  obtain ⟨hs0, hs1⟩ := hs
  obtain ⟨hr0, hr1⟩ := hr
  by_cases h0 : size = 0
  · subst h0
    have HE : Hid (fnd l p 0 right = none) := by show _ = _; unfold fnd; rw [if_pos rfl]
    go_enter Try.func18, Try.ntmps18
    go_wp2_with fail
    refine bodyPost_ret (v := .tuple #[.int .i64 0, .bool false]) (by simp [results, Try.f18, go_sem]) rfl ?_
    exact ⟨by rw [HE.out]; rfl, Below.refl _ _⟩
  have hd0 : (size == 0) = false := by simpa using h0
  have H0 := Lib.hid h0
  have w1 : IntKind.u64.wrap p = p := by simp [IntKind.wrap, IntKind.bits, IntKind.signed]; omega
  have w2 : IntKind.u64.wrap size = size := by simp [IntKind.wrap, IntKind.bits, IntKind.signed]; omega
  have w3 : IntKind.u64.wrap (p + size) = p + size := by simp [IntKind.wrap, IntKind.bits, IntKind.signed]; omega
  clear h0
  go_enter Try.func18, Try.ntmps18
  go_wp2_with fail
  go_loopw [16] (fun i wr => ∃ k : Nat, k ≤ n ∧ i = .int .i64 k ∧ (∀ j, j < k → fndP p size right l[j]! = false) ∧ Below w.heap.size w wr) (fun i _ => n - (intOf i).toNat)
  case atStart => exact ⟨0, by omega, rfl, fun j hj => by omega, Below.refl _ _⟩
  case round =>
    obtain ⟨k, hk, rfl, hno, hbel⟩ := hrel
    have HNo := Lib.hid hno
    have HB := Lib.hid hbel
    clear hno hbel
    by_cases hlt : k < n
    · have k0 : (0 : Int) ≤ k := by omega
      have k1 : (k : Int) < n := by omega
      have hd : decide ((k : Int) < (n : Int)) = true := by simp; omega
      obtain ⟨hl, hrow⟩ := HR.out.below HB.out
      obtain ⟨rb, off, rfl, hrl, hin⟩ := hrow.resolve_left (by omega)
      obtain ⟨g0, g1, g2⟩ := hin.at k (by omega)
      have hend := fun W => end_any (l[k]!) W
      have HP : Hid (fndP p size right l[k]! = (decide (l[k]!.b ≤ p) && decide (p + size ≤ l[k]!.b + l[k]!.s) && decide (bits .and .u8 l[k]!.r right = right))) := rfl
      have hbd := (l[k]!).h
      clear hl hrow hrl hin
      generalize hx : l[k]! = x at *
      have HX := Lib.hid hx
      clear hx
      generalize x.b = b at *
      generalize x.s = s at *
      generalize x.r = r at *
      have HBd := Lib.hid hbd
      clear hbd
      have next : fndP p size right x = false → ∀ j, j < k + 1 → fndP p size right l[j]! = false := fun h j hj => by
        by_cases e : j = k
        · subst e; rw [HX.out]; exact h
        · exact HNo.out j (by omega)
      have HNext := Lib.hid next
      clear next
      by_cases c1 : b ≤ p
      · have e1 : decide (b ≤ p) = true := by simpa using c1
        by_cases c2 : p + size ≤ b + s
        · have e2 : decide (p + size ≤ b + s) = true := by simpa using c2
          by_cases c3 : bits .and .u8 r right = right
          · have e3 : (bits .and .u8 r right == right) = true := by simpa using c3
            have hhit : fndP p size right x = true := by rw [HP.out, e1, e2, decide_eq_true c3]; rfl
            have HHit : Hid (fnd l p size right = some k) := fnd_hit H0.out (by rw [HLen.out]; exact hlt) (by rw [HX.out]; exact hhit) HNo.out
            clear hhit c1 c2
            go_wp2_with (go_at_call 21; refine (hend _).mono ?_; rintro e w1 ⟨rfl, rfl⟩)
            refine bodyPost_ret (v := .tuple #[.int .i64 k, .bool true]) (by simp [results, Try.f18, go_sem]) rfl ?_
            exact ⟨by rw [HHit.out]; rfl, HB.out.trans (Below.mono (by go_grown) HB.out.size)⟩
          · have e3 : (bits .and .u8 r right == right) = false := by simpa using c3
            have HF : Hid (fndP p size right x = false) := by show _ = _; rw [HP.out, e1, e2, decide_eq_false c3]; rfl
            clear c1 c2
            go_wp2_with (go_at_call 21; refine (hend _).mono ?_; rintro e w1 ⟨rfl, rfl⟩)
            go_roundw
            case rel => exact ⟨k + 1, by omega, by go_num, HNext.out HF.out, HB.out.trans (Below.mono (by go_grown) HB.out.size)⟩
            case measure => simp [intOf]; omega
        · have e2 : decide (p + size ≤ b + s) = false := by simpa using c2
          have HF : Hid (fndP p size right x = false) := by show _ = _; rw [HP.out, e2]; simp
          clear c1 c2
          go_wp2_with (go_at_call 21; refine (hend _).mono ?_; rintro e w1 ⟨rfl, rfl⟩)
          go_roundw
          case rel => exact ⟨k + 1, by omega, by go_num, HNext.out HF.out, HB.out.trans (Below.mono (by go_grown) HB.out.size)⟩
          case measure => simp [intOf]; omega
      · have e1 : decide (b ≤ p) = false := by simpa using c1
        have HF : Hid (fndP p size right x = false) := by show _ = _; rw [HP.out, e1]; simp
        clear c1
        go_wp2_with (go_at_call 21; refine (hend _).mono ?_; rintro e w1 ⟨rfl, rfl⟩)
        go_roundw
        case rel => exact ⟨k + 1, by omega, by go_num, HNext.out HF.out, HB.out.trans (Below.mono (by go_grown) HB.out.size)⟩
        case measure => simp [intOf]; omega
    · have hd : decide ((k : Int) < (n : Int)) = false := by simp; omega
      have HE : Hid (fnd l p size right = none) := fnd_miss fun j hj => HNo.out j (by have := HLen.out; omega)
      go_wp2_with fail
      refine bodyPost_ret (v := .tuple #[.int .i64 0, .bool false]) (by simp [results, Try.f18, go_sem]) rfl ?_
      exact ⟨by rw [HE.out]; rfl, HB.out⟩
/-! ### Apart -/
/-- may one of the two be written? -/
def wr2 (x y : Rg) : Bool := bits .and .u8 (bits .or .u8 x.r y.r) 2 != 0
def apartP (x y : Rg) : Bool := !(wr2 x y && overlap x y)
def apart (a b : List Rg) : Bool := a.all fun x => b.all fun y => apartP x y
set_option maxHeartbeats 4000000 in
set_option maxRecDepth 100000 in
theorem apart_any {a a' : Option Addr} {n c n' c' : Nat} {l l' : List Rg} {w : World} (h : RRow w a n l) (h' : RRow w a' n' l') (hn : n ≤ 1000000) (hn' : n' ≤ 1000000) :
    Calls Try.prog 19 #[.slice a n c, .slice a' n' c'] w fun e w' => e = .returned (.bool (apart l l')) ∧ Below w.heap.size w w' := by
  have HR := Lib.hid h
  have HR' := Lib.hid h'
  have HL : Hid (l.length = n) := h.1
  have HL' : Hid (l'.length = n') := h'.1
  clear h h'
  go_enter Try.func19, Try.ntmps19
  go_wp2_with fail
  go_loopw [11] (fun i wr => ∃ k : Nat, k ≤ n ∧ i = .int .i64 k ∧ (∀ j, j < k → (l'.all fun y => apartP l[j]! y) = true) ∧ Below w.heap.size w wr) (fun i _ => n - (intOf i).toNat)
  case atStart => exact ⟨0, by omega, rfl, fun j hj => by omega, Below.refl _ _⟩
  case round =>
    obtain ⟨k, hk, rfl, hno, hbel⟩ := hrel
    have HNo := Lib.hid hno
    have HB := Lib.hid hbel
    clear hno hbel
    by_cases hlt : k < n
    · have k0 : (0 : Int) ≤ k := by omega
      have k1 : (k : Int) < n := by omega
      have hd : decide ((k : Int) < (n : Int)) = true := by simp; omega
      obtain ⟨hl, hrow⟩ := HR.out.below HB.out
      obtain ⟨rb, off, rfl, hrl, hin⟩ := hrow.resolve_left (by omega)
      obtain ⟨g0, g1, g2⟩ := hin.at k (by omega)
      clear hl hrow hrl hin
      obtain ⟨x, hx⟩ : ∃ x, l[k]! = x := ⟨_, rfl⟩
      rw [hx] at g0 g1 g2
      have HX := Lib.hid hx
      clear hx
      go_wp2_with fail
      have HV := Lib.hid (World.alloc_heap_new wr (.cells #[.int .u32 x.b, .int .u32 x.s, .int .u8 x.r] 24))
      have HB2 : Hid (Below w.heap.size w (wr.alloc (.cells #[.int .u32 x.b, .int .u32 x.s, .int .u8 x.r] 24))) := HB.out.alloc HB.out.size _
      clear g0 g1 g2
      obtain ⟨V, hV⟩ : ∃ V, wr.heap.size = V := ⟨_, rfl⟩
      rw [hV] at HV ⊢
      generalize wr.alloc (.cells #[.int .u32 x.b, .int .u32 x.s, .int .u8 x.r] 24) = W0 at *
      go_loopw [17] (fun i wr => ∃ k' : Nat, k' ≤ n' ∧ i = .int .i64 k' ∧ (∀ j, j < k' → apartP x l'[j]! = true) ∧ Below W0.heap.size W0 wr) (fun i _ => n' - (intOf i).toNat)
      case atStart => exact ⟨0, by omega, rfl, fun j hj => by omega, Below.refl _ _⟩
      case round =>
        obtain ⟨k', hk', rfl, hno', hbel'⟩ := hrel
        have HNo' := Lib.hid hno'
        have HB' := Lib.hid hbel'
        have HBA := Lib.hid (HB2.out.trans (hbel'.mono HB2.out.size))
        obtain ⟨x0, x1, x2⟩ := cells3 ((hbel'.block V (lt_of_block HV.out)).trans HV.out)
        have hlV : V < wr.heap.size := Nat.lt_of_lt_of_le (lt_of_block HV.out) hbel'.size
        clear hno' hbel'
        by_cases hlt' : k' < n'
        · have k2 : (0 : Int) ≤ k' := by omega
          have k3 : (k' : Int) < n' := by omega
          have hd' : decide ((k' : Int) < (n' : Int)) = true := by simp; omega
          obtain ⟨hl, hrow⟩ := HR'.out.below HBA.out
          obtain ⟨rb', off', rfl, hrl, hin⟩ := hrow.resolve_left (by omega)
          obtain ⟨g0, g1, g2⟩ := hin.at k' (by omega)
          clear hl hrow hrl hin
          obtain ⟨y, hy⟩ : ∃ y, l'[k']! = y := ⟨_, rfl⟩
          rw [hy] at g0 g1 g2
          have HY := Lib.hid hy
          clear hy
          have HNext : Hid (apartP x y = true → ∀ j, j < k' + 1 → apartP x l'[j]! = true) := fun h j hj => by
            by_cases e : j = k'
            · subst e; rw [HY.out]; exact h
            · exact HNo'.out j (by omega)
          have HStop : Hid (apartP x y = false → apart l l' = false) := fun h => by
            unfold apart
            rw [List.all_eq_false]
            refine ⟨x, ?_, ?_⟩
            · rw [← HX.out, getElem!_pos l k (by have := HL.out; omega)]; exact List.getElem_mem _
            · simp only [Bool.not_eq_true, List.all_eq_false]
              refine ⟨y, ?_, by first | (rw [h]; done) | simp [h]⟩
              rw [← HY.out, getElem!_pos l' k' (by have := HL'.out; omega)]; exact List.getElem_mem _
          have hov := fun W => overlap_any x y W
          have HBd := Lib.hid (And.intro x.h y.h)
          have hwr : wr2 x y = (bits .and .u8 (bits .or .u8 x.r y.r) 2 != 0) := rfl
          have HAp : Hid (apartP x y = !(wr2 x y && overlap x y)) := rfl
          have n0 : (wr.alloc (.cells #[.int .u32 y.b, .int .u32 y.s, .int .u8 y.r] 24)).cell? ⟨V, 0, none⟩ = some (.int .u32 x.b) := by
            rw [World.cell?_of_block (Below.heap_alloc _ _ _ hlV)]; exact x0
          have n1 : (wr.alloc (.cells #[.int .u32 y.b, .int .u32 y.s, .int .u8 y.r] 24)).cell? ⟨V, 1, none⟩ = some (.int .u32 x.s) := by
            rw [World.cell?_of_block (Below.heap_alloc _ _ _ hlV)]; exact x1
          have n2 : (wr.alloc (.cells #[.int .u32 y.b, .int .u32 y.s, .int .u8 y.r] 24)).cell? ⟨V, 2, none⟩ = some (.int .u8 x.r) := by
            rw [World.cell?_of_block (Below.heap_alloc _ _ _ hlV)]; exact x2
          clear x0 x1 x2 hlV
          cases hw : wr2 x y with
          | true =>
            have e1 : (bits .and .u8 (bits .or .u8 x.r y.r) 2 != 0) = true := by rw [← hwr]; exact hw
            cases ho : overlap x y with
            | true =>
              have HF : Hid (apart l l' = false) := HStop.out (by rw [HAp.out, hw, ho] <;> rfl)
              rw [ho] at hov
              clear hw ho hwr
              go_wp2_with (go_at_call 11; refine (hov _).mono ?_; rintro e w1 ⟨rfl, hb1⟩)
              go_ret
              exact ⟨by rw [HF.out] <;> rfl, HBA.out.trans (Below.trans (Below.mono (by go_grown) HBA.out.size) (hb1.mono (by have := HBA.out.size; simp; omega)))⟩
            | false =>
              have HF : Hid (apartP x y = true) := by show _ = _; rw [HAp.out, hw, ho]; rfl
              rw [ho] at hov
              clear hw ho hwr
              go_wp2_with (go_at_call 11; refine (hov _).mono ?_; rintro e w1 ⟨rfl, hb1⟩)
              go_roundw
              case rel => exact ⟨k' + 1, by omega, by go_num, HNext.out HF.out, HB'.out.trans (Below.trans (Below.mono (by go_grown) HB'.out.size) (hb1.mono (by have := HB'.out.size; simp; omega)))⟩
              case measure => simp [intOf]; omega
          | false =>
            have e1 : (bits .and .u8 (bits .or .u8 x.r y.r) 2 != 0) = false := by rw [← hwr]; exact hw
            have HF : Hid (apartP x y = true) := by show _ = _; rw [HAp.out, hw] <;> rfl
            clear hw hwr
            go_wp2_with fail
            go_roundw
            case rel => exact ⟨k' + 1, by omega, by go_num, HNext.out HF.out, HB'.out.alloc HB'.out.size _⟩
            case measure => simp [intOf]; omega
        · have hd' : decide ((k' : Int) < (n' : Int)) = false := by simp; omega
          have HAll : Hid (∀ j, j < k + 1 → (l'.all fun y => apartP l[j]! y) = true) := fun j hj => by
            by_cases e : j = k
            · subst e
              rw [HX.out, List.all_eq_true]
              intro y hy
              obtain ⟨i, hi, rfl⟩ := List.mem_iff_getElem.1 hy
              have := HNo'.out i (by have := HL'.out; omega)
              rwa [getElem!_pos l' i hi] at this
            · exact HNo.out j (by omega)
          go_wp2_with fail
          go_roundw
          case rel => exact ⟨k + 1, by omega, by go_num, HAll.out, HBA.out⟩
          case measure => simp [intOf]; omega
    · have hd : decide ((k : Int) < (n : Int)) = false := by simp; omega
      have HE : Hid (apart l l' = true) := by
        show _ = _
        unfold apart
        rw [List.all_eq_true]
        intro x hx
        obtain ⟨i, hi, rfl⟩ := List.mem_iff_getElem.1 hx
        have := HNo.out i (by have := HL.out; omega)
        rwa [getElem!_pos l i hi] at this
      go_wp2_with fail
      go_ret
      exact ⟨by rw [HE.out] <;> rfl, HB.out⟩
end Rights
end Go.Proofs.Ytekicfaakjbmhaa
