/- The small calls on one region; Find, and the document's. -/
import Derived.Test.YthpimoinognkhaaMemKept
namespace Go.Proofs.Ythpimoinognkhaa
open Go.ChangeShapes Go.WideShapes Go.ChangeAt Go.RowKit
namespace Ram
set_option linter.unusedVariables false
set_option linter.unusedSimpArgs false
def hasB (x : Rg) (k : Int) : Bool := decide (x.b ≤ k ∧ k < x.e)
theorem end_any (x : Rg) (w : World) : Calls Try.prog 34 #[.agg #[.int .u32 x.b, .int .u32 x.s, .int .u8 x.r]] w fun e w' => e = .returned (.int .u64 (x.b + x.s)) ∧ w' = w.alloc (.cells #[.int .u32 x.b, .int .u32 x.s, .int .u8 x.r] 68) := by
  obtain ⟨⟨h0, h1⟩, ⟨h2, h3⟩, ⟨h4, h5⟩⟩ := x.h
  generalize x.b = b at *
  generalize x.s = s at *
  generalize x.r = r at *
  have c1 : IntKind.u64.wrap b = b := by simp [IntKind.wrap, IntKind.bits, IntKind.signed]; omega
  have c2 : IntKind.u64.wrap s = s := by simp [IntKind.wrap, IntKind.bits, IntKind.signed]; omega
  have c3 : IntKind.u64.wrap (b + s) = b + s := by simp [IntKind.wrap, IntKind.bits, IntKind.signed]; omega
  go_enter Try.func34, Try.ntmps34
  go_wp2_with fail
  go_ret
  exact ⟨rfl, rfl⟩
theorem has_any (x : Rg) (k : Int) (w : World) : Calls Try.prog 37 #[.agg #[.int .u32 x.b, .int .u32 x.s, .int .u8 x.r], .int .u64 k] w fun e w' => e = .returned (.bool (hasB x k)) ∧ w' = w.alloc (.cells #[.int .u32 x.b, .int .u32 x.s, .int .u8 x.r] 68) := by
  obtain ⟨⟨h0, h1⟩, ⟨h2, h3⟩, ⟨h4, h5⟩⟩ := x.h
  unfold hasB Rg.e
  generalize x.b = b at *
  generalize x.s = s at *
  generalize x.r = r at *
  have c1 : IntKind.u64.wrap b = b := by simp [IntKind.wrap, IntKind.bits, IntKind.signed]; omega
  have c2 : IntKind.u64.wrap s = s := by simp [IntKind.wrap, IntKind.bits, IntKind.signed]; omega
  have c3 : IntKind.u64.wrap (b + s) = b + s := by simp [IntKind.wrap, IntKind.bits, IntKind.signed]; omega
  go_enter Try.func37, Try.ntmps37
  go_wp2_with fail
  all_goals (go_ret; refine ⟨ret_iff ?_, rfl⟩; simp only [bne_iff_ne, beq_iff_eq, Bool.and_eq_true, Bool.or_eq_true, decide_eq_true_eq, ne_eq, Bool.false_eq_true, true_iff, false_iff, Bool.not_eq_eq_eq_not, Bool.not_true, Bool.not_false, decide_eq_false_iff_not]; omega)
def FindP (l : List Rg) (at' size right : Int) (w : World) (e : Ending) (w' : World) : Prop := e = .returned (.tuple #[.int .i64 (fi (fnd l at' size right)), .bool (fnd l at' size right).isSome]) ∧ Below w.heap.size w w'
set_option maxHeartbeats 4000000 in
set_option maxRecDepth 100000 in
theorem find_any {p0 : Nat → Prop} {a : Option Addr} {n c : Nat} {l : List Rg} {w : World} (h : RRow p0 w a n l) (hn : n ≤ 1000000) (p size right : Int) (hp : 0 ≤ p ∧ p ≤ 4294967295) (hs : 0 ≤ size ∧ size ≤ 4294967295) (hr : 0 ≤ right ∧ right ≤ 255) :
    Calls Try.prog 24 #[.slice a n c, .int .u32 p, .int .u32 size, .int .u8 right] w (FindP l p size right w) := by
  have HR := Lib.hid h
  have HLen : Hid (l.length = n) := h.1
  clear h
  obtain ⟨hp0, hp1⟩ := hp
  obtain ⟨hs0, hs1⟩ := hs
  obtain ⟨hr0, hr1⟩ := hr
  by_cases h0 : size = 0
  · subst h0
    have HE : Hid (fnd l p 0 right = none) := by show _ = _; unfold fnd; rw [if_pos rfl]
    go_enter Try.func24, Try.ntmps24
    go_wp2_with fail
    refine bodyPost_ret (v := .tuple #[.int .i64 0, .bool false]) (by simp [results, Try.f24, go_sem]) rfl ?_
    exact ⟨by rw [HE.out]; rfl, Below.refl _ _⟩
  have hd0 : (size == 0) = false := by simpa using h0
  have H0 := Lib.hid h0
  have w1 : IntKind.u64.wrap p = p := by simp [IntKind.wrap, IntKind.bits, IntKind.signed]; omega
  have w2 : IntKind.u64.wrap size = size := by simp [IntKind.wrap, IntKind.bits, IntKind.signed]; omega
  have w3 : IntKind.u64.wrap (p + size) = p + size := by simp [IntKind.wrap, IntKind.bits, IntKind.signed]; omega
  clear h0
  go_enter Try.func24, Try.ntmps24
  go_wp2_with fail
  go_loopw [16] (fun i wr => ∃ k : Nat, k ≤ n ∧ i = .int .i64 k ∧ (∀ j, j < k → fndP p size right l[j]! = false) ∧ Below w.heap.size w wr) (fun i _ => n - (intOf i).toNat)
  case atStart => exact ⟨0, by omega, rfl, fun j hj => by omega, Below.refl _ _⟩
  case round =>
    obtain ⟨k, hk, rfl, hno, hbel⟩ := hrel
    have HNo := Lib.hid hno
    have HB := Lib.hid hbel
    clear hno hbel
    by_cases hlt : k < n
    · have k0 : (0 : Int) ≤ k := by omega
      have k1 : (k : Int) < n := by omega
      have hd : decide ((k : Int) < (n : Int)) = true := by simp; omega
      obtain ⟨hl, hrow⟩ := HR.out.below HB.out (Nat.le_refl _)
      obtain ⟨rb, off, rfl, hrl, _, hin⟩ := hrow.resolve_left (by omega)
      obtain ⟨g0, g1, g2⟩ := hin.at k (by omega)
      have hend := fun W => end_any (l[k]!) W
      have HP : Hid (fndP p size right l[k]! = (decide (l[k]!.b ≤ p) && decide (p + size ≤ l[k]!.b + l[k]!.s) && decide (bits .and .u8 l[k]!.r right = right))) := rfl
      have hbd := (l[k]!).h
      clear hl hrow hrl hin
      generalize hx : l[k]! = x at *
      have HX := Lib.hid hx
      clear hx
      generalize x.b = b at *
      generalize x.s = s at *
      generalize x.r = r at *
      have HBd := Lib.hid hbd
      clear hbd
      have next : fndP p size right x = false → ∀ j, j < k + 1 → fndP p size right l[j]! = false := fun h j hj => by
        by_cases e : j = k
        · subst e; rw [HX.out]; exact h
        · exact HNo.out j (by omega)
      have HNext := Lib.hid next
      clear next
      by_cases c1 : b ≤ p
      · have e1 : decide (b ≤ p) = true := by simpa using c1
        by_cases c2 : p + size ≤ b + s
        · have e2 : decide (p + size ≤ b + s) = true := by simpa using c2
          by_cases c3 : bits .and .u8 r right = right
          · have e3 : (bits .and .u8 r right == right) = true := by simpa using c3
            have hhit : fndP p size right x = true := by rw [HP.out, e1, e2, decide_eq_true c3]; rfl
            have HHit : Hid (fnd l p size right = some k) := fnd_hit H0.out (by rw [HLen.out]; exact hlt) (by rw [HX.out]; exact hhit) HNo.out
            clear hhit c1 c2
            go_wp2_with (go_at_call 34; refine (hend _).mono ?_; rintro e w1 ⟨rfl, rfl⟩)
            refine bodyPost_ret (v := .tuple #[.int .i64 k, .bool true]) (by simp [results, Try.f24, go_sem]) rfl ?_
            exact ⟨by rw [HHit.out]; rfl, HB.out.trans (Below.mono (by go_grown) HB.out.size)⟩
          · have e3 : (bits .and .u8 r right == right) = false := by simpa using c3
            have HF : Hid (fndP p size right x = false) := by show _ = _; rw [HP.out, e1, e2, decide_eq_false c3]; rfl
            clear c1 c2
            go_wp2_with (go_at_call 34; refine (hend _).mono ?_; rintro e w1 ⟨rfl, rfl⟩)
            go_roundw
            case rel => exact ⟨k + 1, by omega, by go_num, HNext.out HF.out, HB.out.trans (Below.mono (by go_grown) HB.out.size)⟩
            case measure => simp [intOf]; omega
        · have e2 : decide (p + size ≤ b + s) = false := by simpa using c2
          have HF : Hid (fndP p size right x = false) := by show _ = _; rw [HP.out, e2]; simp
          clear c1 c2
          go_wp2_with (go_at_call 34; refine (hend _).mono ?_; rintro e w1 ⟨rfl, rfl⟩)
          go_roundw
          case rel => exact ⟨k + 1, by omega, by go_num, HNext.out HF.out, HB.out.trans (Below.mono (by go_grown) HB.out.size)⟩
          case measure => simp [intOf]; omega
      · have e1 : decide (b ≤ p) = false := by simpa using c1
        have HF : Hid (fndP p size right x = false) := by show _ = _; rw [HP.out, e1]; simp
        clear c1
        go_wp2_with (go_at_call 34; refine (hend _).mono ?_; rintro e w1 ⟨rfl, rfl⟩)
        go_roundw
        case rel => exact ⟨k + 1, by omega, by go_num, HNext.out HF.out, HB.out.trans (Below.mono (by go_grown) HB.out.size)⟩
        case measure => simp [intOf]; omega
    · have hd : decide ((k : Int) < (n : Int)) = false := by simp; omega
      have HE : Hid (fnd l p size right = none) := fnd_miss fun j hj => HNo.out j (by have := HLen.out; omega)
      go_wp2_with fail
      refine bodyPost_ret (v := .tuple #[.int .i64 0, .bool false]) (by simp [results, Try.f24, go_sem]) rfl ?_
      exact ⟨by rw [HE.out]; rfl, HB.out⟩

/-! ### The document's Find -/
/-- does a region have all of some rights, bit by bit? -/
def allP (r t : Nat) (k : Nat) : Bool := decide (∀ i, i < k → t / 2 ^ i % 2 = 0 ∨ r / 2 ^ i % 2 = 1)
theorem allP_next (r t k : Nat) : allP r t (k + 1) = (allP r t k && (decide (t / 2 ^ k % 2 = 0) || decide (r / 2 ^ k % 2 = 1))) := by
  unfold allP
  rw [Bool.eq_iff_iff]
  simp only [Bool.and_eq_true, Bool.or_eq_true, decide_eq_true_eq]
  constructor
  · intro h
    exact ⟨fun i hi => h i (by omega), h k (by omega)⟩
  · rintro ⟨h1, h2⟩ i hi
    by_cases e : i = k
    · subst e; exact h2
    · exact h1 i (by omega)
theorem allP_full (r t : Nat) (hr : r ≤ 255) (ht : t ≤ 255) : allP r t 8 = decide (bits .and .u8 (r : Int) (t : Int) = (t : Int)) := by
  have hb := (bits_nat .u8 8 (by decide) (fun n h0 h1 => by simp only [IntKind.wrap, IntKind.bits, IntKind.signed]; exact Int.emod_eq_of_lt h0 h1) r t (by omega) (by omega)).1
  rw [hb]
  unfold allP
  rw [decide_eq_decide]
  constructor
  · intro h
    have e : r &&& t = t := by
      apply Nat.eq_of_testBit_eq
      intro i
      rw [Nat.testBit_and]
      by_cases hi : i < 8
      · have := h i hi
        rw [Nat.testBit_eq_decide_div_mod_eq, Nat.testBit_eq_decide_div_mod_eq]
        rcases this with h1 | h1 <;> simp [h1]
      · have h1 : t < 2 ^ i := Nat.lt_of_lt_of_le (show t < 2 ^ 8 by omega) (Nat.pow_le_pow_right (by omega) (by omega))
        rw [Nat.testBit_lt_two_pow h1]; simp
    exact_mod_cast e
  · intro h i hi
    have e : r &&& t = t := by exact_mod_cast h
    have e2 : (r &&& t).testBit i = t.testBit i := by rw [e]
    rw [Nat.testBit_and, Nat.testBit_eq_decide_div_mod_eq, Nat.testBit_eq_decide_div_mod_eq] at e2
    by_cases h1 : t / 2 ^ i % 2 = 0
    · exact .inl h1
    · right
      have h2 : t / 2 ^ i % 2 = 1 := by omega
      simpa [h2] using e2
theorem all_any (r t : Int) (hr : 0 ≤ r ∧ r ≤ 255) (ht : 0 ≤ t ∧ t ≤ 255) (w : World) : Calls Try.prog 36 #[.int .u8 r, .int .u8 t] w fun e w' => e = .returned (.bool (decide (bits .and .u8 r t = t))) ∧ w' = w := by
  obtain ⟨r, rfl⟩ := Int.eq_ofNat_of_zero_le hr.1
  obtain ⟨t, rfl⟩ := Int.eq_ofNat_of_zero_le ht.1
  have hr' : r ≤ 255 := by omega
  have ht' : t ≤ 255 := by omega
  rw [← allP_full r t hr' ht']
  clear hr ht
  go_enter Try.func36, Try.ntmps36
  go_wp2_with fail
  go_loop [0, 1, 5, 6] (fun x y ok i => ∃ k : Nat, k ≤ 8 ∧ i = .int .i64 k ∧ x = .int .u8 ((r / 2 ^ k : Nat) : Int) ∧ y = .int .u8 ((t / 2 ^ k : Nat) : Int) ∧ ok = .bool (allP r t k)) (fun _ _ _ i => 8 - (intOf i).toNat)
  case atStart => exact ⟨0, by omega, rfl, by simp, by simp, by simp [allP]⟩
  case round =>
    obtain ⟨k, hk, rfl, rfl, rfl, rfl⟩ := hrel
    by_cases hlt : k < 8
    · have k0 : (0 : Int) ≤ k := by omega
      have k1 : (k : Int) < 8 := by omega
      have hd : decide ((k : Int) < 8) = true := by simp; omega
      have hn := allP_next r t k
      have r1 : r / 2 ^ k ≤ 255 := Nat.le_trans (Nat.div_le_self _ _) hr'
      have t1 : t / 2 ^ k ≤ 255 := Nat.le_trans (Nat.div_le_self _ _) ht'
      have r2 : r / 2 ^ (k + 1) = r / 2 ^ k / 2 := by rw [Nat.pow_succ, Nat.div_div_eq_div_mul]
      have t2 : t / 2 ^ (k + 1) = t / 2 ^ k / 2 := by rw [Nat.pow_succ, Nat.div_div_eq_div_mul]
      have HN := Lib.hid hn
      have HR2 := Lib.hid r2
      have HT2 := Lib.hid t2
      clear hn r2 t2
      generalize hA : r / 2 ^ k = A at *
      generalize hB : t / 2 ^ k = B at *
      have HA := Lib.hid hA
      have HB := Lib.hid hB
      generalize allP r t k = ok at *
      clear hA hB
      by_cases cB : B % 2 = 0 <;> by_cases cA : A % 2 = 1 <;> cases ok <;> (
        simp only [cA, cB] at HN
        have eB : (((B : Int) % 2) == 0) = decide (B % 2 = 0) := by rw [Bool.eq_iff_iff]; simp; omega
        have eA : (((A : Int) % 2) == 1) = decide (A % 2 = 1) := by rw [Bool.eq_iff_iff]; simp; omega
        simp only [cA, cB, decide_true, decide_false] at eA eB
        clear cA cB
        go_wp2_with fail
        all_goals
          go_round
          case rel => exact ⟨k + 1, by omega, by go_num, by rw [HR2.out]; go_num, by rw [HT2.out]; go_num, by rw [HN.out]; rfl⟩
          case measure => simp [intOf]; omega)
    · obtain rfl : k = 8 := by omega
      go_wp2_with fail
      go_ret
      exact ⟨rfl, rfl⟩

def rP (at' size right : Int) (x : Rg) : Bool := decide (bits .and .u8 x.r right = right) && hasB x at' && hasB x (at' + size - 1)
theorem rP_eq (at' size right : Int) (x : Rg) (h : 0 < size) : rP at' size right x = fndP at' size right x := by
  unfold rP fndP hasB
  rw [Bool.eq_iff_iff]
  simp only [Bool.and_eq_true, decide_eq_true_eq]
  constructor
  · rintro ⟨⟨h1, h2⟩, h3⟩; exact ⟨⟨by omega, by omega⟩, h1⟩
  · rintro ⟨⟨h1, h2⟩, h3⟩; exact ⟨⟨h3, by omega⟩, by omega⟩
set_option maxHeartbeats 4000000 in
set_option maxRecDepth 100000 in
theorem rfind_any {p0 : Nat → Prop} {a : Option Addr} {n c : Nat} {l : List Rg} {w : World} (h : RRow p0 w a n l) (hn : n ≤ 1000000) (p size right : Int) (hp : 0 ≤ p ∧ p ≤ 4294967295) (hs : 0 ≤ size ∧ size ≤ 4294967295) (hr : 0 ≤ right ∧ right ≤ 255) :
    Calls Try.prog 35 #[.slice a n c, .int .u32 p, .int .u32 size, .int .u8 right] w (FindP l p size right w) := by
  have HR := Lib.hid h
  have HLen : Hid (l.length = n) := h.1
  clear h
  have HAll := fun W (x : Rg) => all_any x.r right x.h.2.2 hr W
  obtain ⟨hp0, hp1⟩ := hp
  obtain ⟨hs0, hs1⟩ := hs
  obtain ⟨hr0, hr1⟩ := hr
  by_cases h0 : size = 0
  · subst h0
    have HE : Hid (fnd l p 0 right = none) := fnd_zero _ _ _
    clear HAll
    go_enter Try.func35, Try.ntmps35
    go_wp2_with fail
    refine wp_loop_rounds 1 ?_
    rw [rounds_succ]
    by_cases hn0 : 0 < (n : Int)
    · have hd : decide (0 < (n : Int)) = true := by simpa using hn0
      clear hn0
      go_wp2_with fail
      all_goals
        refine bodyPost_ret (v := .tuple #[.int .i64 0, .bool false]) (by simp [results, Try.f35, go_sem]) rfl ?_
        exact ⟨by rw [HE.out]; rfl, Below.refl _ _⟩
    · have hd : decide (0 < (n : Int)) = false := by simpa using hn0
      clear hn0
      go_wp2_with fail
      all_goals
        refine bodyPost_ret (v := .tuple #[.int .i64 0, .bool false]) (by simp [results, Try.f35, go_sem]) rfl ?_
        exact ⟨by rw [HE.out]; rfl, Below.refl _ _⟩
  have hpos : decide (0 < size) = true := by simp; omega
  have H0 : Hid (0 < size) := by show _ < _; omega
  have w1 : IntKind.u64.wrap p = p := by simp [IntKind.wrap, IntKind.bits, IntKind.signed]; omega
  have w2 : IntKind.u64.wrap size = size := by simp [IntKind.wrap, IntKind.bits, IntKind.signed]; omega
  have w3 : IntKind.u64.wrap (p + size) = p + size := by simp [IntKind.wrap, IntKind.bits, IntKind.signed]; omega
  have w4 : IntKind.u64.wrap (p + size - 1) = p + size - 1 := by simp [IntKind.wrap, IntKind.bits, IntKind.signed]; omega
  clear h0
  go_enter Try.func35, Try.ntmps35
  go_wp2_with fail
  go_loopw [10] (fun i wr => ∃ k : Nat, k ≤ n ∧ i = .int .i64 k ∧ (∀ j, j < k → fndP p size right l[j]! = false) ∧ Below w.heap.size w wr) (fun i _ => n - (intOf i).toNat)
  case atStart => exact ⟨0, by omega, rfl, fun j hj => by omega, Below.refl _ _⟩
  case round =>
    obtain ⟨k, hk, rfl, hno, hbel⟩ := hrel
    have HNo := Lib.hid hno
    have HB := Lib.hid hbel
    clear hno hbel
    by_cases hlt : k < n
    · have k0 : (0 : Int) ≤ k := by omega
      have k1 : (k : Int) < n := by omega
      have hd : decide ((k : Int) < (n : Int)) = true := by simp; omega
      obtain ⟨hl, hrow⟩ := HR.out.below HB.out (Nat.le_refl _)
      obtain ⟨rb, off, rfl, hrl, _, hin⟩ := hrow.resolve_left (by omega)
      obtain ⟨g0, g1, g2⟩ := hin.at k (by omega)
      have hall := fun W => HAll W (l[k]!)
      have hh1 := fun W => has_any (l[k]!) p W
      have hh2 := fun W => has_any (l[k]!) (p + size - 1) W
      have HP : Hid (fndP p size right l[k]! = (decide (bits .and .u8 l[k]!.r right = right) && hasB l[k]! p && hasB l[k]! (p + size - 1))) := (rP_eq _ _ _ _ H0.out).symm
      clear hl hrow hin HAll
      generalize hx : l[k]! = x at *
      have HX := Lib.hid hx
      clear hx
      generalize hasB x p = B1 at *
      generalize hasB x (p + size - 1) = B2 at *
      generalize decide (bits .and .u8 x.r right = right) = B0 at *
      generalize x.b = b at *
      generalize x.s = s at *
      generalize x.r = r at *
      have HNext : Hid (fndP p size right x = false → ∀ j, j < k + 1 → fndP p size right l[j]! = false) := fun h j hj => by
        by_cases e : j = k
        · subst e; rw [HX.out]; exact h
        · exact HNo.out j (by omega)
      have g0' : (wr.alloc (.cells #[.int .u32 b, .int .u32 s, .int .u8 r] 68)).cell? ⟨rb, off + k * 3, none⟩ = some (.int .u32 b) := by
        rw [World.cell?_of_block (Below.heap_alloc _ _ _ hrl)]; exact g0
      have g1' : (wr.alloc (.cells #[.int .u32 b, .int .u32 s, .int .u8 r] 68)).cell? ⟨rb, off + k * 3 + 1, none⟩ = some (.int .u32 s) := by
        rw [World.cell?_of_block (Below.heap_alloc _ _ _ hrl)]; exact g1
      have g2' : (wr.alloc (.cells #[.int .u32 b, .int .u32 s, .int .u8 r] 68)).cell? ⟨rb, off + k * 3 + 2, none⟩ = some (.int .u8 r) := by
        rw [World.cell?_of_block (Below.heap_alloc _ _ _ hrl)]; exact g2
      clear hrl
      cases B0 <;> cases B1 <;> cases B2
      case true.true.true =>
        have HHit : Hid (fnd l p size right = some k) := fnd_hit (by have := H0.out; omega) (by rw [HLen.out]; exact hlt) (by rw [HX.out, HP.out]; rfl) HNo.out
        go_wp2_with (first
          | (go_at_call 36; refine (hall _).mono ?_; rintro e w1 ⟨rfl, rfl⟩)
          | (go_at_call 37; with_reducible refine (hh1 _).mono ?_; rintro e w1 ⟨rfl, rfl⟩)
          | (go_at_call 37; with_reducible refine (hh2 _).mono ?_; rintro e w1 ⟨rfl, rfl⟩))
        refine bodyPost_ret (v := .tuple #[.int .i64 k, .bool true]) (by simp [results, Try.f35, go_sem]) rfl ?_
        exact ⟨by rw [HHit.out]; rfl, HB.out.trans (Below.mono (by go_grown) HB.out.size)⟩
      all_goals
        have HF : Hid (fndP p size right x = false) := HP.out
        go_wp2_with (first
          | (go_at_call 36; refine (hall _).mono ?_; rintro e w1 ⟨rfl, rfl⟩)
          | (go_at_call 37; with_reducible refine (hh1 _).mono ?_; rintro e w1 ⟨rfl, rfl⟩)
          | (go_at_call 37; with_reducible refine (hh2 _).mono ?_; rintro e w1 ⟨rfl, rfl⟩))
        go_roundw
        case rel => exact ⟨k + 1, by omega, by go_num, HNext.out HF.out, HB.out.trans (Below.mono (by go_grown) HB.out.size)⟩
        case measure => simp [intOf]; omega
    · have hd : decide ((k : Int) < (n : Int)) = false := by simp; omega
      have HE : Hid (fnd l p size right = none) := fnd_miss fun j hj => HNo.out j (by have := HLen.out; omega)
      go_wp2_with fail
      refine bodyPost_ret (v := .tuple #[.int .i64 0, .bool false]) (by simp [results, Try.f35, go_sem]) rfl ?_
      exact ⟨by rw [HE.out]; rfl, HB.out⟩
end Ram
end Go.Proofs.Ythpimoinognkhaa
