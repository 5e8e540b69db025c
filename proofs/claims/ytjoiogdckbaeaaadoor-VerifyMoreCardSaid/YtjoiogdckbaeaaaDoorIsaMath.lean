/- Instructions, in numbers: which there are, their bytes, their text, their names. No program. -/
import Derived.Lib.ItoaNum
import Derived.Lib.Hide
import Derived.KernelRfl
namespace Go.Proofs.YtjoiogdckbaeaaaDoor
namespace Isa
open Go.Lib
set_option linter.unusedVariables false
set_option linter.unusedSimpArgs false
/-- an instruction, or what is none -/
structure Iv where
  op : Int
  a : Int
  b : Int
  c : Int
deriving DecidableEq
structure Iv.wf (i : Iv) : Prop where
  op : 0 ≤ i.op ∧ i.op ≤ 255
  a : 0 ≤ i.a ∧ i.a ≤ 255
  b : 0 ≤ i.b ∧ i.b ≤ 65535
  c : 0 ≤ i.c ∧ i.c ≤ 4294967295
theorem Iv.eq_of {i j : Iv} (h1 : i.op = j.op) (h2 : i.a = j.a) (h3 : i.b = j.b) (h4 : i.c = j.c) : i = j := by
  obtain ⟨a, b, c, d⟩ := i
  obtain ⟨a', b', c', d'⟩ := j
  simp only at h1 h2 h3 h4
  subst h1 h2 h3 h4
  rfl
/-- what names C alone; A (1, 2, 4) and C; A and B; A; nothing -/
def isC (op : Int) : Bool := op == 1 || op == 19 || op == 20
def isM (op : Int) : Bool := op == 17 || op == 18
def isAB (op : Int) : Bool := op == 23 || op == 25
def isA (op : Int) : Bool := op == 21 || op == 22 || op == 24 || op == 26
def mayI (i : Iv) : Bool :=
  if isC i.op then i.a == 0 && i.b == 0
  else if isM i.op then (i.a == 1 || i.a == 2 || i.a == 4) && i.b == 0
  else if isAB i.op then decide (i.a < 16) && decide (i.b < 16) && i.c == 0
  else if isA i.op then decide (i.a < 16) && i.b == 0 && i.c == 0
  else decide (1 ≤ i.op) && decide (i.op ≤ 27) && i.a == 0 && i.b == 0 && i.c == 0
theorem mayI_op {i : Iv} (h : mayI i = true) : 1 ≤ i.op ∧ i.op ≤ 27 := by
  unfold mayI isC isM isAB isA at h
  split at h
  · rename_i h1; simp at h1; omega
  · split at h
    · rename_i h1; simp at h1; omega
    · split at h
      · rename_i h1; simp at h1; omega
      · split at h
        · rename_i h1; simp at h1; omega
        · simp at h; omega
/-! ### Names -/
def names : List (List UInt8) := [[], [112, 117, 115, 104], [100, 117, 112], [100, 114, 111, 112], [115, 119, 97, 112], [97, 100, 100], [115, 117, 98], [109, 117, 108], [100, 105, 118], [109, 111, 100], [97, 110, 100], [111, 114], [120, 111, 114], [115, 104, 108], [115, 104, 114], [101, 113], [108, 101, 115, 115],
  [108, 111, 97, 100], [115, 116, 111, 114, 101], [106, 117, 109, 112], [122, 101, 114, 111], [105, 110], [111, 117, 116], [114, 101, 97, 100], [97, 103, 101], [112, 117, 116], [115, 101, 110, 100], [121, 105, 101, 108, 100]]
def nm (op : Int) : List UInt8 := names.getD op.toNat []
def takesL : List Int := [0, 0, 1, 1, 2, 2, 2, 2, 2, 2, 2, 2, 2, 2, 2, 2, 2, 1, 2, 0, 1, 0, 1, 0, 0, 1, 0, 0]
def givesL : List Int := [0, 1, 2, 0, 2, 1, 1, 1, 1, 1, 1, 1, 1, 1, 1, 1, 1, 1, 0, 0, 0, 1, 0, 1, 1, 0, 0, 0]
def takesI (op : Int) : Int := takesL.getD op.toNat 0
def givesI (op : Int) : Int := givesL.getD op.toNat 0
def jumpsI (op : Int) : Bool := op == 19 || op == 20
/-- the Op of a name: from the number k on, in those left -/
def opFrom (l : List UInt8) : List (List UInt8) → Nat → Nat
  | [], _ => 0
  | n :: r, k => if n = l then k else opFrom l r (k + 1)
def opI (l : List UInt8) : Int := (opFrom l (names.drop 1) 1 : Nat)
theorem opFrom_at (l : List UInt8) : ∀ (r : List (List UInt8)) (k j : Nat), j < r.length → (∀ t, t < j → r.getD t [] ≠ l) → r.getD j [] = l → opFrom l r k = k + j
  | [], k, j, h, _, _ => by simp at h
  | n :: r, k, 0, _, _, h => by
    have : n = l := by simpa using h
    simp [opFrom, this]
  | n :: r, k, j + 1, h, hn, he => by
    have h0 : n ≠ l := by have := hn 0 (by omega); simpa using this
    rw [opFrom, if_neg h0, opFrom_at l r (k + 1) j (by simpa using h) (fun t ht => by have := hn (t + 1) (by omega); simpa using this) (by simpa using he)]
    omega
theorem opFrom_none (l : List UInt8) : ∀ (r : List (List UInt8)) (k : Nat), (∀ t, t < r.length → r.getD t [] ≠ l) → opFrom l r k = 0
  | [], k, _ => rfl
  | n :: r, k, hn => by
    have h0 : n ≠ l := by have := hn 0 (by simp); simpa using this
    rw [opFrom, if_neg h0, opFrom_none l r (k + 1) (fun t ht => by have := hn (t + 1) (by simpa using ht); simpa using this)]
/-- the walk through the names: none of those up to k is l -/
theorem opI_at (l : List UInt8) (k : Nat) (h1 : 1 ≤ k) (hk : k < 28) (hn : ∀ t, 1 ≤ t → t < k → nm t ≠ l) (he : nm k = l) : opI l = k := by
  unfold opI
  rw [opFrom_at l (names.drop 1) 1 (k - 1) (by simp [names]; omega) (fun t ht e => hn (t + 1) (by omega) (by omega) (by
    rw [← e]; unfold nm; rw [Int.toNat_natCast, List.getD_eq_getElem?_getD, List.getD_eq_getElem?_getD, List.getElem?_drop, Nat.add_comm])) (by
    rw [← he]; unfold nm; rw [Int.toNat_natCast, List.getD_eq_getElem?_getD, List.getD_eq_getElem?_getD, List.getElem?_drop, show 1 + (k - 1) = k from by omega])]
  congr 1
  omega
theorem opI_none (l : List UInt8) (hn : ∀ t : Nat, 1 ≤ t → t < 28 → nm t ≠ l) : opI l = 0 := by
  unfold opI
  rw [opFrom_none l (names.drop 1) 1 (fun t ht e => hn (t + 1) (by omega) (by simp [names] at ht; omega) (by
    rw [← e]; unfold nm; rw [Int.toNat_natCast, List.getD_eq_getElem?_getD, List.getD_eq_getElem?_getD, List.getElem?_drop, Nat.add_comm]))]
  rfl
theorem nm_fin : ∀ p : Fin 28, 1 ≤ p.val → opI (nm (p.val : Nat)) = (p.val : Nat) := by decide +kernel
theorem opI_nm {op : Int} (h : 1 ≤ op ∧ op ≤ 27) : opI (nm op) = op := by
  obtain ⟨k, rfl⟩ := Int.eq_ofNat_of_zero_le (show 0 ≤ op by omega)
  exact nm_fin ⟨k, by omega⟩ (by simp only; omega)
theorem nm_inj {o p : Int} (h : 1 ≤ o ∧ o ≤ 27) (h2 : 1 ≤ p ∧ p ≤ 27) (e : nm o = nm p) : o = p := by
  rw [← opI_nm h, e, opI_nm h2]
theorem nm_low_fin : ∀ p : Fin 28, (nm (p.val : Nat)).all (fun x => decide (97 ≤ x.toNat ∧ x.toNat ≤ 122)) = true := by decide +kernel
theorem nm_low {op : Int} (h : 1 ≤ op ∧ op ≤ 27) : ∀ x ∈ nm op, 97 ≤ x.toNat ∧ x.toNat ≤ 122 := by
  obtain ⟨k, rfl⟩ := Int.eq_ofNat_of_zero_le (show 0 ≤ op by omega)
  intro x hx
  have := List.all_eq_true.1 (nm_low_fin ⟨k, by omega⟩) x hx
  simpa using this
theorem nm_len_fin : ∀ p : Fin 28, 1 ≤ p.val → 2 ≤ (nm (p.val : Nat)).length ∧ (nm (p.val : Nat)).length ≤ 5 := by decide +kernel
theorem nm_len {op : Int} (h : 1 ≤ op ∧ op ≤ 27) : 2 ≤ (nm op).length ∧ (nm op).length ≤ 5 := by
  obtain ⟨k, rfl⟩ := Int.eq_ofNat_of_zero_le (show 0 ≤ op by omega)
  exact nm_len_fin ⟨k, by omega⟩ (by simp only; omega)
/-! ### Digits -/
def dd (n : Int) : List UInt8 := decDigits n.toNat
theorem digit_val (k : Nat) (h : k < 10) : (UInt8.ofNat (48 + k)).toNat = 48 + k := by rw [UInt8.toNat_ofNat']; omega
theorem decDigits_digit (u : Nat) : ∀ x ∈ decDigits u, 48 ≤ x.toNat ∧ x.toNat ≤ 57 := by
  induction u using Nat.strongRecOn with
  | _ u ih =>
    intro x hx
    by_cases h : u < 10
    · rw [decDigits, dif_pos h] at hx
      rw [List.mem_singleton.1 hx, digit_val u h]; omega
    · rw [decDigits, dif_neg h] at hx
      rcases List.mem_append.1 hx with h1 | h1
      · exact ih (u / 10) (by omega) x h1
      · rw [List.mem_singleton.1 h1, digit_val _ (by omega)]; omega
theorem decDigits_ne (u : Nat) : decDigits u ≠ [] := by
  rw [decDigits]; split <;> simp
theorem decDigits_len (k : Nat) : ∀ u : Nat, u < 10 ^ (k + 1) → (decDigits u).length ≤ k + 1 := by
  induction k with
  | zero => intro u hu; rw [decDigits, dif_pos (by simpa using hu)]; simp
  | succ k ih =>
    intro u hu
    by_cases h : u < 10
    · rw [decDigits, dif_pos h]; simp
    · rw [decDigits, dif_neg h]
      have := ih (u / 10) (by rw [Nat.pow_succ] at hu; omega)
      simp; omega
/-- the number that digits stand for -/
def valD (l : List UInt8) : Nat := l.foldl (fun v x => v * 10 + (x.toNat - 48)) 0
theorem valD_add (l : List UInt8) (x : UInt8) : valD (l ++ [x]) = valD l * 10 + (x.toNat - 48) := by simp [valD]
theorem valD_dec (u : Nat) : valD (decDigits u) = u := by
  induction u using Nat.strongRecOn with
  | _ u ih =>
    by_cases h : u < 10
    · rw [decDigits, dif_pos h]
      have := digit_val u h
      simp only [valD, List.foldl_cons, List.foldl_nil, this]; omega
    · rw [decDigits, dif_neg h, valD_add, ih (u / 10) (by omega), digit_val _ (by omega)]; omega
theorem dd_inj {m n : Int} (hm : 0 ≤ m) (hn : 0 ≤ n) (e : dd m = dd n) : m = n := by
  have := congrArg valD e
  unfold dd at this
  rw [valD_dec, valD_dec] at this
  omega
theorem dd_digit (n : Int) : ∀ x ∈ dd n, 48 ≤ x.toNat ∧ x.toNat ≤ 57 := decDigits_digit _
/-- digits, and behind them something that begins with no digit: told apart -/
theorem split_digits {l m r s : List UInt8} (hl : ∀ x ∈ l, 48 ≤ x.toNat ∧ x.toNat ≤ 57) (hm : ∀ x ∈ m, 48 ≤ x.toNat ∧ x.toNat ≤ 57) (h : l ++ 32 :: r = m ++ 32 :: s) : l = m ∧ r = s := by
  induction l generalizing m with
  | nil =>
    cases m with
    | nil => simpa using h
    | cons x m =>
      have := (List.cons.inj h).1
      have h2 := hm x (by simp)
      rw [← this] at h2
      simp at h2
  | cons y l ih =>
    cases m with
    | nil =>
      have := (List.cons.inj h).1
      have h2 := hl y (by simp)
      rw [this] at h2
      simp at h2
    | cons x m =>
      obtain ⟨e1, e2⟩ := List.cons.inj h
      obtain ⟨e3, e4⟩ := ih (m := m) (fun x hx => hl x (by simp [hx])) (fun x hx => hm x (by simp [hx])) e2
      exact ⟨by rw [e1, e3], e4⟩
/-! ### The text -/
/-- what stands behind the name -/
def rest (i : Iv) : List UInt8 :=
  if isC i.op then 32 :: dd i.c
  else if isM i.op then dd i.a ++ 32 :: dd i.c
  else if isA i.op then 32 :: dd i.a
  else if isAB i.op then 32 :: (dd i.a ++ 32 :: dd i.b)
  else []
def txt (i : Iv) : List UInt8 := if mayI i then nm i.op ++ rest i else []
theorem rest_stop (i : Iv) : rest i = [] ∨ ∃ x r, rest i = x :: r ∧ x.toNat < 97 := by
  unfold rest
  split
  · exact .inr ⟨_, _, rfl, by decide⟩
  · split
    · right
      cases e : dd i.a with
      | nil => exact absurd e (decDigits_ne _)
      | cons x r => exact ⟨x, _, rfl, by have := dd_digit i.a x (by rw [e]; simp); omega⟩
    · split
      · exact .inr ⟨_, _, rfl, by decide⟩
      · split
        · exact .inr ⟨_, _, rfl, by decide⟩
        · exact .inl rfl
theorem txt_may {i : Iv} (h : mayI i = true) : txt i = nm i.op ++ rest i := by unfold txt; rw [if_pos h]
theorem txt_none {i : Iv} (h : mayI i = false) : txt i = [] := by unfold txt; rw [h]; rfl
theorem txt_len {i : Iv} (h : mayI i = true) : (nm i.op).length ≤ (txt i).length := by rw [txt_may h]; simp
theorem txt_take {i : Iv} (h : mayI i = true) : (txt i).take (nm i.op).length = nm i.op := by rw [txt_may h]; simp
theorem txt_low {i : Iv} (h : mayI i = true) {k : Nat} (hk : k < (nm i.op).length) : 97 ≤ ((txt i).getD k 0).toNat ∧ ((txt i).getD k 0).toNat ≤ 122 := by
  rw [txt_may h, List.getD_eq_getElem?_getD, List.getElem?_append_left hk, List.getElem?_eq_getElem hk]
  exact nm_low (mayI_op h) _ (List.getElem_mem hk)
theorem txt_stop {i : Iv} (h : mayI i = true) : (nm i.op).length = (txt i).length ∨ ((txt i).getD (nm i.op).length 0).toNat < 97 := by
  rw [txt_may h]
  rcases rest_stop i with e | ⟨x, r, e, hx⟩
  · left; rw [e]; simp
  · right
    rw [e, List.getD_eq_getElem?_getD, List.getElem?_append_right (Nat.le_refl _)]
    simpa using hx
/-- letters ahead of what is no letter: told apart -/
theorem split_low {l m r s : List UInt8} (hl : ∀ x ∈ l, 97 ≤ x.toNat ∧ x.toNat ≤ 122) (hm : ∀ x ∈ m, 97 ≤ x.toNat ∧ x.toNat ≤ 122) (hr : r = [] ∨ ∃ x r', r = x :: r' ∧ x.toNat < 97) (hs : s = [] ∨ ∃ x r', s = x :: r' ∧ x.toNat < 97)
    (h : l ++ r = m ++ s) : l = m ∧ r = s := by
  induction l generalizing m with
  | nil =>
    cases m with
    | nil => simpa using h
    | cons x m =>
      rcases hr with rfl | ⟨y, r', rfl, hy⟩
      · simp at h
      · have := (List.cons.inj h).1
        have h2 := hm x (by simp)
        rw [← this] at h2
        omega
  | cons y l ih =>
    cases m with
    | nil =>
      rcases hs with rfl | ⟨x, r', rfl, hx⟩
      · simp at h
      · have := (List.cons.inj h).1
        have h2 := hl y (by simp)
        rw [this] at h2
        omega
    | cons x m =>
      obtain ⟨e1, e2⟩ := List.cons.inj h
      obtain ⟨e3, e4⟩ := ih (m := m) (fun x hx => hl x (by simp [hx])) (fun x hx => hm x (by simp [hx])) e2
      exact ⟨by rw [e1, e3], e4⟩
theorem txt_inj {i j : Iv} (wi : i.wf) (wj : j.wf) (hi : mayI i = true) (hj : mayI j = true) (e : txt i = txt j) : i = j := by
  rw [txt_may hi, txt_may hj] at e
  obtain ⟨e1, e2⟩ := split_low (nm_low (mayI_op hi)) (nm_low (mayI_op hj)) (rest_stop i) (rest_stop j) e
  have eo := nm_inj (mayI_op hi) (mayI_op hj) e1
  unfold rest at e2
  unfold mayI at hi hj
  rw [← eo] at e2 hj
  by_cases h1 : isC i.op = true
  · rw [if_pos h1] at hi hj e2
    rw [if_pos h1] at e2
    simp at hi hj
    exact Iv.eq_of eo (by omega) (by omega) (dd_inj wi.c.1 wj.c.1 (List.cons.inj e2).2)
  · rw [if_neg h1] at hi hj e2
    rw [if_neg h1] at e2
    by_cases h2 : isM i.op = true
    · rw [if_pos h2] at hi hj e2
      rw [if_pos h2] at e2
      obtain ⟨e3, e4⟩ := split_digits (dd_digit _) (dd_digit _) e2
      simp at hi hj
      exact Iv.eq_of eo (dd_inj wi.a.1 wj.a.1 e3) (by omega) (dd_inj wi.c.1 wj.c.1 e4)
    · rw [if_neg h2] at hi hj e2
      rw [if_neg h2] at e2
      by_cases h3 : isA i.op = true
      · rw [if_pos h3] at e2
        rw [if_pos h3] at e2
        have h4 : ¬ isAB i.op = true := by unfold isA isAB at *; simp at h3 ⊢; omega
        rw [if_neg h4, if_pos h3] at hi hj
        simp at hi hj
        exact Iv.eq_of eo (dd_inj wi.a.1 wj.a.1 (List.cons.inj e2).2) (by omega) (by omega)
      · rw [if_neg h3] at e2
        rw [if_neg h3] at e2
        by_cases h4 : isAB i.op = true
        · rw [if_pos h4] at hi hj e2
          rw [if_pos h4] at e2
          obtain ⟨e3, e4⟩ := split_digits (dd_digit _) (dd_digit _) (List.cons.inj e2).2
          simp at hi hj
          exact Iv.eq_of eo (dd_inj wi.a.1 wj.a.1 e3) (dd_inj wi.b.1 wj.b.1 e4) (by omega)
        · rw [if_neg h4, if_neg h3] at hi hj
          simp at hi hj
          exact Iv.eq_of eo (by omega) (by omega) (by omega)
/-! ### Bytes -/
def bytesI (i : Iv) : List Int := [i.op, i.a, i.b % 256, i.b / 256, i.c % 256, i.c / 256 % 256, i.c / 65536 % 256, i.c / 16777216]
def readI (l : List Int) : Iv := ⟨l.getD 0 0, l.getD 1 0, l.getD 2 0 + 256 * l.getD 3 0, l.getD 4 0 + 256 * l.getD 5 0 + 65536 * l.getD 6 0 + 16777216 * l.getD 7 0⟩
theorem bytesI_len (i : Iv) : (bytesI i).length = 8 := rfl
theorem readI_bytes (i : Iv) (r : List Int) : readI (bytesI i ++ r) = i := by
  refine Iv.eq_of rfl rfl ?_ ?_
  · show i.b % 256 + 256 * (i.b / 256) = i.b; omega
  · show i.c % 256 + 256 * (i.c / 256 % 256) + 65536 * (i.c / 65536 % 256) + 16777216 * (i.c / 16777216) = i.c; omega
theorem bytesI_byte {i : Iv} (h : i.wf) : ∀ x ∈ bytesI i, 0 ≤ x ∧ x ≤ 255 := by
  obtain ⟨⟨h1, h2⟩, ⟨h3, h4⟩, ⟨h5, h6⟩, ⟨h7, h8⟩⟩ := h
  intro x hx
  simp [bytesI] at hx
  omega
theorem at8 {l : List Int} (hb : ∀ x ∈ l, 0 ≤ x ∧ x ≤ 255) (k : Nat) : 0 ≤ l.getD k 0 ∧ l.getD k 0 ≤ 255 := by
  rw [List.getD_eq_getElem?_getD]
  cases e : l[k]? with
  | none => simp
  | some x => exact hb x (List.mem_of_getElem? e)
theorem readI_wf {l : List Int} (hb : ∀ x ∈ l, 0 ≤ x ∧ x ≤ 255) : (readI l).wf := by
  have h0 := at8 hb 0
  have h1 := at8 hb 1
  have h2 := at8 hb 2
  have h3 := at8 hb 3
  have h4 := at8 hb 4
  have h5 := at8 hb 5
  have h6 := at8 hb 6
  have h7 := at8 hb 7
  exact ⟨by simp only [readI]; omega, by simp only [readI]; omega, by simp only [readI]; omega, by simp only [readI]; omega⟩
theorem bytesI_read {l : List Int} (hb : ∀ x ∈ l, 0 ≤ x ∧ x ≤ 255) (h8 : 8 ≤ l.length) : bytesI (readI l) = l.take 8 := by
  match l, h8 with
  | x0 :: x1 :: x2 :: x3 :: x4 :: x5 :: x6 :: x7 :: r, _ =>
    have h0 := hb x0 (by simp)
    have h1 := hb x1 (by simp)
    have h2 := hb x2 (by simp)
    have h3 := hb x3 (by simp)
    have h4 := hb x4 (by simp)
    have h5 := hb x5 (by simp)
    have h6 := hb x6 (by simp)
    have h7 := hb x7 (by simp)
    simp only [bytesI, readI, List.getD_cons_zero, List.getD_cons_succ, List.take_succ_cons, List.take_zero]
    have e1 : (x2 + 256 * x3) % 256 = x2 := by omega
    have e2 : (x2 + 256 * x3) / 256 = x3 := by omega
    have e3 : (x4 + 256 * x5 + 65536 * x6 + 16777216 * x7) % 256 = x4 := by omega
    have e4 : (x4 + 256 * x5 + 65536 * x6 + 16777216 * x7) / 256 % 256 = x5 := by omega
    have e5 : (x4 + 256 * x5 + 65536 * x6 + 16777216 * x7) / 65536 % 256 = x6 := by omega
    have e6 : (x4 + 256 * x5 + 65536 * x6 + 16777216 * x7) / 16777216 = x7 := by omega
    rw [e1, e2, e3, e4, e5, e6]
/-- what Read answers: the instruction, the error -/
def rdE (l : List Int) : Int := if l.length < 8 then 40 else if mayI (readI l) then 0 else 90
def rdI (l : List Int) : Iv := if rdE l = 0 then readI l else ⟨0, 0, 0, 0⟩
end Isa
end Go.Proofs.YtjoiogdckbaeaaaDoor
