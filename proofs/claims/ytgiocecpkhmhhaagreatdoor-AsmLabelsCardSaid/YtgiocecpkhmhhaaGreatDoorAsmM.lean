/- Programs as text and as bytes, in numbers: which lines may be, labels, what is assembled, the text, what is parsed. No program. · Numbers as digits and back; the words of a line and back: one (wA x) is x, and only these words are read so. No program. · What is read as a line has just its words; words joined by blanks are told apart again. No program. · What a program is written as is parsed as it was, also with more blanks and remarks; what is parsed is written, and parsed as the same. No program. · Other labels make no difference tg what is assembled; instructions are read from their bytes. No program. -/
import Derived.Test.YtgiocecpkhmhhaaGreatDoorIsaMath
namespace Go.Proofs.YtgiocecpkhmhhaaGreatDoor
namespace Asm
open Go.Lib Isa
set_option linter.unusedVariables false
set_option linter.unusedSimpArgs false
/-- a line of a program -/
structure Av where
  lb : List UInt8
  i : Iv
  tg : List UInt8
deriving DecidableEq
theorem Av.eq_of {x y : Av} (h1 : x.lb = y.lb) (h2 : x.i = y.i) (h3 : x.tg = y.tg) : x = y := by
  obtain ⟨a, b, c⟩ := x
  obtain ⟨a', b', c'⟩ := y
  simp only at h1 h2 h3
  subst h1 h2 h3
  rfl
def av0 : Av := ⟨[], ⟨0, 0, 0, 0⟩, []⟩
/-! ### The first that is so -/
/-- the least k below n with p k, or n -/
def fst (p : Nat → Bool) : Nat → Nat → Nat
  | _, 0 => 0
  | k, n + 1 => if p k then 0 else fst p (k + 1) n + 1
def first (p : Nat → Bool) (n : Nat) : Nat := fst p 0 n
theorem fst_none (p : Nat → Bool) : ∀ (n k : Nat), (∀ t, k ≤ t → t < k + n → p t = false) → fst p k n = n
  | 0, k, _ => rfl
  | n + 1, k, h => by
    rw [fst, h k (Nat.le_refl _) (by omega), if_neg (by simp), fst_none p n (k + 1) (fun t h1 h2 => h t (by omega) (by omega))]
theorem fst_at (p : Nat → Bool) : ∀ (n k j : Nat), j < n → (∀ t, k ≤ t → t < k + j → p t = false) → p (k + j) = true → fst p k n = j
  | 0, k, j, h, _, _ => by omega
  | n + 1, k, 0, _, _, h => by rw [fst, if_pos (by simpa using h)]
  | n + 1, k, j + 1, hj, hn, h => by
    rw [fst, hn k (Nat.le_refl _) (by omega), if_neg (by simp), fst_at p n (k + 1) j (by omega) (fun t h1 h2 => hn t (by omega) (by omega)) (by rw [← h]; congr 1; omega)]
theorem fst_le (p : Nat → Bool) : ∀ (n k : Nat), fst p k n ≤ n
  | 0, k => Nat.le_refl _
  | n + 1, k => by rw [fst]; split; omega; have := fst_le p n (k + 1); omega
theorem fst_hit (p : Nat → Bool) : ∀ (n k : Nat), fst p k n < n → p (k + fst p k n) = true
  | 0, k, h => by rw [fst] at h; omega
  | n + 1, k, h => by
    rw [fst] at h ⊢
    by_cases e : p k = true
    · rw [if_pos e]; simpa using e
    · rw [if_neg e] at h ⊢
      have := fst_hit p n (k + 1) (by omega)
      rw [← this]; congr 1; omega
theorem fst_miss (p : Nat → Bool) : ∀ (n k : Nat) t, k ≤ t → t < k + fst p k n → p t = false
  | 0, k, t, h1, h2 => by rw [fst] at h2; omega
  | n + 1, k, t, h1, h2 => by
    rw [fst] at h2
    by_cases e : p k = true
    · rw [if_pos e] at h2; omega
    · rw [if_neg e] at h2
      by_cases et : t = k
      · subst et; simpa using e
      · exact fst_miss p n (k + 1) t (by omega) (by omega)
theorem first_at {p : Nat → Bool} {n k : Nat} (hk : k < n) (hn : ∀ t, t < k → p t = false) (h : p k = true) : first p n = k :=
  fst_at p n 0 k hk (fun t _ h => hn t (by omega)) (by simpa using h)
theorem first_none {p : Nat → Bool} {n : Nat} (hn : ∀ t, t < n → p t = false) : first p n = n :=
  fst_none p n 0 (fun t _ h => hn t (by omega))
theorem first_le (p : Nat → Bool) (n : Nat) : first p n ≤ n := fst_le p n 0
theorem first_hit {p : Nat → Bool} {n : Nat} (h : first p n < n) : p (first p n) = true := by have := fst_hit p n 0 h; rw [Nat.zero_add] at this; exact this
theorem first_miss {p : Nat → Bool} {n t : Nat} (h : t < first p n) : p t = false := fst_miss p n 0 t (by omega) (by rw [Nat.zero_add]; exact h)
theorem first_congr {p q : Nat → Bool} {n : Nat} (h : ∀ t, t < n → p t = q t) : first p n = first q n := by
  by_cases hk : first q n < n
  · exact first_at hk (fun t ht => by rw [h t (by omega)]; exact first_miss ht) (by rw [h _ hk]; exact first_hit hk)
  · have := first_le q n
    have e : first q n = n := by omega
    rw [e]
    exact first_none (fun t ht => by rw [h t ht]; exact first_miss (n := n) (by omega))
/-! ### Labels, lines that may be -/
def small (x : UInt8) : Bool := decide (97 ≤ x.toNat) && decide (x.toNat ≤ 122)
def dgt (x : UInt8) : Bool := decide (48 ≤ x.toNat) && decide (x.toNat ≤ 57)
def lblc (x : UInt8) : Bool := small x || x.toNat == 95 || dgt x
def isLbl : List UInt8 → Bool
  | [] => false
  | x :: r => decide (r.length ≤ 15) && small x && r.all lblc
def mayA (x : Av) : Bool := (decide (x.lb = []) || isLbl x.lb) && mayI x.i && (decide (x.tg = []) || isLbl x.tg && jumpsI x.i.op && x.i.c == 0)
theorem isLbl_ne {s : List UInt8} (h : isLbl s = true) : s ≠ [] := by intro e; subst e; simp [isLbl] at h
theorem isLbl_len {s : List UInt8} (h : isLbl s = true) : s.length ≤ 16 := by
  cases s with
  | nil => simp
  | cons x r => simp [isLbl] at h; simp; omega
theorem isLbl_all {s : List UInt8} (h : isLbl s = true) : ∀ x ∈ s, lblc x = true := by
  cases s with
  | nil => simp
  | cons y r =>
    simp [isLbl] at h
    intro x hx
    rcases List.mem_cons.1 hx with rfl | hx
    · unfold lblc; rw [h.1.2]; simp
    · exact h.2 x hx
theorem lblc_byte {x : UInt8} (h : lblc x = true) : x ≠ 10 ∧ x ≠ 32 ∧ x ≠ 58 ∧ x ≠ 59 := by
  unfold lblc small dgt at h
  simp at h
  refine ⟨?_, ?_, ?_, ?_⟩ <;> (rintro rfl; simp at h)
/-! ### Assembled -/
def lbls (l : List Av) (s : List UInt8) : Nat := first (fun k => decide ((l.getD k av0).lb = s)) l.length
/-- the first line with a label; -1: there is none -/
def findA (l : List Av) (s : List UInt8) : Int := if lbls l s < l.length then (lbls l s : Int) else -1
def badL (l : List Av) (k : Nat) : Bool :=
  (decide ((l.getD k av0).lb ≠ []) && decide (findA l (l.getD k av0).lb ≠ k)) || (decide ((l.getD k av0).tg ≠ []) && decide (findA l (l.getD k av0).tg < 0))
def ins (l : List Av) (x : Av) : Iv := if x.tg = [] then x.i else ⟨x.i.op, x.i.a, x.i.b, findA l x.tg⟩
def asmA (l : List Av) : Nat := first (fun k => !mayA (l.getD k av0)) l.length
def asmB (l : List Av) : Nat := first (badL l) l.length
def asmL (l : List Av) : List Iv := if 16384 < l.length ∨ asmA l < l.length ∨ asmB l < l.length then [] else l.map (ins l)
def asmN (l : List Av) : Nat := if 16384 < l.length then 0 else if asmA l < l.length then asmA l else if asmB l < l.length then asmB l else 0
def asmE (l : List Av) : Int := if 16384 < l.length then 3 else if asmA l < l.length then 2 else if asmB l < l.length then 101 else 0
/-! ### Bytes -/
def bytesL (l : List Iv) : List Int := l.flatMap bytesI
def rdK (b : List Int) : Nat := first (fun k => decide (rdE (b.drop (8 * k)) ≠ 0)) (b.length / 8)
def rdLE (b : List Int) : Int := if 131072 < b.length then 3 else if b.length % 8 ≠ 0 then 40 else if rdK b < b.length / 8 then 90 else 0
def rdLN (b : List Int) : Nat := if 131072 < b.length then 0 else if b.length % 8 ≠ 0 then 0 else if rdK b < b.length / 8 then rdK b else 0
def rdL (b : List Int) : List Iv := if 131072 < b.length ∨ b.length % 8 ≠ 0 ∨ rdK b < b.length / 8 then [] else (List.range (b.length / 8)).map fun k => rdI (b.drop (8 * k))
/-! ### The text -/
def lineA (x : Av) : List UInt8 := (if x.lb = [] then [] else x.lb ++ [58, 32]) ++ (if x.tg = [] then txt x.i else nm x.i.op ++ 32 :: x.tg) ++ [10]
def textA (l : List Av) : List UInt8 := if l.all mayA then l.flatMap lineA else []
/-! ### What is parsed -/
def numI (s : List UInt8) : Int := if s ≠ [] ∧ s.all dgt = true ∧ (s.length = 1 ∨ s.getD 0 0 ≠ 48) ∧ valD s ≤ 4294967295 then (valD s : Int) else -1
def valI (s : List UInt8) (most : Int) : Int := if numI s ≤ most then numI s else -1
def flush (cur : List UInt8) : List (List UInt8) := if cur = [] then [] else [cur]
def wordsGo : List UInt8 → List UInt8 → List (List UInt8)
  | [], cur => flush cur
  | x :: r, cur => if x = 59 then flush cur else if x = 32 then flush cur ++ wordsGo r [] else wordsGo r (cur ++ [x])
def words (s : List UInt8) : List (List UInt8) := wordsGo s []
def nLoad : List UInt8 := [108, 111, 97, 100]
def nStore : List UInt8 := [115, 116, 111, 114, 101]
def opW (s : List UInt8) : Int × Int :=
  if s = nLoad ++ [49] then (17, 1) else if s = nLoad ++ [50] then (17, 2) else if s = nLoad ++ [52] then (17, 4)
  else if s = nStore ++ [49] then (18, 1) else if s = nStore ++ [50] then (18, 2) else if s = nStore ++ [52] then (18, 4)
  else if s = nLoad ∨ s = nStore then (0, 0) else (opI s, 0)
def want (o : Int) : Nat := if o == 23 || o == 25 then 2 else if (decide (2 ≤ o) && decide (o ≤ 16)) || o == 27 then 0 else 1
/-- an instruction's words, behind a label -/
def oneI (lb : List UInt8) (w : List UInt8) (r : List (List UInt8)) : Av × Int :=
  if (opW w).1 = 0 ∨ r.length ≠ want (opW w).1 then (av0, 100)
  else if want (opW w).1 = 0 then (⟨lb, ⟨(opW w).1, (opW w).2, 0, 0⟩, []⟩, 0)
  else if jumpsI (opW w).1 = true ∧ isLbl (r.getD 0 []) = true then (⟨lb, ⟨(opW w).1, (opW w).2, 0, 0⟩, r.getD 0 []⟩, 0)
  else if isC (opW w).1 = true ∨ isM (opW w).1 = true then
    if valI (r.getD 0 []) 4294967295 < 0 then (av0, 42) else (⟨lb, ⟨(opW w).1, (opW w).2, 0, valI (r.getD 0 []) 4294967295⟩, []⟩, 0)
  else if valI (r.getD 0 []) 15 < 0 ∨ want (opW w).1 = 2 ∧ valI (r.getD 1 []) 15 < 0 then (av0, 42)
  else (⟨lb, ⟨(opW w).1, valI (r.getD 0 []) 15, if want (opW w).1 = 2 then valI (r.getD 1 []) 15 else 0, 0⟩, []⟩, 0)
def oneR (lb : List UInt8) : List (List UInt8) → Av × Int
  | [] => (av0, 100)
  | w :: r => oneI lb w r
def one (l : List (List UInt8)) : Av × Int :=
  if (l.getD 0 []).getLast? = some 58 then
    if isLbl ((l.getD 0 []).dropLast) = true then oneR (l.getD 0 []).dropLast (l.drop 1) else (av0, 101)
  else oneR [] l
/-- the lines of a text: what stands up tg each byte 10, and behind the last -/
def splitL : List UInt8 → List UInt8 → List (List UInt8)
  | [], cur => [cur]
  | x :: r, cur => if x = 10 then cur :: splitL r [] else splitL r (cur ++ [x])
def parseGo : List (List UInt8) → Nat → List Av → List Av × Int × Int
  | [], _, out => (out, 0, 0)
  | s :: r, n, out =>
    if words s = [] then parseGo r (n + 1) out
    else if (one (words s)).2 ≠ 0 then ([], n, (one (words s)).2)
    else if out.length = 16384 then ([], n, 3)
    else parseGo r (n + 1) (out ++ [(one (words s)).1])
def parseA (s : List UInt8) : List Av × Int × Int := if 524288 < s.length then ([], 0, 3) else parseGo (splitL s []) 1 []
end Asm
end Go.Proofs.YtgiocecpkhmhhaaGreatDoor
namespace Go.Proofs.YtgiocecpkhmhhaaGreatDoor
namespace Asm
open Go.Lib Isa
set_option linter.unusedVariables false
set_option linter.unusedSimpArgs false
/-! ### Numbers -/
theorem dec_all (u : Nat) : (decDigits u).all dgt = true := by
  rw [List.all_eq_true]
  intro x hx
  have := decDigits_digit u x hx
  unfold dgt
  simp
  omega
theorem dec_head (u : Nat) : (decDigits u).length = 1 ∨ (decDigits u).getD 0 0 ≠ 48 := by
  induction u using Nat.strongRecOn with
  | _ u ih =>
    by_cases h : u < 10
    · left; rw [decDigits, dif_pos h]; rfl
    · right
      rw [decDigits, dif_neg h]
      have hne := decDigits_ne (u / 10)
      have e : (decDigits (u / 10) ++ [UInt8.ofNat (48 + u % 10)]).getD 0 0 = (decDigits (u / 10)).getD 0 0 := by
        cases hd : decDigits (u / 10) with
        | nil => exact absurd hd hne
        | cons y r => rfl
      rw [e]
      rcases ih (u / 10) (by omega) with h1 | h1
      · by_cases h10 : u / 10 < 10
        · rw [decDigits, dif_pos h10]
          intro hc
          have h2 : UInt8.ofNat (48 + u / 10) = 48 := hc
          have h3 := congrArg UInt8.toNat h2
          rw [digit_val _ h10] at h3
          have : (48 : UInt8).toNat = 48 := rfl
          omega
        · rw [decDigits, dif_neg h10] at h1
          have := decDigits_ne (u / 10 / 10)
          cases hd : decDigits (u / 10 / 10) with
          | nil => exact absurd hd this
          | cons y r => rw [hd] at h1; simp at h1
      · exact h1
theorem num_dd {n : Int} (h0 : 0 ≤ n) (h1 : n ≤ 4294967295) : numI (dd n) = n := by
  unfold numI dd
  have hv := valD_dec n.toNat
  rw [if_pos ⟨decDigits_ne _, dec_all _, dec_head _, by rw [hv]; omega⟩, hv]
  omega
theorem dgt_val {x : UInt8} (h : dgt x = true) : 48 ≤ x.toNat ∧ x.toNat ≤ 57 := by unfold dgt at h; simp at h; exact h
theorem dec_of (k : Nat) : ∀ (s : List UInt8), s.length = k → s ≠ [] → s.all dgt = true → (s.length = 1 ∨ s.getD 0 0 ≠ 48) → s = decDigits (valD s) ∧ (s.getD 0 0 ≠ 48 → 1 ≤ valD s) := by
  induction k with
  | zero => intro s h hne; exact absurd (List.length_eq_zero_iff.1 h) hne
  | succ k ih =>
    intro s hl hne had hz
    have e := List.dropLast_concat_getLast hne
    generalize hx : s.getLast hne = x at e
    generalize ht : s.dropLast = t at e
    have htl : t.length = k := by rw [← ht, List.length_dropLast, hl]; omega
    have hax : dgt x = true ∧ t.all dgt = true := by
      rw [← e, List.all_append] at had
      simp at had
      exact ⟨had.2, by simpa using had.1⟩
    have hxv := dgt_val hax.1
    have hxe : UInt8.ofNat (48 + (x.toNat - 48)) = x := by
      apply UInt8.toNat_inj.1
      rw [digit_val _ (by omega)]
      omega
    by_cases hte : t = []
    · subst hte
      have es : s = [x] := by rw [← e]; rfl
      subst es
      have hv : valD [x] = x.toNat - 48 := by simp [valD]
      rw [hv]
      refine ⟨?_, fun h => ?_⟩
      · rw [decDigits, dif_pos (by omega), hxe]
      · by_cases h2 : x.toNat = 48
        · have h48 : x = 48 := UInt8.toNat_inj.1 (by rw [h2]; try rfl)
          exact absurd h48 (by simpa using h)
        · omega
    · have hg : s.getD 0 0 = t.getD 0 0 := by
        rw [← e]
        cases t with
        | nil => exact absurd rfl hte
        | cons y r => rfl
      have hz2 : s.getD 0 0 ≠ 48 := by
        rcases hz with h1 | h1
        · rw [← e] at h1
          have : t.length = 0 := by simpa using h1
          exact absurd (List.length_eq_zero_iff.1 this) hte
        · exact h1
      obtain ⟨i1, i2⟩ := ih t htl hte hax.2 (.inr (by rw [← hg]; exact hz2))
      have i3 := i2 (by rw [← hg]; exact hz2)
      have hv : valD s = valD t * 10 + (x.toNat - 48) := by rw [← e]; exact valD_add t x
      refine ⟨?_, fun _ => by omega⟩
      rw [hv, decDigits, dif_neg (by omega), show (valD t * 10 + (x.toNat - 48)) / 10 = valD t from by omega, show (valD t * 10 + (x.toNat - 48)) % 10 = x.toNat - 48 from by omega, hxe, ← i1, e]
theorem num_inv {s : List UInt8} (h : 0 ≤ numI s) : s = dd (numI s) ∧ numI s ≤ 4294967295 := by
  unfold numI at h ⊢
  by_cases hc : s ≠ [] ∧ s.all dgt = true ∧ (s.length = 1 ∨ s.getD 0 0 ≠ 48) ∧ valD s ≤ 4294967295
  · rw [if_pos hc]
    refine ⟨?_, by omega⟩
    unfold dd
    rw [Int.toNat_natCast]
    exact (dec_of s.length s rfl hc.1 hc.2.1 hc.2.2.1).1
  · rw [if_neg hc] at h; omega
theorem val_dd {n m : Int} (h0 : 0 ≤ n) (h1 : n ≤ m) (h2 : m ≤ 4294967295) : valI (dd n) m = n := by
  unfold valI
  rw [num_dd h0 (by omega), if_pos h1]
theorem val_inv {s : List UInt8} {m : Int} (h : 0 ≤ valI s m) : s = dd (valI s m) ∧ valI s m ≤ m ∧ valI s m ≤ 4294967295 := by
  unfold valI at h ⊢
  by_cases hc : numI s ≤ m
  · rw [if_pos hc] at h ⊢
    have := num_inv h
    exact ⟨this.1, hc, this.2⟩
  · rw [if_neg hc] at h; omega
/-! ### The Op of a word -/
theorem opI_inv {s : List UInt8} (h : opI s ≠ 0) : 1 ≤ opI s ∧ opI s ≤ 27 ∧ nm (opI s) = s := by
  by_cases hx : ∃ t : Nat, 1 ≤ t ∧ t < 28 ∧ nm t = s
  · obtain ⟨t, h1, h2, rfl⟩ := hx
    have := opI_nm (op := (t : Int)) (by omega)
    rw [this]
    exact ⟨by omega, by omega, rfl⟩
  · exact absurd (opI_none s (fun t h1 h2 e => hx ⟨t, h1, h2, e⟩)) h
theorem opW_fin : ∀ p : Fin 28, 1 ≤ p.val → p.val ≠ 17 → p.val ≠ 18 → opW (nm (p.val : Nat)) = (((p.val : Nat) : Int), 0) := by decide +kernel
theorem opW_nm {o : Int} (h : 1 ≤ o ∧ o ≤ 27) (h7 : o ≠ 17) (h8 : o ≠ 18) : opW (nm o) = (o, 0) := by
  obtain ⟨k, rfl⟩ := Int.eq_ofNat_of_zero_le (show 0 ≤ o by omega)
  exact opW_fin ⟨k, by omega⟩ (by simp only; omega) (by simp only; omega) (by simp only; omega)
theorem opW_m {o a : Int} (h : o = 17 ∨ o = 18) (ha : a = 1 ∨ a = 2 ∨ a = 4) : opW (nm o ++ dd a) = (o, a) := by
  rcases h with rfl | rfl <;> rcases ha with rfl | rfl | rfl <;> decide +kernel
/-- what an Op is read from -/
theorem opW_inv {s : List UInt8} (h : (opW s).1 ≠ 0) :
    (((opW s).1 = 17 ∨ (opW s).1 = 18) ∧ ((opW s).2 = 1 ∨ (opW s).2 = 2 ∨ (opW s).2 = 4) ∧ s = nm (opW s).1 ++ dd (opW s).2) ∨
      (1 ≤ (opW s).1 ∧ (opW s).1 ≤ 27 ∧ (opW s).1 ≠ 17 ∧ (opW s).1 ≠ 18 ∧ (opW s).2 = 0 ∧ s = nm (opW s).1) := by
  unfold opW at h ⊢
  by_cases h1 : s = nLoad ++ [49]
  · rw [if_pos h1]; left; subst h1; exact ⟨.inl rfl, .inl rfl, by decide +kernel⟩
  rw [if_neg h1] at h ⊢
  by_cases h2 : s = nLoad ++ [50]
  · rw [if_pos h2]; left; subst h2; exact ⟨.inl rfl, .inr (.inl rfl), by decide +kernel⟩
  rw [if_neg h2] at h ⊢
  by_cases h3 : s = nLoad ++ [52]
  · rw [if_pos h3]; left; subst h3; exact ⟨.inl rfl, .inr (.inr rfl), by decide +kernel⟩
  rw [if_neg h3] at h ⊢
  by_cases h4 : s = nStore ++ [49]
  · rw [if_pos h4]; left; subst h4; exact ⟨.inr rfl, .inl rfl, by decide +kernel⟩
  rw [if_neg h4] at h ⊢
  by_cases h5 : s = nStore ++ [50]
  · rw [if_pos h5]; left; subst h5; exact ⟨.inr rfl, .inr (.inl rfl), by decide +kernel⟩
  rw [if_neg h5] at h ⊢
  by_cases h6 : s = nStore ++ [52]
  · rw [if_pos h6]; left; subst h6; exact ⟨.inr rfl, .inr (.inr rfl), by decide +kernel⟩
  rw [if_neg h6] at h ⊢
  by_cases h7 : s = nLoad ∨ s = nStore
  · rw [if_pos h7] at h; exact absurd rfl h
  rw [if_neg h7] at h ⊢
  right
  simp only at h ⊢
  obtain ⟨i1, i2, i3⟩ := opI_inv h
  refine ⟨i1, i2, fun e => ?_, fun e => ?_, by first | rfl | trivial, i3.symm⟩
  · rw [e] at i3; exact h7 (.inl (by rw [← i3]; decide +kernel))
  · rw [e] at i3; exact h7 (.inr (by rw [← i3]; decide +kernel))
/-! ### A line's words -/
def wI (i : Iv) : List (List UInt8) :=
  if isC i.op then [nm i.op, dd i.c] else if isM i.op then [nm i.op ++ dd i.a, dd i.c] else if isA i.op then [nm i.op, dd i.a] else if isAB i.op then [nm i.op, dd i.a, dd i.b] else [nm i.op]
def wB (x : Av) : List (List UInt8) := if x.tg = [] then wI x.i else [nm x.i.op, x.tg]
def wA (x : Av) : List (List UInt8) := if x.lb = [] then wB x else (x.lb ++ [58]) :: wB x
theorem not58 {w : List UInt8} (h : ∀ x ∈ w, x ≠ 58) : w.getLast? ≠ some 58 := by
  intro e
  exact h 58 (List.mem_of_getLast? e) rfl
theorem nm58 {o : Int} (h : 1 ≤ o ∧ o ≤ 27) : ∀ x ∈ nm o, x ≠ 58 := by
  intro x hx e
  subst e
  have := nm_low h _ hx
  simp at this
theorem dd58 (n : Int) : ∀ x ∈ dd n, x ≠ 58 := by
  intro x hx e
  subst e
  have := dd_digit n _ hx
  simp at this
theorem wB_head {x : Av} (h : mayA x = true) : ∀ y ∈ ((wB x).getD 0 []), y ≠ 58 := by
  unfold mayA at h
  simp only [Bool.and_eq_true] at h
  have ho := mayI_op h.1.2
  unfold wB wI
  intro y hy
  split at hy
  · split at hy
    · exact nm58 ho y hy
    · split at hy
      · rcases List.mem_append.1 hy with q | q
        · exact nm58 ho y q
        · exact dd58 _ y q
      · split at hy
        · exact nm58 ho y hy
        · split at hy
          · exact nm58 ho y hy
          · exact nm58 ho y hy
  · exact nm58 ho y hy
theorem wf_of {x : Av} (h : x.i.wf) : True := trivial
theorem oneI_words {lb : List UInt8} {x : Av} (h : mayA x = true) (hw : x.i.wf) (hl : x.lb = lb) : oneR lb (wB x) = (x, 0) := by
  obtain ⟨l, i, tg⟩ := x
  simp only at hl hw
  subst hl
  unfold mayA at h
  simp only [Bool.and_eq_true, Bool.or_eq_true, decide_eq_true_eq] at h
  obtain ⟨⟨_, hm⟩, ht⟩ := h
  have ho := mayI_op hm
  by_cases hto : tg = []
  · subst hto
    have e : wB ⟨l, i, []⟩ = wI i := by unfold wB; rw [if_pos rfl]
    rw [e]
    obtain ⟨op, a, b, c⟩ := i
    simp only at ho
    unfold wI
    have hm2 := hm
    unfold mayI at hm
    simp only at hm ⊢
    by_cases h1 : isC op = true
    · rw [if_pos h1] at hm ⊢
      simp at hm
      obtain ⟨rfl, rfl⟩ := hm
      have hw4 := hw.c
      simp only at hw4
      have hop : op = 1 ∨ op = 19 ∨ op = 20 := by unfold isC at h1; simp at h1; omega
      rw [oneR]; unfold oneI
      rw [opW_nm ho (by omega) (by omega)]
      have hnl : ¬ (jumpsI op = true ∧ isLbl ([dd c].getD 0 []) = true) := by
        rintro ⟨_, q⟩
        show False
        have q : isLbl (dd c) = true := q
        cases hd : dd c with
        | nil => rw [hd] at q; simp [isLbl] at q
        | cons y r =>
          rw [hd] at q
          have := dd_digit c y (by rw [hd]; simp)
          simp [isLbl, small] at q
          omega
      have hwt : want op = 1 := by rcases hop with rfl | rfl | rfl <;> decide
      simp only [hwt, List.length_cons, List.length_nil]
      rw [if_neg (by omega), if_neg (by omega), if_neg hnl, if_pos (.inl h1)]
      show (if valI (dd c) 4294967295 < 0 then _ else _) = _
      rw [show ([dd c].getD 0 []) = dd c from rfl, val_dd hw4.1 hw4.2 (by omega), if_neg (by omega)]
    · rw [if_neg h1] at hm ⊢
      by_cases h2 : isM op = true
      · rw [if_pos h2] at hm ⊢
        simp at hm
        obtain ⟨ha, rfl⟩ := hm
        have hw4 := hw.c
        simp only at hw4
        have hop : op = 17 ∨ op = 18 := by unfold isM at h2; simpa using h2
        rw [oneR]; unfold oneI
        rw [opW_m hop (by omega)]
        have hwt : want op = 1 := by rcases hop with rfl | rfl <;> decide
        have hj : jumpsI op = false := by rcases hop with rfl | rfl <;> decide
        simp only [hwt, hj, List.length_cons, List.length_nil]
        rw [if_neg (by omega), if_neg (by omega), if_neg (by simp), if_pos (.inr h2)]
        rw [show ([dd c].getD 0 []) = dd c from rfl, val_dd hw4.1 hw4.2 (by omega), if_neg (by omega)]
      · rw [if_neg h2] at hm ⊢
        by_cases h3 : isA op = true
        · have h4 : ¬ isAB op = true := by unfold isA isAB at *; simp at h3 ⊢; omega
          rw [if_neg h4, if_pos h3] at hm
          rw [if_pos h3]
          simp at hm
          obtain ⟨⟨ha, rfl⟩, rfl⟩ := hm
          have hw2 := hw.a
          simp only at hw2
          have hop : op = 21 ∨ op = 22 ∨ op = 24 ∨ op = 26 := by unfold isA at h3; simp at h3; omega
          rw [oneR]; unfold oneI
          rw [opW_nm ho (by omega) (by omega)]
          have hwt : want op = 1 := by rcases hop with rfl | rfl | rfl | rfl <;> decide
          have hj : jumpsI op = false := by rcases hop with rfl | rfl | rfl | rfl <;> decide
          simp only [hwt, hj, List.length_cons, List.length_nil]
          rw [if_neg (by omega), if_neg (by omega), if_neg (by simp), if_neg (by simp [h1, h2])]
          rw [show ([dd a].getD 0 []) = dd a from rfl, val_dd hw2.1 (by omega) (by omega), if_neg (by omega)]
          rfl
        · rw [if_neg h3]
          by_cases h4 : isAB op = true
          · rw [if_pos h4] at hm ⊢
            simp at hm
            obtain ⟨⟨ha, hb⟩, rfl⟩ := hm
            have hw2 := hw.a
            have hw3 := hw.b
            simp only at hw2 hw3
            have hop : op = 23 ∨ op = 25 := by unfold isAB at h4; simpa using h4
            rw [oneR]; unfold oneI
            rw [opW_nm ho (by omega) (by omega)]
            have hwt : want op = 2 := by rcases hop with rfl | rfl <;> decide
            have hj : jumpsI op = false := by rcases hop with rfl | rfl <;> decide
            simp only [hwt, hj, List.length_cons, List.length_nil]
            rw [if_neg (by omega), if_neg (by omega), if_neg (by simp), if_neg (by simp [h1, h2])]
            rw [show ([dd a, dd b].getD 0 []) = dd a from rfl, show ([dd a, dd b].getD 1 []) = dd b from rfl, val_dd hw2.1 (by omega) (by omega), val_dd hw3.1 (by omega) (by omega), if_neg (by omega), if_pos trivial]
          · rw [if_neg h4, if_neg h3] at hm
            rw [if_neg h4]
            simp at hm
            obtain ⟨⟨⟨_, rfl⟩, rfl⟩, rfl⟩ := hm
            have hwt : want op = 0 := by
              unfold isC isM isA isAB at *
              simp at h1 h2 h3 h4
              unfold want
              rw [if_neg (by simp; omega), if_pos (by simp; omega)]
            have h17 : op ≠ 17 ∧ op ≠ 18 := by unfold isM at h2; simpa using h2
            rw [oneR]; unfold oneI
            rw [opW_nm ho h17.1 h17.2]
            simp only [hwt, List.length_nil]
            rw [if_neg (by omega), if_pos trivial]
  · have hl := ht.resolve_left hto
    obtain ⟨⟨hl1, hj⟩, hc⟩ := hl
    have e : wB ⟨l, i, tg⟩ = [nm i.op, tg] := by unfold wB; rw [if_neg hto]
    rw [e]
    obtain ⟨op, a, b, c⟩ := i
    simp only at ho hj hc hm ⊢
    have hop : op = 19 ∨ op = 20 := by unfold jumpsI at hj; simpa using hj
    have hC : isC op = true := by unfold isC; simp; omega
    unfold mayI at hm
    rw [if_pos hC] at hm
    simp at hm hc
    obtain ⟨rfl, rfl⟩ := hm
    subst hc
    rw [oneR]; unfold oneI
    rw [opW_nm ho (by omega) (by omega)]
    have hwt : want op = 1 := by rcases hop with rfl | rfl <;> decide
    simp only [hwt, List.length_cons, List.length_nil]
    rw [if_neg (by omega), if_neg (by omega), if_pos ⟨hj, hl1⟩]
    rfl
theorem one_words {x : Av} (h : mayA x = true) (hw : x.i.wf) : one (wA x) = (x, 0) := by
  unfold wA
  by_cases hl : x.lb = []
  · rw [if_pos hl]
    unfold one
    rw [if_neg (not58 (wB_head h))]
    exact oneI_words h hw hl
  · rw [if_neg hl]
    unfold one
    have e1 : (((x.lb ++ [58]) :: wB x).getD 0 []) = x.lb ++ [58] := rfl
    rw [e1, if_pos (by simp), List.dropLast_concat]
    have hlb : isLbl x.lb = true := by
      unfold mayA at h
      simp only [Bool.and_eq_true, Bool.or_eq_true, decide_eq_true_eq] at h
      exact h.1.1.resolve_left hl
    rw [if_pos hlb]
    exact oneI_words h hw rfl
end Asm
end Go.Proofs.YtgiocecpkhmhhaaGreatDoor
namespace Go.Proofs.YtgiocecpkhmhhaaGreatDoor
namespace Asm
open Go.Lib Isa
set_option linter.unusedVariables false
set_option linter.unusedSimpArgs false
theorem len1 {α : Type} {r : List α} (h : r.length = 1) : ∃ s, r = [s] := by
  match r, h with
  | [s], _ => exact ⟨s, rfl⟩
theorem len2 {α : Type} {r : List α} (h : r.length = 2) : ∃ s t, r = [s, t] := by
  match r, h with
  | [s, t], _ => exact ⟨s, t, rfl⟩
theorem want_C {o : Int} (h : isC o = true) : want o = 1 := by
  have : o = 1 ∨ o = 19 ∨ o = 20 := by unfold isC at h; simp at h; omega
  rcases this with rfl | rfl | rfl <;> decide
theorem want_M {o : Int} (h : isM o = true) : want o = 1 := by
  have : o = 17 ∨ o = 18 := by unfold isM at h; simpa using h
  rcases this with rfl | rfl <;> decide
theorem want_A {o : Int} (h : isA o = true) : want o = 1 := by
  have : o = 21 ∨ o = 22 ∨ o = 24 ∨ o = 26 := by unfold isA at h; simp at h; omega
  rcases this with rfl | rfl | rfl | rfl <;> decide
theorem want_AB {o : Int} (h : isAB o = true) : want o = 2 := by
  have : o = 23 ∨ o = 25 := by unfold isAB at h; simpa using h
  rcases this with rfl | rfl <;> decide
theorem want_0 {o : Int} (h : 1 ≤ o ∧ o ≤ 27) (h1 : ¬ isC o = true) (h2 : ¬ isM o = true) (h3 : ¬ isA o = true) (h4 : ¬ isAB o = true) : want o = 0 := by
  unfold isC isM isA isAB at *
  simp at h1 h2 h3 h4
  unfold want
  rw [if_neg (by simp; omega), if_pos (by simp; omega)]
/-- what is told of a line that is read -/
structure Rd (lb : List UInt8) (l : List (List UInt8)) (x : Av) : Prop where
  may : mayI x.i = true
  wf : x.i.wf
  lb : x.lb = lb
  tg : x.tg = [] ∨ isLbl x.tg = true ∧ jumpsI x.i.op = true ∧ x.i.c = 0
  ws : wB x = l
theorem oneR_inv {lb : List UInt8} {l : List (List UInt8)} (h : (oneR lb l).2 = 0) : Rd lb l (oneR lb l).1 := by
  cases l with
  | nil => rw [oneR] at h; simp at h
  | cons w r =>
    rw [oneR] at h ⊢
    unfold oneI at h ⊢
    by_cases c1 : (opW w).1 = 0 ∨ r.length ≠ want (opW w).1
    · rw [if_pos c1] at h; simp at h
    rw [if_neg c1] at h ⊢
    have hop := opW_inv (s := w) (fun e => c1 (.inl e))
    have hlen : r.length = want (opW w).1 := by
      by_cases e : r.length = want (opW w).1
      · exact e
      · exact absurd (.inr e) c1
    clear c1
    generalize (opW w).1 = o at *
    generalize (opW w).2 = z at *
    have ho : 1 ≤ o ∧ o ≤ 27 := by omega
    rcases hop with ⟨hM, hz, hw⟩ | ⟨_, _, h17, h18, rfl, hw⟩
    · have hm : isM o = true := by unfold isM; simpa using hM
      have hc : isC o = false := by unfold isC; simp; omega
      have hj : jumpsI o = false := by unfold jumpsI; simp; omega
      rw [want_M hm] at h hlen ⊢
      obtain ⟨s, rfl⟩ := len1 hlen
      rw [if_neg (by omega), if_neg (by simp [hj]), if_pos (.inr hm)] at h ⊢
      rw [show ([s].getD 0 []) = s from rfl] at h ⊢
      by_cases c2 : valI s 4294967295 < 0
      · rw [if_pos c2] at h; simp at h
      rw [if_neg c2]
      obtain ⟨i1, i2, i3⟩ := val_inv (s := s) (m := 4294967295) (by omega)
      refine ⟨?_, ⟨by simp only; omega, by simp only; omega, by simp only; omega, by simp only; omega⟩, rfl, .inl rfl, ?_⟩
      · unfold mayI; simp only; rw [if_neg (by simp [hc]), if_pos hm]; simp; omega
      · unfold wB wI; simp only; rw [if_pos trivial, if_neg (by simp [hc]), if_pos hm, ← i1, ← hw]
    · by_cases hc : isC o = true
      · rw [want_C hc] at h hlen ⊢
        obtain ⟨s, rfl⟩ := len1 hlen
        rw [if_neg (by omega)] at h ⊢
        rw [show ([s].getD 0 []) = s from rfl] at h ⊢
        by_cases c2 : jumpsI o = true ∧ isLbl s = true
        · rw [if_pos c2]
          refine ⟨?_, ⟨by simp only; omega, by simp only; omega, by simp only; omega, by simp only; omega⟩, rfl, .inr ⟨c2.2, c2.1, rfl⟩, ?_⟩
          · unfold mayI; simp only; rw [if_pos hc]; rfl
          · unfold wB; simp only; rw [if_neg (isLbl_ne c2.2), ← hw]
        · rw [if_neg c2, if_pos (.inl hc)] at h ⊢
          by_cases c3 : valI s 4294967295 < 0
          · rw [if_pos c3] at h; simp at h
          rw [if_neg c3]
          obtain ⟨i1, i2, i3⟩ := val_inv (s := s) (m := 4294967295) (by omega)
          refine ⟨?_, ⟨by simp only; omega, by simp only; omega, by simp only; omega, by simp only; omega⟩, rfl, .inl rfl, ?_⟩
          · unfold mayI; simp only; rw [if_pos hc]; rfl
          · unfold wB wI; simp only; rw [if_pos trivial, if_pos hc, ← i1, ← hw]
      · have hm : ¬ isM o = true := by unfold isM; simp; omega
        have hj : jumpsI o = false := by unfold isC at hc; unfold jumpsI; simp at hc ⊢; omega
        by_cases ha : isA o = true
        · have hab : ¬ isAB o = true := by unfold isA isAB at *; simp at ha ⊢; omega
          rw [want_A ha] at h hlen ⊢
          obtain ⟨s, rfl⟩ := len1 hlen
          rw [if_neg (by omega), if_neg (by simp [hj]), if_neg (by simp [hc, hm])] at h ⊢
          rw [show ([s].getD 0 []) = s from rfl] at h ⊢
          by_cases c3 : valI s 15 < 0 ∨ 1 = 2 ∧ valI ([s].getD 1 []) 15 < 0
          · rw [if_pos c3] at h; simp at h
          rw [if_neg c3]
          obtain ⟨i1, i2, i3⟩ := val_inv (s := s) (m := 15) (by omega)
          refine ⟨?_, ⟨by simp only; omega, by simp only; omega, by simp only; omega, by simp only; omega⟩, rfl, .inl rfl, ?_⟩
          · unfold mayI; simp only; rw [if_neg hc, if_neg hm, if_neg hab, if_pos ha]; simp; omega
          · unfold wB wI; simp only; rw [if_pos trivial, if_neg hc, if_neg hm, if_pos ha, ← i1, ← hw]
        · by_cases hab : isAB o = true
          · rw [want_AB hab] at h hlen ⊢
            obtain ⟨s, t, rfl⟩ := len2 hlen
            rw [if_neg (by omega), if_neg (by simp [hj]), if_neg (by simp [hc, hm])] at h ⊢
            rw [show ([s, t].getD 0 []) = s from rfl, show ([s, t].getD 1 []) = t from rfl] at h ⊢
            by_cases c3 : valI s 15 < 0 ∨ 2 = 2 ∧ valI t 15 < 0
            · rw [if_pos c3] at h; simp at h
            rw [if_neg c3]
            obtain ⟨i1, i2, i3⟩ := val_inv (s := s) (m := 15) (by omega)
            obtain ⟨j1, j2, j3⟩ := val_inv (s := t) (m := 15) (by omega)
            rw [if_pos rfl]
            refine ⟨?_, ⟨by simp only; omega, by simp only; omega, by simp only; omega, by simp only; omega⟩, rfl, .inl rfl, ?_⟩
            · unfold mayI; simp only; rw [if_neg hc, if_neg hm, if_pos hab]; simp; omega
            · unfold wB wI; simp only; rw [if_pos trivial, if_neg hc, if_neg hm, if_neg ha, if_pos hab, ← i1, ← j1, ← hw]
          · rw [want_0 ho hc hm ha hab] at h hlen ⊢
            rw [if_pos rfl]
            have hr := List.length_eq_zero_iff.1 hlen
            subst hr
            refine ⟨?_, ⟨by simp only; omega, by simp only; omega, by simp only; omega, by simp only; omega⟩, rfl, .inl rfl, ?_⟩
            · unfold mayI; simp only; rw [if_neg hc, if_neg hm, if_neg hab, if_neg ha]; simp; omega
            · unfold wB wI; simp only; rw [if_pos trivial, if_neg hc, if_neg hm, if_neg ha, if_neg hab, ← hw]
theorem Rd.mayA {lb : List UInt8} {l : List (List UInt8)} {x : Av} (h : Rd lb l x) (hl : lb = [] ∨ isLbl lb = true) : mayA x = true := by
  unfold Asm.mayA
  rw [h.lb, h.may]
  simp only [Bool.and_eq_true, Bool.or_eq_true, decide_eq_true_eq]
  refine ⟨⟨hl, trivial⟩, ?_⟩
  rcases h.tg with e | ⟨e1, e2, e3⟩
  · exact .inl e
  · exact .inr ⟨⟨e1, e2⟩, by rw [e3]; rfl⟩
theorem one_inv {l : List (List UInt8)} (h : (one l).2 = 0) : mayA (one l).1 = true ∧ (one l).1.i.wf ∧ wA (one l).1 = l := by
  unfold one at h ⊢
  by_cases c : (l.getD 0 []).getLast? = some 58
  · rw [if_pos c] at h ⊢
    by_cases c2 : isLbl ((l.getD 0 []).dropLast) = true
    · rw [if_pos c2] at h ⊢
      have hr := oneR_inv h
      refine ⟨hr.mayA (.inr c2), hr.wf, ?_⟩
      unfold wA
      rw [if_neg (by rw [hr.lb]; exact isLbl_ne c2), hr.lb, hr.ws]
      cases l with
      | nil => simp at c
      | cons w r =>
        have c' : w.getLast? = some 58 := c
        have hne : w ≠ [] := by intro e; subst e; simp at c'
        have hg : w.getLast hne = 58 := by rw [List.getLast?_eq_some_getLast hne] at c'; exact Option.some.inj c'
        have := List.dropLast_concat_getLast hne
        rw [hg] at this
        show (w.dropLast ++ [58]) :: r = w :: r
        rw [this]
    · rw [if_neg c2] at h; simp at h
  · rw [if_neg c] at h ⊢
    have hr := oneR_inv h
    refine ⟨hr.mayA (.inl rfl), hr.wf, ?_⟩
    unfold wA
    rw [if_pos hr.lb, hr.ws]
/-! ### Words and blanks -/
def joinS (b : List UInt8) : List (List UInt8) → List UInt8
  | [] => []
  | [w] => w
  | w :: v :: r => w ++ (b ++ joinS b (v :: r))
def goodW (w : List UInt8) : Prop := w ≠ [] ∧ ∀ y ∈ w, y ≠ 10 ∧ y ≠ 32 ∧ y ≠ 59
theorem joinS_cons (b w : List UInt8) {r : List (List UInt8)} (h : r ≠ []) : joinS b (w :: r) = w ++ (b ++ joinS b r) := by
  cases r with
  | nil => exact absurd rfl h
  | cons v r => rfl
theorem wordsGo_word : ∀ (w r cur : List UInt8), (∀ y ∈ w, y ≠ 32 ∧ y ≠ 59) → wordsGo (w ++ r) cur = wordsGo r (cur ++ w)
  | [], r, cur, _ => by simp
  | y :: w, r, cur, h => by
    have hy := h y (by simp)
    rw [List.cons_append, wordsGo, if_neg hy.2, if_neg hy.1, wordsGo_word w r (cur ++ [y]) (fun z hz => h z (by simp [hz]))]
    simp
theorem wordsGo_blanks : ∀ (n : Nat) (r cur : List UInt8), wordsGo (List.replicate (n + 1) 32 ++ r) cur = flush cur ++ wordsGo r []
  | 0, r, cur => by
    show wordsGo (32 :: r) cur = _
    rw [wordsGo, if_neg (by decide), if_pos rfl]
  | n + 1, r, cur => by
    rw [List.replicate_succ, List.cons_append, wordsGo, if_neg (by decide), if_pos rfl, wordsGo_blanks n r []]
    rfl
def Stop (t : List UInt8) : Prop := t = [] ∨ (∃ r, t = 32 :: r) ∨ ∃ r, t = 59 :: r
theorem stop_flush {t : List UInt8} (h : Stop t) (cur : List UInt8) : wordsGo t cur = flush cur ++ wordsGo t [] := by
  rcases h with rfl | ⟨r, rfl⟩ | ⟨r, rfl⟩
  · simp [wordsGo, flush]
  · rw [wordsGo, if_neg (by decide), if_pos rfl, wordsGo, if_neg (by decide), if_pos rfl]; simp [flush]
  · rw [wordsGo, if_pos rfl, wordsGo, if_pos rfl]; simp [flush]
theorem words_join (n : Nat) : ∀ (ws : List (List UInt8)) (t : List UInt8), ws ≠ [] → (∀ w ∈ ws, goodW w) → Stop t → wordsGo (joinS (List.replicate (n + 1) 32) ws ++ t) [] = ws ++ wordsGo t []
  | [], t, h, _, _ => absurd rfl h
  | [w], t, _, hg, ht => by
    have hw := hg w (by simp)
    rw [joinS, wordsGo_word w t [] (fun y hy => ⟨(hw.2 y hy).2.1, (hw.2 y hy).2.2⟩), stop_flush ht, List.nil_append]
    unfold flush
    rw [if_neg hw.1]
  | w :: v :: r, t, _, hg, ht => by
    have hw := hg w (by simp)
    rw [joinS, List.append_assoc, wordsGo_word w _ [] (fun y hy => ⟨(hw.2 y hy).2.1, (hw.2 y hy).2.2⟩), List.append_assoc, wordsGo_blanks, words_join n (v :: r) t (by simp) (fun z hz => hg z (by simp [hz])) ht, List.nil_append]
    unfold flush
    rw [if_neg hw.1]
    rfl
theorem wB_ne (x : Av) : wB x ≠ [] := by
  unfold wB wI
  split
  · split
    · simp
    · split
      · simp
      · split
        · simp
        · split <;> simp
  · simp
theorem wA_ne (x : Av) : wA x ≠ [] := by
  unfold wA
  split
  · exact wB_ne x
  · simp
theorem good_nm {o : Int} (h : 1 ≤ o ∧ o ≤ 27) : goodW (nm o) := by
  refine ⟨fun e => ?_, fun y hy => ?_⟩
  · have := (nm_len h).1; rw [e] at this; simp at this
  · have := nm_low h y hy
    refine ⟨?_, ?_, ?_⟩ <;> (rintro rfl; simp at this)
theorem good_dd (n : Int) : goodW (dd n) := by
  refine ⟨decDigits_ne _, fun y hy => ?_⟩
  have := dd_digit n y hy
  refine ⟨?_, ?_, ?_⟩ <;> (rintro rfl; simp at this)
theorem good_app {w v : List UInt8} (h : goodW w) (h2 : goodW v) : goodW (w ++ v) := by
  refine ⟨fun e => h.1 (List.append_eq_nil_iff.1 e).1, fun y hy => ?_⟩
  rcases List.mem_append.1 hy with q | q
  · exact h.2 y q
  · exact h2.2 y q
theorem good_lbl {s : List UInt8} (h : isLbl s = true) : goodW s :=
  ⟨isLbl_ne h, fun y hy => by have := lblc_byte (isLbl_all h y hy); exact ⟨this.1, this.2.1, this.2.2.2⟩⟩
theorem wB_good {x : Av} (h : mayA x = true) : ∀ w ∈ wB x, goodW w := by
  unfold mayA at h
  simp only [Bool.and_eq_true, Bool.or_eq_true, decide_eq_true_eq] at h
  have ho := mayI_op h.1.2
  intro w hw
  unfold wB wI at hw
  split at hw
  · split at hw
    · simp at hw; rcases hw with rfl | rfl; exact good_nm ho; exact good_dd _
    · split at hw
      · simp at hw; rcases hw with rfl | rfl; exact good_app (good_nm ho) (good_dd _); exact good_dd _
      · split at hw
        · simp at hw; rcases hw with rfl | rfl; exact good_nm ho; exact good_dd _
        · split at hw
          · simp at hw; rcases hw with rfl | rfl | rfl; exact good_nm ho; exact good_dd _; exact good_dd _
          · simp at hw; subst hw; exact good_nm ho
  · rename_i hto
    simp at hw
    rcases hw with rfl | rfl
    · exact good_nm ho
    · exact good_lbl ((h.2.resolve_left hto).1.1)
theorem wA_good {x : Av} (h : mayA x = true) : ∀ w ∈ wA x, goodW w := by
  intro w hw
  unfold wA at hw
  split at hw
  · exact wB_good h w hw
  · rename_i hl
    rcases List.mem_cons.1 hw with rfl | hw
    · unfold mayA at h
      simp only [Bool.and_eq_true, Bool.or_eq_true, decide_eq_true_eq] at h
      exact good_app (good_lbl (h.1.1.resolve_left hl)) ⟨by simp, by intro y hy; simp at hy; subst hy; decide⟩
    · exact wB_good h w hw
theorem joinB {x : Av} (h : mayA x = true) : joinS [32] (wB x) = if x.tg = [] then txt x.i else nm x.i.op ++ 32 :: x.tg := by
  unfold mayA at h
  simp only [Bool.and_eq_true] at h
  unfold wB
  split
  · rw [txt_may h.1.2]
    unfold wI rest
    split
    · rfl
    · split
      · simp [joinS]
      · split
        · rfl
        · split
          · simp [joinS]
          · simp [joinS]
  · rfl
theorem line_join {x : Av} (h : mayA x = true) : lineA x = joinS [32] (wA x) ++ [10] := by
  unfold lineA wA
  rw [← joinB h]
  split
  · rfl
  · rw [joinS_cons _ _ (wB_ne x)]; simp
/-- no byte 10 in words joined by blanks -/
theorem join_no10 (n : Nat) : ∀ (ws : List (List UInt8)), (∀ w ∈ ws, goodW w) → ∀ y ∈ joinS (List.replicate (n + 1) 32) ws, y ≠ 10
  | [], _, y, hy => by simp [joinS] at hy
  | [w], hg, y, hy => ((hg w (by simp)).2 y hy).1
  | w :: v :: r, hg, y, hy => by
    rw [joinS] at hy
    rcases List.mem_append.1 hy with q | q
    · exact ((hg w (by simp)).2 y q).1
    · rcases List.mem_append.1 q with q | q
      · rw [(List.mem_replicate.1 q).2]; decide
      · exact join_no10 n (v :: r) (fun z hz => hg z (by simp [hz])) y q
/-! ### Lines -/
theorem splitL_cut : ∀ (s r cur : List UInt8), (∀ y ∈ s, y ≠ 10) → splitL (s ++ 10 :: r) cur = (cur ++ s) :: splitL r []
  | [], r, cur, _ => by rw [List.nil_append, splitL, if_pos rfl, List.append_nil]
  | y :: s, r, cur, h => by
    rw [List.cons_append, splitL, if_neg (h y (by simp)), splitL_cut s r (cur ++ [y]) (fun z hz => h z (by simp [hz]))]
    simp
theorem splitL_flat {α : Type} (f : α → List (List UInt8)) (hf : ∀ x, ∀ s ∈ f x, ∀ y ∈ s, y ≠ 10) : ∀ l : List α, splitL (l.flatMap fun x => (f x).flatMap fun s => s ++ [10]) [] = l.flatMap f ++ [[]]
  | [] => rfl
  | x :: l => by
    rw [List.flatMap_cons, List.flatMap_cons]
    have go : ∀ (ss : List (List UInt8)) (r : List UInt8), (∀ s ∈ ss, ∀ y ∈ s, y ≠ 10) → splitL ((ss.flatMap fun s => s ++ [10]) ++ r) [] = ss ++ splitL r [] := by
      intro ss
      induction ss with
      | nil => intro r _; rfl
      | cons s ss ih =>
        intro r hs
        rw [List.flatMap_cons, List.append_assoc, List.append_assoc, show s ++ ([10] ++ ((ss.flatMap fun s => s ++ [10]) ++ r)) = s ++ 10 :: ((ss.flatMap fun s => s ++ [10]) ++ r) from rfl, splitL_cut s _ [] (hs s (by simp)), ih r (fun t ht => hs t (by simp [ht]))]
        rfl
    rw [go (f x) _ (hf x), splitL_flat f hf l, List.append_assoc]
/-- what a line is read as -/
def oneS (s : List UInt8) : List Av := if words s = [] then [] else [(one (words s)).1]
theorem parseGo_ok : ∀ (L : List (List UInt8)) (n : Nat) (out : List Av), (∀ s ∈ L, words s ≠ [] → (one (words s)).2 = 0) → out.length + (L.flatMap oneS).length ≤ 16384 → parseGo L n out = (out ++ L.flatMap oneS, 0, 0)
  | [], n, out, _, _ => by simp [parseGo]
  | s :: r, n, out, h, hl => by
    rw [List.flatMap_cons] at hl ⊢
    rw [parseGo]
    by_cases c : words s = []
    · have e : oneS s = [] := by unfold oneS; rw [if_pos c]
      rw [if_pos c, e, List.nil_append, parseGo_ok r (n + 1) out (fun t ht => h t (by simp [ht])) (by rw [e] at hl; exact hl)]
    · have e : oneS s = [(one (words s)).1] := by unfold oneS; rw [if_neg c]
      rw [e] at hl ⊢
      simp at hl
      rw [if_neg c, if_neg (by rw [h s (by simp) c]; simp), if_neg (by omega), parseGo_ok r (n + 1) (out ++ [(one (words s)).1]) (fun t ht => h t (by simp [ht])) (by simp; omega)]
      simp
end Asm
end Go.Proofs.YtgiocecpkhmhhaaGreatDoor
namespace Go.Proofs.YtgiocecpkhmhhaaGreatDoor
namespace Asm
open Go.Lib Isa
set_option linter.unusedVariables false
set_option linter.unusedSimpArgs false
/-- a program that may be -/
structure Ok (l : List Av) : Prop where
  may : ∀ x ∈ l, mayA x = true
  wf : ∀ x ∈ l, x.i.wf
theorem Ok.tail {x : Av} {l : List Av} (h : Ok (x :: l)) : Ok l := ⟨fun y hy => h.may y (by simp [hy]), fun y hy => h.wf y (by simp [hy])⟩
theorem splitL_list : ∀ (ss : List (List UInt8)), (∀ s ∈ ss, ∀ y ∈ s, y ≠ 10) → splitL (ss.flatMap fun s => s ++ [10]) [] = ss ++ [[]]
  | [], _ => rfl
  | s :: ss, h => by
    rw [List.flatMap_cons, List.append_assoc, show s ++ ([10] ++ (ss.flatMap fun s => s ++ [10])) = s ++ 10 :: (ss.flatMap fun s => s ++ [10]) from rfl, splitL_cut s _ [] (h s (by simp)), splitL_list ss (fun t ht => h t (by simp [ht]))]
    rfl
theorem words_line {x : Av} (h : mayA x = true) (hw : x.i.wf) (n : Nat) (t : List UInt8) (ht : Stop t) (hr : wordsGo t [] = []) :
    words (joinS (List.replicate (n + 1) 32) (wA x) ++ t) = wA x := by
  unfold words
  rw [words_join n (wA x) t (wA_ne x) (wA_good h) ht, hr, List.append_nil]
theorem oneS_line {x : Av} (h : mayA x = true) (hw : x.i.wf) (n : Nat) (t : List UInt8) (ht : Stop t) (hr : wordsGo t [] = []) :
    oneS (joinS (List.replicate (n + 1) 32) (wA x) ++ t) = [x] ∧ (one (words (joinS (List.replicate (n + 1) 32) (wA x) ++ t))).2 = 0 := by
  unfold oneS
  rw [words_line h hw n t ht hr, if_neg (wA_ne x), one_words h hw]
  exact ⟨rfl, rfl⟩
theorem oneS_nil : oneS [] = [] := rfl
/-- a text whose lines are a program's lines, each behind it what counts for nothing -/
theorem parse_lines (n : Nat) (t : List UInt8) (more : List (List UInt8)) (ht : Stop t) (hr : wordsGo t [] = []) (ht10 : ∀ y ∈ t, y ≠ 10) (hm : ∀ s ∈ more, words s = [] ∧ ∀ y ∈ s, y ≠ 10) (l : List Av) (h : Ok l) (hl : l.length ≤ 16384)
    (s : List UInt8) (hs : s = l.flatMap fun x => ((joinS (List.replicate (n + 1) 32) (wA x) ++ t) :: more).flatMap fun s => s ++ [10]) (hlen : s.length ≤ 524288) : parseA s = (l, 0, 0) := by
  unfold parseA
  rw [if_neg (by omega)]
  have hf : ∀ (l : List Av), Ok l → l.flatMap (fun x => ((joinS (List.replicate (n + 1) 32) (wA x) ++ t) :: more).flatMap oneS) = l ∧ (∀ s ∈ l.flatMap (fun x => (joinS (List.replicate (n + 1) 32) (wA x) ++ t) :: more), (words s ≠ [] → (one (words s)).2 = 0) ∧ ∀ y ∈ s, y ≠ 10) := by
    intro l
    induction l with
    | nil => intro _; exact ⟨rfl, fun s hs => by simp at hs⟩
    | cons x l ih =>
      intro h
      obtain ⟨i1, i2⟩ := ih h.tail
      have hx := oneS_line (h.may x (by simp)) (h.wf x (by simp)) n t ht hr
      have hmo : more.flatMap oneS = [] := by
        rw [List.flatMap_eq_nil_iff]
        intro s hs
        unfold oneS
        rw [if_pos (hm s hs).1]
      refine ⟨?_, fun s hs => ?_⟩
      · rw [List.flatMap_cons, List.flatMap_cons, hx.1, hmo, i1]; rfl
      · rw [List.flatMap_cons] at hs
        rcases List.mem_append.1 hs with q | q
        · rcases List.mem_cons.1 q with rfl | q
          · refine ⟨fun _ => hx.2, fun y hy => ?_⟩
            rcases List.mem_append.1 hy with p | p
            · exact join_no10 n (wA x) (wA_good (h.may x (by simp))) y p
            · exact ht10 y p
          · exact ⟨fun e => absurd (hm s q).1 e, (hm s q).2⟩
        · exact i2 s q
  obtain ⟨f1, f2⟩ := hf l h
  have hsp : splitL s [] = (l.flatMap fun x => (joinS (List.replicate (n + 1) 32) (wA x) ++ t) :: more) ++ [[]] := by
    rw [hs]
    have e1 : (l.flatMap fun x => ((joinS (List.replicate (n + 1) 32) (wA x) ++ t) :: more).flatMap fun s => s ++ [10]) = (l.flatMap fun x => (joinS (List.replicate (n + 1) 32) (wA x) ++ t) :: more).flatMap fun s => s ++ [10] := by
      rw [List.flatMap_assoc]
    rw [e1]
    exact splitL_list _ (fun u hu => (f2 u hu).2)
  have fin : (l.flatMap fun x => (joinS (List.replicate (n + 1) 32) (wA x) ++ t) :: more).flatMap oneS = l := by
    rw [List.flatMap_assoc]; exact f1
  rw [hsp, parseGo_ok _ 1 [] (fun u hu => ?_) (by
    rw [List.flatMap_append, fin]
    simp [oneS_nil]
    exact hl)]
  · rw [List.flatMap_append, fin]
    simp [oneS_nil]
  · rcases List.mem_append.1 hu with q | q
    · exact (f2 u q).1
    · simp at q; subst q; intro e; exact absurd rfl e
theorem textA_lines {l : List Av} (h : Ok l) : textA l = l.flatMap fun x => ((joinS (List.replicate (0 + 1) 32) (wA x) ++ []) :: []).flatMap fun s => s ++ [10] := by
  unfold textA
  rw [if_pos (List.all_eq_true.2 h.may)]
  have : ∀ l : List Av, Ok l → l.flatMap lineA = l.flatMap fun x => ((joinS (List.replicate (0 + 1) 32) (wA x) ++ []) :: []).flatMap fun s => s ++ [10] := by
    intro l
    induction l with
    | nil => intro _; rfl
    | cons x l ih =>
      intro h
      rw [List.flatMap_cons, List.flatMap_cons, ih h.tail, line_join (h.may x (by simp))]
      simp [List.replicate]
  exact this l h
/-- WHAT A PROGRAM IS WRITTEN AS IS PARSED AS IT WAS -/
theorem parse_text {l : List Av} (h : Ok l) (hl : l.length ≤ 16384) (hlen : (textA l).length ≤ 524288) : parseA (textA l) = (l, 0, 0) :=
  parse_lines 0 [] [] (.inl rfl) rfl (fun y hy => by simp at hy) (fun s hs => by simp at hs) l h hl _ (textA_lines h) hlen
/-! ### With more blanks and remarks -/
def dbl (s : List UInt8) : List UInt8 := s.flatMap fun y => if y = 32 then [32, 32] else [y]
def rmk : List UInt8 := [32, 59, 32, 97, 58, 32, 114, 101, 109, 97, 114, 107]
def rem (s : List UInt8) : List UInt8 := s.flatMap fun y => if y = 10 then rmk ++ [10, 59, 10, 32, 10] else [y]
theorem dbl_app (s t : List UInt8) : dbl (s ++ t) = dbl s ++ dbl t := List.flatMap_append
theorem rem_app (s t : List UInt8) : rem (s ++ t) = rem s ++ rem t := List.flatMap_append
theorem dbl_plain : ∀ (s : List UInt8), (∀ y ∈ s, y ≠ 32) → dbl s = s
  | [], _ => rfl
  | y :: s, h => by
    have e := dbl_plain s (fun z hz => h z (by simp [hz]))
    unfold dbl at e ⊢
    rw [List.flatMap_cons, e, if_neg (h y (by simp))]; rfl
theorem rem_plain : ∀ (s : List UInt8), (∀ y ∈ s, y ≠ 10) → rem s = s
  | [], _ => rfl
  | y :: s, h => by
    have e := rem_plain s (fun z hz => h z (by simp [hz]))
    unfold rem at e ⊢
    rw [List.flatMap_cons, e, if_neg (h y (by simp))]; rfl
theorem dbl_join : ∀ (ws : List (List UInt8)), (∀ w ∈ ws, goodW w) → dbl (joinS [32] ws) = joinS [32, 32] ws
  | [], _ => rfl
  | [w], h => dbl_plain w (fun y hy => ((h w (by simp)).2 y hy).2.1)
  | w :: v :: r, h => by
    rw [joinS, joinS, dbl_app, dbl_app, dbl_plain w (fun y hy => ((h w (by simp)).2 y hy).2.1), dbl_join (v :: r) (fun z hz => h z (by simp [hz]))]
    rfl
theorem wide_lines {l : List Av} (h : Ok l) : rem (dbl (textA l)) = l.flatMap fun x => ((joinS (List.replicate (1 + 1) 32) (wA x) ++ rmk) :: [[59], [32]]).flatMap fun s => s ++ [10] := by
  rw [textA_lines h]
  have : ∀ l : List Av, Ok l → rem (dbl (l.flatMap fun x => ((joinS (List.replicate (0 + 1) 32) (wA x) ++ []) :: []).flatMap fun s => s ++ [10])) = l.flatMap fun x => ((joinS (List.replicate (1 + 1) 32) (wA x) ++ rmk) :: [[59], [32]]).flatMap fun s => s ++ [10] := by
    intro l
    induction l with
    | nil => intro _; rfl
    | cons x l ih =>
      intro h
      have hg := wA_good (h.may x (by simp))
      rw [List.flatMap_cons, List.flatMap_cons, dbl_app, rem_app, ih h.tail]
      congr 1
      simp only [List.flatMap_cons, List.flatMap_nil, List.append_nil]
      rw [show List.replicate (0 + 1) (32 : UInt8) = [32] from rfl, dbl_app, dbl_join _ hg, rem_app, show ([32, 32] : List UInt8) = List.replicate (1 + 1) 32 from rfl, rem_plain _ (join_no10 1 (wA x) hg)]
      simp [dbl, rem]
  exact this l h
theorem wide_len (s : List UInt8) : (rem (dbl s)).length ≤ 34 * s.length := by
  induction s with
  | nil => simp [dbl, rem]
  | cons y s ih =>
    have e : rem (dbl (y :: s)) = rem (dbl [y]) ++ rem (dbl s) := by
      rw [← rem_app, ← dbl_app]; rfl
    rw [e]
    have : (rem (dbl [y])).length ≤ 34 := by
      unfold dbl rem
      by_cases c : y = 32
      · subst c; decide
      · simp only [List.flatMap_cons, List.flatMap_nil, List.append_nil, if_neg c]
        by_cases d : y = 10
        · subst d; decide
        · simp [if_neg d]
    simp
    omega
/-- REMARKS AND BLANKS MAKE NO DIFFERENCE TO WHAT IS PARSED -/
theorem parse_wide {l : List Av} (h : Ok l) (hl : l.length ≤ 16384) (hlen : (rem (dbl (textA l))).length ≤ 524288) : parseA (rem (dbl (textA l))) = (l, 0, 0) :=
  parse_lines 1 rmk [[59], [32]] (.inr (.inl ⟨_, rfl⟩)) (by decide +kernel) (by decide) (fun s hs => by
    simp at hs
    rcases hs with rfl | rfl
    · exact ⟨by decide +kernel, by decide⟩
    · exact ⟨by decide +kernel, by decide⟩) l h hl _ (wide_lines h) hlen
/-! ### How long a line is -/
theorem dd_len {n : Int} (h0 : 0 ≤ n) (h : n ≤ 4294967295) : (dd n).length ≤ 10 := decDigits_len 9 _ (by omega)
theorem line_len {x : Av} (h : mayA x = true) (hw : x.i.wf) : (lineA x).length ≤ 50 ∧ 2 ≤ (lineA x).length := by
  unfold mayA at h
  simp only [Bool.and_eq_true, Bool.or_eq_true, decide_eq_true_eq] at h
  have hn := nm_len (mayI_op h.1.2)
  have ha := dd_len hw.a.1 (by have := hw.a.2; omega)
  have hb := dd_len hw.b.1 (by have := hw.b.2; omega)
  have hc := dd_len hw.c.1 (by have := hw.c.2; omega)
  have h1 : (if x.lb = [] then ([] : List UInt8) else x.lb ++ [58, 32]).length ≤ 18 := by
    split
    · simp
    · rename_i e
      have := isLbl_len (h.1.1.resolve_left e)
      simp; omega
  have h2 : (if x.tg = [] then txt x.i else nm x.i.op ++ 32 :: x.tg).length ≤ 31 ∧ 1 ≤ (if x.tg = [] then txt x.i else nm x.i.op ++ 32 :: x.tg).length := by
    split
    · rw [txt_may h.1.2]
      unfold rest
      simp only [List.length_append]
      split
      · simp; omega
      · split
        · simp; omega
        · split
          · simp; omega
          · split
            · simp; omega
            · simp; omega
    · rename_i e
      have := isLbl_len (h.2.resolve_left e).1.1
      simp; omega
  unfold lineA
  simp only [List.length_append, List.length_cons, List.length_nil]
  omega
theorem lines_len {l : List Av} (h : Ok l) : (l.flatMap lineA).length ≤ 50 * l.length := by
  induction l with
  | nil => simp
  | cons x l ih =>
    have := line_len (h.may x (by simp)) (h.wf x (by simp))
    have := ih h.tail
    rw [List.flatMap_cons, List.length_append, List.length_cons]
    omega
theorem text_len {l : List Av} (h : Ok l) : (textA l).length ≤ 50 * l.length := by
  unfold textA
  rw [if_pos (List.all_eq_true.2 h.may)]
  exact lines_len h
theorem dbl_len (s : List UInt8) : (dbl s).length ≤ 2 * s.length := by
  induction s with
  | nil => simp [dbl]
  | cons y s ih =>
    have e : dbl (y :: s) = dbl [y] ++ dbl s := by rw [← dbl_app]; rfl
    have : (dbl [y]).length ≤ 2 := by
      unfold dbl
      by_cases c : y = 32
      · subst c; decide
      · simp [if_neg c]
    rw [e, List.length_append, List.length_cons]
    omega
theorem dbl_count (s : List UInt8) : (dbl s).count 10 = s.count 10 := by
  induction s with
  | nil => rfl
  | cons y s ih =>
    have e : dbl (y :: s) = dbl [y] ++ dbl s := by rw [← dbl_app]; rfl
    have e2 : (y :: s) = [y] ++ s := rfl
    have : (dbl [y]).count 10 = [y].count 10 := by
      unfold dbl
      by_cases c : y = 32
      · subst c; decide
      · simp [if_neg c]
    rw [e, e2, List.count_append, List.count_append, ih, this]
theorem rem_len (s : List UInt8) : (rem s).length ≤ s.length + 16 * s.count 10 := by
  induction s with
  | nil => simp [rem]
  | cons y s ih =>
    have e : rem (y :: s) = rem [y] ++ rem s := by rw [← rem_app]; rfl
    have e2 : (y :: s) = [y] ++ s := rfl
    have : (rem [y]).length ≤ 1 + 16 * [y].count 10 := by
      unfold rem
      by_cases c : y = 10
      · subst c; decide
      · simp [if_neg c]
    rw [e, e2, List.length_append, List.count_append, List.length_append, List.length_singleton]
    omega
theorem line_count {x : Av} (h : mayA x = true) : (lineA x).count 10 = 1 := by
  have hj := join_no10 0 (wA x) (wA_good h)
  rw [line_join h, List.count_append, show ([32] : List UInt8) = List.replicate (0 + 1) 32 from rfl, List.count_eq_zero.2 (fun hm => hj 10 hm rfl)]
  rfl
theorem text_count {l : List Av} (h : Ok l) : (textA l).count 10 = l.length := by
  unfold textA
  rw [if_pos (List.all_eq_true.2 h.may)]
  induction l with
  | nil => rfl
  | cons x l ih =>
    rw [List.flatMap_cons, List.count_append, line_count (h.may x (by simp)), ih h.tail, List.length_cons]
    omega
/-- with the blanks doubled and remarks: at most 116 bytes a line -/
theorem wide_len2 {l : List Av} (h : Ok l) : (rem (dbl (textA l))).length ≤ 116 * l.length := by
  have h1 := rem_len (dbl (textA l))
  have h2 := dbl_len (textA l)
  have h3 := text_len h
  rw [dbl_count, text_count h] at h1
  omega
/-! ### What is parsed -/
theorem joinS_flush (cur : List UInt8) (ws : List (List UInt8)) : (joinS [32] (flush cur ++ ws)).length ≤ cur.length + 1 + (joinS [32] ws).length := by
  unfold flush
  split
  · rw [List.nil_append]; omega
  · cases ws with
    | nil => simp [joinS]
    | cons v r => simp [joinS]; omega
theorem words_len : ∀ (s cur : List UInt8), (joinS [32] (wordsGo s cur)).length ≤ cur.length + s.length
  | [], cur => by
    rw [wordsGo]; unfold flush
    split
    · simp [joinS]
    · simp [joinS]
  | y :: s, cur => by
    rw [wordsGo]
    split
    · unfold flush
      split
      · simp [joinS]
      · simp [joinS]
    · split
      · have := joinS_flush cur (wordsGo s [])
        have := words_len s []
        simp at this ⊢
        omega
      · have := words_len s (cur ++ [y])
        simp at this ⊢
        omega
def sumL (L : List (List UInt8)) : Nat := (L.map fun s => s.length + 1).sum
theorem splitL_sum : ∀ (s cur : List UInt8), sumL (splitL s cur) = s.length + cur.length + 1
  | [], cur => by simp [splitL, sumL]
  | y :: s, cur => by
    rw [splitL]
    split
    · have := splitL_sum s []
      unfold sumL at this ⊢
      simp at this ⊢
      omega
    · have := splitL_sum s (cur ++ [y])
      unfold sumL at this ⊢
      simp at this ⊢
      omega
theorem parseGo_is : ∀ (L : List (List UInt8)) (n : Nat) (out : List Av), out.length ≤ 16384 → (parseGo L n out).2.2 = 0 →
    ∃ ms, parseGo L n out = (out ++ ms, 0, 0) ∧ Ok ms ∧ out.length + ms.length ≤ 16384 ∧ (ms.flatMap lineA).length ≤ sumL L
  | [], n, out, ho, h => ⟨[], by simp [parseGo], ⟨by simp, by simp⟩, by simpa using ho, by simp⟩
  | s :: r, n, out, ho, h => by
    rw [parseGo] at h ⊢
    have hs : sumL (s :: r) = s.length + 1 + sumL r := by simp [sumL]
    by_cases c : words s = []
    · rw [if_pos c] at h ⊢
      obtain ⟨ms, h1, h2, h3, h4⟩ := parseGo_is r (n + 1) out ho h
      exact ⟨ms, h1, h2, h3, by omega⟩
    rw [if_neg c] at h ⊢
    by_cases c2 : (one (words s)).2 ≠ 0
    · rw [if_pos c2] at h; exact absurd h c2
    rw [if_neg c2] at h ⊢
    by_cases c3 : out.length = 16384
    · rw [if_pos c3] at h; simp at h
    rw [if_neg c3] at h ⊢
    obtain ⟨ms, h1, h2, h3, h4⟩ := parseGo_is r (n + 1) (out ++ [(one (words s)).1]) (by simp; omega) h
    obtain ⟨j1, j2, j3⟩ := one_inv (l := words s) (by simpa using c2)
    refine ⟨(one (words s)).1 :: ms, by rw [h1]; simp, ⟨fun y hy => ?_, fun y hy => ?_⟩, by simp at h3 ⊢; omega, ?_⟩
    · rcases List.mem_cons.1 hy with rfl | hy
      · exact j1
      · exact h2.may y hy
    · rcases List.mem_cons.1 hy with rfl | hy
      · exact j2
      · exact h2.wf y hy
    · rw [List.flatMap_cons, List.length_append, line_join j1, j3]
      have := words_len s []
      rw [List.length_nil] at this
      unfold words
      rw [List.length_append, List.length_cons, List.length_nil]
      omega
/-- WHAT IS PARSED IS WRITTEN, AND PARSED AS THE SAME -/
theorem parse_again {s : List UInt8} (hs : s.length ≤ 500000) (h : (parseA s).2.2 = 0) : Ok (parseA s).1 ∧ parseA s = ((parseA s).1, 0, 0) ∧ (parseA s).1.length ≤ 16384 ∧ (textA (parseA s).1).length ≤ 500001 ∧ parseA (textA (parseA s).1) = ((parseA s).1, 0, 0) := by
  have e : parseA s = parseGo (splitL s []) 1 [] := by unfold parseA; rw [if_neg (by omega)]
  rw [e] at h ⊢
  obtain ⟨ms, h1, h2, h3, h4⟩ := parseGo_is (splitL s []) 1 [] (by simp) h
  rw [splitL_sum] at h4
  rw [h1]
  simp only [List.nil_append] at h1 ⊢
  have ht : textA ms = ms.flatMap lineA := by unfold textA; rw [if_pos (List.all_eq_true.2 h2.may)]
  have hl : (textA ms).length ≤ 500001 := by rw [ht]; rw [List.length_nil] at h4; omega
  exact ⟨h2, trivial, by simpa using h3, hl, parse_text h2 (by simpa using h3) (by omega)⟩
end Asm
end Go.Proofs.YtgiocecpkhmhhaaGreatDoor
namespace Go.Proofs.YtgiocecpkhmhhaaGreatDoor
namespace Asm
open Go.Lib Isa
set_option linter.unusedVariables false
set_option linter.unusedSimpArgs false
/-! ### Other labels -/
def ren (s : List UInt8) : List UInt8 := if s = [] then [] else s ++ [95]
def reA (x : Av) : Av := ⟨ren x.lb, x.i, ren x.tg⟩
theorem ren_nil {s : List UInt8} : ren s = [] ↔ s = [] := by
  unfold ren
  split
  · rename_i h; simp [h]
  · rename_i h; simp [h]
theorem ren_inj {s t : List UInt8} : ren s = ren t ↔ s = t := by
  refine ⟨fun h => ?_, fun h => by rw [h]⟩
  by_cases hs : s = []
  · subst hs
    exact (ren_nil.1 h.symm).symm
  · by_cases ht : t = []
    · subst ht
      exact ren_nil.1 h
    · unfold ren at h
      rw [if_neg hs, if_neg ht] at h
      exact List.append_cancel_right h
theorem ren_lbl {s : List UInt8} (h : isLbl s = true) (hl : s.length ≤ 15) : isLbl (ren s) = true := by
  unfold ren
  rw [if_neg (isLbl_ne h)]
  cases s with
  | nil => simp [isLbl] at h
  | cons x r =>
    simp [isLbl] at h hl ⊢
    refine ⟨⟨by omega, h.1.2⟩, ?_, by decide⟩
    exact h.2
theorem re_may {x : Av} (h : mayA x = true) (h1 : x.lb.length ≤ 15) (h2 : x.tg.length ≤ 15) : mayA (reA x) = true := by
  unfold mayA at h ⊢
  simp only [Bool.and_eq_true, Bool.or_eq_true, decide_eq_true_eq] at h ⊢
  unfold reA
  simp only
  refine ⟨⟨?_, h.1.2⟩, ?_⟩
  · rcases h.1.1 with e | e
    · exact .inl (ren_nil.2 e)
    · exact .inr (ren_lbl e h1)
  · rcases h.2 with e | e
    · exact .inl (ren_nil.2 e)
    · exact .inr ⟨⟨ren_lbl e.1.1 h2, e.1.2⟩, e.2⟩
theorem re_at (l : List Av) (k : Nat) : (l.map reA).getD k av0 = reA (l.getD k av0) := by
  rw [List.getD_eq_getElem?_getD, List.getD_eq_getElem?_getD, List.getElem?_map]
  cases l[k]? with
  | none => rfl
  | some x => rfl
theorem re_lbls (l : List Av) (s : List UInt8) : lbls (l.map reA) (ren s) = lbls l s := by
  unfold lbls
  rw [List.length_map]
  refine first_congr fun t ht => ?_
  rw [re_at]
  rw [Bool.eq_iff_iff]
  simp only [decide_eq_true_eq]
  exact ren_inj
theorem re_find (l : List Av) (s : List UInt8) : findA (l.map reA) (ren s) = findA l s := by
  unfold findA
  rw [re_lbls, List.length_map]
theorem re_bad (l : List Av) (k : Nat) : badL (l.map reA) k = badL l k := by
  unfold badL
  rw [re_at, show (reA (l.getD k av0)).lb = ren (l.getD k av0).lb from rfl, show (reA (l.getD k av0)).tg = ren (l.getD k av0).tg from rfl, re_find, re_find]
  congr 1
  · congr 1
    rw [Bool.eq_iff_iff]
    simp only [decide_eq_true_eq, ne_eq, ren_nil]
  · congr 1
    rw [Bool.eq_iff_iff]
    simp only [decide_eq_true_eq, ne_eq, ren_nil]
theorem re_ins (l : List Av) (x : Av) : ins (l.map reA) (reA x) = ins l x := by
  unfold ins
  rw [show (reA x).tg = ren x.tg from rfl, show (reA x).i = x.i from rfl, re_find]
  by_cases h : x.tg = []
  · rw [if_pos h, if_pos (ren_nil.2 h)]
  · rw [if_neg h, if_neg (fun e => h (ren_nil.1 e))]
theorem asmA_ok {l : List Av} (h : ∀ x ∈ l, mayA x = true) : asmA l = l.length := by
  unfold asmA
  refine first_none fun t ht => ?_
  have : l.getD t av0 ∈ l := by rw [List.getD_eq_getElem?_getD, List.getElem?_eq_getElem ht]; exact List.getElem_mem ht
  rw [h _ this]; rfl
/-- OTHER LABELS, THE SAME FOR THE SAME ONES, MAKE NO DIFFERENCE -/
theorem asm_relabel {l : List Av} (h : ∀ x ∈ l, mayA x = true ∧ x.lb.length ≤ 15 ∧ x.tg.length ≤ 15) :
    asmL (l.map reA) = asmL l ∧ asmN (l.map reA) = asmN l ∧ asmE (l.map reA) = asmE l := by
  have h1 : asmA l = l.length := asmA_ok fun x hx => (h x hx).1
  have h2 : asmA (l.map reA) = (l.map reA).length := asmA_ok fun x hx => by
    obtain ⟨y, hy, rfl⟩ := List.mem_map.1 hx
    exact re_may (h y hy).1 (h y hy).2.1 (h y hy).2.2
  have h3 : asmB (l.map reA) = asmB l := by
    unfold asmB
    rw [List.length_map]
    exact first_congr fun t _ => re_bad l t
  unfold asmL asmN asmE
  rw [h1, h2, h3, List.length_map]
  refine ⟨?_, rfl, rfl⟩
  split
  · rfl
  · rw [List.map_map]
    exact List.map_congr_left fun x _ => re_ins l x
/-! ### Instructions and their bytes -/
theorem ins_may {l : List Av} {x : Av} (h : mayA x = true) : mayI (ins l x) = true := by
  unfold mayA at h
  simp only [Bool.and_eq_true, Bool.or_eq_true, decide_eq_true_eq] at h
  unfold ins
  split
  · exact h.1.2
  · rename_i hto
    have hj := (h.2.resolve_left hto).1.2
    have hC : isC x.i.op = true := by unfold jumpsI at hj; unfold isC; simp at hj ⊢; omega
    have hm := h.1.2
    unfold mayI at hm ⊢
    rw [if_pos hC] at hm
    simp only
    rw [if_pos hC]
    exact hm
theorem find_le (l : List Av) (s : List UInt8) : -1 ≤ findA l s ∧ findA l s < 0 ∨ 0 ≤ findA l s ∧ findA l s < l.length := by
  unfold findA
  split
  · right; omega
  · left; omega
theorem getD_mem {α : Type} {l : List α} {k : Nat} (d : α) (h : k < l.length) : l.getD k d ∈ l := by
  rw [List.getD_eq_getElem?_getD, List.getElem?_eq_getElem h]; exact List.getElem_mem h
theorem asm_ok {l : List Av} (h : asmE l = 0) : l.length ≤ 16384 ∧ asmL l = l.map (ins l) ∧ asmN l = 0 ∧ (∀ x ∈ l, mayA x = true) ∧ ∀ k, k < l.length → badL l k = false := by
  unfold asmE at h
  by_cases c1 : 16384 < l.length
  · rw [if_pos c1] at h; simp at h
  rw [if_neg c1] at h
  by_cases c2 : asmA l < l.length
  · rw [if_pos c2] at h; simp at h
  rw [if_neg c2] at h
  by_cases c3 : asmB l < l.length
  · rw [if_pos c3] at h; simp at h
  refine ⟨by omega, by unfold asmL; rw [if_neg (by omega)], by unfold asmN; rw [if_neg c1, if_neg c2, if_neg c3], fun x hx => ?_, fun k hk => ?_⟩
  · obtain ⟨k, hk, rfl⟩ := List.getElem_of_mem hx
    have e : asmA l = l.length := by have := first_le (fun k => !mayA (l.getD k av0)) l.length; unfold asmA at *; omega
    have := first_miss (p := fun k => !mayA (l.getD k av0)) (n := l.length) (t := k) (by show k < asmA l; omega)
    rw [List.getD_eq_getElem?_getD, List.getElem?_eq_getElem hk] at this
    simpa using this
  · have e : asmB l = l.length := by have := first_le (badL l) l.length; unfold asmB at *; omega
    exact first_miss (p := badL l) (n := l.length) (by show k < asmB l; omega)
theorem ins_wf {l : List Av} (hl : l.length ≤ 16384) {k : Nat} (hk : k < l.length) (hw : (l.getD k av0).i.wf) (hb : badL l k = false) : (ins l (l.getD k av0)).wf := by
  unfold ins
  split
  · exact hw
  · rename_i hto
    unfold badL at hb
    simp only [Bool.or_eq_false_iff, Bool.and_eq_false_iff, decide_eq_false_iff_not] at hb
    have := find_le l (l.getD k av0).tg
    have h2 : ¬ findA l (l.getD k av0).tg < 0 := by
      rcases hb.2 with e | e
      · exact absurd hto e
      · exact e
    exact ⟨hw.op, hw.a, hw.b, by simp only; omega⟩
/-- what is assembled may be -/
theorem asm_may {l : List Av} (h : asmE l = 0) (hw : ∀ x ∈ l, x.i.wf) : ∀ i ∈ asmL l, mayI i = true ∧ i.wf := by
  obtain ⟨h1, h2, h3, h4, h5⟩ := asm_ok h
  intro i hi
  rw [h2] at hi
  obtain ⟨x, hx, rfl⟩ := List.mem_map.1 hi
  refine ⟨ins_may (h4 x hx), ?_⟩
  obtain ⟨k, hk, rfl⟩ := List.getElem_of_mem hx
  have e : l.getD k av0 = l[k] := by rw [List.getD_eq_getElem?_getD, List.getElem?_eq_getElem hk]; rfl
  rw [← e]
  exact ins_wf h1 hk (by rw [e]; exact hw _ hx) (h5 k hk)
theorem bytesL_len (l : List Iv) : (bytesL l).length = 8 * l.length := by
  unfold bytesL
  induction l with
  | nil => rfl
  | cons i l ih => rw [List.flatMap_cons, List.length_append, ih, bytesI_len, List.length_cons]; omega
theorem bytesL_drop (l : List Iv) : ∀ (k : Nat), k < l.length → (bytesL l).drop (8 * k) = bytesI (l.getD k ⟨0, 0, 0, 0⟩) ++ bytesL (l.drop (k + 1)) := by
  induction l with
  | nil => intro k h; simp at h
  | cons i l ih =>
    intro k h
    cases k with
    | zero => simp [bytesL]
    | succ k =>
      have := ih k (by simpa using h)
      have e : bytesL (i :: l) = bytesI i ++ bytesL l := by simp [bytesL]
      rw [e, show 8 * (k + 1) = (bytesI i).length + 8 * k from by rw [bytesI_len]; omega, List.drop_append, List.drop_eq_nil_of_le (by omega), Nat.add_sub_cancel_left, this]
      simp
theorem rd_bytes {i : Iv} (h : mayI i = true) (r : List Int) : rdE (bytesI i ++ r) = 0 ∧ rdI (bytesI i ++ r) = i := by
  have e : rdE (bytesI i ++ r) = 0 := by
    unfold rdE
    rw [if_neg (by rw [List.length_append, bytesI_len]; omega), readI_bytes, if_pos h]
  exact ⟨e, by unfold rdI; rw [if_pos e, readI_bytes]⟩
/-- INSTRUCTIONS ARE READ FROM THEIR BYTES -/
theorem read_bytes {l : List Iv} (h : ∀ i ∈ l, mayI i = true) (hl : l.length ≤ 16384) : rdLE (bytesL l) = 0 ∧ rdL (bytesL l) = l ∧ rdLN (bytesL l) = 0 := by
  have hlen := bytesL_len l
  have hd : (bytesL l).length / 8 = l.length := by omega
  have hm : (bytesL l).length % 8 = 0 := by omega
  have hk : rdK (bytesL l) = l.length := by
    unfold rdK
    rw [hd]
    refine first_none fun t ht => ?_
    rw [bytesL_drop l t ht, (rd_bytes (h _ (getD_mem _ ht)) _).1]
    rfl
  refine ⟨?_, ?_, ?_⟩
  · unfold rdLE; rw [if_neg (by omega), if_neg (by omega), hk, hd, if_neg (by omega)]
  · unfold rdL
    rw [if_neg (by rw [hk, hd]; omega), hd]
    apply List.ext_getElem
    · simp
    · intro k h1 h2
      have hk2 : k < l.length := by simpa using h1
      simp only [List.getElem_map, List.getElem_range]
      rw [bytesL_drop l k hk2, (rd_bytes (h _ (getD_mem _ hk2)) _).2, List.getD_eq_getElem?_getD, List.getElem?_eq_getElem hk2]
      rfl
  · unfold rdLN; rw [if_neg (by omega), if_neg (by omega), hk, hd, if_neg (by omega)]
end Asm
end Go.Proofs.YtgiocecpkhmhhaaGreatDoor
