/- Values as a list with lists in it, and the bytes that are written of them: no program. -/
namespace Go.Proofs.Ytimhppgepiikbaa
namespace Wire
/-- a list of values: the first one's kind, its two numbers, its bytes, its list, and the values behind it -/
inductive F where
  | nil
  | cons (k n i : Int) (b : List Int) (sub next : F)
namespace F
def len : F → Nat
  | nil => 0
  | cons _ _ _ _ _ next => next.len + 1
def size : F → Nat
  | nil => 0
  | cons _ _ _ _ sub next => sub.size + next.size + 1
def drop : F → Nat → F
  | f, 0 => f
  | nil, _ + 1 => nil
  | cons _ _ _ _ _ next, j + 1 => next.drop j
theorem drop_zero (f : F) : f.drop 0 = f := by cases f <;> rfl
theorem drop_len (f : F) : ∀ j, (f.drop j).len = f.len - j := by
  induction f with
  | nil => intro j; cases j <;> simp [drop, len]
  | cons k n i b sub next _ ih =>
    intro j
    cases j with
    | zero => simp [drop]
    | succ j => simp only [drop, len, ih j]; omega
theorem drop_size (f : F) : ∀ j, (f.drop j).size ≤ f.size := by
  induction f with
  | nil => intro j; cases j <;> simp [drop, size]
  | cons k n i b sub next _ ih =>
    intro j
    cases j with
    | zero => simp [drop]
    | succ j => simp only [drop, size]; have := ih j; omega
theorem len_le_size (f : F) : f.len ≤ f.size := by
  induction f with
  | nil => simp [len]
  | cons k n i b sub next _ ih => simp only [len, size]; omega
/-- at a place that is there stands a value, and behind it the rest -/
theorem drop_cons (f : F) : ∀ j, j < f.len → ∃ k n i b sub, f.drop j = cons k n i b sub (f.drop (j + 1)) := by
  induction f with
  | nil => intro j h; simp [len] at h
  | cons k n i b sub next _ ih =>
    intro j h
    cases j with
    | zero => exact ⟨k, n, i, b, sub, by simp [drop, drop_zero]⟩
    | succ j => simp only [len] at h; obtain ⟨k', n', i', b', s', h'⟩ := ih j (by omega); exact ⟨k', n', i', b', s', by simp only [drop]; exact h'⟩
theorem drop_all (f : F) : ∀ j, f.len ≤ j → f.drop j = nil := by
  induction f with
  | nil => intro j _; cases j <;> rfl
  | cons k n i b sub next _ ih =>
    intro j h
    cases j with
    | zero => simp [len] at h
    | succ j => simp only [drop]; exact ih j (by simp only [len] at h; omega)
end F
/-- more values than are gone through: behind n that were counted, so deep -/
def great : F → Int → Int → Bool
  | .nil, n, _ => decide (2000 < n)
  | .cons _ _ _ b sub next, n, d =>
    if 2000 < n + 1 + b.length / 64 then true
    else if 20 < d then true
    else if great sub 0 (d + 1) then true
    else great next (n + 1 + b.length / 64 + sub.len) d
theorem great_count : ∀ (f : F) (n d : Int), 0 ≤ n → great f n d = false → n + f.len ≤ 2000
  | .nil, n, d, _, h => by simp [great] at h; simp only [F.len]; omega
  | .cons k x i b sub next, n, d, h0, h => by
    simp only [great] at h
    split at h
    · cases h
    · split at h
      · cases h
      · split at h
        · cases h
        · have := great_count next _ d (by omega) h
          simp only [F.len]
          omega
theorem great_len (f : F) (d : Int) (h : great f 0 d = false) : f.len ≤ 2000 := by have := great_count f 0 d (by omega) h; omega
/-- the lowest bytes of a number, the lowest one first -/
def le : Nat → Int → List Int
  | 0, _ => []
  | s + 1, n => n % 256 :: le s (n / 256)
theorem le_length : ∀ (s : Nat) (n : Int), (le s n).length = s
  | 0, _ => rfl
  | s + 1, n => by simp [le, le_length s]
theorem le_snoc : ∀ (s : Nat) (n : Int), le (s + 1) n = le s n ++ [n / 256 ^ s % 256]
  | 0, n => by simp [le]
  | s + 1, n => by
    show n % 256 :: le (s + 1) (n / 256) = _
    rw [le_snoc s (n / 256)]
    simp only [le, List.cons_append]
    congr 3
    rw [Int.pow_succ, Int.mul_comm, Int.ediv_ediv_of_nonneg (by omega)]
theorem le_byte : ∀ (s : Nat) (n : Int), ∀ z ∈ le s n, 0 ≤ z ∧ z ≤ 255
  | 0, n, z, h => by simp [le] at h
  | s + 1, n, z, h => by
    simp only [le, List.mem_cons] at h
    rcases h with rfl | h
    · omega
    · exact le_byte s _ z h
/-- what a number does to a writer: its bytes and its error -/
def num (s : List Int × Int) (n : Int) (size : Nat) : List Int × Int :=
  if s.2 = 0 then (if 524288 < s.1.length + size then ([], 3) else (s.1 ++ le size n, 0)) else s
def fail (s : List Int × Int) (e : Int) : List Int × Int := if s.2 = 0 then ([], e) else s
/-- what an I32 does to a writer -/
def i32 (s : List Int × Int) (n : Int) : List Int × Int := if n < -2147483648 ∨ 2147483647 < n then fail s 2 else num s (n % 4294967296) 4
/-- what bytes do to a writer, one by one -/
def nums (s : List Int × Int) (b : List Int) : List Int × Int := b.foldl (fun s z => num s z 1) s
theorem num_err (s : List Int × Int) (n : Int) (m : Nat) (h : ¬ s.2 = 0) : num s n m = s := by unfold num; rw [if_neg h]
theorem fail_err (s : List Int × Int) (e : Int) (h : ¬ s.2 = 0) : fail s e = s := by unfold fail; rw [if_neg h]
theorem i32_err (s : List Int × Int) (n : Int) (h : ¬ s.2 = 0) : i32 s n = s := by
  unfold i32; split
  · exact fail_err s 2 h
  · exact num_err s _ 4 h
theorem nums_err (s : List Int × Int) (b : List Int) (h : ¬ s.2 = 0) : nums s b = s := by
  induction b with
  | nil => rfl
  | cons z b ih => show nums (num s z 1) b = s; rw [num_err s z 1 h]; exact ih
/-- what a slice of bytes does to a writer -/
def bytesS (s : List Int × Int) (b : List Int) : List Int × Int := nums (num s ((b.length : Int) % 4294967296) 4) b
/-- what a list of values does to a writer -/
def wF : F → List Int × Int → List Int × Int
  | .nil, s => s
  | .cons k n i b sub next, s =>
    wF next (if k = 1 then num s (n % 256) 1 else if k = 2 then num s (n % 65536) 2 else if k = 4 then num s (n % 4294967296) 4 else if k = 8 then num s n 8
      else if k = 5 then i32 s i else if k = 6 then bytesS s b else if k = 7 then (if 65535 < sub.len then fail s 2 else wF sub (num s sub.len 2)) else s)
/-- what one value does -/
def wV (k n i : Int) (b : List Int) (sub : F) (s : List Int × Int) : List Int × Int :=
  if k = 1 then num s (n % 256) 1 else if k = 2 then num s (n % 65536) 2 else if k = 4 then num s (n % 4294967296) 4 else if k = 8 then num s n 8
      else if k = 5 then i32 s i else if k = 6 then bytesS s b else if k = 7 then (if 65535 < sub.len then fail s 2 else wF sub (num s sub.len 2)) else s
/-- what a list in a list does -/
def putS (f : F) (s : List Int × Int) : List Int × Int := if 65535 < f.len then fail s 2 else wF f (num s f.len 2)
theorem wF_cons (k n i : Int) (b : List Int) (sub next : F) (s : List Int × Int) : wF (.cons k n i b sub next) s = wF next (wV k n i b sub s) := rfl
theorem wF_err (f : F) : ∀ s : List Int × Int, ¬ s.2 = 0 → wF f s = s := by
  induction f with
  | nil => intro s _; rfl
  | cons k n i b sub next ihs ihn =>
    intro s h
    rw [wF_cons]
    have : wV k n i b sub s = s := by
      unfold wV
      repeat (first | (split; rotate_left) | rfl)
      all_goals first
        | rfl
        | exact num_err _ _ _ h
        | exact i32_err _ _ h
        | exact fail_err _ _ h
        | (unfold bytesS; rw [num_err _ _ _ h]; exact nums_err _ _ h)
        | (rw [num_err _ _ _ h, ihs s h, fail_err _ _ h, ite_self])
    rw [this]
    exact ihn s h
/-- a value's own bytes, as the document has them -/
def moreB (k n i : Int) (b : List Int) (sub : F) : List Int :=
  if k = 1 then le 1 n else if k = 2 then le 2 n else if k = 4 then le 4 n else if k = 8 then le 8 n
  else if k = 5 then le 4 (if i < 0 then i + 4294967296 else i) else if k = 6 then le 4 b.length ++ b else if k = 7 then le 2 sub.len else []
/-- what may not be written -/
def bad (k i : Int) (sub : F) : Prop := (k = 5 ∧ (i < -2147483648 ∨ 2147483647 < i)) ∨ (k = 7 ∧ 65535 < sub.len)
instance (k i : Int) (sub : F) : Decidable (bad k i sub) := by unfold bad; infer_instance
/-- values written behind bytes, or the first error: the document's answer -/
def rF : F → List Int → List Int × Int
  | .nil, l => (l, 0)
  | .cons k n i b sub next, l =>
    if bad k i sub then ([], 2)
    else if 524288 < l.length + (moreB k n i b sub).length then ([], 3)
    else if k = 7 then (if (rF sub (l ++ moreB k n i b sub)).2 = 0 then rF next (rF sub (l ++ moreB k n i b sub)).1 else ([], (rF sub (l ++ moreB k n i b sub)).2))
    else rF next (l ++ moreB k n i b sub)
/-- no bytes are very many -/
def Small : F → Prop
  | .nil => True
  | .cons _ _ _ b sub next => b.length ≤ 200000 ∧ Small sub ∧ Small next
theorem Small.drop (f : F) : ∀ k, Small f → Small (f.drop k) := by
  induction f with
  | nil => intro k _; cases k <;> trivial
  | cons k n i b sub next _ ih =>
    intro j h
    cases j with
    | zero => exact h
    | succ j => exact ih j h.2.2
theorem small_great : ∀ (f : F) (n d : Int), 0 ≤ n → great f n d = false → Small f
  | .nil, n, d, _, h => trivial
  | .cons k x i b sub next, n, d, h0, h => by
    simp only [great] at h
    split at h
    · cases h
    · split at h
      · cases h
      · split at h
        · cases h
        · rename_i h1 h2 h3
          refine ⟨by omega, small_great sub 0 (d + 1) (by omega) (by simpa using h3), small_great next _ d (by omega) h⟩
end Wire
end Go.Proofs.Ytimhppgepiikbaa
