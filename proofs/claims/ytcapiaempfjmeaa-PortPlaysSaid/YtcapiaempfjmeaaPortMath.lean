/- Ports in numbers: definitions, boxes, what each call answers and leaves. No program. -/
import Derived.Laws.BitsLemmas
import Derived.WalkSmall
namespace Go.Proofs.Ytcapiaempfjmeaa
namespace Prt
set_option linter.unusedSimpArgs false
/-- a definition: words, writer, readers -/
structure Df where
  w : Int
  wr : Int
  rd : Int
instance : Inhabited Df := ⟨⟨0, 0, 0⟩⟩
/-- is a partition one of some? -/
def bit (rd part : Int) : Bool := decide (0 ≤ part) && decide (rd / 2 ^ part.toNat % 2 = 1)
def Df.may (d : Df) : Bool := decide (1 ≤ d.w) && decide (d.w ≤ 16) && decide (0 ≤ d.wr) && decide (d.wr ≤ 7) && decide (d.rd ≤ 255) && !bit d.rd d.wr
def mayL (l : List Df) : Bool := decide (l.length ≤ 16) && l.all Df.may
/-- a port: its definition, message, age, draft, whether that is sent -/
structure Bx where
  d : Df
  m : List Int
  age : Int
  dr : List Int
  s : Bool
instance : Inhabited Bx := ⟨⟨default, [], 0, [], false⟩⟩
structure Bx.ok (b : Bx) : Prop where
  w : 1 ≤ b.d.w ∧ b.d.w ≤ 16
  wr : 0 ≤ b.d.wr ∧ b.d.wr ≤ 7
  rd : 0 ≤ b.d.rd ∧ b.d.rd ≤ 255
  m : b.m.length = 16
  dr : b.dr.length = 16
  mz : ∀ z ∈ b.m, 0 ≤ z ∧ z ≤ 4294967295
  dz : ∀ z ∈ b.dr, 0 ≤ z ∧ z ≤ 4294967295
  age : 0 ≤ b.age ∧ b.age ≤ 255
def newB (d : Df) : Bx := ⟨d, List.replicate 16 0, 255, List.replicate 16 0, false⟩
def wrt (d : Df) (part : Int) : Bool := part == d.wr
def rds (d : Df) (part : Int) : Bool := wrt d part || bit d.rd part
/-- why a partition may not do something with a port -/
def errA (f : Df → Int → Bool) (l : List Bx) (part port : Int) : Int :=
  if 0 ≤ port ∧ port < l.length then (if f (l[port.toNat]!).d part = true then 0 else 70) else 4
def errW (f : Df → Int → Bool) (l : List Bx) (part port word : Int) : Int :=
  if errA f l part port = 0 then (if 0 ≤ word ∧ word < (l[port.toNat]!).d.w then 0 else 5) else errA f l part port
def readV (l : List Bx) (part port word : Int) : Int := if errW rds l part port word = 0 then (l[port.toNat]!).m.getD word.toNat 0 else 0
def ageV (l : List Bx) (part port : Int) : Int := if errA rds l part port = 0 then (l[port.toNat]!).age else 0
def putB (word : Nat) (x : Int) (b : Bx) : Bx := { b with dr := b.dr.set word x }
def sendB (b : Bx) : Bx := { b with s := true }
def unsB (b : Bx) : Bx := { b with s := false }
def dropB (b : Bx) : Bx := { b with s := false, dr := List.replicate 16 0 }
def comB (b : Bx) : Bx := if b.s = true then { b with m := b.dr, age := 0, s := false } else { b with age := min (b.age + 1) 255 }
def putL (l : List Bx) (part port word x : Int) : List Bx := if errW wrt l part port word = 0 then l.modify port.toNat (putB word.toNat x) else l
def sendL (l : List Bx) (part port : Int) : List Bx := if errA wrt l part port = 0 then l.modify port.toNat sendB else l
def comL (l : List Bx) : List Bx := l.map comB
def byL (f : Bx → Bx) (part : Int) (l : List Bx) : List Bx := l.map fun b => if wrt b.d part = true then f b else b
theorem putB_ok {b : Bx} (h : b.ok) (k : Nat) (x : Int) (hx : 0 ≤ x ∧ x ≤ 4294967295) : (putB k x b).ok :=
  ⟨h.w, h.wr, h.rd, h.m, by simpa [putB] using h.dr, h.mz, fun z hz => by
    rcases List.mem_or_eq_of_mem_set hz with hz | rfl
    · exact h.dz z hz
    · exact hx, h.age⟩
theorem sendB_ok {b : Bx} (h : b.ok) : (sendB b).ok := ⟨h.w, h.wr, h.rd, h.m, h.dr, h.mz, h.dz, h.age⟩
theorem unsB_ok {b : Bx} (h : b.ok) : (unsB b).ok := ⟨h.w, h.wr, h.rd, h.m, h.dr, h.mz, h.dz, h.age⟩
theorem dropB_ok {b : Bx} (h : b.ok) : (dropB b).ok := ⟨h.w, h.wr, h.rd, h.m, by simp [dropB], h.mz, fun z hz => by
  rw [List.eq_of_mem_replicate hz]; omega, h.age⟩
theorem comB_ok {b : Bx} (h : b.ok) : (comB b).ok := by
  unfold comB
  split
  · exact ⟨h.w, h.wr, h.rd, h.dr, h.dr, h.dz, h.dz, by simp⟩
  · exact ⟨h.w, h.wr, h.rd, h.m, h.dr, h.mz, h.dz, by have := h.age; simp only; omega⟩
theorem newB_ok {d : Df} (h : d.may = true) (h0 : 0 ≤ d.rd) : (newB d).ok := by
  unfold Df.may at h
  simp at h
  exact ⟨by simp [newB]; omega, by simp [newB]; omega, by simp [newB]; omega, by simp [newB], by simp [newB], fun z hz => by
    rw [List.eq_of_mem_replicate hz]; omega, fun z hz => by rw [List.eq_of_mem_replicate hz]; omega, by simp [newB]⟩
/-! ### One port alone -/
theorem at_pos (l : List Bx) (k : Nat) (h : k < l.length) : l[k]! = l[k] := getElem!_pos l k h
theorem modify_at (l : List Bx) (i k : Nat) (f : Bx → Bx) (h : k < l.length) : (l.modify i f)[k]! = if i = k then f l[k]! else l[k]! := by
  rw [getElem!_pos _ k (by simpa using h), List.getElem_modify, getElem!_pos l k h]
theorem map_at (l : List Bx) (k : Nat) (f : Bx → Bx) (h : k < l.length) : (l.map f)[k]! = f l[k]! := by
  rw [getElem!_pos _ k (by simpa using h), List.getElem_map, getElem!_pos l k h]
theorem putL_len (l : List Bx) (part port word x : Int) : (putL l part port word x).length = l.length := by unfold putL; split <;> simp
theorem sendL_len (l : List Bx) (part port : Int) : (sendL l part port).length = l.length := by unfold sendL; split <;> simp
theorem comL_len (l : List Bx) : (comL l).length = l.length := by simp [comL]
theorem byL_len (f : Bx → Bx) (part : Int) (l : List Bx) : (byL f part l).length = l.length := by simp [byL]
/-- a call of a script -/
structure Dv where
  k : Int
  part : Int
  port : Int
  word : Int
  x : Int
  h : (-9223372036854775808 ≤ k ∧ k ≤ 9223372036854775807) ∧ (-9223372036854775808 ≤ part ∧ part ≤ 9223372036854775807) ∧ (-9223372036854775808 ≤ port ∧ port ≤ 9223372036854775807) ∧ (-9223372036854775808 ≤ word ∧ word ≤ 9223372036854775807) ∧ (0 ≤ x ∧ x ≤ 4294967295)
instance : Inhabited Dv := ⟨⟨0, 0, 0, 0, 0, by decide⟩⟩
/-- what a call of run does -/
def doL (c : Bool) (l : List Bx) (y : Dv) : List Bx :=
  if y.k = 2 then putL l y.part y.port y.word y.x else if y.k = 3 then sendL l y.part y.port else if y.k = 4 then (if c = true then comL l else l)
  else if y.k = 5 then byL unsB y.part l else if y.k = 6 then byL dropB y.part l else l
def runL (c : Bool) (l : List Bx) (ys : List Dv) : List Bx := ys.foldl (doL c) l
theorem doL_len (c : Bool) (l : List Bx) (y : Dv) : (doL c l y).length = l.length := by
  unfold doL
  repeat' split
  all_goals simp [putL_len, sendL_len, comL_len, byL_len]
theorem runL_len (c : Bool) (ys : List Dv) (l : List Bx) : (runL c l ys).length = l.length := by
  unfold runL
  induction ys generalizing l with
  | nil => rfl
  | cons y ys ih => rw [List.foldl_cons, ih, doL_len]
/-- what a call does to port n, alone -/
def doB (c : Bool) (n : Nat) (b : Bx) (y : Dv) : Bx :=
  if y.k = 2 then (if y.port = n ∧ wrt b.d y.part = true ∧ 0 ≤ y.word ∧ y.word < b.d.w then putB y.word.toNat y.x b else b)
  else if y.k = 3 then (if y.port = n ∧ wrt b.d y.part = true then sendB b else b)
  else if y.k = 4 then (if c = true then comB b else b)
  else if y.k = 5 then (if wrt b.d y.part = true then unsB b else b) else if y.k = 6 then (if wrt b.d y.part = true then dropB b else b) else b
theorem errA_zero {f : Df → Int → Bool} {l : List Bx} {part port : Int} : errA f l part port = 0 ↔ (0 ≤ port ∧ port < l.length ∧ f (l[port.toNat]!).d part = true) := by
  unfold errA
  split
  · rename_i h
    by_cases hf : f (l[port.toNat]!).d part = true
    · rw [if_pos hf]; exact ⟨fun _ => ⟨h.1, h.2, hf⟩, fun _ => rfl⟩
    · rw [if_neg hf]; exact ⟨fun h2 => by omega, fun h2 => absurd h2.2.2 hf⟩
  · rename_i h
    constructor
    · intro h2; omega
    · rintro ⟨h1, h2, _⟩; exact absurd ⟨h1, h2⟩ h
theorem errW_zero {f : Df → Int → Bool} {l : List Bx} {part port word : Int} : errW f l part port word = 0 ↔ (errA f l part port = 0 ∧ 0 ≤ word ∧ word < (l[port.toNat]!).d.w) := by
  unfold errW
  split
  · rename_i h
    by_cases hw : 0 ≤ word ∧ word < (l[port.toNat]!).d.w
    · simp [hw, h]
    · rw [if_neg hw]; simp only [h, true_and]; constructor
      · intro h2; omega
      · intro h2; exact absurd h2 hw
  · rename_i h
    simp [h]
theorem doL_at (c : Bool) (l : List Bx) (y : Dv) (n : Nat) (h : n < l.length) : (doL c l y)[n]! = doB c n l[n]! y := by
  unfold doL doB
  split
  · unfold putL
    split
    · rename_i h0
      rw [errW_zero, errA_zero] at h0
      obtain ⟨⟨h1, h2, h3⟩, h4, h5⟩ := h0
      rw [modify_at _ _ _ _ h]
      by_cases e : y.port.toNat = n
      · subst e
        rw [if_pos rfl, if_pos ⟨by omega, h3, h4, h5⟩]
      · rw [if_neg e, if_neg (by rintro ⟨e2, _⟩; exact e (by omega))]
    · rename_i h0
      rw [if_neg]
      rintro ⟨e, h3, h4, h5⟩
      rw [errW_zero, errA_zero] at h0
      refine h0 ⟨⟨by omega, by omega, ?_⟩, h4, ?_⟩
      · rw [e, Int.toNat_natCast]; exact h3
      · rw [e, Int.toNat_natCast]; exact h5
  split
  · unfold sendL
    split
    · rename_i h0
      rw [errA_zero] at h0
      obtain ⟨h1, h2, h3⟩ := h0
      rw [modify_at _ _ _ _ h]
      by_cases e : y.port.toNat = n
      · subst e
        rw [if_pos rfl, if_pos ⟨by omega, h3⟩]
      · rw [if_neg e, if_neg (by rintro ⟨e2, _⟩; exact e (by omega))]
    · rename_i h0
      rw [if_neg]
      rintro ⟨e, h3⟩
      rw [errA_zero] at h0
      refine h0 ⟨by omega, by omega, ?_⟩
      rw [e, Int.toNat_natCast]; exact h3
  split
  · split
    · exact map_at _ _ _ h
    · rfl
  split
  · exact map_at _ _ _ h
  split
  · exact map_at _ _ _ h
  · rfl
theorem runL_at (c : Bool) (n : Nat) (ys : List Dv) (l : List Bx) (h : n < l.length) : (runL c l ys)[n]! = ys.foldl (doB c n) l[n]! := by
  unfold runL
  induction ys generalizing l with
  | nil => rfl
  | cons y ys ih => rw [List.foldl_cons, List.foldl_cons, ih _ (by rw [doL_len]; exact h), doL_at _ _ _ _ h]
/-- what PortAlone leaves out -/
def other (n : Int) (y : Dv) : Bool := (y.k == 2 || y.k == 3) && y.port != n
theorem alone (n : Nat) (ys : List Dv) (l : List Bx) (h : n < l.length) : (runL true l ys)[n]! = (runL true l (ys.filter fun y => !other n y))[n]! := by
  rw [runL_at _ _ _ _ h, runL_at _ _ _ _ h]
  generalize l[n]! = b
  induction ys generalizing b with
  | nil => rfl
  | cons y ys ih =>
    rw [List.filter_cons, List.foldl_cons]
    split
    · rw [List.foldl_cons, ih]
    · rename_i ho
      rw [ih]
      congr 1
      unfold doB
      by_cases h2 : y.k = 2
      · simp [other, h2] at ho
        rw [if_pos h2, if_neg (fun h => ho h.1)]
      by_cases h3 : y.k = 3
      · simp [other, h3] at ho
        rw [if_neg h2, if_pos h3, if_neg (fun h => ho h.1)]
      · simp [other, h2, h3] at ho
/-- whether a port's draft is sent behind a frame's calls -/
def sentB (n : Nat) (d : Df) (s : Bool) (y : Dv) : Bool :=
  if y.k = 3 ∧ y.port = n ∧ y.part = d.wr then true else if (y.k = 5 ∨ y.k = 6) ∧ y.part = d.wr then false else s
theorem doB_d (c : Bool) (n : Nat) (b : Bx) (y : Dv) : (doB c n b y).d = b.d := by
  unfold doB putB sendB unsB dropB comB
  repeat' split
  all_goals rfl
theorem doB_s (n : Nat) (b : Bx) (y : Dv) : (doB false n b y).s = sentB n b.d b.s y := by
  by_cases h2 : y.k = 2
  · simp [doB, sentB, h2]; split <;> rfl
  by_cases h3 : y.k = 3
  · by_cases hp : y.port = n <;> by_cases hq : y.part = b.d.wr <;> simp_all [doB, sentB, wrt, sendB]
  by_cases h4 : y.k = 4
  · simp [doB, sentB, h4]
  by_cases h5 : y.k = 5
  · by_cases hq : y.part = b.d.wr <;> simp_all [doB, sentB, wrt, unsB]
  by_cases h6 : y.k = 6
  · by_cases hq : y.part = b.d.wr <;> simp_all [doB, sentB, wrt, dropB]
  · simp [doB, sentB, h2, h3, h4, h5, h6]
theorem doB_m (n : Nat) (b : Bx) (y : Dv) : (doB false n b y).m = b.m ∧ (doB false n b y).age = b.age := by
  unfold doB putB sendB unsB dropB
  repeat' split
  all_goals first | exact ⟨rfl, rfl⟩ | (rename_i h; cases h)
theorem frame_at (n : Nat) (ys : List Dv) (b : Bx) :
    (ys.foldl (doB false n) b).d = b.d ∧ (ys.foldl (doB false n) b).m = b.m ∧ (ys.foldl (doB false n) b).age = b.age ∧ (ys.foldl (doB false n) b).s = ys.foldl (sentB n b.d) b.s := by
  induction ys generalizing b with
  | nil => exact ⟨rfl, rfl, rfl, rfl⟩
  | cons y ys ih =>
    rw [List.foldl_cons, List.foldl_cons]
    obtain ⟨h1, h2, h3, h4⟩ := ih (doB false n b y)
    exact ⟨h1.trans (doB_d _ _ _ _), h2.trans (doB_m _ _ _).1, h3.trans (doB_m _ _ _).2, by rw [h4, doB_d, doB_s]⟩
theorem comB_s (b : Bx) : (comB b).s = false := by
  unfold comB
  cases h : b.s <;> simp_all
end Prt
end Go.Proofs.Ytcapiaempfjmeaa
