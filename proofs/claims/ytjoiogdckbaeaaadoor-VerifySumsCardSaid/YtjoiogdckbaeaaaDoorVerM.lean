/- Whether a program may be a partition's, in numbers: configurations, what is its own, bits, what Check tells. No program. · Whether a program may be a partition's, in numbers: in configurations that let more be, or less. No program. · What a partition may do with ports and the field, as a list: what the program holds an instruction against. No program. · The chapter's programs of layer 14, reckoned. No program. -/
import Derived.Test.YtjoiogdckbaeaaaDoorCostC
import Derived.Test.YtjoiogdckbaeaaaDoorHeightM
namespace Go.Proofs.YtjoiogdckbaeaaaDoor
namespace Ver
open Isa Flw Cst Hgt
set_option linter.unusedVariables false
set_option linter.unusedSimpArgs false
/-- a port's definition: its words, its writer, its readers -/
structure Pt where
  w : Int
  wr : Int
  rd : Int
def pz : Pt := ⟨0, 0, 0⟩
/-- of a configuration: the stacks of its partitions, its ports, the field's inputs, the number of its words, its readers, its writer -/
structure Cf where
  st : List Int
  po : List Pt
  ins : Int
  ns : Nat
  fr : Int
  fw : Int
def bit (rd part : Int) : Bool := decide (0 ≤ part) && decide (rd / 2 ^ part.toNat % 2 = 1)
def oneB (x part : Int) : Bool := decide (part < 32) && bit x part
def pOp (op : Int) : Bool := decide (23 ≤ op) && decide (op ≤ 26)
/-- may the partition do that with this port? -/
def mayP (i : Iv) (part : Int) (d : Pt) : Bool := (decide (d.wr = part) || (decide (i.op ≤ 24) && oneB d.rd part)) && (!(decide (i.op = 23) || decide (i.op = 25)) || decide (i.b < d.w))
def ownE (i : Iv) (part : Int) (c : Cf) : Int :=
  if pOp i.op = true then (if i.a < c.po.length ∧ mayP i part (c.po.getD i.a.toNat pz) = true then 0 else 140)
  else if i.op = 21 then (if i.a < c.ins ∧ oneB c.fr part = true then 0 else 141)
  else if i.op = 22 then (if i.a < c.ns ∧ c.fw = part then 0 else 141)
  else 0
/-! ### Bits -/
/-- the number whose bits below n are these -/
def mask (S : Nat → Bool) : Nat → Nat
  | 0 => 0
  | n + 1 => mask S n + if S n = true then 2 ^ n else 0
theorem mask_lt (S : Nat → Bool) : ∀ n, mask S n < 2 ^ n
  | 0 => by unfold mask; decide
  | n + 1 => by
    have := mask_lt S n
    unfold mask
    rw [Nat.pow_succ]
    split <;> omega
theorem mask_congr {S T : Nat → Bool} : ∀ {n : Nat}, (∀ j, j < n → S j = T j) → mask S n = mask T n
  | 0, _ => rfl
  | n + 1, h => by
    unfold mask
    rw [mask_congr fun j hj => h j (by omega), h n (by omega)]
theorem mask_none : ∀ n, mask (fun _ => false) n = 0
  | 0 => rfl
  | n + 1 => by unfold mask; rw [mask_none n]; simp
/-- with one more -/
theorem mask_add {S T : Nat → Bool} {a : Nat} : ∀ {n : Nat}, a < n → S a = false → (∀ j, j < n → T j = (S j || decide (j = a))) → mask T n = mask S n + 2 ^ a
  | 0, h, _, _ => by omega
  | n + 1, h, ha, hT => by
    unfold mask
    by_cases e : a = n
    · subst e
      have : T a = true := by rw [hT a (by omega)]; simp
      rw [this, ha, mask_congr (T := S) fun j hj => by rw [hT j (by omega)]; have : decide (j = a) = false := decide_eq_false (by omega); rw [this]; simp]
      simp
    · have : T n = S n := by rw [hT n (by omega)]; have : decide (n = a) = false := decide_eq_false (by omega); rw [this]; simp
      rw [this, mask_add (by omega) ha fun j hj => hT j (by omega)]
      omega
theorem mask_bit (S : Nat → Bool) : ∀ (n j : Nat), (mask S n).testBit j = (decide (j < n) && S j)
  | 0, j => by unfold mask; simp
  | n + 1, j => by
    have hlt := mask_lt S n
    unfold mask
    by_cases e : S n = true
    · rw [if_pos e, Nat.add_comm]
      rcases Nat.lt_trichotomy j n with q | q | q
      · rw [Nat.testBit_two_pow_add_gt q, mask_bit S n j, decide_eq_true q, decide_eq_true (by omega)]
      · subst q
        rw [Nat.testBit_two_pow_add_eq, Nat.testBit_lt_two_pow hlt, e, decide_eq_true (by omega)]; rfl
      · rw [decide_eq_false (by omega)]
        have h2 : 2 ^ (n + 1) ≤ 2 ^ j := Nat.pow_le_pow_right (by omega) (by omega)
        rw [Nat.pow_succ] at h2
        rw [Nat.testBit_lt_two_pow (by omega)]; rfl
    · rw [if_neg e, Nat.add_zero, mask_bit S n j]
      by_cases q : j < n
      · have : decide (j < n + 1) = true := decide_eq_true (by omega)
        rw [decide_eq_true q, this]
      · by_cases q2 : j = n
        · subst q2
          simp at e
          rw [e]; simp
        · rw [decide_eq_false q, decide_eq_false (by omega)]
theorem mask_or {S T U : Nat → Bool} {n : Nat} (h : ∀ j, j < n → U j = (S j || T j)) : mask U n = mask S n ||| mask T n := by
  apply Nat.eq_of_testBit_eq
  intro j
  rw [Nat.testBit_or, mask_bit, mask_bit, mask_bit]
  by_cases q : j < n
  · rw [h j q]; simp [q]
  · simp [q]
theorem mask_zero {S : Nat → Bool} {n : Nat} : mask S n = 0 ↔ ∀ j, j < n → S j = false := by
  constructor
  · intro h j hj
    have := mask_bit S n j
    rw [h, Nat.zero_testBit, decide_eq_true hj] at this
    simpa using this.symm
  · intro h
    rw [mask_congr (T := fun _ => false) fun j hj => h j hj, mask_none]
/-! ### Which are used -/
def rdO (op : Int) : Bool := decide (op = 23) || decide (op = 24)
def wrO (op : Int) : Bool := decide (op = 25) || decide (op = 26)
def inO (op : Int) : Bool := decide (op = 21)
def ouO (op : Int) : Bool := decide (op = 22)
/-- one of the first k that are come to names j -/
noncomputable def used (l : List Iv) (p : Int → Bool) (k j : Nat) : Bool := (List.range k).any fun t => comeB l t && p (l.getD t iz).op && decide ((l.getD t iz).a = (j : Int))
theorem used_iff {l : List Iv} {p : Int → Bool} {k j : Nat} : used l p k j = true ↔ ∃ t, t < k ∧ comeB l t = true ∧ p (l.getD t iz).op = true ∧ (l.getD t iz).a = (j : Int) := by
  unfold used
  simp only [List.any_eq_true, List.mem_range, Bool.and_eq_true, decide_eq_true_eq, and_assoc]
theorem used_zero (l : List Iv) (p : Int → Bool) (j : Nat) : used l p 0 j = false := by unfold used; rfl
theorem used_succ (l : List Iv) (p : Int → Bool) (k j : Nat) : used l p (k + 1) j = (used l p k j || (comeB l k && p (l.getD k iz).op && decide ((l.getD k iz).a = (j : Int)))) := by
  unfold used
  rw [List.range_succ, List.any_append]
  simp
/-- the bits of those that are used by the first k -/
noncomputable def bitsK (l : List Iv) (p : Int → Bool) (k : Nat) : Nat := mask (used l p k) 32
noncomputable def bitsL (l : List Iv) (p : Int → Bool) : Nat := bitsK l p l.length
theorem bitsK_lt (l : List Iv) (p : Int → Bool) (k : Nat) : bitsK l p k < 4294967296 := mask_lt _ 32
theorem bitsK_zero (l : List Iv) (p : Int → Bool) : bitsK l p 0 = 0 := by
  unfold bitsK
  rw [mask_congr (T := fun _ => false) fun j _ => used_zero l p j, mask_none]
theorem bitsK_skip {l : List Iv} {p : Int → Bool} {k : Nat} (h : comeB l k = false ∨ p (l.getD k iz).op = false) : bitsK l p (k + 1) = bitsK l p k := by
  unfold bitsK
  refine mask_congr fun j _ => ?_
  rw [used_succ]
  rcases h with h | h
  · rw [h]; simp
  · rw [h]; simp
theorem bitsK_seen {l : List Iv} {p : Int → Bool} {k j : Nat} (ha : (l.getD k iz).a = (j : Int)) (hu : used l p k j = true) : bitsK l p (k + 1) = bitsK l p k := by
  unfold bitsK
  refine mask_congr fun i _ => ?_
  rw [used_succ, ha]
  by_cases e : i = j
  · subst e; rw [hu]; rfl
  · have : decide ((j : Int) = (i : Int)) = false := decide_eq_false (by omega)
    rw [this]; simp
theorem bitsK_add {l : List Iv} {p : Int → Bool} {k j : Nat} (hc : comeB l k = true) (hp : p (l.getD k iz).op = true) (ha : (l.getD k iz).a = (j : Int)) (hj : j < 32) (hu : used l p k j = false) : bitsK l p (k + 1) = bitsK l p k + 2 ^ j := by
  unfold bitsK
  refine mask_add hj hu fun i _ => ?_
  rw [used_succ, ha, hc, hp]
  by_cases e : i = j
  · subst e; simp
  · have e1 : decide ((j : Int) = (i : Int)) = false := decide_eq_false (by omega)
    have e2 : decide (i = j) = false := decide_eq_false e
    rw [e1, e2]; simp
theorem bit_nat (N j : Nat) : bit (N : Int) (j : Int) = N.testBit j := by
  unfold bit
  rw [decide_eq_true (by omega), Int.toNat_natCast, Nat.testBit_eq_decide_div_mod_eq, Bool.true_and]
  congr 1
  have : ((N : Int) / 2 ^ j % 2 = 1) = (((N / 2 ^ j % 2 : Nat) : Int) = 1) := by push_cast; rfl
  rw [this]
  exact propext (by omega)
theorem bitsK_bit (l : List Iv) (p : Int → Bool) (k j : Nat) (hj : j < 32) : bit ((bitsK l p k : Nat) : Int) (j : Int) = used l p k j := by
  rw [bit_nat]
  unfold bitsK
  rw [mask_bit, decide_eq_true hj, Bool.true_and]
theorem bitsK_with {l : List Iv} {p : Int → Bool} {k j : Nat} (hc : comeB l k = true) (hp : p (l.getD k iz).op = true) (ha : (l.getD k iz).a = (j : Int)) (hj : j < 32) :
    (if (bitsK l p k).testBit j = true then bitsK l p k else bitsK l p k + 2 ^ j) = bitsK l p (k + 1) ∧ (bitsK l p k + 2 ^ j < 4294967296 ∨ (bitsK l p k).testBit j = true) := by
  have hb : (bitsK l p k).testBit j = used l p k j := by
    unfold bitsK
    rw [mask_bit, decide_eq_true hj, Bool.true_and]
  rw [hb]
  cases hu : used l p k j with
  | true =>
    rw [if_pos rfl]
    exact ⟨(bitsK_seen ha hu).symm, .inr rfl⟩
  | false =>
    rw [if_neg (by simp)]
    have e := bitsK_add hc hp ha hj hu
    have := bitsK_lt l p (k + 1)
    exact ⟨e.symm, .inl (by omega)⟩
theorem may_small {i : Iv} (hm : mayI i = true) (h : i.op = 21 ∨ i.op = 22 ∨ i.op = 23 ∨ i.op = 24 ∨ i.op = 25 ∨ i.op = 26) : i.a < 16 := by
  unfold mayI isC isM isAB isA at hm
  rcases h with e | e | e | e | e | e <;> (rw [e] at hm; simp at hm; omega)
/-! ### What Check tells -/
/-- a summary: height, fuel, and four rows of bits -/
structure Sm where
  h : Int
  f : Nat
  r : Nat
  w : Nat
  i : Nat
  o : Nat
def sz : Sm := ⟨0, 0, 0, 0, 0, 0⟩
noncomputable def alien (l : List Iv) (part : Int) (c : Cf) (k : Nat) : Bool := comeB l k && decide (ownE (l.getD k iz) part c ≠ 0)
noncomputable def alK (l : List Iv) (part : Int) (c : Cf) : Nat := first (alien l part c) l.length
noncomputable def sumL (l : List Iv) (most : Int) : Sm := ⟨(mostA l most).1, wz l, bitsL l rdO, bitsL l wrO, bitsL l inO, bitsL l ouO⟩
noncomputable def verA (l : List Iv) (part : Int) (c : Cf) : Sm × Nat × Int :=
  if part < 0 ∨ (c.st.length : Int) ≤ part then (sz, 0, 2)
  else if (htA l (c.st.getD part.toNat 0)).2.2 ≠ 0 then (sz, (htA l (c.st.getD part.toNat 0)).2.1, (htA l (c.st.getD part.toNat 0)).2.2)
  else if alK l part c < l.length then (sz, alK l part c, ownE (l.getD (alK l part c) iz) part c)
  else (sumL l (c.st.getD part.toNat 0), 0, 0)
end Ver
end Go.Proofs.YtjoiogdckbaeaaaDoor
namespace Go.Proofs.YtjoiogdckbaeaaaDoor
namespace Ver
open Isa Flw Cst Hgt
set_option linter.unusedVariables false
set_option linter.unusedSimpArgs false
structure Vok (l : List Iv) (part : Int) (c : Cf) : Prop where
  p0 : 0 ≤ part
  p1 : part < c.st.length
  ht : (htA l (c.st.getD part.toNat 0)).2.2 = 0
  own : ∀ k, k < l.length → comeB l k = true → ownE (l.getD k iz) part c = 0
theorem ver_ok {l : List Iv} {part : Int} {c : Cf} (h : Vok l part c) : verA l part c = (sumL l (c.st.getD part.toNat 0), 0, 0) := by
  have hk : alK l part c = l.length := first_none fun k hk => by
    unfold alien
    cases hc : comeB l k with
    | false => rfl
    | true => rw [h.own k hk hc]; rfl
  have h1 := h.p0
  have h2 := h.p1
  unfold verA
  rw [if_neg (by omega), if_neg (by rw [h.ht]; simp), hk, if_neg (by omega)]
theorem ownE_nz {i : Iv} {part : Int} {c : Cf} : ownE i part c = 0 ∨ ownE i part c = 140 ∨ ownE i part c = 141 := by
  unfold ownE
  split
  · split
    · exact .inl rfl
    · exact .inr (.inl rfl)
  · split
    · split
      · exact .inl rfl
      · exact .inr (.inr rfl)
    · split
      · split
        · exact .inl rfl
        · exact .inr (.inr rfl)
      · exact .inl rfl
theorem ver_parts {l : List Iv} {part : Int} {c : Cf} (h : (verA l part c).2.2 = 0) : Vok l part c := by
  unfold verA at h
  split at h
  · exact absurd h (by decide)
  · rename_i h1
    split at h
    · rename_i h2
      exact absurd h h2
    · rename_i h2
      split at h
      · rename_i h3
        exfalso
        have hit := first_hit (p := alien l part c) (n := l.length) h3
        have hit2 : alien l part c (alK l part c) = true := hit
        unfold alien at hit2
        simp only [Bool.and_eq_true, decide_eq_true_eq] at hit2
        exact hit2.2 h
      · rename_i h3
        refine ⟨by omega, by omega, by simpa using h2, fun k hk hc => ?_⟩
        have := first_miss (p := alien l part c) (n := l.length) (t := k) (by unfold alK at h3; omega)
        unfold alien at this
        rw [hc] at this
        simpa using this
theorem ver_bad {l : List Iv} {part : Int} {c : Cf} (h0 : 0 ≤ part) (h1 : part < c.st.length) (ht : (htA l (c.st.getD part.toNat 0)).2.2 = 0) {k : Nat} (hk : k < l.length) (hc : comeB l k = true) (hn : ownE (l.getD k iz) part c ≠ 0) :
    ∃ t, t < l.length ∧ comeB l t = true ∧ (verA l part c).2.2 = ownE (l.getD t iz) part c ∧ ownE (l.getD t iz) part c ≠ 0 := by
  have hlt : alK l part c < l.length := by
    rcases Nat.lt_or_ge (alK l part c) l.length with q | q
    · exact q
    · have := first_miss (p := alien l part c) (n := l.length) (t := k) (by unfold alK at q; omega)
      unfold alien at this
      rw [hc, Bool.true_and] at this
      exact absurd (of_decide_eq_false this) (fun z => z hn)
  have hit2 : alien l part c (alK l part c) = true := first_hit (p := alien l part c) (n := l.length) hlt
  unfold alien at hit2
  simp only [Bool.and_eq_true, decide_eq_true_eq] at hit2
  refine ⟨alK l part c, hlt, hit2.1, ?_, hit2.2⟩
  unfold verA
  rw [if_neg (by omega), if_neg (by rw [ht]; simp), if_pos hlt]
/-- more readers, a greater stack -/
structure More (part : Int) (c d : Cf) : Prop where
  sl : d.st.length = c.st.length
  st : d.st.getD part.toNat 0 = 64
  pl : d.po.length = c.po.length
  po : ∀ j, j < c.po.length → (d.po.getD j pz).w = (c.po.getD j pz).w ∧ (d.po.getD j pz).wr = (c.po.getD j pz).wr ∧ oneB (d.po.getD j pz).rd part = true
  ins : d.ins = c.ins
  ns : d.ns = c.ns
  fr : oneB d.fr part = true
  fw : d.fw = c.fw
theorem ver_more {l : List Iv} {part : Int} {c d : Cf} (hw : ∀ i ∈ l, i.wf) (h : (verA l part c).2.2 = 0) (hm : More part c d) : verA l part d = verA l part c := by
  have hv := ver_parts h
  have hgo := htA_go hv.ht
  have hwl := htA_well hw hv.ht
  have htop := top_le hgo.2.2.1 hw hwl.1 hgo.1
  have hs := htA_same (most' := 64) hw hv.ht (by omega) (by omega) (by omega)
  have hst : mostA l 64 = mostA l (c.st.getD part.toNat 0) := by unfold mostA; rw [hs]
  have hv2 : Vok l part d := by
    refine ⟨hv.p0, by rw [hm.sl]; exact hv.p1, by rw [hm.st, hs]; exact hv.ht, fun k hk hc => ?_⟩
    have ho := hv.own k hk hc
    have hi := hw _ (getD_mem iz hk)
    generalize l.getD k iz = i at *
    unfold ownE at ho ⊢
    split at ho
    · rename_i e
      rw [if_pos e]
      split at ho
      · rename_i e2
        obtain ⟨e2, e3⟩ := e2
        have hj : i.a.toNat < c.po.length := by have := hi.a; omega
        obtain ⟨g1, g2, g3⟩ := hm.po i.a.toNat hj
        have hmy : mayP i part (d.po.getD i.a.toNat pz) = true := by
          unfold mayP at e3 ⊢
          rw [g1, g2, g3]
          simp only [Bool.and_eq_true, Bool.or_eq_true, Bool.and_true] at e3 ⊢
          refine ⟨?_, e3.2⟩
          rcases e3.1 with q | q
          · exact .inl q
          · exact .inr q.1
        rw [if_pos ⟨by rw [hm.pl]; exact e2, hmy⟩]
      · exact absurd ho (by decide)
    · rename_i e
      rw [if_neg e]
      split at ho
      · rename_i e2
        rw [if_pos e2]
        split at ho
        · rename_i e3
          rw [if_pos ⟨by rw [hm.ins]; exact e3.1, hm.fr⟩]
        · exact absurd ho (by decide)
      · rename_i e2
        rw [if_neg e2]
        split at ho
        · rename_i e3
          rw [if_pos e3]
          split at ho
          · rename_i e4
            rw [if_pos ⟨by rw [hm.ns]; exact e4.1, by rw [hm.fw]; exact e4.2⟩]
          · exact absurd ho (by decide)
        · rename_i e3
          rw [if_neg e3]
  rw [ver_ok hv2, ver_ok hv, hm.st]
  unfold sumL
  rw [hst]
theorem oneB_zero (part : Int) : oneB 0 part = false := by unfold oneB bit; simp
/-- port j is another's, and nobody's to read -/
structure LessP (part : Int) (j : Nat) (c d : Cf) : Prop where
  st : d.st = c.st
  pl : d.po.length = c.po.length
  at_ : (d.po.getD j pz).wr = part + 1 ∧ (d.po.getD j pz).rd = 0
  po : ∀ i, i ≠ j → d.po.getD i pz = c.po.getD i pz
  ins : d.ins = c.ins
  ns : d.ns = c.ns
  fr : d.fr = c.fr
  fw : d.fw = c.fw
def pB (l : List Iv) (j : Nat) : Prop := ∃ t, t < l.length ∧ comeB l t = true ∧ pOp (l.getD t iz).op = true ∧ (l.getD t iz).a = (j : Int)
theorem own_same {part : Int} {j : Nat} {c d : Cf} (hl : LessP part j c d) {i : Iv} (hi : 0 ≤ i.a) (h : ¬ (pOp i.op = true ∧ i.a = (j : Int))) : ownE i part d = ownE i part c := by
  unfold ownE
  rw [hl.pl, hl.ins, hl.ns, hl.fr, hl.fw]
  by_cases e : pOp i.op = true
  · have hj : i.a.toNat ≠ j := fun q => h ⟨e, by omega⟩
    rw [if_pos e, if_pos e, hl.po _ hj]
  · rw [if_neg e, if_neg e]
theorem ver_lessP {l : List Iv} {part : Int} {j : Nat} {c d : Cf} (hw : ∀ i ∈ l, i.wf) (h : (verA l part c).2.2 = 0) (hl : LessP part j c d) : (pB l j → (verA l part d).2.2 = 140) ∧ (¬ pB l j → verA l part d = verA l part c) := by
  have hv := ver_parts h
  refine ⟨fun hp => ?_, fun hp => ?_⟩
  · obtain ⟨t, ht, hc, ho, ha⟩ := hp
    have hbad : ownE (l.getD t iz) part d ≠ 0 := by
      unfold ownE
      rw [if_pos ho]
      have e : (l.getD t iz).a.toNat = j := by omega
      have : mayP (l.getD t iz) part (d.po.getD (l.getD t iz).a.toNat pz) = false := by
        rw [e]
        unfold mayP
        rw [hl.at_.1, hl.at_.2, oneB_zero]
        have : decide (part + 1 = part) = false := decide_eq_false (by omega)
        rw [this]; simp
      rw [if_neg (by rw [this]; simp)]
      decide
    obtain ⟨s, hs, hcs, e1, e2⟩ := ver_bad hv.p0 (by rw [hl.st]; exact hv.p1) (by rw [hl.st]; exact hv.ht) ht hc hbad
    have hos := hv.own s hs hcs
    have his := (hw _ (getD_mem iz hs)).a
    by_cases q : pOp (l.getD s iz).op = true ∧ (l.getD s iz).a = (j : Int)
    · rw [e1]
      rcases ownE_nz (i := l.getD s iz) (part := part) (c := d) with z | z | z
      · exact absurd z e2
      · exact z
      · exfalso
        unfold ownE at z
        rw [if_pos q.1] at z
        split at z
        · exact absurd z (by decide)
        · exact absurd z (by decide)
    · exact absurd ((own_same hl his.1 q).trans hos) e2
  · have hv2 : Vok l part d := by
      refine ⟨hv.p0, by rw [hl.st]; exact hv.p1, by rw [hl.st]; exact hv.ht, fun k hk hc => ?_⟩
      rw [own_same hl (hw _ (getD_mem iz hk)).a.1 fun q => hp ⟨k, hk, hc, q.1, q.2⟩]
      exact hv.own k hk hc
    rw [ver_ok hv2, ver_ok hv, hl.st]
/-- the field is another's, and nobody's to read -/
structure LessF (part : Int) (c d : Cf) : Prop where
  st : d.st = c.st
  po : d.po = c.po
  ins : d.ins = c.ins
  ns : d.ns = c.ns
  fr : d.fr = 0
  fw : d.fw = part + 1
def fB (l : List Iv) : Prop := ∃ t, t < l.length ∧ comeB l t = true ∧ ((l.getD t iz).op = 21 ∨ (l.getD t iz).op = 22)
theorem own_field {i : Iv} {part : Int} {c d : Cf} (hl : LessF part c d) (h : i.op = 21 ∨ i.op = 22) : ownE i part d = 141 := by
  have hp : ¬ pOp i.op = true := fun q => by
    unfold pOp at q
    simp only [Bool.and_eq_true, decide_eq_true_eq] at q
    omega
  unfold ownE
  rw [if_neg hp, hl.fr, hl.fw, oneB_zero]
  rcases h with h | h
  · rw [if_pos h, if_neg (by simp)]
  · rw [if_neg (by omega), if_pos h, if_neg (by omega)]
theorem own_other {i : Iv} {part : Int} {c d : Cf} (hl : LessF part c d) (h : ¬ (i.op = 21 ∨ i.op = 22)) : ownE i part d = ownE i part c := by
  unfold ownE
  by_cases e : pOp i.op = true
  · rw [if_pos e, if_pos e, hl.po]
  · rw [if_neg e, if_neg e, if_neg (fun q => h (.inl q)), if_neg (fun q => h (.inl q)), if_neg (fun q => h (.inr q)), if_neg (fun q => h (.inr q))]
theorem ver_lessF {l : List Iv} {part : Int} {c d : Cf} (h : (verA l part c).2.2 = 0) (hl : LessF part c d) : (verA l part d).2.2 = 141 ↔ fB l := by
  have hv := ver_parts h
  constructor
  · intro h2
    apply Classical.byContradiction
    intro hn
    have hv2 : Vok l part d := by
      refine ⟨hv.p0, by rw [hl.st]; exact hv.p1, by rw [hl.st]; exact hv.ht, fun k hk hc => ?_⟩
      rw [own_other hl fun q => hn ⟨k, hk, hc, q⟩]
      exact hv.own k hk hc
    rw [ver_ok hv2] at h2
    exact absurd (show (0 : Int) = 141 from h2) (by decide)
  · rintro ⟨t, ht, hc, ho⟩
    obtain ⟨s, hs, hcs, e1, e2⟩ := ver_bad hv.p0 (by rw [hl.st]; exact hv.p1) (by rw [hl.st]; exact hv.ht) ht hc (by rw [own_field hl ho]; decide)
    by_cases q : (l.getD s iz).op = 21 ∨ (l.getD s iz).op = 22
    · rw [e1, own_field hl q]
    · exact absurd ((own_other hl q).trans (hv.own s hs hcs)) e2
/-- what the summary's bits tell of these -/
theorem pB_iff {l : List Iv} (hf : Fine l) (hmay : ∀ i ∈ l, mayI i = true) {j : Nat} : pB l j ↔ j < 32 ∧ (bitsL l rdO ||| bitsL l wrO).testBit j = true := by
  have key : ∀ j, j < 32 → (bitsL l rdO ||| bitsL l wrO).testBit j = (used l rdO l.length j || used l wrO l.length j) := fun j hj => by
    unfold bitsL bitsK
    rw [Nat.testBit_or, mask_bit, mask_bit, decide_eq_true hj, Bool.true_and, Bool.true_and]
  constructor
  · rintro ⟨t, ht, hc, ho, ha⟩
    have hm := hmay _ (getD_mem iz ht)
    have ho2 : (l.getD t iz).op = 23 ∨ (l.getD t iz).op = 24 ∨ (l.getD t iz).op = 25 ∨ (l.getD t iz).op = 26 := by
      unfold pOp at ho
      simp only [Bool.and_eq_true, decide_eq_true_eq] at ho
      omega
    have hj : j < 16 := by
      unfold mayI isC isM isAB isA at hm
      generalize l.getD t iz = i at *
      rcases ho2 with e | e | e | e <;> (rw [e] at hm; simp at hm; omega)
    refine ⟨by omega, ?_⟩
    rw [key j (by omega), Bool.or_eq_true, used_iff, used_iff]
    rcases ho2 with e | e | e | e
    · exact .inl ⟨t, ht, hc, by rw [e]; rfl, ha⟩
    · exact .inl ⟨t, ht, hc, by rw [e]; rfl, ha⟩
    · exact .inr ⟨t, ht, hc, by rw [e]; rfl, ha⟩
    · exact .inr ⟨t, ht, hc, by rw [e]; rfl, ha⟩
  · rintro ⟨hj, hb⟩
    rw [key j hj, Bool.or_eq_true, used_iff, used_iff] at hb
    rcases hb with ⟨t, ht, hc, ho, ha⟩ | ⟨t, ht, hc, ho, ha⟩
    · refine ⟨t, ht, hc, ?_, ha⟩
      unfold rdO at ho
      unfold pOp
      simp only [Bool.or_eq_true, decide_eq_true_eq] at ho
      simp only [Bool.and_eq_true, decide_eq_true_eq]
      omega
    · refine ⟨t, ht, hc, ?_, ha⟩
      unfold wrO at ho
      unfold pOp
      simp only [Bool.or_eq_true, decide_eq_true_eq] at ho
      simp only [Bool.and_eq_true, decide_eq_true_eq]
      omega
theorem fB_iff {l : List Iv} (hw : ∀ i ∈ l, i.wf) (hmay : ∀ i ∈ l, mayI i = true) : fB l ↔ (bitsL l inO ||| bitsL l ouO) ≠ 0 := by
  have hz : ∀ p : Int → Bool, bitsL l p = 0 ↔ ∀ j, j < 32 → used l p l.length j = false := fun p => mask_zero
  have ho : (bitsL l inO ||| bitsL l ouO) = 0 ↔ bitsL l inO = 0 ∧ bitsL l ouO = 0 := Nat.or_eq_zero_iff
  constructor
  · rintro ⟨t, ht, hc, hop⟩ h
    obtain ⟨h1, h2⟩ := ho.1 h
    have hm := hmay _ (getD_mem iz ht)
    have hwt := (hw _ (getD_mem iz ht)).a
    have hj : (l.getD t iz).a.toNat < 16 := by
      unfold mayI isC isM isAB isA at hm
      generalize l.getD t iz = i at *
      rcases hop with e | e <;> (rw [e] at hm; simp at hm; omega)
    rcases hop with e | e
    · have := (hz inO).1 h1 (l.getD t iz).a.toNat (by omega)
      rw [used_iff.2 ⟨t, ht, hc, by rw [e]; rfl, by omega⟩] at this
      cases this
    · have := (hz ouO).1 h2 (l.getD t iz).a.toNat (by omega)
      rw [used_iff.2 ⟨t, ht, hc, by rw [e]; rfl, by omega⟩] at this
      cases this
  · intro h
    apply Classical.byContradiction
    intro hn
    refine h (ho.2 ⟨(hz inO).2 fun j hj => ?_, (hz ouO).2 fun j hj => ?_⟩)
    · cases hq : used l inO l.length j with
      | false => rfl
      | true =>
        obtain ⟨t, ht, hc, hop, _⟩ := used_iff.1 hq
        exact absurd ⟨t, ht, hc, .inl (by simpa [inO] using hop)⟩ hn
    · cases hq : used l ouO l.length j with
      | false => rfl
      | true =>
        obtain ⟨t, ht, hc, hop, _⟩ := used_iff.1 hq
        exact absurd ⟨t, ht, hc, .inr (by simpa [ouO] using hop)⟩ hn
end Ver
end Go.Proofs.YtjoiogdckbaeaaaDoor
namespace Go.Proofs.YtjoiogdckbaeaaaDoor
namespace Ver
open Isa Flw Cst Hgt
set_option linter.unusedVariables false
set_option linter.unusedSimpArgs false
/-- an Op, a number, and how many words B may name -/
structure Gr where
  op : Int
  a : Int
  w : Int
def gz : Gr := ⟨0, 0, 0⟩
def rdG (d : Pt) (a : Int) : List Gr := [⟨23, a, d.w⟩, ⟨24, a, 65536⟩]
def wrG (d : Pt) (a : Int) : List Gr := [⟨25, a, d.w⟩, ⟨26, a, 65536⟩]
def portG (part : Int) (d : Pt) (a : Int) : List Gr := (if (decide (part = d.wr) || bit d.rd part) = true then rdG d a else []) ++ (if decide (part = d.wr) = true then wrG d a else [])
def portsG (part : Int) (po : List Pt) : Nat → List Gr
  | 0 => []
  | k + 1 => portsG part po k ++ portG part (po.getD k pz) (k : Int)
def sameG (op : Int) : Nat → List Gr
  | 0 => []
  | k + 1 => sameG op k ++ [⟨op, (k : Int), 65536⟩]
def insG (part : Int) (c : Cf) : List Gr := if bit c.fr part = true then sameG 21 (min c.ins 256).toNat else []
def outsG (part : Int) (c : Cf) : List Gr := if decide (part = c.fw) = true then sameG 22 (min c.ns 256) else []
def grantsL (part : Int) (c : Cf) : List Gr := portsG part c.po (min c.po.length 256) ++ insG part c ++ outsG part c
def isG (i : Iv) (g : Gr) : Bool := decide ((⟨g.op, g.a, 0, 0⟩ : Iv) = ⟨i.op, i.a, 0, 0⟩) && decide (i.b < g.w)
def refE (op : Int) : Int := if pOp op = true then 140 else if op = 21 ∨ op = 22 then 141 else 0
def holdE (i : Iv) (l : List Gr) : Int := if l.any (isG i) = true then 0 else refE i.op
theorem isG_iff (i : Iv) (g : Gr) : isG i g = true ↔ (g.op = i.op ∧ g.a = i.a) ∧ i.b < g.w := by
  unfold isG
  simp
theorem portG_len (part : Int) (d : Pt) (a : Int) : (portG part d a).length ≤ 4 := by
  unfold portG rdG wrG
  split <;> split <;> simp
theorem portsG_len (part : Int) (po : List Pt) : ∀ k, (portsG part po k).length ≤ 4 * k
  | 0 => by simp [portsG]
  | k + 1 => by
    have h1 := portsG_len part po k
    have h2 := portG_len part (po.getD k pz) (k : Int)
    unfold portsG
    rw [List.length_append]
    omega
theorem sameG_len (op : Int) : ∀ k, (sameG op k).length = k
  | 0 => rfl
  | k + 1 => by
    unfold sameG
    rw [List.length_append, sameG_len op k]
    rfl
theorem insG_len (part : Int) (c : Cf) : (insG part c).length ≤ 256 := by
  unfold insG
  split
  · rw [sameG_len]; omega
  · simp
theorem outsG_len (part : Int) (c : Cf) : (outsG part c).length ≤ 256 := by
  unfold outsG
  split
  · rw [sameG_len]; omega
  · simp
theorem grantsL_len (part : Int) (c : Cf) : (grantsL part c).length ≤ 1536 := by
  have h1 := portsG_len part c.po (min c.po.length 256)
  have h2 := insG_len part c
  have h3 := outsG_len part c
  unfold grantsL
  rw [List.length_append, List.length_append]
  omega
theorem portsG_any {part : Int} {po : List Pt} {p : Gr → Bool} : ∀ {k : Nat}, (portsG part po k).any p = true ↔ ∃ j, j < k ∧ (portG part (po.getD j pz) (j : Int)).any p = true
  | 0 => by simp [portsG]
  | k + 1 => by
    unfold portsG
    rw [List.any_append, Bool.or_eq_true, portsG_any]
    constructor
    · rintro (⟨j, hj, h⟩ | h)
      · exact ⟨j, by omega, h⟩
      · exact ⟨k, by omega, h⟩
    · rintro ⟨j, hj, h⟩
      by_cases e : j = k
      · subst e; exact .inr h
      · exact .inl ⟨j, by omega, h⟩
theorem sameG_any {op : Int} {i : Iv} : ∀ {k : Nat}, (sameG op k).any (isG i) = true ↔ i.op = op ∧ i.b < 65536 ∧ ∃ j : Nat, j < k ∧ i.a = (j : Int)
  | 0 => by simp [sameG]
  | k + 1 => by
    unfold sameG
    rw [List.any_append, Bool.or_eq_true, sameG_any]
    have e : [(⟨op, (k : Int), 65536⟩ : Gr)].any (isG i) = isG i ⟨op, (k : Int), 65536⟩ := by simp
    rw [e, isG_iff]
    constructor
    · rintro (⟨h1, h2, j, hj, h3⟩ | ⟨⟨h1, h3⟩, h2⟩)
      · exact ⟨h1, h2, j, by omega, h3⟩
      · exact ⟨h1.symm, h2, k, by omega, h3.symm⟩
    · rintro ⟨h1, h2, j, hj, h3⟩
      by_cases q : j = k
      · subst q; exact .inr ⟨⟨h1.symm, h3.symm⟩, h2⟩
      · exact .inl ⟨h1, h2, j, by omega, h3⟩
theorem portG_any {part : Int} {d : Pt} {a : Int} {i : Iv} (hb : i.b < 65536) : (portG part d a).any (isG i) = true ↔ i.a = a ∧ (((part = d.wr ∨ bit d.rd part = true) ∧ (i.op = 23 ∧ i.b < d.w ∨ i.op = 24)) ∨ (part = d.wr ∧ (i.op = 25 ∧ i.b < d.w ∨ i.op = 26))) := by
  have hr : (rdG d a).any (isG i) = true ↔ i.a = a ∧ (i.op = 23 ∧ i.b < d.w ∨ i.op = 24) := by
    unfold rdG
    simp only [List.any_cons, List.any_nil, Bool.or_false, Bool.or_eq_true, isG_iff]
    constructor
    · rintro (⟨⟨h1, h2⟩, h3⟩ | ⟨⟨h1, h2⟩, h3⟩)
      · exact ⟨h2.symm, .inl ⟨h1.symm, h3⟩⟩
      · exact ⟨h2.symm, .inr h1.symm⟩
    · rintro ⟨h2, ⟨h1, h3⟩ | h1⟩
      · exact .inl ⟨⟨h1.symm, h2.symm⟩, h3⟩
      · exact .inr ⟨⟨h1.symm, h2.symm⟩, hb⟩
  have hw : (wrG d a).any (isG i) = true ↔ i.a = a ∧ (i.op = 25 ∧ i.b < d.w ∨ i.op = 26) := by
    unfold wrG
    simp only [List.any_cons, List.any_nil, Bool.or_false, Bool.or_eq_true, isG_iff]
    constructor
    · rintro (⟨⟨h1, h2⟩, h3⟩ | ⟨⟨h1, h2⟩, h3⟩)
      · exact ⟨h2.symm, .inl ⟨h1.symm, h3⟩⟩
      · exact ⟨h2.symm, .inr h1.symm⟩
    · rintro ⟨h2, ⟨h1, h3⟩ | h1⟩
      · exact .inl ⟨⟨h1.symm, h2.symm⟩, h3⟩
      · exact .inr ⟨⟨h1.symm, h2.symm⟩, hb⟩
  unfold portG
  rw [List.any_append, Bool.or_eq_true]
  have e1 : ((if (decide (part = d.wr) || bit d.rd part) = true then rdG d a else []).any (isG i) = true) ↔ ((part = d.wr ∨ bit d.rd part = true) ∧ (rdG d a).any (isG i) = true) := by
    split
    · rename_i h; simp only [Bool.or_eq_true, decide_eq_true_eq] at h; exact ⟨fun q => ⟨h, q⟩, fun q => q.2⟩
    · rename_i h; simp only [Bool.or_eq_true, decide_eq_true_eq] at h; exact ⟨fun q => by simp at q, fun q => absurd q.1 h⟩
  have e2 : ((if decide (part = d.wr) = true then wrG d a else []).any (isG i) = true) ↔ (part = d.wr ∧ (wrG d a).any (isG i) = true) := by
    split
    · rename_i h; simp only [decide_eq_true_eq] at h; exact ⟨fun q => ⟨h, q⟩, fun q => q.2⟩
    · rename_i h; simp only [decide_eq_true_eq] at h; exact ⟨fun q => by simp at q, fun q => absurd q.1 h⟩
  rw [e1, e2, hr, hw]
  constructor
  · rintro (⟨h1, h2, h3⟩ | ⟨h1, h2, h3⟩)
    · exact ⟨h2, .inl ⟨h1, h3⟩⟩
    · exact ⟨h2, .inr ⟨h1, h3⟩⟩
  · rintro ⟨h2, ⟨h1, h3⟩ | ⟨h1, h3⟩⟩
    · exact .inl ⟨h1, h2, h3⟩
    · exact .inr ⟨h1, h2, h3⟩
/-- no number of 32 bits has more bits -/
theorem one_bit {x part : Int} (h : 0 ≤ x ∧ x ≤ 4294967295) : oneB x part = bit x part := by
  unfold oneB
  by_cases q : part < 32
  · rw [decide_eq_true q, Bool.true_and]
  · rw [decide_eq_false q, Bool.false_and]
    unfold bit
    have h1 : (2 : Nat) ^ 32 ≤ 2 ^ part.toNat := Nat.pow_le_pow_right (by omega) (by omega)
    have h2 : (2 : Int) ^ part.toNat = ((2 ^ part.toNat : Nat) : Int) := by push_cast; rfl
    have h3 : x / 2 ^ part.toNat = 0 := by
      rw [h2]
      generalize 2 ^ part.toNat = N at *
      exact Int.ediv_eq_zero_of_lt h.1 (by omega)
    rw [h3]
    simp
theorem hold_own {i : Iv} (hi : 0 ≤ i.a ∧ i.a ≤ 255 ∧ i.b ≤ 65535) {part : Int} {c : Cf} (hfr : 0 ≤ c.fr ∧ c.fr ≤ 4294967295) (hpo : ∀ d ∈ c.po, 0 ≤ d.rd ∧ d.rd ≤ 4294967295) : holdE i (grantsL part c) = ownE i part c := by
  have key : (grantsL part c).any (isG i) = true ↔ (∃ j, j < min c.po.length 256 ∧ (portG part (c.po.getD j pz) (j : Int)).any (isG i) = true) ∨ (bit c.fr part = true ∧ (sameG 21 (min c.ins 256).toNat).any (isG i) = true) ∨ (part = c.fw ∧ (sameG 22 (min c.ns 256)).any (isG i) = true) := by
    unfold grantsL
    rw [List.any_append, List.any_append, Bool.or_eq_true, Bool.or_eq_true, portsG_any]
    have e1 : (insG part c).any (isG i) = true ↔ (bit c.fr part = true ∧ (sameG 21 (min c.ins 256).toNat).any (isG i) = true) := by
      unfold insG
      split
      · rename_i h; exact ⟨fun q => ⟨h, q⟩, fun q => q.2⟩
      · rename_i h; exact ⟨fun q => by simp at q, fun q => absurd q.1 h⟩
    have e2 : (outsG part c).any (isG i) = true ↔ (part = c.fw ∧ (sameG 22 (min c.ns 256)).any (isG i) = true) := by
      unfold outsG
      split
      · rename_i h; simp only [decide_eq_true_eq] at h; exact ⟨fun q => ⟨h, q⟩, fun q => q.2⟩
      · rename_i h; simp only [decide_eq_true_eq] at h; exact ⟨fun q => by simp at q, fun q => absurd q.1 h⟩
    rw [e1, e2, or_assoc]
  have hb : i.b < 65536 := by omega
  simp only [portG_any hb, sameG_any] at key
  have hfr1 := one_bit (part := part) hfr
  unfold holdE ownE refE
  by_cases hp : pOp i.op = true
  · rw [if_pos hp, if_pos hp]
    have hop : 23 ≤ i.op ∧ i.op ≤ 26 := by unfold pOp at hp; simpa using hp
    have : (grantsL part c).any (isG i) = true ↔ (i.a < c.po.length ∧ mayP i part (c.po.getD i.a.toNat pz) = true) := by
      rw [key]
      unfold mayP
      simp only [Bool.and_eq_true, Bool.or_eq_true, decide_eq_true_eq, Bool.not_eq_true', Bool.or_eq_false_iff, decide_eq_false_iff_not]
      constructor
      · rintro (⟨j, hj, ha, h⟩ | ⟨_, h, _⟩ | ⟨_, h, _⟩)
        · have hjl : j < c.po.length := by omega
          have e : i.a.toNat = j := by omega
          have hd := one_bit (part := part) (hpo _ (getD_mem pz hjl))
          rw [e, hd]
          refine ⟨by omega, ?_, ?_⟩
          · rcases h with ⟨h1 | h1, h2⟩ | ⟨h1, h2⟩
            · exact .inl h1.symm
            · exact .inr ⟨by omega, h1⟩
            · exact .inl h1.symm
          · rcases h with ⟨_, ⟨h1, h2⟩ | h1⟩ | ⟨_, ⟨h1, h2⟩ | h1⟩
            · exact .inr h2
            · exact .inl (by omega)
            · exact .inr h2
            · exact .inl (by omega)
        · omega
        · omega
      · rintro ⟨h1, h2, h3⟩
        have hjl : i.a.toNat < c.po.length := by omega
        have hd := one_bit (part := part) (hpo _ (getD_mem pz hjl))
        rw [hd] at h2
        refine .inl ⟨i.a.toNat, by omega, by omega, ?_⟩
        generalize c.po.getD i.a.toNat pz = d at *
        rcases h2 with h2 | ⟨h2, h4⟩
        · by_cases q : i.op ≤ 24
          · refine .inl ⟨.inl h2.symm, ?_⟩
            by_cases q2 : i.op = 23
            · exact .inl ⟨q2, by omega⟩
            · exact .inr (by omega)
          · refine .inr ⟨h2.symm, ?_⟩
            by_cases q2 : i.op = 25
            · exact .inl ⟨q2, by omega⟩
            · exact .inr (by omega)
        · refine .inl ⟨.inr h4, ?_⟩
          by_cases q2 : i.op = 23
          · exact .inl ⟨q2, by omega⟩
          · exact .inr (by omega)
    simp only [this]
  · have hop : i.op < 23 ∨ 26 < i.op := by
      unfold pOp at hp
      simp only [Bool.and_eq_true, decide_eq_true_eq] at hp
      omega
    rw [if_neg hp, if_neg hp]
    by_cases h21 : i.op = 21
    · have : (grantsL part c).any (isG i) = true ↔ (i.a < c.ins ∧ oneB c.fr part = true) := by
        rw [key, hfr1]
        constructor
        · rintro (⟨j, hj, ha, h⟩ | ⟨h1, h, _, j, hj, ha⟩ | ⟨_, h, _⟩)
          · omega
          · exact ⟨by omega, h1⟩
          · omega
        · rintro ⟨h1, h2⟩
          exact .inr (.inl ⟨h2, h21, hb, i.a.toNat, by omega, by omega⟩)
      simp only [this, h21]
      simp
    · by_cases h22 : i.op = 22
      · have : (grantsL part c).any (isG i) = true ↔ (i.a < c.ns ∧ c.fw = part) := by
          rw [key]
          constructor
          · rintro (⟨j, hj, ha, h⟩ | ⟨h1, h, _, j, hj, ha⟩ | ⟨h1, _, _, j, hj, ha⟩)
            · omega
            · omega
            · exact ⟨by omega, h1.symm⟩
          · rintro ⟨h1, h2⟩
            exact .inr (.inr ⟨h2.symm, h22, hb, i.a.toNat, by omega, by omega⟩)
        simp only [this, h22]
        simp
      · simp [h21, h22]
end Ver
end Go.Proofs.YtjoiogdckbaeaaaDoor
namespace Go.Proofs.YtjoiogdckbaeaaaDoor
namespace Ver
open Isa Flw Cst Hgt
set_option linter.unusedVariables false
set_option linter.unusedSimpArgs false
def vA : List Iv := [⟨21, 0, 0, 0⟩, ⟨23, 0, 1, 0⟩, ⟨5, 0, 0, 0⟩, ⟨22, 0, 0, 0⟩, ⟨27, 0, 0, 0⟩]
def vB : List Iv := [⟨1, 0, 0, 1⟩, ⟨25, 0, 0, 0⟩, ⟨27, 0, 0, 0⟩]
def vC : List Iv := [⟨21, 1, 0, 0⟩, ⟨27, 0, 0, 0⟩]
def vD : List Iv := [⟨1, 0, 0, 1⟩, ⟨22, 1, 0, 0⟩, ⟨27, 0, 0, 0⟩]
def vE : List Iv := [⟨1, 0, 0, 1⟩, ⟨20, 0, 0, 0⟩, ⟨27, 0, 0, 0⟩]
/-- the chapter's configuration -/
def cfT : Cf := ⟨[4, 4], [⟨2, 1, 1⟩], 1, 1, 1, 0⟩
theorem wf_vA : ∀ i ∈ vA, i.wf := wf_allc (by decide +kernel)
theorem wf_vB : ∀ i ∈ vB, i.wf := wf_allc (by decide +kernel)
theorem wf_vC : ∀ i ∈ vC, i.wf := wf_allc (by decide +kernel)
theorem wf_vD : ∀ i ∈ vD, i.wf := wf_allc (by decide +kernel)
theorem wf_vE : ∀ i ∈ vE, i.wf := wf_allc (by decide +kernel)
theorem fine_vA : Fine vA := fine_of (by decide +kernel)
theorem fine_vB : Fine vB := fine_of (by decide +kernel)
theorem fine_vC : Fine vC := fine_of (by decide +kernel)
theorem fine_vD : Fine vD := fine_of (by decide +kernel)
theorem fine_vE : Fine vE := fine_of (by decide +kernel)
/-- a program that goes straight on: all are come to -/
theorem come_on {l : List Iv} (hf : Fine l) (hw : ∀ i ∈ l, i.wf) (h : ∀ n, n + 1 < l.length → n + 1 ∈ behL l n) : ∀ n, n < l.length → (fun _ => true) n = comeB l n := by
  have key : ∀ n, n < l.length → Come l n := by
    intro n
    induction n with
    | zero => intro _; exact .zero
    | succ n ih => intro hn; exact .step (ih (by omega)) (h n hn)
  exact come_is hf hw (fun _ => true) rfl (fun n hn _ => key n hn) (fun _ _ _ _ _ => rfl)
theorem come_vA : ∀ n, n < vA.length → (fun _ => true) n = comeB vA n := come_on fine_vA wf_vA (fun n hn => (show ∀ n, n < 4 → n + 1 ∈ behL vA n by decide +kernel) n (Nat.lt_of_succ_lt_succ hn))
theorem come_vB : ∀ n, n < vB.length → (fun _ => true) n = comeB vB n := come_on fine_vB wf_vB (fun n hn => (show ∀ n, n < 2 → n + 1 ∈ behL vB n by decide +kernel) n (Nat.lt_of_succ_lt_succ hn))
theorem come_vC : ∀ n, n < vC.length → (fun _ => true) n = comeB vC n := come_on fine_vC wf_vC (fun n hn => (show ∀ n, n < 1 → n + 1 ∈ behL vC n by decide +kernel) n (Nat.lt_of_succ_lt_succ hn))
theorem come_vD : ∀ n, n < vD.length → (fun _ => true) n = comeB vD n := come_on fine_vD wf_vD (fun n hn => (show ∀ n, n < 2 → n + 1 ∈ behL vD n by decide +kernel) n (Nat.lt_of_succ_lt_succ hn))
theorem come_vE : ∀ n, n < vE.length → (fun _ => true) n = comeB vE n := come_on fine_vE wf_vE (fun n hn => (show ∀ n, n < 2 → n + 1 ∈ behL vE n by decide +kernel) n (Nat.lt_of_succ_lt_succ hn))
theorem bits_is {l : List Iv} {p : Nat → Bool} (h : ∀ n, n < l.length → p n = comeB l n) (q : Int → Bool) : bitsL l q = mask (fun j => (List.range l.length).any fun t => p t && q (l.getD t iz).op && decide ((l.getD t iz).a = (j : Int))) 32 := by
  unfold bitsL bitsK
  refine mask_congr fun j _ => ?_
  unfold used
  rw [Bool.eq_iff_iff]
  simp only [List.any_eq_true, List.mem_range]
  constructor
  · rintro ⟨t, ht, h1⟩
    exact ⟨t, ht, by rw [h t ht]; exact h1⟩
  · rintro ⟨t, ht, h1⟩
    exact ⟨t, ht, by rw [← h t ht]; exact h1⟩
theorem al_is {l : List Iv} {p : Nat → Bool} (h : ∀ n, n < l.length → p n = comeB l n) (part : Int) (c : Cf) : alK l part c = first (fun k => p k && decide (ownE (l.getD k iz) part c ≠ 0)) l.length := by
  unfold alK
  refine first_congr fun t ht => ?_
  unfold alien
  rw [h t ht]
theorem ver_wrong {l : List Iv} {p : Nat → Bool} (h : ∀ n, n < l.length → p n = comeB l n) (k : Nat) (e : Int) (hh : (htA l 4).2.2 = 0) (hk : first (fun k => p k && decide (ownE (l.getD k iz) 0 cfT ≠ 0)) l.length = k) (hl : k < l.length) (he : ownE (l.getD k iz) 0 cfT = e) : verA l 0 cfT = (sz, k, e) := by
  unfold verA
  rw [if_neg (by decide), show cfT.st.getD (0 : Int).toNat 0 = 4 from rfl, if_neg (by rw [hh]; decide), al_is h, hk, if_pos hl, he]
theorem ver_right {l : List Iv} {p : Nat → Bool} (h : ∀ n, n < l.length → p n = comeB l n) (hh : (htA l 4).2.2 = 0) (hk : first (fun k => p k && decide (ownE (l.getD k iz) 0 cfT ≠ 0)) l.length = l.length) : verA l 0 cfT = (sumL l 4, 0, 0) := by
  unfold verA
  rw [if_neg (by decide), show cfT.st.getD (0 : Int).toNat 0 = 4 from rfl, if_neg (by rw [hh]; decide), al_is h, hk, if_neg (Nat.lt_irrefl _)]
theorem wz_free {l : List Iv} (hf : Fine l) (hF : Free l) (n : Nat) (h : ws l 0 = n) : wz l = n := by unfold wz; rw [if_pos (fr_of hf hF).1, h]
theorem free_vA : Free vA := free_ahead fun n hc m hm => by
  have hn := come_lt fine_vA wf_vA hc
  have key : ∀ n, n < 5 → ∀ m ∈ behL vA n, n < m := by decide +kernel
  exact key n hn m hm
theorem wz_vA : wz vA = 5 := wz_free fine_vA free_vA 5 (by decide +kernel)
theorem wz_vE : wz vE = 0 := by
  have h1 : To vE 1 0 := .one (by decide +kernel)
  have h2 : To vE 0 1 := .one (by decide +kernel)
  have h0 : To vE 0 0 := .more h2 (by decide +kernel)
  have hl : lpB vE 0 = true := by
    unfold lpB agB
    rw [comeB_iff.2 .zero, toB_iff.2 h0]; rfl
  have hk : lpK vE = 0 := by
    unfold lpK
    rcases Nat.eq_zero_or_pos (first (lpB vE) vE.length) with e | e
    · exact e
    · have := first_miss (p := lpB vE) (n := vE.length) e
      rw [hl] at this; cases this
  have hE : frE vE = 130 := by
    unfold frE
    rw [(chk_of fine_vE).1, hk]
    decide
  unfold wz
  rw [if_neg (by rw [hE]; decide)]
theorem ver_vA : verA vA 0 cfT = (⟨2, 5, 1, 0, 1, 1⟩, 0, 0) := by
  rw [ver_right come_vA (by decide +kernel) (by decide +kernel)]
  unfold sumL
  rw [wz_vA, bits_is come_vA, bits_is come_vA, bits_is come_vA, bits_is come_vA, show (mostA vA 4).1 = 2 from by decide +kernel]
  have b1 : mask (fun j => (List.range vA.length).any fun t => (fun _ => true) t && rdO (vA.getD t iz).op && decide ((vA.getD t iz).a = (j : Int))) 32 = 1 := by decide +kernel
  have b2 : mask (fun j => (List.range vA.length).any fun t => (fun _ => true) t && wrO (vA.getD t iz).op && decide ((vA.getD t iz).a = (j : Int))) 32 = 0 := by decide +kernel
  have b3 : mask (fun j => (List.range vA.length).any fun t => (fun _ => true) t && inO (vA.getD t iz).op && decide ((vA.getD t iz).a = (j : Int))) 32 = 1 := by decide +kernel
  have b4 : mask (fun j => (List.range vA.length).any fun t => (fun _ => true) t && ouO (vA.getD t iz).op && decide ((vA.getD t iz).a = (j : Int))) 32 = 1 := by decide +kernel
  rw [b1, b2, b3, b4]
theorem ver_vE : verA vE 0 cfT = (⟨1, 0, 0, 0, 0, 0⟩, 0, 0) := by
  rw [ver_right come_vE (by decide +kernel) (by decide +kernel)]
  unfold sumL
  rw [wz_vE, bits_is come_vE, bits_is come_vE, bits_is come_vE, bits_is come_vE, show (mostA vE 4).1 = 1 from by decide +kernel]
  have b1 : mask (fun j => (List.range vE.length).any fun t => (fun _ => true) t && rdO (vE.getD t iz).op && decide ((vE.getD t iz).a = (j : Int))) 32 = 0 := by decide +kernel
  have b2 : mask (fun j => (List.range vE.length).any fun t => (fun _ => true) t && wrO (vE.getD t iz).op && decide ((vE.getD t iz).a = (j : Int))) 32 = 0 := by decide +kernel
  have b3 : mask (fun j => (List.range vE.length).any fun t => (fun _ => true) t && inO (vE.getD t iz).op && decide ((vE.getD t iz).a = (j : Int))) 32 = 0 := by decide +kernel
  have b4 : mask (fun j => (List.range vE.length).any fun t => (fun _ => true) t && ouO (vE.getD t iz).op && decide ((vE.getD t iz).a = (j : Int))) 32 = 0 := by decide +kernel
  rw [b1, b2, b3, b4]
theorem ver_vB : verA vB 0 cfT = (sz, 1, 140) := ver_wrong come_vB 1 140 (by decide +kernel) (by decide +kernel) (by decide) (by decide +kernel)
theorem ver_vC : verA vC 0 cfT = (sz, 0, 141) := ver_wrong come_vC 0 141 (by decide +kernel) (by decide +kernel) (by decide) (by decide +kernel)
theorem ver_vD : verA vD 0 cfT = (sz, 1, 141) := ver_wrong come_vD 1 141 (by decide +kernel) (by decide +kernel) (by decide) (by decide +kernel)
theorem ver_nil : verA [] 2 cfT = (sz, 0, 2) := by unfold verA; rw [if_pos (by decide)]
end Ver
end Go.Proofs.YtjoiogdckbaeaaaDoor
