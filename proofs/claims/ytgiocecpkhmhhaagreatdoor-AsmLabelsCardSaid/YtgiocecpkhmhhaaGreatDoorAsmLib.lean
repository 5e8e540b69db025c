/- What the library's words come to at one letter: cutting, splitting, fields, suffixes, counts, numbers, replacing. No program. -/
import Derived.Test.YtgiocecpkhmhhaaGreatDoorAsmM
import Derived.Test.YtgiocecpkhmhhaaGreatDoorAsmR2
import Derived.Lib.FieldsP
import Derived.Lib.SplitLaws
import Derived.Lib.Replace
import Derived.Lib.ParseIntBCases
import Derived.Lib.Strings
namespace Go.Proofs.YtgiocecpkhmhhaaGreatDoor
namespace Asm
open Go.Lib Isa
set_option linter.unusedVariables false
set_option linter.unusedSimpArgs false
/-! ### One letter -/
theorem find_c (c : UInt8) : ∀ s : List UInt8, (∀ y ∈ s, y ≠ c) ∨ ∃ a r, s = a ++ c :: r ∧ ∀ y ∈ a, y ≠ c
  | [] => .inl (by simp)
  | x :: s => by
    by_cases e : x = c
    · subst e; exact .inr ⟨[], s, rfl, by simp⟩
    · rcases find_c c s with h | ⟨a, r, rfl, h⟩
      · exact .inl fun y hy => by
          rcases List.mem_cons.1 hy with rfl | hy
          · exact e
          · exact h y hy
      · exact .inr ⟨x :: a, r, rfl, fun y hy => by
          rcases List.mem_cons.1 hy with rfl | hy
          · exact e
          · exact h y hy⟩
theorem index_no (c : UInt8) : ∀ s : List UInt8, (∀ y ∈ s, y ≠ c) → Lib.index s [c] = -1
  | [], _ => rfl
  | x :: s, h => by
    rw [index_one]
    unfold indexByte
    have hx : (x == c) = false := beq_eq_false_iff_ne.2 (h x (by simp))
    rw [hx, ← index_one, index_no c s fun y hy => h y (by simp [hy])]
    rfl
theorem index_yes (c : UInt8) (r : List UInt8) : ∀ a : List UInt8, (∀ y ∈ a, y ≠ c) → Lib.index (a ++ c :: r) [c] = a.length
  | [], _ => by
    rw [List.nil_append, index_one]
    unfold indexByte
    simp
  | x :: a, h => by
    have ih := index_yes c r a fun y hy => h y (by simp [hy])
    rw [index_one] at ih
    rw [List.cons_append, index_one]
    unfold indexByte
    have hx : (x == c) = false := beq_eq_false_iff_ne.2 (h x (by simp))
    rw [hx, ih]
    have : (((a.length : Nat) : Int) == -1) = false := by rw [beq_eq_false_iff_ne]; omega
    rw [this]
    simp
theorem count_none (c : UInt8) {s : List UInt8} (h : ∀ y ∈ s, y ≠ c) : s.count c = 0 := List.count_eq_zero.2 fun hc => h c hc rfl
theorem count_at (c : UInt8) {a r : List UInt8} (h : ∀ y ∈ a, y ≠ c) : (a ++ c :: r).count c = r.count c + 1 := by
  rw [List.count_append, count_none c h, List.count_cons_self]; omega
/-! ### Split -/
theorem splitL_none : ∀ (s cur : List UInt8), (∀ y ∈ s, y ≠ 10) → splitL s cur = [cur ++ s]
  | [], cur, _ => by simp [splitL]
  | x :: s, cur, h => by
    rw [splitL, if_neg (h x (by simp)), splitL_none s (cur ++ [x]) fun y hy => h y (by simp [hy])]
    simp
theorem splitK_is : ∀ (n : Nat) (s : List UInt8), s.length ≤ n → splitK [10] 0 (s.count 10) s = splitL s []
  | n, s, hn => by
    rcases find_c 10 s with h | ⟨a, r, rfl, h⟩
    · rw [count_none 10 h, splitL_none s [] h]; rfl
    · cases n with
      | zero => simp at hn
      | succ n =>
        rw [count_at 10 h, splitK, index_yes 10 r a h]
        have hm : ((((a.length : Nat) : Int)) == -1) = false := by rw [beq_eq_false_iff_ne]; omega
        rw [hm, if_neg (by simp), Int.toNat_natCast, Nat.add_zero, List.take_left]
        have e : (a ++ 10 :: r).drop (a.length + ([10] : List UInt8).length) = r := by
          rw [← List.drop_drop, List.drop_left]; rfl
        rw [e, splitK_is n r (by simp at hn; omega), splitL_cut a r [] h]
        rfl
theorem sB_size' (l : List UInt8) : (sB l).size = l.length := by rw [Lib.size_eq, sB_list]
theorem splitB_is (s : List UInt8) : (splitB (sB [10]) 0 (countB (sB s) (sB [10])) (sB s)) = (splitL s []).map sB := by
  have h := splitB_data (sB [10]) 0 (countB (sB s) (sB [10])) (sB s)
  have hc : countB (sB s) (sB [10]) = s.count 10 := by
    show Lib.count (sB s).data.toList (sB [10]).data.toList = _
    rw [sB_list, sB_list, count_one]
  rw [hc, sB_list, sB_list, splitK_is _ s (Nat.le_refl _)] at h
  rw [hc, ← h, List.map_map]
  have : (sB ∘ fun x : ByteArray => x.data.toList) = id := by
    funext x
    exact (sB_of rfl).symm
  rw [this, List.map_id]
theorem splitL_len (s : List UInt8) : (splitL s []).length = countB (sB s) (sB [10]) + 1 := by
  have e := congrArg List.length (splitB_is s)
  rw [List.length_map] at e
  rw [← e]
  exact splitB_all (sB [10]) (by decide) 0 _ _ rfl
/-! ### Cut -/
theorem words_cut : ∀ (a r cur : List UInt8), (∀ y ∈ a, y ≠ 59) → wordsGo (a ++ 59 :: r) cur = wordsGo a cur
  | [], r, cur, _ => by simp [wordsGo]
  | x :: a, r, cur, h => by
    have hx := h x (by simp)
    rw [List.cons_append, wordsGo, if_neg hx, wordsGo, if_neg hx, words_cut a r [] fun y hy => h y (by simp [hy]), words_cut a r _ fun y hy => h y (by simp [hy])]
theorem cut_is (s : List UInt8) : (∀ y ∈ (Lib.cut s [59]).1, y ≠ 59) ∧ words s = words (Lib.cut s [59]).1 ∧ (Lib.cut s [59]).1.length ≤ s.length := by
  unfold Lib.cut
  rcases find_c 59 s with h | ⟨a, r, rfl, h⟩
  · rw [index_no 59 s h, if_neg (by decide)]
    exact ⟨h, rfl, Nat.le_refl _⟩
  · rw [index_yes 59 r a h, if_pos (by omega)]
    simp only [Int.toNat_natCast, List.take_left]
    exact ⟨h, words_cut a r [] h, by simp⟩
/-! ### Fields -/
theorem decodeN_blank (n b1 b2 b3 : Nat) : decodeN n 32 b1 b2 b3 = (32, 1) := by unfold decodeN; rw [if_pos (by decide)]
theorem decodeN_no {n b0 b1 b2 b3 : Nat} (h : b0 ≠ 32) (hn : 1 ≤ n) : (decodeN n b0 b1 b2 b3).1 ≠ 32 ∧ (decodeN n b0 b1 b2 b3).2 ≤ n ∧ (1 < (decodeN n b0 b1 b2 b3).2 → b1 ≠ 32) ∧ (2 < (decodeN n b0 b1 b2 b3).2 → b2 ≠ 32) ∧ (3 < (decodeN n b0 b1 b2 b3).2 → b3 ≠ 32) ∧ (decodeN n b0 b1 b2 b3).2 ≤ 4 := by
  unfold decodeN
  repeat' split
  all_goals (simp only; refine ⟨?_, ?_, ?_, ?_, ?_, ?_⟩ <;> omega)
theorem u8_ne {x : UInt8} (h : x.toNat ≠ 32) : x ≠ 32 := fun e => h (by rw [e]; rfl)
theorem u8_nat {x : UInt8} (h : x ≠ 32) : x.toNat ≠ 32 := fun e => h (UInt8.toNat_inj.1 e)
theorem decode_no (l : List UInt8) (pos : Nat) (hp : pos < l.length) (h : l.getD pos 0 ≠ 32) :
    (Utf8.decode (sB l) pos).1 ≠ 32 ∧ 1 ≤ (Utf8.decode (sB l) pos).2 ∧ pos + (Utf8.decode (sB l) pos).2 ≤ l.length ∧ ∀ y ∈ (l.drop pos).take (Utf8.decode (sB l) pos).2, y ≠ 32 := by
  have hw := width_pos (sB l) pos
  rw [decode_N, sB_list] at *
  obtain ⟨h1, h2, h3, h4, h5, h6⟩ := decodeN_no (n := l.length - pos) (b1 := (l.getD (pos + 1) 0).toNat) (b2 := (l.getD (pos + 2) 0).toNat) (b3 := (l.getD (pos + 3) 0).toNat) (u8_nat h) (by omega)
  generalize decodeN (l.length - pos) (l.getD pos 0).toNat (l.getD (pos + 1) 0).toNat (l.getD (pos + 2) 0).toNat (l.getD (pos + 3) 0).toNat = D at *
  refine ⟨h1, hw, by omega, ?_⟩
  intro y hy
  obtain ⟨i, hi, rfl⟩ := List.getElem_of_mem hy
  have hi2 : i < D.2 := by rw [List.length_take] at hi; omega
  have e : ((l.drop pos).take D.2)[i] = l.getD (pos + i) 0 := by
    rw [List.getElem_take, List.getElem_drop, List.getD_eq_getElem?_getD, List.getElem?_eq_getElem (by omega)]
    rfl
  rw [e]
  have hc : i = 0 ∨ i = 1 ∨ i = 2 ∨ i = 3 := by omega
  rcases hc with rfl | rfl | rfl | rfl
  · exact h
  · exact u8_ne (h3 (by omega))
  · exact u8_ne (h4 (by omega))
  · exact u8_ne (h5 (by omega))
def isBl (x : Nat) : Bool := x == 32
theorem openPiece_flush (l : List UInt8) (st : Option Nat) (pos : Nat) (hst : ∀ a, st = some a → a < pos) (hp : pos ≤ l.length) : flush (openPiece l st pos) = match st with | some a => [pieceU l a pos] | none => [] := by
  cases st with
  | none => rfl
  | some a =>
    have := pieceU_ne l a pos (hst a rfl) hp
    unfold flush openPiece
    rw [if_neg this]
theorem fields_go (l : List UInt8) (h59 : ∀ y ∈ l, y ≠ 59) : ∀ (f pos : Nat) (st : Option Nat) (acc : List (Nat × Nat)), l.length ≤ pos + f → pos ≤ l.length → (∀ a, st = some a → a < pos) →
    acc.map (fun x => pieceU l x.1 x.2) ++ wordsGo (l.drop pos) (openPiece l st pos) = (closeSpans (sB l) (spansFromP isBl (sB l) f pos st acc)).map (fun x => pieceU l x.1 x.2)
  | f, pos, st, acc, hf, hp, hst => by
    by_cases hlt : pos < l.length
    · cases f with
      | zero => omega
      | succ f =>
        have hsz : pos < (sB l).size := by rw [sB_size']; exact hlt
        have hne : l.drop pos = l.getD pos 0 :: l.drop (pos + 1) := by
          rw [List.drop_eq_getElem_cons hlt, List.getD_eq_getElem?_getD, List.getElem?_eq_getElem hlt]; rfl
        unfold spansFromP
        rw [if_pos hsz]
        by_cases hb : l.getD pos 0 = 32
        · have hd : Utf8.decode (sB l) pos = (32, 1) := by
            rw [decode_N, sB_list, hb]
            exact decodeN_blank _ _ _ _
          rw [hd]
          have hi : isBl ((32, 1) : Nat × Nat).1 = true := rfl
          rw [if_pos hi, hne, hb, wordsGo, if_neg (by decide), if_pos rfl, openPiece_flush l st pos hst hp]
          cases st with
          | none => exact fields_go l h59 f (pos + 1) none acc (by omega) (by omega) (fun a h => by cases h)
          | some a =>
            have := fields_go l h59 f (pos + 1) none (acc ++ [(a, pos)]) (by omega) (by omega) (fun a h => by cases h)
            rw [List.map_append, List.append_assoc] at this
            exact this
        · obtain ⟨h1, h2, h3, h4⟩ := decode_no l pos hlt hb
          generalize Utf8.decode (sB l) pos = D at *
          have hi : isBl D.1 = false := beq_eq_false_iff_ne.2 h1
          rw [hi, if_neg (by simp)]
          have hsp : l.drop pos = (l.drop pos).take D.2 ++ l.drop (pos + D.2) := by
            rw [← List.drop_drop]; exact (List.take_append_drop _ _).symm
          have hwd : wordsGo (l.drop pos) (openPiece l st pos) = wordsGo (l.drop (pos + D.2)) (openPiece l st pos ++ (l.drop pos).take D.2) := by
            rw [hsp]
            rw [wordsGo_word _ _ _ fun y hy => ⟨h4 y hy, h59 y (List.mem_of_mem_drop (List.mem_of_mem_take hy))⟩]
            congr 1
            rw [← hsp]
          rw [hwd]
          cases st with
          | none =>
            have := fields_go l h59 f (pos + D.2) (some pos) acc (by omega) h3 (fun a h => by cases h; omega)
            rw [← this]
            congr 2
            show [] ++ _ = pieceU l pos (pos + D.2)
            unfold pieceU
            rw [List.nil_append]
            congr 1
            omega
          | some a =>
            have ha := hst a rfl
            have := fields_go l h59 f (pos + D.2) (some a) acc (by omega) h3 (fun b h => by cases h; omega)
            rw [← this]
            congr 2
            exact pieceU_grow l a pos D.2 (by omega)
    · obtain rfl : pos = l.length := by omega
      rw [spansFromP_end _ _ _ _ _ _ (by rw [sB_size']; omega)]
      rw [List.drop_length, wordsGo, openPiece_flush l st _ hst (Nat.le_refl _)]
      unfold closeSpans
      cases st with
      | none => simp
      | some a =>
        simp only [List.map_append, List.map_cons, List.map_nil]
        rw [sB_size']
theorem fields_is (l : List UInt8) (h59 : ∀ y ∈ l, y ≠ 59) : goFieldsP isBl (sB l) = (words l).map sB := by
  have h := fields_go l h59 (sB l).size 0 none [] (by rw [sB_size']; omega) (by omega) (fun a h => by cases h)
  rw [List.drop_zero, List.map_nil, List.nil_append] at h
  unfold goFieldsP spansOfP
  unfold words
  rw [show wordsGo l [] = _ from h, List.map_map]
  apply List.map_congr_left
  intro x _
  show _ = sB (pieceU l x.1 x.2)
  apply sB_of
  unfold pieceU
  rw [Lib.extract_data, sB_list]
/-! ### Suffixes -/
theorem suffix_one (s : List UInt8) (c : UInt8) : hasSuffix s [c] = decide (s.getLast? = some c) := by
  unfold hasSuffix
  rw [Bool.eq_iff_iff]
  simp only [List.isSuffixOf_iff_suffix, decide_eq_true_eq]
  constructor
  · rintro ⟨t, rfl⟩; simp
  · intro h
    obtain ⟨t, rfl⟩ := List.getLast?_eq_some_iff.1 h
    exact ⟨t, rfl⟩
theorem trim_yes {s : List UInt8} {c : UInt8} (h : s.getLast? = some c) : trimSuffix s [c] = s.dropLast := by
  unfold trimSuffix
  rw [suffix_one, decide_eq_true h, if_pos rfl, List.dropLast_eq_take]
  rfl
theorem trim_no {s : List UInt8} {c : UInt8} (h : s.getLast? ≠ some c) : trimSuffix s [c] = s := by
  unfold trimSuffix
  rw [suffix_one, decide_eq_false h]
  rfl
/-! ### Numbers -/
theorem parseM_of (M : Nat) (hM : M < 1844674407370955162) : ∀ (l : List UInt8) (acc : Nat), l.all dgt = true → l.foldl (fun v x => v * 10 + (x.toNat - 48)) acc ≤ M → parseUintM M acc l = .ok (l.foldl (fun v x => v * 10 + (x.toNat - 48)) acc)
  | [], acc, _, _ => rfl
  | x :: l, acc, hd, hv => by
    rw [List.all_cons, Bool.and_eq_true] at hd
    have hx := dgt_val hd.1
    rw [List.foldl_cons] at hv ⊢
    have mono : ∀ (l : List UInt8) (a : Nat), a ≤ l.foldl (fun v x => v * 10 + (x.toNat - 48)) a := by
      intro l
      induction l with
      | nil => intro a; exact Nat.le_refl _
      | cons y l ih => intro a; rw [List.foldl_cons]; exact Nat.le_trans (by omega) (ih _)
    have h1 := mono l (acc * 10 + (x.toNat - 48))
    rw [parseUintM, if_pos hx, if_neg (by omega), if_neg (by omega), parseM_of M hM l _ hd.2 hv]
theorem parse_num {s : List UInt8} (h : 0 ≤ numI s) : parseUintB 32 s = .ok (numI s).toNat ∧ decDigits (numI s).toNat = s := by
  have hi := num_inv h
  have hs : decDigits (numI s).toNat = s := hi.1.symm
  refine ⟨?_, hs⟩
  unfold numI at h hi ⊢
  split at h
  · rename_i hc
    rw [if_pos hc, Int.toNat_natCast]
    unfold parseUintB
    rw [if_neg hc.1]
    exact parseM_of _ (by decide) s 0 hc.2.1 hc.2.2.2
  · omega
theorem parse_bad {s : List UInt8} (h : numI s < 0) {u : Nat} (hu : parseUintB 32 s = .ok u) : decDigits u ≠ s ∧ u ≤ 4294967295 := by
  have hle := parseUintB_le hu
  refine ⟨fun e => ?_, by omega⟩
  have := num_dd (n := (u : Int)) (by omega) (by omega)
  unfold dd at this
  rw [Int.toNat_natCast, e] at this
  omega
/-! ### Replace -/
theorem replaceK_is (c : UInt8) (new : List UInt8) : ∀ (n : Nat) (s : List UInt8), s.length ≤ n → replaceK [c] new (s.count c) s = s.flatMap fun y => if y = c then new else [y]
  | n, s, hn => by
    have plain : ∀ a : List UInt8, (∀ y ∈ a, y ≠ c) → (a.flatMap fun y => if y = c then new else [y]) = a := by
      intro a
      induction a with
      | nil => intro _; rfl
      | cons x a ih => intro h; rw [List.flatMap_cons, if_neg (h x (by simp)), ih fun y hy => h y (by simp [hy])]; rfl
    rcases find_c c s with h | ⟨a, r, rfl, h⟩
    · rw [count_none c h, plain s h]; rfl
    · cases n with
      | zero => simp at hn
      | succ n =>
        rw [count_at c h, replaceK_hit [c] new _ _ a.length (index_yes c r a h), List.take_left]
        have e : (a ++ c :: r).drop (a.length + ([c] : List UInt8).length) = r := by
          rw [← List.drop_drop, List.drop_left]; rfl
        rw [e, replaceK_is c new n r (by simp at hn; omega), List.flatMap_append, List.flatMap_cons, plain a h, if_pos rfl, List.append_assoc]
theorem replace_is (s : List UInt8) (c : UInt8) (new : List UInt8) (hne : ([c] == new) = false) : replaceAll s [c] new = s.flatMap fun y => if y = c then new else [y] := by
  unfold replaceAll replace
  rw [hne, if_neg (by simp)]
  unfold replaceNum
  rw [if_pos (.inl (by decide)), count_one]
  exact replaceK_is c new _ s (Nat.le_refl _)
end Asm
end Go.Proofs.YtgiocecpkhmhhaaGreatDoor
