/- Tags under a key, as numbers: no program. -/
import Derived.Test.YtodbfkifendniaaDoorShaW8
namespace Go.Proofs.YtodbfkifendniaaDoor
open Go.ChangeShapes Go.WideShapes Go.ChangeAt Go.RowKit
namespace Sha
/-- what a key's block begins with -/
def kh (key : List Int) : List Int := if 64 < key.length then sum key else key
/-- a key's block -/
def kb (key : List Int) : List Int := kh key ++ List.replicate (64 - (kh key).length) 0
/-- turned by a byte -/
def turnB (l : List Int) (by' : Int) : List Int := l.map fun z => bits .xor .u8 z by'
/-- the tag of a text -/
def tag (key text : List Int) : List Int := sum (turnB (kb key) 92 ++ sum (turnB (kb key) 54 ++ text))
theorem kh_le (key : List Int) : (kh key).length ≤ 64 := by
  unfold kh; split
  · rw [sum_length]; omega
  · omega
theorem kb_length (key : List Int) : (kb key).length = 64 := by
  have := kh_le key
  simp [kb]; omega
theorem kh_byte (key : List Int) (h : ∀ z ∈ key, 0 ≤ z ∧ z ≤ 255) : ∀ z ∈ kh key, 0 ≤ z ∧ z ≤ 255 := by
  unfold kh; split
  · exact sum_byte _
  · exact h
theorem kb_byte (key : List Int) (h : ∀ z ∈ key, 0 ≤ z ∧ z ≤ 255) : ∀ z ∈ kb key, 0 ≤ z ∧ z ≤ 255 := by
  intro z hz
  unfold kb at hz
  rcases List.mem_append.1 hz with hz | hz
  · exact kh_byte key h z hz
  · have := List.eq_of_mem_replicate hz
    omega
theorem turnB_length (l : List Int) (b : Int) : (turnB l b).length = l.length := by simp [turnB]
theorem tag_length (key text : List Int) : (tag key text).length = 32 := sum_length _
theorem tag_byte (key text : List Int) : ∀ z ∈ tag key text, 0 ≤ z ∧ z ≤ 255 := sum_byte _
theorem xor_byte (a b : Int) : 0 ≤ bits .xor .u8 a b ∧ bits .xor .u8 a b ≤ 255 := by
  have e : bits .xor .u8 a b = IntKind.u8.wrap ((BitVec.ofInt 8 a ^^^ BitVec.ofInt 8 b).toNat : Int) := rfl
  have := (BitVec.ofInt 8 a ^^^ BitVec.ofInt 8 b).isLt
  rw [e]
  simp only [IntKind.wrap, IntKind.signed, IntKind.bits]
  simp
  omega
theorem turnB_byte (l : List Int) (b : Int) : ∀ z ∈ turnB l b, 0 ≤ z ∧ z ≤ 255 := by
  intro z hz
  obtain ⟨y, _, rfl⟩ := List.mem_map.1 hz
  exact xor_byte _ _
/-- bytes 0 behind a key make no difference -/
theorem kb_noughts (key : List Int) (n : Nat) (h : key.length + n ≤ 64) : kb (key ++ List.replicate n 0) = kb key := by
  unfold kb kh
  rw [if_neg (by simp; omega), if_neg (by omega)]
  simp only [List.length_append, List.length_replicate, List.append_assoc, List.replicate_append_replicate]
  congr 2
  omega
/-- a longer key is as its sum -/
theorem kb_sum (key : List Int) (h : 64 < key.length) : kb (sum key) = kb key := by
  unfold kb kh
  rw [if_neg (by rw [sum_length]; omega), if_pos h]
end Sha
end Go.Proofs.YtodbfkifendniaaDoor
