/- MemPlays: the two memories, side by side. -/
import Derived.Test.YthpimoinognkhaaMemHeavy
import Derived.Test.YthpimoinognkhaaMemR4
import Derived.Laws.BytesArg
import Derived.Laws.IdiomStrings
namespace Go.Proofs.Ythpimoinognkhaa
open Go.ChangeShapes Go.WideShapes Go.ChangeAt Go.RowKit
namespace Ram
set_option linter.unusedVariables false
set_option linter.unusedSimpArgs false
/-- bytes, told as a string -/
theorem row_str {w : World} {a : Option Addr} {n : Nat} (cap : Nat) {l : List Int} {p : Nat → Prop} (h : SRow p w a n l) :
    (convert 35 9 (.slice a n cap)).run Try.prog w = .ok (.string (strOfNums l)) w := by
  obtain ⟨h1, h2, h3⟩ := h
  rcases h3 with rfl | ⟨b, off, rfl, _, hc⟩
  · have hl : l = [] := List.eq_nil_of_length_eq_zero h1
    subst hl
    cases a with
    | none => rw [run_convert_bytes_nil w 35 5 Try.underlying35 Try.underlying5 0 cap 9 Try.underlying9]; rfl
    | some x =>
      rw [run_convert_bytes_string w 35 9 5 _ 0 cap Try.underlying35 Try.underlying5 Try.underlying9]
      have hl := run_loadCells_list (P := Try.prog) w x [] (fun j v hj => by simp at hj)
      rw [run_bytesToString w x 0 cap [] (by simpa using hl)]
      rfl
  · exact run_convert_bytes_arg w 35 5 Try.underlying35 Try.underlying5 b off n cap l h1 hc 9 Try.underlying9
theorem srow_drewN {p : Nat → Prop} {w : World} {a : Option Addr} {n : Nat} {l : List Int} (h : SRow p w a n l) (q : Nat) : SRow p (w.drewN q) a n l := h.below (below_drewN (Below.refl w.heap.size w) q) (Nat.le_refl _)
theorem Told.srow {w : World} {B : Nat} {v : Value} {l : List Int} (h : Told w B v l) (hby : ∀ z ∈ l, 0 ≤ z ∧ z ≤ 255) : ∃ a n, v = .slice a n n ∧ SRow (fun _ => False) w a n l := by
  rcases h with ⟨rfl, rfl⟩ | ⟨k, h0, rfl, hk, hc⟩
  · exact ⟨Option.none, 0, rfl, srow_none _ _ _⟩
  · exact ⟨_, _, rfl, low_row w k l _ hc hby⟩
theorem DAt.imp {p q : Nat → Prop} {w : World} {b off : Nat} {y : Dv} (h : DAt p w b off y) (hq : ∀ k, q k → p k) : DAt q w b off y := by
  obtain ⟨h0, h1, h2, h3, ba, bn, bc, h4, h5, h6, h7⟩ := h
  exact ⟨h0, h1, h2, h3, ba, bn, bc, h4, h5, h6, h7.imp fun k _ => hq k⟩
theorem DRow.imp' {p q : Nat → Prop} {w : World} {a : Option Addr} {n : Nat} {l : List Dv} (h : DRow p w a n l) (hq : ∀ k, q k → p k) : DRow q w a n l :=
  ⟨h.1, h.2.imp id fun ⟨b, off, e, hp, hj⟩ => ⟨b, off, e, fun x => hp (hq b x), fun j hlt => (hj j hlt).imp hq⟩⟩
/-- the two memories stand so, with the same bytes or not; nothing that was there has turned -/
structure St (W X : World) (gm dm gr dr : Nat) (b1 b2 : List Int) : Prop where
  m : Ram 57 X gm dm b1
  r : Ram 48 X gr dr b2
  bel : Below W.heap.size W X
  g1 : W.heap.size ≤ gm
  g2 : W.heap.size ≤ dm
  g3 : W.heap.size ≤ gr
  g4 : W.heap.size ≤ dr
  n1 : gm ≠ dr
  n2 : dm ≠ gr
  n3 : dm ≠ dr
theorem St.below {W X Y : World} {gm dm gr dr : Nat} {b1 b2 : List Int} (h : St W X gm dm gr dr b1 b2) (hb : Below X.heap.size X Y) : St W Y gm dm gr dr b1 b2 :=
  ⟨h.m.below hb (Nat.le_refl _), h.r.below hb (Nat.le_refl _), h.bel.trans (hb.mono h.bel.size), h.g1, h.g2, h.g3, h.g4, h.n1, h.n2, h.n3⟩
theorem St.drew {W X : World} {gm dm gr dr : Nat} {b1 b2 : List Int} (h : St W X gm dm gr dr b1 b2) : St W X.drew gm dm gr dr b1 b2 := h.below (Below.refl _ _).drew
/-- the program's memory is written -/
theorem St.setM {W X Y : World} {gm dm gr dr : Nat} {b1 b2 b1' : List Int} (h : St W X gm dm gr dr b1 b2) (hm : Ram 57 Y gm dm b1') (hk : Kept (· = dm) X Y) : St W Y gm dm gr dr b1' b2 :=
  ⟨hm, h.r.kept hk (fun e => h.n2 e.symm) (fun e => h.n3 e.symm), h.bel.trans (hk.toBelow h.bel.size (fun k hk e => by have := h.g2; omega)), h.g1, h.g2, h.g3, h.g4, h.n1, h.n2, h.n3⟩
/-- the document's memory is written -/
theorem St.setR {W X Y : World} {gm dm gr dr : Nat} {b1 b2 b2' : List Int} (h : St W X gm dm gr dr b1 b2) (hr : Ram 48 Y gr dr b2') (hk : Kept (· = dr) X Y) : St W Y gm dm gr dr b1 b2' :=
  ⟨h.m.kept hk h.n1 h.n3, hr, h.bel.trans (hk.toBelow h.bel.size (fun k hk e => by have := h.g4; omega)), h.g1, h.g2, h.g3, h.g4, h.n1, h.n2, h.n3⟩
/-- the same, with the call's own row of cells -/
structure Sv (W X : World) (gm dm gr dr V : Nat) (cs : Array Value) (b1 b2 : List Int) : Prop where
  st : St W X gm dm gr dr b1 b2
  v : X.heap[V]? = some (.cells cs 37 (0, 0))
  v1 : V ≠ dm
  v2 : V ≠ dr
  v3 : W.heap.size ≤ V
theorem Sv.drew {W X : World} {gm dm gr dr V : Nat} {cs : Array Value} {b1 b2 : List Int} (h : Sv W X gm dm gr dr V cs b1 b2) : Sv W X.drew gm dm gr dr V cs b1 b2 := ⟨h.st.drew, h.v, h.v1, h.v2, h.v3⟩
theorem Sv.below {W X Y : World} {gm dm gr dr V : Nat} {cs : Array Value} {b1 b2 : List Int} (h : Sv W X gm dm gr dr V cs b1 b2) (hb : Below X.heap.size X Y) : Sv W Y gm dm gr dr V cs b1 b2 :=
  ⟨h.st.below hb, (hb.block V (lt_of_block h.v)).trans h.v, h.v1, h.v2, h.v3⟩
theorem Sv.setM {W X Y : World} {gm dm gr dr V : Nat} {cs : Array Value} {b1 b2 b1' : List Int} (h : Sv W X gm dm gr dr V cs b1 b2) (hm : Ram 57 Y gm dm b1') (hk : Kept (· = dm) X Y) : Sv W Y gm dm gr dr V cs b1' b2 :=
  ⟨h.st.setM hm hk, hk.same h.v h.v1, h.v1, h.v2, h.v3⟩
theorem Sv.setR {W X Y : World} {gm dm gr dr V : Nat} {cs : Array Value} {b1 b2 b2' : List Int} (h : Sv W X gm dm gr dr V cs b1 b2) (hr : Ram 48 Y gr dr b2') (hk : Kept (· = dr) X Y) : Sv W Y gm dm gr dr V cs b1 b2' :=
  ⟨h.st.setR hr hk, hk.same h.v h.v2, h.v1, h.v2, h.v3⟩
theorem cells5 {X : World} {V : Nat} {v0 v1 v2 v3 v4 : Value} {t : TypeId} {fr : Nat × Nat} (h : X.heap[V]? = some (.cells #[v0, v1, v2, v3, v4] t fr)) :
    X.cell? ⟨V, 0, none⟩ = some v0 ∧ X.cell? ⟨V, 1, none⟩ = some v1 ∧ X.cell? ⟨V, 2, none⟩ = some v2 ∧ X.cell? ⟨V, 3, none⟩ = some v3 ∧ X.cell? ⟨V, 4, none⟩ = some v4 :=
  ⟨by rw [cell_of_row _ _ _ _ _ _ h]; rfl, by rw [cell_of_row _ _ _ _ _ _ h]; rfl, by rw [cell_of_row _ _ _ _ _ _ h]; rfl, by rw [cell_of_row _ _ _ _ _ _ h]; rfl, by rw [cell_of_row _ _ _ _ _ _ h]; rfl⟩
section
variable {W X : World} {gm dm gr dr V : Nat} {cs : Array Value} {b1 b2 : List Int}
theorem zeroSv (h : Sv W X gm dm gr dr V cs b1 b2) (a n : Nat) (ha : a ≤ 4294967295) (hn : n ≤ 4294967295) :
    Calls Try.prog 11 #[.pointer (some ⟨gm, 0, none⟩), .int .u32 (a : Int), .int .u32 (n : Int)] X fun e w' => e = .returned (.int .i64 (rangeE a n b1.length)) ∧ Sv W w' gm dm gr dr V cs (zeroM b1 a n) b2 :=
  (zero_any h.st.m a n ha hn).mono fun e w' ⟨he, hm, hk⟩ => ⟨he, h.setM hm hk⟩
theorem rzeroSv (h : Sv W X gm dm gr dr V cs b1 b2) (a n : Nat) (ha : a ≤ 4294967295) (hn : n ≤ 4294967295) :
    Calls Try.prog 12 #[.pointer (some ⟨gr, 0, none⟩), .int .u32 (a : Int), .int .u32 (n : Int)] X fun e w' => e = .returned (.int .i64 (rangeE a n b2.length)) ∧ Sv W w' gm dm gr dr V cs b1 (zeroM b2 a n) :=
  (rzero_any h.st.r a n ha hn).mono fun e w' ⟨he, hm, hk⟩ => ⟨he, h.setR hm hk⟩
theorem putSv (h : Sv W X gm dm gr dr V cs b1 b2) (a n c : Nat) (ha : a ≤ 4294967295) (hn : n ≤ 9223372036854775807) {ab : Option Addr} {b : List Int} (hb : SRow (fun k => W.heap.size ≤ k) W ab n b) :
    Calls Try.prog 13 #[.pointer (some ⟨gm, 0, none⟩), .int .u32 (a : Int), .slice ab n c] X fun e w' => e = .returned (.int .i64 (rangeE a n b1.length)) ∧ Sv W w' gm dm gr dr V cs (putM b1 a b) b2 :=
  (put_any h.st.m a n c ha hn ((hb.kept (Kept.below h.st.bel)).imp fun k _ hk => by have := h.st.g2; omega)).mono fun e w' ⟨he, hm, hk⟩ => ⟨he, h.setM hm hk⟩
theorem rputSv (h : Sv W X gm dm gr dr V cs b1 b2) (a n c : Nat) (ha : a ≤ 4294967295) (hn : n ≤ 9223372036854775807) {ab : Option Addr} {b : List Int} (hb : SRow (fun k => W.heap.size ≤ k) W ab n b) :
    Calls Try.prog 14 #[.pointer (some ⟨gr, 0, none⟩), .int .u32 (a : Int), .slice ab n c] X fun e w' => e = .returned (.int .i64 (rangeE a n b2.length)) ∧ Sv W w' gm dm gr dr V cs b1 (putM b2 a b) :=
  (rput_any h.st.r a n c ha hn ((hb.kept (Kept.below h.st.bel)).imp fun k _ hk => by have := h.st.g4; omega)).mono fun e w' ⟨he, hm, hk⟩ => ⟨he, h.setR hm hk⟩
theorem storeSv (h : Sv W X gm dm gr dr V cs b1 b2) {ar : Option Addr} {nr cr : Nat} {l : List Rg} (hr : RRow (fun k => W.heap.size ≤ k) W ar nr l) (hnr : nr ≤ 1000000) (a n : Nat) (x : Int) (ha : a ≤ 4294967295) (hn : n ≤ 255) (hx : 0 ≤ x ∧ x ≤ 4294967295) :
    Calls Try.prog 19 #[.pointer (some ⟨gm, 0, none⟩), .slice ar nr cr, .int .u32 (a : Int), .int .u8 (n : Int), .int .u32 x] X fun e w' => e = .returned (.int .i64 (wordE l a n 2 b1.length)) ∧ Sv W w' gm dm gr dr V cs (storeM b1 l a n x) b2 :=
  (store_any h.st.m (hr.kept (Kept.below h.st.bel)) hnr a n x ha hn hx).mono fun e w' ⟨he, hm, hk⟩ => ⟨he, h.setM hm hk⟩
theorem rstoreSv (h : Sv W X gm dm gr dr V cs b1 b2) {ar : Option Addr} {nr cr : Nat} {l : List Rg} (hr : RRow (fun k => W.heap.size ≤ k) W ar nr l) (hnr : nr ≤ 1000000) (a n : Nat) (x : Int) (ha : a ≤ 4294967295) (hn : n ≤ 255) (hx : 0 ≤ x ∧ x ≤ 4294967295) :
    Calls Try.prog 20 #[.pointer (some ⟨gr, 0, none⟩), .slice ar nr cr, .int .u32 (a : Int), .int .u8 (n : Int), .int .u32 x] X fun e w' => e = .returned (.int .i64 (wordE l a n 2 b2.length)) ∧ Sv W w' gm dm gr dr V cs b1 (storeM b2 l a n x) :=
  (rstore_any h.st.r (hr.kept (Kept.below h.st.bel)) hnr a n x ha hn hx).mono fun e w' ⟨he, hm, hk⟩ => ⟨he, h.setR hm hk⟩
/-- a new memory takes the old one's place, and the old one is written -/
theorem St.turn {Y Z : World} {gm' dm' : Nat} {bz : List Int} (h : St W X gm dm gr dr b1 b2) (hg : X.heap.size ≤ gm') (hd : X.heap.size ≤ dm') (hm : Ram 57 Y gm' dm' b1) (hb : Below X.heap.size X Y) (hk : Kept (· = dm) Y Z) : St W Z gm' dm' gr dr b1 b2 := by
  have q1 := h.m.2.2.2.1
  have q2 := h.r.2.2.1
  have q3 := h.r.2.2.2.1
  have q4 := h.bel.size
  have h2 := h.below hb
  exact ⟨hm.kept hk (by omega) (by omega), h2.r.kept hk (fun e => h.n2 e.symm) (fun e => h.n3 e.symm), h2.bel.trans (hk.toBelow h2.bel.size (fun k hk e => by have := h.g2; omega)), by omega, by omega, h.g3, h.g4, by omega, by omega, by omega⟩
end
theorem getM_all' (B : List Int) : getM B 0 B.length = B := by
  unfold getM
  rw [show there 0 B.length B.length = true from by simp [there], if_pos rfl, get_all]
theorem range_all' (n : Nat) : rangeE 0 n n = 0 := rangeE_ok (by simp [there])
theorem getM_by {bs : List Int} {a n : Nat} (h : ∀ z ∈ bs, 0 ≤ z ∧ z ≤ 255) : ∀ z ∈ getM bs a n, 0 ≤ z ∧ z ≤ 255 := by
  unfold getM; split
  · exact get_by h
  · simp
theorem fetchM_by {bs : List Int} {l : List Rg} {a : Nat} (h : ∀ z ∈ bs, 0 ≤ z ∧ z ≤ 255) : ∀ z ∈ fetchM bs l a, 0 ≤ z ∧ z ≤ 255 := by
  unfold fetchM; split
  · exact get_by h
  · simp
end Ram
end Go.Proofs.Ythpimoinognkhaa
