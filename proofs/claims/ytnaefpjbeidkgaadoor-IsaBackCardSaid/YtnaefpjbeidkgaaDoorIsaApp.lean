/- Bytes behind the bytes of an instruction; bytes as strings. -/
import Derived.Test.YtnaefpjbeidkgaaDoorIsaFrame
import Derived.Laws.Append
import Derived.Laws.AppendOwn
import Derived.Deep.MidRow
import Derived.Laws.CopyRow
import Derived.OwnWalk
namespace Go.Proofs.YtnaefpjbeidkgaaDoor
open Go.ChangeShapes Go.WideShapes Go.ChangeAt Go.RowKit
namespace Isa
set_option linter.unusedVariables false
set_option linter.unusedSimpArgs false
theorem run_append_nothing (w : World) (g k cap c : Nat) (a : Option Addr) (hk : k ≤ cap) :
    (Builtin.append_ #[29, 29] 29 #[.slice (some ⟨g, 0, none⟩) k cap, .slice a 0 c]).run Tryd.prog w = .ok (.slice (some ⟨g, 0, none⟩) k cap) w := by
  obtain ⟨i, hi, hz, hs, hb⟩ := info_parts infoByte
  have hu := Tryd.underlying29
  cases a with
  | none => simp [Builtin.append_, run_underlying hu, sizeOf, typeInfo, hi, hs, Builtin.lenOf, Builtin.firstCells, hk, storeCells]
  | some x =>
    have hl := run_loadCells_list (P := Tryd.prog) w x [] (fun j v hj => by simp at hj)
    simp at hl
    simp [Builtin.append_, run_underlying hu, sizeOf, typeInfo, hi, hs, Builtin.lenOf, Builtin.firstCells, hk, hl, storeCells]
/-- the bytes of an instruction (eight cells known whole), and those of a slice behind them -/
theorem app_any (W : World) (V5 : Nat) (bs : List Int) (h8 : bs.length = 8) (hbb : ∀ z ∈ bs, 0 ≤ z ∧ z ≤ 255) {t : TypeId} {fr : Nat × Nat} (hV : W.heap[V5]? = some (.cells (bts bs) t fr)) {a : Option Addr} {n c : Nat} {l : List Int} (h : Row W a n l) (hn : n ≤ 140737488351232) :
    ∃ a' cap' W', (Builtin.append_ #[29, 29] 29 #[.slice (some ⟨V5, 0, none⟩) 8 8, .slice a n c]).run Tryd.prog W = .ok (.slice a' (8 + n) cap') W' ∧ Row W' a' (8 + n) (bs ++ l) ∧ Below W.heap.size W W' ∧ 8 + n ≤ cap' ∧ cap' ≤ 9223372036854775807 := by
  by_cases h0 : n = 0
  · subst h0
    have hm : l = [] := List.eq_nil_of_length_eq_zero h.1
    subst hm
    refine ⟨_, 8, W, run_append_nothing W V5 8 8 c a (Nat.le_refl _), ?_, Below.refl _ _, Nat.le_refl _, by omega⟩
    have := row_block hV hbb
    rw [h8] at this
    simpa using this
  · obtain ⟨s1, s2, s3⟩ := h
    obtain ⟨b, off, rfl, hc⟩ := s3.resolve_left h0
    obtain ⟨i0, hi, hz0, hz1, hz2⟩ := info_parts infoByte
    have hr := run_append_grow (P := Tryd.prog) W 29 29 5 i0 (.int .u8 0) Tryd.underlying29 hi hz0 ⟨V5, 0, none⟩ 8 8 (bs.map (Value.int .u8)) (by rw [hz1]; simp [h8])
      (fun j v hj => by
        have hj' : j < bs.length := by have := (List.getElem?_eq_some_iff.1 hj).1; simpa using this
        rw [Addr.add_mid V5 0 j, Nat.zero_add, cells_at hV, ← hj]
        simp [bts])
      ⟨b, off, none⟩ n c (l.map (Value.int .u8)) (by rw [hz1]; simp [s1])
      (fun j v hj => by
        have hj' : j < l.length := by have := (List.getElem?_eq_some_iff.1 hj).1; simpa using this
        rw [Addr.add_mid b off j, hc j (by omega), ← hj]
        simp [List.getD, hj'])
      (by omega) (by omega) (growslice_fits (by omega) (by rw [hz2]; omega))
    have hge := grownCap_ge W (8 + n) 8 5
    have hle := grownCap_le_maxLen W (8 + n) 8 5 (by unfold maxLen; omega)
    unfold maxLen at hle
    refine ⟨_, _, _, hr, ⟨by simp [h8, s1], ?_, ?_⟩, (Below.refl _ W).drew.trans ((((Below.refl W.drew.heap.size W.drew).alloc (Nat.le_refl _) _)).mono (Nat.le_refl _)), hge, by omega⟩
    · intro z hz
      rcases List.mem_append.1 hz with hz | hz
      · exact hbb z hz
      · exact s2 z hz
    · right
      refine ⟨W.heap.size, 0, rfl, fun k hk => ?_⟩
      have hnew : (W.drew.alloc (.cells ((bs.map (Value.int .u8)).toArray ++ (l.map (Value.int .u8)).toArray ++ Builtin.zeroCells (Value.int .u8 0).cells (grownCap W (8 + n) 8 5 - (8 + n))) 5)).heap[W.heap.size]? = _ := alloc_new W.drew _
      rw [Nat.zero_add, cells_at hnew, List.getD_eq_getElem?_getD]
      rw [← Array.getElem?_toList]
      simp only [Array.toList_append, List.toList_toArray]
      rw [List.getElem?_append_left (by simp [h8, s1]; omega), ← List.map_append, List.getElem?_map]
      have hk2 : k < (bs ++ l).length := by simp [h8, s1]; omega
      rw [List.getElem?_eq_getElem hk2]
      rfl
theorem wpList_append_run {P : Program} {ops : Array Oper} {rest : List Oper} {o : Oper} {a : Act} {w : World} {Q : Exit → Act → World → Prop} (hgd : o.guard = none) (s x : Operand) (t t' : TypeId)
    (ho : o.op = .call { callee := .builtin .append, args := #[s, x], argTypes := #[t, t'] }) (vs vx v : Value) (w1 : World) (ty : TypeId) (hty : o.type = ty) (hs : a.eval s = vs) (hx : a.eval x = vx) (hrun : (Builtin.append_ #[t, t'] ty #[vs, vx]).run P w = .ok v w1)
    (h : wpList P ops Q rest (a.put o.dst v) w1) : wpList P ops Q (o :: rest) a w := by
  refine wpList_plain hgd fun K hK => ?_
  subst hty
  unfold Oper.wp
  simp only [execOp, ho, resolve, invoke, builtin, Sem.run_bind, Sem.run_pure, Result.andThen_ok, List.map_toArray, List.map_cons, List.map_nil, hs, hx, hrun]
  exact hK _ _ h
theorem row_set {w : World} {b j : Nat} {cs : Array Value} {t : TypeId} {fr : Nat × Nat} {u : Value} (h : w.heap[b]? = some (.cells cs t fr)) :
    (w.setCell ⟨b, j, none⟩ u).heap[b]? = some (.cells (cs.setIfInBounds j u) t fr) := by
  have hlt := lt_of_block h
  have h' : w.heap[b] = .cells cs t fr := by simpa [Array.getElem?_eq_getElem hlt] using h
  show (w.heap.modify b _)[b]? = _
  rw [Array.getElem?_eq_getElem (by simpa using hlt), Array.getElem_modify_self, h']
  rfl
theorem eight {l : List Int} (h : 8 ≤ l.length) : ∃ z0 z1 z2 z3 z4 z5 z6 z7, l.take 8 = [z0, z1, z2, z3, z4, z5, z6, z7] := by
  match l, h with
  | z0 :: z1 :: z2 :: z3 :: z4 :: z5 :: z6 :: z7 :: r, _ => exact ⟨z0, z1, z2, z3, z4, z5, z6, z7, rfl⟩
/-! ### Bytes as a string -/
def u8s (l : List Int) : List UInt8 := l.map fun z => UInt8.ofNat z.toNat
theorem conv_any (X : World) (p off c : Nat) (l : List Int) (hb : ∀ z ∈ l, 0 ≤ z ∧ z ≤ 255) (n : Nat) (hn : n ≤ l.length) (hc : ∀ j, j < n → X.cell? ⟨p, off + j, none⟩ = some (.int .u8 (l.getD j 0))) :
    (convert 29 9 (.slice (some ⟨p, off, none⟩) n c)).run Tryd.prog X = .ok (.string (sB (u8s (l.take n)))) X := by
  have h := run_convert_bytes_back (P := Tryd.prog) X 29 9 5 ⟨p, off, none⟩ c (u8s (l.take n)) Tryd.underlying29 Tryd.underlying5 Tryd.underlying9 (fun j hj => by
    have hj' : j < n := by simp [u8s] at hj; omega
    rw [Addr.add_mid p off j, hc j hj']
    have hz := hb (l.getD j 0) (by rw [List.getD_eq_getElem?_getD, List.getElem?_eq_getElem (by omega)]; simp)
    have e : (u8s (l.take n))[j]'hj = UInt8.ofNat (l.getD j 0).toNat := by
      simp [u8s, List.getD, show j < l.length from by omega]
    rw [e, UInt8.toNat_ofNat']
    congr 2
    omega)
  have hl : (u8s (l.take n)).length = n := by simp [u8s]; omega
  rw [hl] at h
  exact h
theorem rdE_app {i : Iv} (l : List Int) : rdE (bytesI i ++ l) = if mayI i then 0 else 90 := by
  unfold rdE
  rw [if_neg (by simp [bytesI_len]), readI_bytes]
theorem rdI_app {i : Iv} (l : List Int) : rdI (bytesI i ++ l) = if mayI i then i else ⟨0, 0, 0, 0⟩ := by
  unfold rdI
  rw [rdE_app, readI_bytes]
  cases mayI i <;> simp
end Isa
end Go.Proofs.YtnaefpjbeidkgaaDoor
