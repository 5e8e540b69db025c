/- The document's own answers: names, takes and gives, digits. -/
import Derived.Test.YtgiocecpkhmhhaaGreatDoorIsaW5
import Derived.Great.BuildSlice
namespace Go.Proofs.YtgiocecpkhmhhaaGreatDoor
open Go.ChangeShapes Go.WideShapes Go.ChangeAt Go.RowKit
namespace Isa
set_option linter.unusedVariables false
set_option linter.unusedSimpArgs false
def namesC : Array Value := (names.map fun l => Value.string (sB l)).toArray
theorem namesC_size : namesC.size = 28 := by kernel_rfl
theorem namesC_at (k : Nat) (h : k < 28) : namesC[k]? = some (.string (sB (nm k))) := by
  have e : names[k]? = some (names[k]'(by simpa [names] using h)) := List.getElem?_eq_getElem _
  unfold namesC nm
  rw [List.getElem?_toArray, List.getElem?_map, e, Int.toNat_natCast, List.getD_eq_getElem?_getD, e]
  rfl
theorem info9 : (Tryz.prog.info? 9).map (·.size) = some 1 := by kernel_rfl
theorem info9z : ((Tryz.prog.info? 9).bind (·.zero)) = some (.string ⟨#[]⟩) := by kernel_rfl
/-- a new row of all the names -/
theorem names_any (w : World) : Calls Tryz.prog 64 #[] w fun e w' => e = .returned (.slice (some ⟨w.heap.size, 0, none⟩) 28 28) ∧ w' = w.alloc (.cells namesC 9) := by
  obtain ⟨ie, hie, hsz⟩ := Option.map_eq_some_iff.1 info9
  have hz : ie.zero = some (.string ⟨#[]⟩) := by have := info9z; rw [hie] at this; exact this
  go_enter Tryz.func64, Tryz.ntmps64
  go_wp2_with ((with_reducible refine wpList_buildSlice rfl 48 9 28 _ rfl namesC ie _ Tryz.underlying48 hie hz (by rw [hsz]; decide) (by rw [hsz]; decide) (by rw [hsz]; kernel_rfl) ?_))
  go_ret
  exact ⟨rfl, rfl⟩
set_option maxHeartbeats 1600000 in
theorem rop_any (l : List UInt8) (w : World) : Calls Tryz.prog 88 #[.string (sB l)] w fun e w' => e = .returned (.int .u8 (opI l)) ∧ Below w.heap.size w w' := by
  have hK := Lib.hid (fun n (hn : n < 28) => (cells_at (alloc_new w (.cells namesC 9)) n).trans (namesC_at n hn))
  have HB := Lib.hid ((Below.refl w.heap.size w).alloc (Nat.le_refl _) (.cells namesC 9))
  go_enter Tryz.func88, Tryz.ntmps88
  go_wp2_with fail
  refine (names_any _).mono ?_
  rintro e w1 ⟨rfl, rfl⟩
  go_wp2_with fail
  generalize w.alloc (.cells namesC 9) = W at *
  obtain ⟨V, hV⟩ : ∃ V, w.heap.size = V := ⟨_, rfl⟩
  have HV := Lib.hid hV
  rw [hV] at hK HB ⊢
  clear hV
  go_loopw [4] (fun i wr => ∃ k : Nat, 1 ≤ k ∧ k ≤ 28 ∧ i = .int .i64 k ∧ (∀ t : Nat, 1 ≤ t → t < k → nm t ≠ l) ∧ wr = W) (fun i _ => 28 - (intOf i).toNat)
  case atStart => exact ⟨1, by omega, by omega, rfl, fun j h1 hj => by omega, rfl⟩
  case round =>
    obtain ⟨k, hk1, hk, rfl, hno, rfl⟩ := hrel
    have HNo := Lib.hid hno
    clear hno
    by_cases hlt : k < 28
    · have k0 : (0 : Int) ≤ k := by omega
      have k1 : (k : Int) < 28 := by omega
      have hd : decide ((k : Int) < 28) = true := by simp; omega
      have hc := hK.out k hlt
      have he := sB_eq (nm k) l
      by_cases hx : nm k = l
      · rw [decide_eq_true hx] at he
        have HR : Hid (opI l = k) := opI_at l k hk1 hlt HNo.out hx
        clear hx
        generalize sB (nm k) = x at *
        generalize sB l = y at *
        go_wp2_with fail
        go_ret
        exact ⟨ret_int HR.out.symm, by rw [HV.out]; exact HB.out⟩
      · rw [decide_eq_false hx] at he
        have HX := Lib.hid hx
        clear hx
        generalize sB (nm k) = x at *
        generalize sB l = y at *
        go_wp2_with fail
        refine ⟨⟨k + 1, by omega, by omega, by simp, fun t h1 ht => ?_, trivial⟩, by simp [intOf]; omega⟩
        by_cases e : t = k
        · subst e; exact HX.out
        · exact HNo.out t h1 (by omega)
    · obtain rfl : k = 28 := by omega
      have HR : Hid (opI l = 0) := opI_none l (fun t h1 ht => HNo.out t h1 ht)
      go_wp2_with fail
      go_ret
      exact ⟨ret_int HR.out.symm, by rw [HV.out]; exact HB.out⟩
set_option maxHeartbeats 1600000 in
theorem rdigits_nat (u : Nat) : u ≤ 4294967295 → ∀ w, Calls Tryz.prog 82 #[.int .u32 u] w fun e w' => e = .returned (.string (sB (Lib.decDigits u))) ∧ Below w.heap.size w w' := by
  induction u using Nat.strongRecOn with
  | _ u ih =>
    intro hu w
    have hb : (u : Int) % 10 = ((u % 10 : Nat) : Int) := by omega
    have hdig : (UInt8.ofNat (48 + u % 10)).toNat = 48 + u % 10 := digit_val _ (by omega)
    have hcv : ∀ W : World, W.cell? ⟨w.heap.size, 0, none⟩ = some (.int .u8 (48 + (u : Int) % 10)) → (convert 38 9 (.slice (some ⟨w.heap.size, 0, none⟩) 1 1)).run Tryz.prog W = .ok (.string (sB [UInt8.ofNat (48 + u % 10)])) W := fun W hW => by
      have h := run_convert_bytes_back (P := Tryz.prog) W 38 9 5 ⟨w.heap.size, 0, none⟩ 1 [UInt8.ofNat (48 + u % 10)] Tryz.underlying38 Tryz.underlying5 Tryz.underlying9 (fun j hj => by
        have j0 : j = 0 := by simp at hj; omega
        subst j0
        rw [Lib.add_plain]
        simp only [Nat.add_zero]
        rw [hW]
        simp only [List.getElem_cons_zero, hdig]
        rw [hb]
        rfl)
      exact h
    clear hb hdig
    generalize hz : sB [UInt8.ofNat (48 + u % 10)] = Z at hcv
    have HZ := Lib.hid hz
    clear hz
    by_cases h : u < 10
    · have hd : decide ((u : Int) < 10) = true := decide_eq_true (by omega)
      go_enter Tryz.func82, Tryz.ntmps82
      go_wp2_with fail
      go_ret
      exact ⟨ret_str (by rw [← HZ.out, Lib.decDigits, dif_pos h, Nat.mod_eq_of_lt h]), (Below.refl _ _).alloc (Nat.le_refl _) _⟩
    · have hd : decide ((u : Int) < 10) = false := decide_eq_false (by omega)
      have hI : Hid (∀ W, Calls Tryz.prog 82 #[.int .u32 ((u : Int) / 10)] W fun e w' => e = .returned (.string (sB (Lib.decDigits (u / 10)))) ∧ Below W.heap.size W w') := by
        show _
        intro W
        have e : ((u / 10 : Nat) : Int) = (u : Int) / 10 := by omega
        rw [← e]
        exact ih (u / 10) (by omega) (by omega) W
      have sz : Z.size = 1 := by rw [← HZ.out, sB_size]; rfl
      have sd : (sB (Lib.decDigits (u / 10))).size ≤ 10 := by rw [sB_size]; exact decDigits_len 9 _ (by omega)
      have HE : Hid (sB (Lib.decDigits u) = sB (Lib.decDigits (u / 10)) ++ Z) := by
        show _ = _
        rw [← HZ.out, Lib.decDigits, dif_neg h, sB_add]
      clear ih
      generalize sB (Lib.decDigits (u / 10)) = D at *
      generalize sB (Lib.decDigits u) = E at *
      go_enter Tryz.func82, Tryz.ntmps82
      go_wp2_with fail
      refine (hI.out _).mono ?_
      rintro e w1 ⟨rfl, hb⟩
      go_wp2_with fail
      go_ret
      exact ⟨ret_str HE.out.symm, Below.trans ((Below.refl _ _).alloc (Nat.le_refl _) _) (hb.mono (by simp))⟩
theorem rdigits_any (x : Int) (h0 : 0 ≤ x) (h1 : x ≤ 4294967295) (w : World) :
    Calls Tryz.prog 82 #[.int .u32 x] w fun e w' => e = .returned (.string (sB (dd x))) ∧ Below w.heap.size w w' := by
  obtain ⟨u, rfl⟩ := Int.eq_ofNat_of_zero_le h0
  exact rdigits_nat u (by omega) w
end Isa
end Go.Proofs.YtgiocecpkhmhhaaGreatDoor
