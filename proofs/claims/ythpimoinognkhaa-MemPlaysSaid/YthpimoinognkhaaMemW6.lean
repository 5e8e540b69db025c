/- Load, Store, Fetch. -/
import Derived.Test.YthpimoinognkhaaMemW5
namespace Go.Proofs.Ythpimoinognkhaa
open Go.ChangeShapes Go.WideShapes Go.ChangeAt Go.RowKit
namespace Ram
set_option linter.unusedVariables false
set_option linter.unusedSimpArgs false
section
variable {p : Nat → Prop} {g d : Nat} {bs : List Int} {w : World} {ar : Option Addr} {nr cr : Nat} {l : List Rg}
theorem word_ok (h : Ram 57 w g d bs) (hr : RRow p w ar nr l) (hnr : nr ≤ 1000000) (a n : Nat) (right : Int) (ha : a ≤ 4294967295) (hn : n ≤ 255) (hri : 0 ≤ right ∧ right ≤ 255) (hok : (wordB n && lets l a n right bs.length) = true) :
    Calls Try.prog 29 #[.pointer (some ⟨g, 0, none⟩), .slice ar nr cr, .int .u32 (a : Int), .int .u8 (n : Int), .int .u8 right] w fun e w' => Below w.heap.size w w' ∧ ∃ c, n ≤ c ∧ c ≤ 1000000 ∧ e = .returned (.tuple #[.slice (some ⟨d, a, none⟩) n c, .int .i64 0]) := by
  refine (word_any h hr hnr a n right ha hn hri).mono ?_
  rintro e w' ⟨hb, ⟨_, hc⟩ | ⟨hk, _⟩⟩
  · exact ⟨hb, hc⟩
  · rw [hok] at hk; cases hk
theorem word_no (h : Ram 57 w g d bs) (hr : RRow p w ar nr l) (hnr : nr ≤ 1000000) (a n : Nat) (right : Int) (ha : a ≤ 4294967295) (hn : n ≤ 255) (hri : 0 ≤ right ∧ right ≤ 255) (hok : (wordB n && lets l a n right bs.length) = false) :
    Calls Try.prog 29 #[.pointer (some ⟨g, 0, none⟩), .slice ar nr cr, .int .u32 (a : Int), .int .u8 (n : Int), .int .u8 right] w fun e w' => Below w.heap.size w w' ∧ e = .returned (.tuple #[.slice none 0 0, .int .i64 (wordE l a n right bs.length)]) := by
  refine (word_any h hr hnr a n right ha hn hri).mono ?_
  rintro e w' ⟨hb, ⟨hk, _⟩ | ⟨_, hc⟩⟩
  · rw [hok] at hk; cases hk
  · exact ⟨hb, hc⟩
theorem word_nil (a n : Nat) (right : Int) (w : World) :
    Calls Try.prog 29 #[.pointer none, .slice ar nr cr, .int .u32 (a : Int), .int .u8 (n : Int), .int .u8 right] w fun e w' => e = .returned (.tuple #[.slice none 0 0, .int .i64 1]) ∧ w' = w := by
  go_enter Try.func29, Try.ntmps29
  go_wp2_with fail
  refine bodyPost_ret (v := .tuple #[.slice none 0 0, .int .i64 1]) (by simp [results, Try.f29, go_sem]) rfl ⟨rfl, rfl⟩
end
theorem wordB_le {n : Nat} (h : wordB n = true) : 0 < n ∧ n ≤ 4 := by unfold wordB at h; simp at h; omega
theorem wordE_ok {l : List Rg} {a n : Nat} {r : Int} {L : Nat} (h : (wordB n && lets l a n r L) = true) : wordE l a n r L = 0 := by
  simp only [Bool.and_eq_true] at h; unfold wordE boundsE; rw [if_pos h.1, if_pos h.2]
theorem zeros4 : #[Value.int IntKind.u8 0, Value.int IntKind.u8 0, Value.int IntKind.u8 0, Value.int IntKind.u8 0] = ints .u8 [0, 0, 0, 0] := rfl
/-- a word's bytes, and zeros behind them -/
def four (l : List Int) : List Int := l ++ List.replicate (4 - l.length) 0
theorem four_len {l : List Int} (h : l.length ≤ 4) : (four l).length = 4 := by unfold four; simp; omega
theorem four_by {l : List Int} (h : ∀ z ∈ l, 0 ≤ z ∧ z ≤ 255) : ∀ z ∈ four l, 0 ≤ z ∧ z ≤ 255 := by
  intro z hz
  unfold four at hz
  rcases List.mem_append.1 hz with hz | hz
  · exact h z hz
  · exact rep_by _ z hz
theorem un_four (l : List Int) : un (four l) = un l := by unfold four; rw [un_append, un_zeros]; simp
theorem put_four {l : List Int} (h : l.length ≤ 4) : put [0, 0, 0, 0] 0 l = four l := by
  match l, h with
  | [], _ => rfl
  | [_], _ => rfl
  | [_, _], _ => rfl
  | [_, _, _], _ => rfl
  | [_, _, _, _], _ => rfl
theorem load_copy {p : Nat → Prop} {W : World} {x : Option Addr} {n : Nat} {l : List Int} (h : SRow p W x n l) (h0 : 0 < n) (h4 : n ≤ 4) (c : Nat) (ty : TypeId) :
    (Builtin.copy_ #[35, 35] ty #[.slice (some ⟨W.heap.size, 0, none⟩) 4 4, .slice x n c]).run Try.prog (W.alloc (.cells #[Value.int IntKind.u8 0, Value.int IntKind.u8 0, Value.int IntKind.u8 0, Value.int IntKind.u8 0] 62)) = .ok (goInt n) (W.alloc (.cells (ints .u8 (four l)) 62)) := by
  have hl := h.1
  have e := run_copy_mid (W.alloc (.cells #[Value.int IntKind.u8 0, Value.int IntKind.u8 0, Value.int IntKind.u8 0, Value.int IntKind.u8 0] 62)) W.heap.size 0 n 4 4 c n x l [0, 0, 0, 0] 62 ty (h.below (below_alloc _ _) (Nat.le_refl _)) (heap_alloc_new _ _) (Nat.min_eq_left h4) (by simpa using h4) h0
  rw [e, List.take_of_length_le (by omega), put_four (by omega), World.setRow_alloc_new]
theorem load_copy_none {W : World} (c : Nat) (ty : TypeId) :
    (Builtin.copy_ #[35, 35] ty #[.slice (some ⟨W.heap.size, 0, none⟩) 4 4, .slice none 0 c]).run Try.prog (W.alloc (.cells #[Value.int IntKind.u8 0, Value.int IntKind.u8 0, Value.int IntKind.u8 0, Value.int IntKind.u8 0] 62)) = .ok (goInt 0) (W.alloc (.cells (ints .u8 (four [])) 62)) := run_copy_zero _ _ _ _ _ _
theorem size4 {l : List Int} (h : l.length = 4) : (Try.prog.info? 62).map (·.size) = some (ints .u8 l).size := by rw [ints_size, h]; kernel_rfl
section
variable {p : Nat → Prop} {g d : Nat} {bs : List Int} {w : World} {ar : Option Addr} {nr cr : Nat} {l : List Rg}
def LoadP (x err : Int) (w : World) (e : Ending) (w' : World) : Prop := e = .returned (.tuple #[.int .u32 x, .int .i64 err]) ∧ Below w.heap.size w w'
theorem load_any (h : Ram 57 w g d bs) (hr : RRow p w ar nr l) (hnr : nr ≤ 1000000) (a n : Nat) (ha : a ≤ 4294967295) (hn : n ≤ 255) :
    Calls Try.prog 17 #[.pointer (some ⟨g, 0, none⟩), .slice ar nr cr, .int .u32 (a : Int), .int .u8 (n : Int)] w (LoadP (loadM bs l a n) (wordE l a n 1 bs.length) w) := by
  cases hok : (wordB n && lets l a n 1 bs.length) with
  | true =>
    have HW := Lib.hid (word_ok (cr := cr) h hr hnr a n 1 ha hn (by omega) hok)
    have HE := Lib.hid (wordE_ok hok)
    have HM : Hid (loadM bs l a n = un (four (get bs a n))) := by show _ = _; unfold loadM; rw [if_pos hok, un_four]
    simp only [Bool.and_eq_true] at hok
    have hn4 := wordB_le hok.1
    have hle := lets_le hok.2
    have HP := Lib.hid (fun W (hb : Below w.heap.size w W) => place_row (h.below hb (Nat.le_refl _)) (show n ≠ 0 by omega) hle)
    have HL : Hid ((four (get bs a n)).length = 4) := four_len (by rw [get_len _ _ _ hle]; omega)
    have HB := Lib.hid (four_by (get_by (a := a) (n := n) h.1))
    have H4 := Lib.hid hn4
    clear h hr hok hle hn4
    go_enter Try.func17, Try.ntmps17
    go_wp2_with (first
      | (go_at_call 29; refine HW.out.mono ?_; rintro e w1 ⟨hb, c', h1, h2, rfl⟩; have hcp := fun c ty => load_copy (HP.out w1 hb) H4.out.1 H4.out.2 c ty; generalize four (get bs a n) = L at *)
      | (with_reducible refine wpList_load_row rfl 62 (.tmp 12) rfl w1.heap.size rfl 62 (ints .u8 L) (0, 0) _ (heap_alloc_new _ _) Try.underlying62 rfl (size4 HL.out) ?_)
      | (go_at_call 30; refine (number_any L _ HL.out HB.out).mono ?_; rintro e w2 ⟨rfl, hb2⟩))
    refine bodyPost_ret (v := .tuple #[.int .u32 (un L), .int .i64 0]) (by simp [results, Try.f17, go_sem]) rfl ?_
    exact ⟨by rw [HE.out, HM.out], hb.trans (Below.trans ((Below.refl _ _).alloc hb.size _) (hb2.mono (by have := hb.size; simp; omega)))⟩
  | false =>
    have HW := Lib.hid (word_no (cr := cr) h hr hnr a n 1 ha hn (by omega) hok)
    have HM : Hid (loadM bs l a n = un (four [])) := by show _ = _; unfold loadM; rw [if_neg (by rw [hok]; simp)]; rfl
    have hcp := fun W c ty => load_copy_none (W := W) c ty
    have HL : Hid ((four []).length = 4) := rfl
    have HB : Hid (∀ z ∈ four [], 0 ≤ z ∧ z ≤ 255) := four_by (by simp)
    generalize four [] = L at *
    generalize wordE l a n 1 bs.length = E at *
    clear h hr hok
    go_enter Try.func17, Try.ntmps17
    go_wp2_with (first
      | (go_at_call 29; refine HW.out.mono ?_; rintro e w1 ⟨hb, rfl⟩)
      | (with_reducible refine wpList_load_row rfl 62 (.tmp 12) rfl w1.heap.size rfl 62 (ints .u8 L) (0, 0) _ (heap_alloc_new _ _) Try.underlying62 rfl (size4 HL.out) ?_)
      | (go_at_call 30; refine (number_any L _ HL.out HB.out).mono ?_; rintro e w2 ⟨rfl, hb2⟩))
    refine bodyPost_ret (v := .tuple #[.int .u32 (un L), .int .i64 E]) (by simp [results, Try.f17, go_sem]) rfl ?_
    exact ⟨by rw [HM.out], hb.trans (Below.trans ((Below.refl _ _).alloc hb.size _) (hb2.mono (by have := hb.size; simp; omega)))⟩
theorem load_nil (a n : Nat) (w : World) :
    Calls Try.prog 17 #[.pointer none, .slice ar nr cr, .int .u32 (a : Int), .int .u8 (n : Int)] w (LoadP 0 1 w) := by
  have HW := Lib.hid (word_nil (ar := ar) (nr := nr) (cr := cr) a n 1 w)
  have hcp := fun W c ty => load_copy_none (W := W) c ty
  have HL : Hid ((four []).length = 4) := rfl
  have HB : Hid (∀ z ∈ four [], 0 ≤ z ∧ z ≤ 255) := four_by (by simp)
  have HM : Hid (un (four []) = 0) := rfl
  generalize four [] = L at *
  go_enter Try.func17, Try.ntmps17
  go_wp2_with (first
    | (go_at_call 29; refine HW.out.mono ?_; rintro e w1 ⟨rfl, rfl⟩)
    | (with_reducible refine wpList_load_row rfl 62 (.tmp 12) rfl w1.heap.size rfl 62 (ints .u8 L) (0, 0) _ (heap_alloc_new _ _) Try.underlying62 rfl (size4 HL.out) ?_)
    | (go_at_call 30; refine (number_any L _ HL.out HB.out).mono ?_; rintro e w2 ⟨rfl, hb2⟩))
  refine bodyPost_ret (v := .tuple #[.int .u32 (un L), .int .i64 1]) (by simp [results, Try.f17, go_sem]) rfl ?_
  exact ⟨by rw [HM.out], Below.trans (below_alloc _ _) (hb2.mono (by simp))⟩
/-! ### Store -/
theorem store_new (W : World) (L : List Int) (h : L.length = 4) : (storeCells ⟨W.heap.size, 0, none⟩ (ints .u8 L).toList 0).run Try.prog (W.alloc (.cells #[Value.int IntKind.u8 0, Value.int IntKind.u8 0, Value.int IntKind.u8 0, Value.int IntKind.u8 0] 62)) = .ok () (W.alloc (.cells (ints .u8 L) 62)) :=
  run_storeCells_new W 62 _ (ints .u8 L) (size4 h) (by rw [ints_size, h]; rfl) (Array.all_eq_true_iff_forall_mem.2 fun v hv => ints_one .u8 L v (by simpa [ints] using hv))
theorem low_row (W : World) (k : Nat) (L : List Int) (t : TypeId) (hk : W.heap[k]? = some (.cells (ints .u8 L) t (0, 0))) (hby : ∀ z ∈ L, 0 ≤ z ∧ z ≤ 255) : SRow (fun _ => False) W (some ⟨k, 0, none⟩) L.length L :=
  ⟨rfl, hby, .inr ⟨k, 0, rfl, id, fun i hi => by rw [Nat.zero_add]; exact row_cell hk i hi⟩⟩
theorem store_any (h : Ram 57 w g d bs) (hr : RRow p w ar nr l) (hnr : nr ≤ 1000000) (a n : Nat) (x : Int) (ha : a ≤ 4294967295) (hn : n ≤ 255) (hx : 0 ≤ x ∧ x ≤ 4294967295) :
    Calls Try.prog 19 #[.pointer (some ⟨g, 0, none⟩), .slice ar nr cr, .int .u32 (a : Int), .int .u8 (n : Int), .int .u32 x] w (DoneP 57 g d (storeM bs l a n x) (wordE l a n 2 bs.length) w) := by
  have hlow := fun W => lowest_any x W hx
  have HL : Hid ((low 4 x).length = 4) := low_len 4 x
  have HLB := Lib.hid (low_by 4 x)
  have HT : Hid (n ≤ 4 → (low 4 x).take n = low n x) := fun h => low_take n 4 x h
  have hst := fun W => store_new W (low 4 x) HL.out
  have hsz : (ints .u8 (low 4 x)).size = 4 := by rw [ints_size, HL.out]
  cases hok : (wordB n && lets l a n 2 bs.length) with
  | true =>
    have HW := Lib.hid (word_ok (cr := cr) h hr hnr a n 2 ha hn (by omega) hok)
    have HE := Lib.hid (wordE_ok hok)
    have HM : Hid (storeM bs l a n x = put bs a (low n x)) := by show _ = _; unfold storeM; rw [if_pos hok]
    simp only [Bool.and_eq_true] at hok
    have hn4 := wordB_le hok.1
    have hle := lets_le hok.2
    have hne : bs ≠ [] := by rintro rfl; simp at hle; omega
    have hdlt := h.2.2.2.1
    have HK : Hid (∀ W, Below w.heap.size w W → ∀ c ty, (Builtin.copy_ #[35, 35] ty #[.slice (some ⟨d, a, none⟩) n c, .slice (some ⟨W.heap.size, 0, none⟩) 4 4]).run Try.prog (W.alloc (.cells (ints .u8 (low 4 x)) 62)) = .ok (goInt n) ((W.alloc (.cells (ints .u8 (low 4 x)) 62)).setRow d (ints .u8 (put bs a (low n x))))) := by
      intro W hb c ty
      have hd := (h.below (hb.alloc hb.size (.cells (ints .u8 (low 4 x)) 62)) (Nat.le_refl _)).row hne
      have hrow := low_row _ W.heap.size (low 4 x) 62 (heap_alloc_new W (.cells (ints .u8 (low 4 x)) 62)) HLB.out
      rw [HL.out] at hrow
      have e := run_copy_mid _ d a 4 n c 4 n _ _ bs _ ty hrow hd (Nat.min_eq_right hn4.2) hle hn4.1
      rw [HT.out hn4.2] at e
      exact e
    have HF : Hid (∀ W, Below w.heap.size w W → Ram 57 (W.setRow d (ints .u8 (put bs a (low n x)))) g d (put bs a (low n x)) ∧ Kept (· = d) w (W.setRow d (ints .u8 (put bs a (low n x))))) := by
      intro W hb
      refine ⟨(h.below hb (Nat.le_refl _)).write hne (put_len _ _ _ (by rw [low_len]; exact hle)) (put_by h.1 (low_by n x)), (Kept.of_below (p := (· = d)) hb).setRow (.inl rfl) _⟩
    have HKK : Hid (∀ a b : World, Below w.heap.size w a → Below a.heap.size a b → Below w.heap.size w b) := fun a b h1 h2 => h1.trans (h2.mono h1.size)
    clear h hr hok hle hn4 hne hdlt
    generalize low 4 x = L at *
    go_enter Try.func19, Try.ntmps19
    go_wp2_with (first
      | (go_at_call 29; refine HW.out.mono ?_; rintro e w1 ⟨hb, c', h1, h2, rfl⟩)
      | (go_at_call 32; refine (hlow _).mono ?_; rintro e w2 ⟨rfl, hb2⟩; have hb3 := HKK.out _ _ hb hb2; have hcp := HK.out w2 hb3))
    go_ret
    have hF := HF.out (w2.alloc (.cells (ints .u8 L) 62)) (hb3.alloc hb3.size _)
    exact ⟨by rw [HE.out]; rfl, by rw [HM.out]; exact hF.1, hF.2⟩
  | false =>
    have HW := Lib.hid (word_no (cr := cr) h hr hnr a n 2 ha hn (by omega) hok)
    have HM : Hid (storeM bs l a n x = bs) := by show _ = _; unfold storeM; rw [if_neg (by rw [hok]; simp)]
    have hcp := fun W n' c ad ty => run_copy_none W 0 n' c ad ty
    have HF : Hid (∀ W, Below w.heap.size w W → Ram 57 W g d bs ∧ Kept (· = d) w W) := fun W hb => ⟨h.below hb (Nat.le_refl _), Kept.of_below hb⟩
    have HKK : Hid (∀ a b : World, Below w.heap.size w a → Below a.heap.size a b → Below w.heap.size w b) := fun a b h1 h2 => h1.trans (h2.mono h1.size)
    generalize low 4 x = L at *
    generalize wordE l a n 2 bs.length = E at *
    clear h hr hok
    go_enter Try.func19, Try.ntmps19
    go_wp2_with (first
      | (go_at_call 29; refine HW.out.mono ?_; rintro e w1 ⟨hb, rfl⟩)
      | (go_at_call 32; refine (hlow _).mono ?_; rintro e w2 ⟨rfl, hb2⟩; have hb3 := HKK.out _ _ hb hb2))
    go_ret
    have hF := HF.out (w2.alloc (.cells (ints .u8 L) 62)) (hb3.alloc hb3.size _)
    exact ⟨rfl, by rw [HM.out]; exact hF.1, hF.2⟩
theorem store_nil (a n : Nat) (x : Int) (hx : 0 ≤ x ∧ x ≤ 4294967295) (w : World) :
    Calls Try.prog 19 #[.pointer none, .slice ar nr cr, .int .u32 (a : Int), .int .u8 (n : Int), .int .u32 x] w fun e w' => e = .returned (.int .i64 1) ∧ Below w.heap.size w w' := by
  have hlow := fun W => lowest_any x W hx
  have HL : Hid ((low 4 x).length = 4) := low_len 4 x
  have hst := fun W => store_new W (low 4 x) HL.out
  have hsz : (ints .u8 (low 4 x)).size = 4 := by rw [ints_size, HL.out]
  have HW := Lib.hid (word_nil (ar := ar) (nr := nr) (cr := cr) a n 2 w)
  have hcp := fun W n' c ad ty => run_copy_none W 0 n' c ad ty
  generalize low 4 x = L at *
  go_enter Try.func19, Try.ntmps19
  go_wp2_with (first
    | (go_at_call 29; refine HW.out.mono ?_; rintro e w1 ⟨rfl, rfl⟩)
    | (go_at_call 32; refine (hlow _).mono ?_; rintro e w2 ⟨rfl, hb2⟩))
  go_ret
  exact ⟨rfl, hb2.alloc hb2.size _⟩
/-! ### Fetch -/
theorem fetch_any (h : Ram 57 w g d bs) (hr : RRow p w ar nr l) (hnr : nr ≤ 1000000) (a : Nat) (ha : a ≤ 4294967295) :
    Calls Try.prog 21 #[.pointer (some ⟨g, 0, none⟩), .slice ar nr cr, .int .u32 (a : Int)] w (ToldP (fetchM bs l a) (boundsE l a 8 4 bs.length) w) := by
  have HA : Hid (Calls Try.prog 33 #[.pointer (some ⟨g, 0, none⟩), .slice ar nr cr, .int .u32 (a : Int), .int .u32 8, .int .u8 4] w (PlaceP bs d a 8 (lets l a 8 4 bs.length) 60 w)) := allowed_any (cr := cr) h hr hnr a 8 4 ha (by omega) (by omega)
  have HKK : Hid (∀ a b : World, Below w.heap.size w a → Below a.heap.size a b → Below w.heap.size w b) := fun a b h1 h2 => h1.trans (h2.mono h1.size)
  have HTB : Hid (∀ (W W' : World) v l, Below w.heap.size w W → Told W' W.heap.size v l → Told W' w.heap.size v l) := fun W W' v l hb ht => ht.imp id fun ⟨k, h1, h2, h3, h4⟩ => ⟨k, h1, h2, Nat.le_trans hb.size h3, h4⟩
  cases hok : lets l a 8 4 bs.length with
  | true =>
    have hle := lets_le hok
    have HP := Lib.hid (fun W (hb : Below w.heap.size w W) => place_row (h.below hb (Nat.le_refl _)) (show 8 ≠ 0 by omega) hle)
    have HE : Hid (boundsE l a 8 4 bs.length = 0) := by show _ = _; unfold boundsE; rw [if_pos hok]
    have HM : Hid (fetchM bs l a = get bs a 8) := by show _ = _; unfold fetchM; rw [if_pos hok]
    rw [hok] at HA
    clear h hr hok hle
    go_enter Try.func21, Try.ntmps21
    go_wp2_with (first
      | (go_at_call 33; with_reducible refine HA.out.mono ?_; rintro e w1 hp; obtain ⟨hb, c, h1, h2, rfl⟩ := hp.ok)
      | (go_at_call 28; refine (told_any _ (HP.out w1 hb) (by omega)).mono ?_; rintro e w2 ⟨v, rfl, ht, hb2⟩))
    refine bodyPost_ret (v := .tuple #[v, .int .i64 0]) (by simp [results, Try.f21, go_sem]) rfl ?_
    exact ⟨v, by rw [HE.out], by rw [HM.out]; exact HTB.out _ _ _ _ hb ht, HKK.out _ _ hb hb2⟩
  | false =>
    have HE : Hid (boundsE l a 8 4 bs.length = 60) := by show _ = _; unfold boundsE; rw [if_neg (by rw [hok]; simp)]
    have HM : Hid (fetchM bs l a = []) := by show _ = _; unfold fetchM; rw [if_neg (by rw [hok]; simp)]
    rw [hok] at HA
    clear h hr hok
    go_enter Try.func21, Try.ntmps21
    go_wp2_with (first
      | (go_at_call 33; with_reducible refine HA.out.mono ?_; rintro e w1 hp; obtain ⟨hb, rfl⟩ := hp.no)
      | (go_at_call 28; refine (told_any _ (srow_none (fun _ => False) _ none) (by omega)).mono ?_; rintro e w2 ⟨v, rfl, ht, hb2⟩))
    refine bodyPost_ret (v := .tuple #[v, .int .i64 60]) (by simp [results, Try.f21, go_sem]) rfl ?_
    exact ⟨v, by rw [HE.out], by rw [HM.out]; exact HTB.out _ _ _ _ hb ht, HKK.out _ _ hb hb2⟩
theorem fetch_nil (a : Nat) (w : World) :
    Calls Try.prog 21 #[.pointer none, .slice ar nr cr, .int .u32 (a : Int)] w (ToldP [] 1 w) := by
  have HA : Hid (Calls Try.prog 33 #[.pointer none, .slice ar nr cr, .int .u32 (a : Int), .int .u32 8, .int .u8 4] w fun e w' => e = .returned (.tuple #[.slice none 0 0, .int .i64 1]) ∧ w' = w) := allowed_nil a 8 4 (by omega) w
  go_enter Try.func21, Try.ntmps21
  go_wp2_with (first
    | (go_at_call 33; with_reducible refine HA.out.mono ?_; rintro e w1 ⟨rfl, rfl⟩)
    | (go_at_call 28; refine (told_any _ (srow_none (fun _ => False) _ none) (by omega)).mono ?_; rintro e w2 ⟨v, rfl, ht, hb2⟩))
  refine bodyPost_ret (v := .tuple #[v, .int .i64 1]) (by simp [results, Try.f21, go_sem]) rfl ?_
  exact ⟨v, rfl, ht, hb2⟩
end
end Ram
end Go.Proofs.Ythpimoinognkhaa
