/- Check: which lists may be. -/
import Derived.Test.YtekicfaakjbmhaaRightsFind
namespace Go.Proofs.Ytekicfaakjbmhaa
open Go.ChangeShapes Go.WideShapes Go.ChangeAt Go.RowKit Go.Shelf
namespace Rights
set_option linter.unusedVariables false
set_option linter.unusedSimpArgs false
theorem neqR (x y : Rg) (w : World) : (binOp .neq 24 (.agg #[.int .u32 x.b, .int .u32 x.s, .int .u8 x.r]) (.agg #[.int .u32 y.b, .int .u32 y.s, .int .u8 y.r])).run Try.prog w = .ok (.bool (!decide (x = y))) w := by
  have h := eqR.1 x y w
  change (binOp .eql 24 (.agg #[.int .u32 x.b, .int .u32 x.s, .int .u8 x.r]) (.agg #[.int .u32 y.b, .int .u32 y.s, .int .u8 y.r])).run Try.prog w = _ at h
  rw [run_eql_struct] at h
  rw [run_neq_struct]
  cases e : (Op.equalIn 10000 24 (.agg #[.int .u32 x.b, .int .u32 x.s, .int .u8 x.r]) (.agg #[.int .u32 y.b, .int .u32 y.s, .int .u8 y.r])).run Try.prog w with
  | ok b w' =>
    rw [e] at h
    simp only [Result.andThen] at h ⊢
    injection h with h1 h2
    injection h1 with h1
    rw [h1, h2]
  | _ => rw [e] at h; simp [Result.andThen] at h
/-- the function that asks whether a region does not fit -/
theorem unfit_any (x : Rg) (m : Int) (hm : 0 ≤ m ∧ m ≤ 4294967295) (mb : Nat) (w : World) (hc : w.cell? ⟨mb, 0, none⟩ = some (.int .u32 m)) :
    Calls Try.prog 29 #[.agg #[.int .u32 x.b, .int .u32 x.s, .int .u8 x.r], .pointer (some ⟨mb, 0, none⟩)] w fun e w' => e = .returned (.bool (!fits x m)) ∧ Below w.heap.size w w' := by
  have hlt : mb < w.heap.size := World.block_lt_of_cell? _ _ hc
  have hc2 : (w.alloc (.cells #[.int .u32 x.b, .int .u32 x.s, .int .u8 x.r] 24)).cell? ⟨mb, 0, none⟩ = some (.int .u32 m) := by rw [World.cell?_of_block (Below.heap_alloc _ _ _ hlt)]; exact hc
  have hb : Below w.heap.size w (w.alloc (.cells #[.int .u32 x.b, .int .u32 x.s, .int .u8 x.r] 24)) := by go_grown
  have HB := Lib.hid hb
  clear hb
  go_enter Try.func29, Try.ntmps29
  go_wp2_with (go_at_call 9; refine (fits_any x m hm _).mono ?_; rintro e w1 ⟨rfl, hb1⟩)
  go_ret
  exact ⟨rfl, HB.out.trans (hb1.mono HB.out.size)⟩
/-- does another one overlap this one? -/
def meetP (r y : Rg) : Bool := !decide (y = r) && overlap y r
theorem meets_any (r y : Rg) (g : Nat) (w : World) (hc : w.heap[g]? = some (.cells #[.int .u32 r.b, .int .u32 r.s, .int .u8 r.r] 24 (0, 0))) :
    Calls Try.prog 38 #[.agg #[.int .u32 y.b, .int .u32 y.s, .int .u8 y.r], .pointer (some ⟨g, 0, none⟩)] w fun e w' => e = .returned (.bool (meetP r y)) ∧ Below w.heap.size w w' := by
  have hlt : g < w.heap.size := lt_of_block hc
  obtain ⟨x0, x1, x2⟩ := cells3 ((Below.heap_alloc w (.cells #[.int .u32 y.b, .int .u32 y.s, .int .u8 y.r] 24) _ hlt).trans hc)
  have hb : Below w.heap.size w (w.alloc (.cells #[.int .u32 y.b, .int .u32 y.s, .int .u8 y.r] 24)) := by go_grown
  have HB := Lib.hid hb
  have hne := neqR y r
  unfold meetP
  clear hb hc
  cases hd : decide (y = r) with
  | true =>
    rw [hd] at hne
    go_enter Try.func38, Try.ntmps38
    go_wp2_with fail
    go_ret
    exact ⟨rfl, HB.out⟩
  | false =>
    rw [hd] at hne
    go_enter Try.func38, Try.ntmps38
    go_wp2_with (go_at_call 11; refine (overlap_any y r _).mono ?_; rintro e w1 ⟨rfl, hb1⟩)
    go_ret
    exact ⟨rfl, HB.out.trans (hb1.mono HB.out.size)⟩
/-- no two of these overlap -/
def Lone (l : List Rg) : Prop := ∀ k, k < l.length → idx l l[k]! = k ∧ l.any (meetP l[k]!) = false
theorem Lone.apart {l : List Rg} (h : Lone l) {i j : Nat} (hi : i < l.length) (hj : j < l.length) (hne : i ≠ j) : overlap l[i]! l[j]! = false := by
  by_cases e : l[i]! = l[j]!
  · exfalso
    have h1 := (h i hi).1
    have h2 := (h j hj).1
    rw [e, h2] at h1
    omega
  · have h2 := (h j hj).2
    rw [List.any_eq_false] at h2
    have h3 := h2 l[i]! (by rw [getElem!_pos l i hi]; exact List.getElem_mem _)
    simp only [meetP, e, decide_false, Bool.not_false, Bool.true_and] at h3
    simpa using h3
set_option maxHeartbeats 4000000 in
theorem meet_any {a : Option Addr} {n c : Nat} {l : List Rg} {w : World} (h : RRow w a n l) (hn : n ≤ 1000000) :
    Calls Try.prog 31 #[.slice a n c] w fun e w' => (∃ b, e = .returned (.bool b) ∧ (b = false → Lone l)) ∧ Below w.heap.size w w' := by
  have HR := Lib.hid h
  have HL : Hid (l.length = n) := h.1
  clear h
  go_enter Try.func31, Try.ntmps31
  go_wp2_with fail
  go_loopw [8] (fun i wr => ∃ k : Nat, k ≤ n ∧ i = .int .i64 k ∧ (∀ j, j < k → idx l l[j]! = j ∧ l.any (meetP l[j]!) = false) ∧ Below w.heap.size w wr) (fun i _ => n - (intOf i).toNat)
  case atStart => exact ⟨0, by omega, rfl, fun j hj => by omega, Below.refl _ _⟩
  case round =>
    obtain ⟨k, hk, rfl, hno, hbel⟩ := hrel
    have HNo := Lib.hid hno
    have HB := Lib.hid hbel
    clear hno hbel
    by_cases hlt : k < n
    · have k0 : (0 : Int) ≤ k := by omega
      have k1 : (k : Int) < n := by omega
      have hd : decide ((k : Int) < (n : Int)) = true := by simp; omega
      obtain ⟨hl, hrow⟩ := HR.out.below HB.out
      obtain ⟨rb, off, rfl, hrl, hin⟩ := hrow.resolve_left (by omega)
      obtain ⟨g0, g1, g2⟩ := hin.at k (by omega)
      clear hl hrow hrl hin
      obtain ⟨x, hx⟩ : ∃ x, l[k]! = x := ⟨_, rfl⟩
      rw [hx] at g0 g1 g2
      have HX := Lib.hid hx
      clear hx
      have HB2 : Hid (Below w.heap.size w (wr.alloc (.cells #[.int .u32 x.b, .int .u32 x.s, .int .u8 x.r] 24))) := HB.out.alloc HB.out.size _
      have HV := Lib.hid (World.alloc_heap_new wr (.cells #[.int .u32 x.b, .int .u32 x.s, .int .u8 x.r] 24))
      obtain ⟨x0, x1, x2⟩ := cells3 HV.out
      have hidx := index_any (c := c) (HR.out.below HB2.out) (by omega) hn x
      go_wp2_with fail
      refine hidx.mono ?_
      rintro e w1 ⟨rfl, hb1⟩
      have HB3 := Lib.hid (HB2.out.trans (hb1.mono HB2.out.size))
      have HV1 := Lib.hid ((hb1.block _ (lt_of_block HV.out)).trans HV.out)
      clear hidx hb1
      have hcon : Calls Try.prog 30 #[.slice (some ⟨rb, off, none⟩) n c, .func (.func 38) #[] #[.pointer (some ⟨wr.heap.size, 0, none⟩)]] w1 fun e w' => e = .returned (.bool (l.any (meetP x))) ∧ Below w1.heap.size w1 w' :=
        contains_any (HR.out.below HB3.out) hn (meetP x) 38 #[.pointer (some ⟨wr.heap.size, 0, none⟩)] (enters_of Try.func38 (by kernel_rfl) rfl)
          (fun W y hW => (meets_any x y wr.heap.size W ((hW.block _ (lt_of_block HV1.out)).trans HV1.out)).mono fun e w' ⟨h1, h2⟩ => ⟨h1, hW.trans (h2.mono hW.size)⟩)
      obtain ⟨z, hz⟩ : ∃ z, idx l x = z := ⟨_, rfl⟩
      rw [hz]
      by_cases hzk : z = k
      · have hzz : (z == (k : Int)) = true := by simp [hzk]
        go_wp2_with fail
        refine hcon.mono ?_
        rintro e w2 ⟨rfl, hb2⟩
        have HB4 := Lib.hid (HB3.out.trans (hb2.mono HB3.out.size))
        clear hb2 hcon
        cases hany : l.any (meetP x) with
        | true =>
          go_wp2_with fail
          go_ret
          exact ⟨⟨true, rfl, fun h => by cases h⟩, HB4.out⟩
        | false =>
          have HNext : Hid (∀ j, j < k + 1 → idx l l[j]! = j ∧ l.any (meetP l[j]!) = false) := fun j hj => by
            by_cases e : j = k
            · subst e; rw [HX.out]; exact ⟨hz.trans hzk, hany⟩
            · exact HNo.out j (by omega)
          clear hany
          go_wp2_with fail
          go_roundw
          case rel => exact ⟨k + 1, by omega, by go_num, HNext.out, HB4.out⟩
          case measure => simp [intOf]; omega
      · have hzz : (z == (k : Int)) = false := by simp [hzk]
        clear hcon
        go_wp2_with fail
        go_ret
        exact ⟨⟨true, rfl, fun h => by cases h⟩, HB3.out⟩
    · have hd : decide ((k : Int) < (n : Int)) = false := by simp; omega
      obtain rfl : k = n := by omega
      go_wp2_with fail
      go_ret
      exact ⟨⟨false, rfl, fun _ j hj => HNo.out j (by have := HL.out; omega)⟩, HB.out⟩
/-- a list that may be -/
structure Good (l : List Rg) (m : Int) : Prop where
  len : l.length ≤ 8
  mem : m ≤ 262144
  fit : ∀ x ∈ l, fits x m = true
  lone : Lone l
def CheckP (w : World) (l : List Rg) (m : Int) (e : Ending) (w' : World) : Prop := (∃ z : Int, e = .returned (.int .i64 z) ∧ (z = 0 → Good l m)) ∧ Below w.heap.size w w'
set_option maxHeartbeats 4000000 in
theorem check_any {a : Option Addr} {n c : Nat} {l : List Rg} {w : World} (h : RRow w a n l) (m : Int) (hm : 0 ≤ m ∧ m ≤ 4294967295) :
    Calls Try.prog 17 #[.slice a n c, .int .u32 m] w (CheckP w l m) := by
  have HR := Lib.hid h
  have HL : Hid (l.length = n) := h.1
  have hb0 : Below w.heap.size w (w.alloc (.cells #[.int .u32 m] 22)) := by go_grown
  have HB := Lib.hid hb0
  have HV := Lib.hid (World.alloc_heap_new w (.cells #[.int .u32 m] 22))
  clear h hb0
  by_cases h8 : 8 < n
  · have hd : decide ((8 : Int) < (n : Int)) = true := by simp; omega
    go_enter Try.func17, Try.ntmps17
    go_wp2_with fail
    go_ret
    exact ⟨⟨3, rfl, fun h => by omega⟩, HB.out⟩
  have hd : decide ((8 : Int) < (n : Int)) = false := by simp; omega
  have hn : n ≤ 1000000 := by omega
  by_cases hbig : 262144 < m
  · have hd2 : decide ((262144 : Int) < m) = true := by simpa using hbig
    go_enter Try.func17, Try.ntmps17
    go_wp2_with fail
    go_ret
    exact ⟨⟨2, rfl, fun h => by omega⟩, HB.out⟩
  have hd2 : decide ((262144 : Int) < m) = false := by simpa using hbig
  have hcon : Calls Try.prog 30 #[.slice a n c, .func (.func 29) #[] #[.pointer (some ⟨w.heap.size, 0, none⟩)]] (w.alloc (.cells #[.int .u32 m] 22)) fun e w' => e = .returned (.bool (l.any fun x => !fits x m)) ∧ Below (w.alloc (.cells #[.int .u32 m] 22)).heap.size (w.alloc (.cells #[.int .u32 m] 22)) w' :=
    contains_any (HR.out.below HB.out) hn (fun x => !fits x m) 29 #[.pointer (some ⟨w.heap.size, 0, none⟩)] (enters_of Try.func29 (by kernel_rfl) rfl)
      (fun W x hW => (unfit_any x m hm w.heap.size W (by have := (hW.block _ (lt_of_block HV.out)).trans HV.out; simp [World.cell?, this])).mono fun e w' ⟨h1, h2⟩ => ⟨h1, hW.trans (h2.mono hW.size)⟩)
  go_enter Try.func17, Try.ntmps17
  go_wp2_with fail
  refine hcon.mono ?_
  rintro e w1 ⟨rfl, hb1⟩
  have HB1 := Lib.hid (HB.out.trans (hb1.mono HB.out.size))
  clear hb1 hcon
  cases hany : l.any (fun x => !fits x m) with
  | true =>
    clear hany
    go_wp2_with fail
    go_ret
    exact ⟨⟨2, rfl, fun h => by omega⟩, HB1.out⟩
  | false =>
    have HFit : Hid (∀ x ∈ l, fits x m = true) := fun x hx => by
      have := (List.any_eq_false.1 hany) x hx
      simpa using this
    clear hany
    go_wp2_with fail
    refine (meet_any (HR.out.below HB1.out) hn).mono ?_
    rintro e w2 ⟨⟨b, rfl, hlone⟩, hb2⟩
    have HB2 := Lib.hid (HB1.out.trans (hb2.mono HB1.out.size))
    clear hb2
    cases b with
    | true =>
      clear hlone
      go_wp2_with fail
      go_ret
      exact ⟨⟨50, rfl, fun h => by omega⟩, HB2.out⟩
    | false =>
      have HLone := Lib.hid (hlone rfl)
      clear hlone
      go_wp2_with fail
      go_ret
      exact ⟨⟨0, rfl, fun _ => ⟨by have := HL.out; omega, by omega, HFit.out, HLone.out⟩⟩, HB2.out⟩
end Rights
end Go.Proofs.Ytekicfaakjbmhaa
