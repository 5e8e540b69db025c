/- The document's own answer: a key's block, turned. -/
import Derived.Test.YtodbfkifendniaaDoorHmacBytes
import Derived.Test.YtodbfkifendniaaDoorShaR4
namespace Go.Proofs.YtodbfkifendniaaDoor
open Go.ChangeShapes Go.WideShapes Go.ChangeAt Go.RowKit
namespace Sha
theorem take_turn (l : List Int) (b : Int) (k : Nat) (hl : l.length = 64) (hk : k < 64) : (turnB l b).take (k + 1) = (turnB l b).take k ++ [bits .xor .u8 (l.getD k 0) b] := by
  rw [List.take_succ_eq_append_getElem (by rw [turnB_length]; omega)]
  simp [turnB, List.getD, show k < l.length from by omega]
theorem kb_in (key : List Int) (k : Nat) (h : k < (kh key).length) : (kb key).getD k 0 = (kh key).getD k 0 := by
  simp [kb, List.getD, List.getElem?_append_left h]
theorem kb_out (key : List Int) (k : Nat) (h : (kh key).length ≤ k) : (kb key).getD k 0 = 0 := by
  simp only [kb, List.getD]
  rw [List.getElem?_append_right h]
  cases hx : (List.replicate (64 - (kh key).length) (0 : Int))[k - (kh key).length]? with
  | none => rfl
  | some v => exact List.eq_of_mem_replicate (List.mem_of_getElem? hx)
theorem take_in (key : List Int) (b : Int) (k : Nat) (hk : k < 64) (h : k < (kh key).length) : bv ((turnB (kb key) b).take (k + 1)) = bv ((turnB (kb key) b).take k) ++ [.int .u8 (bits .xor .u8 ((kh key).getD k 0) b)] := by
  rw [take_turn _ _ _ (kb_length _) hk, kb_in key k h, ← bv_append]; rfl
theorem take_out (key : List Int) (b : Int) (k : Nat) (hk : k < 64) (h : (kh key).length ≤ k) : bv ((turnB (kb key) b).take (k + 1)) = bv ((turnB (kb key) b).take k) ++ [.int .u8 (bits .xor .u8 0 b)] := by
  rw [take_turn _ _ _ (kb_length _) hk, kb_out key k h, ← bv_append]; rfl
/-- what Block leaves -/
def BlockPost (key : List Int) (b : Int) (w : World) : Ending → World → Prop := fun e w' => ∃ g c, e = .returned (.slice (some ⟨g, 0, none⟩) 64 c) ∧ Own w' w.heap.size g 64 c (turnB (kb key) b) ∧ Below w.heap.size w w'
theorem block_end {w W0 wr : World} {v : Value} {key : List Int} {b : Int} (h : wr.ownsRow W0.heap.size 5 1 v 64 (bv (turnB (kb key) b))) (hw : Below w.heap.size w W0) (hb : Below W0.heap.size W0 wr) : BlockPost key b w (.returned v) wr := by
  have hsz := hw.size
  obtain ⟨h1, h2⟩ := h
  rcases h2 with ⟨_, h0⟩ | ⟨g, c, cur, rfl, hbg, hg, h3, h4, h5, h6⟩
  · omega
  · exact ⟨g, c, rfl, ⟨h1, Or.inr ⟨g, c, cur, rfl, by omega, hg, h3, h4, h5, h6⟩⟩, hw.trans (hb.mono hsz)⟩

set_option maxRecDepth 100000 in
set_option maxHeartbeats 2000000 in
theorem rkey_any (key : List Int) (b : Int) (a : Option Addr) (n cap : Nat) (w : World) (hb0 : 0 ≤ b ∧ b ≤ 255) (hn : n ≤ 100000) (hnil : a = none → cap = 0) (hrow : SRow (fun _ => False) w a n key) :
    Calls Tryd.prog 27 #[.slice a n cap, .int .u8 b] w (BlockPost key b w) := by
  obtain ⟨b0, b1⟩ := hb0
  have HS := Lib.hid hrow
  have HNil := Lib.hid hnil
  clear hrow hnil
  obtain ⟨i0, hi, hz0, hz1, hz2⟩ := info_parts infoByte
  have HI := Lib.hid hi
  have HZ0 := Lib.hid hz0
  have HZ1 := Lib.hid hz1
  have HZ2 := Lib.hid hz2
  clear hi hz0 hz1 hz2
  by_cases h64 : 64 < n
  · have d0 : decide ((64 : Int) < (n : Int)) = true := by simp; omega
    have hkh : kh key = sum key := by unfold kh; rw [if_pos (by have := HS.out.1; omega)]
    go_enter Tryd.func27, Tryd.ntmps27
    go_wp2_with fail
    refine (rsum_any key a n cap w hn HNil.out HS.out).mono ?_
    rintro e w1 ⟨rfl, hb1⟩
    have hst := store_digest_new w1 key
    have hz := sum_size key
    have hbA : Below w.heap.size w (w1.alloc (.cells (ints .u8 (sum key)) 25)) := hb1.alloc hb1.size _
    have hsA : SRow (fun _ => False) ((w1.alloc (.cells (ints .u8 (sum key)) 25)).alloc (.cells #[] 5)) (some ⟨w1.heap.size, 0, none⟩) 32 (sum key) := (srow_new w1 (sum key) _ 25 (0, 0) 32 rfl (sum_byte _) (sum_length _)).alloc _
    have hO0 : Own ((w1.alloc (.cells (ints .u8 (sum key)) 25)).alloc (.cells #[] 5)) (w1.heap.size + 1) (w1.heap.size + 1) 0 0 [] := own_of rfl (Nat.le_refl _) (Nat.le_refl _) (by unfold maxLen; omega) (R_new (by simp)) rfl rfl
    obtain ⟨g1, c1, W0, hrun1, hO1, hbl1⟩ := app_bytes (c := 32) hO0 hsA (by omega) (by simp)
    rw [Nat.zero_add, List.nil_append] at hO1
    rw [Nat.zero_add] at hrun1
    have hO1' : Own W0 (w1.heap.size + 1) g1 32 c1 (sum key) := hO1
    have HS0 := Lib.hid (srow_of_own hO1' (sum_byte _))
    rw [← hkh] at HS0
    have HBw : Hid (Below w.heap.size w W0) := by
      have h1 : Below (w1.heap.size + 1) (w1.alloc (.cells (ints .u8 (sum key)) 25)) W0 := ((Below.refl _ _).alloc (by simp) _).trans hbl1
      exact hbA.trans (h1.mono (by have := hb1.size; omega))
    have q32 : 32 ≤ c1 := hO1'.form.2.2.1
    clear hb1 hbA hsA hO0 hO1 hO1' hbl1 HS
    go_wp2_with (at_builtin; refine wpList_append_run rfl (.tmp 16) (.tmp 17) 22 22 rfl _ _ _ W0 22 rfl rfl rfl hrun1 ?_)
    clear hst hz hrun1
    go_loopw [7, 8] (fun v i wr => ∃ k : Nat, k ≤ 64 ∧ i = .int .i64 k ∧ wr.ownsRow W0.heap.size 5 1 v k (bv ((turnB (kb key) b).take k)) ∧ Below W0.heap.size W0 wr) (fun _ i _ => 64 - (intOf i).toNat)
    case atStart => exact ⟨0, by omega, rfl, ⟨rfl, Or.inl ⟨rfl, rfl⟩⟩, Below.refl _ _⟩
    case round =>
      obtain ⟨k, hk, rfl, hown, hbb⟩ := hrel
      have HO := Lib.hid hown
      have HBb := Lib.hid hbb
      clear hown hbb
      by_cases hlt : k < 64
      · have k0 : (0 : Int) ≤ k := by omega
        have k1 : (k : Int) < 64 := by omega
        have hd : decide ((k : Int) < 64) = true := by simp; omega
        by_cases hin : k < 32
        · have HN := Lib.hid (take_in key b k hlt (by rw [HS0.out.1]; exact hin))
          have hd2 : decide ((k : Int) < ((32 : Nat) : Int)) = true := by simp; omega
          have k2 : (k : Int) < ((32 : Nat) : Int) := by omega
          obtain ⟨bb, off, hka, hc⟩ : ∃ bb off, (some ⟨g1, 0, none⟩ : Option Addr) = some ⟨bb, off, none⟩ ∧ wr.cell? ⟨bb, off + k, none⟩ = some (.int .u8 ((kh key).getD k 0)) := by
            obtain ⟨_, _, h3⟩ := HS0.out.below' HBb.out (Nat.le_refl _)
            rcases h3 with h3 | ⟨bb, off, hka, _, hcl⟩
            · omega
            · exact ⟨bb, off, hka, hcl k hin⟩
          generalize (kh key).getD k 0 = x at *
          simp only [Option.some.injEq, Addr.mk.injEq] at hka
          obtain ⟨rfl, rfl, _⟩ := hka
          rw [Nat.zero_add] at hc
          go_wp2_with (at_builtin; refine wpList_append_lies _ rfl (.tmp 31) (.tmp 35) 22 rfl W0.heap.size 5 i0 (.int .u8 0) 1 1 Tryd.underlying22 HI.out HZ0.out HZ1.out HZ2.out rfl (by decide) u7 k _ rfl (HO.out.alloc _) ⟨wr.heap.size, 0, none⟩ 1 1 _ rfl (by rfl) (World.news_of_block (heap_alloc_new _ _)) (by intro u hu; simp at hu; subst hu; rfl) (by omega) (by unfold maxLen; omega) (by omega) (by have := HBb.out.size; simp; omega) _ rfl ?_; intro gg cc ww oo gr att lt)
          have HQ := Lib.hid oo
          have HC : Hid (Below W0.heap.size W0 ww) := Below.grown (HBb.out.alloc HBb.out.size _) gr (by have := HBb.out.size; simp; omega) (fun j hj => (HO.out.lt j hj).1)
          clear oo gr att lt
          go_wp2_with fail
          go_roundw
          case rel => exact ⟨k + 1, by omega, by go_num, by rw [HN.out]; exact HQ.out, HC.out⟩
          case measure => simp [intOf]; omega
        · have HN := Lib.hid (take_out key b k hlt (by rw [HS0.out.1]; exact Nat.not_lt.1 hin))
          have hd2 : decide ((k : Int) < ((32 : Nat) : Int)) = false := by simp; omega
          go_wp2_with (at_builtin; refine wpList_append_lies _ rfl (.tmp 31) (.tmp 35) 22 rfl W0.heap.size 5 i0 (.int .u8 0) 1 1 Tryd.underlying22 HI.out HZ0.out HZ1.out HZ2.out rfl (by decide) u7 k _ rfl (HO.out.alloc _) ⟨wr.heap.size, 0, none⟩ 1 1 _ rfl (by rfl) (World.news_of_block (heap_alloc_new _ _)) (by intro u hu; simp at hu; subst hu; rfl) (by omega) (by unfold maxLen; omega) (by omega) (by have := HBb.out.size; simp; omega) _ rfl ?_; intro gg cc ww oo gr att lt)
          have HQ := Lib.hid oo
          have HC : Hid (Below W0.heap.size W0 ww) := Below.grown (HBb.out.alloc HBb.out.size _) gr (by have := HBb.out.size; simp; omega) (fun j hj => (HO.out.lt j hj).1)
          clear oo gr att lt
          go_wp2_with fail
          go_roundw
          case rel => exact ⟨k + 1, by omega, by go_num, by rw [HN.out]; exact HQ.out, HC.out⟩
          case measure => simp [intOf]; omega
      · have hd : decide ((k : Int) < 64) = false := by simp; omega
        have ho := HO.out
        rw [List.take_of_length_le (by rw [turnB_length, kb_length]; omega)] at ho
        have HOd := Lib.hid ho
        clear ho
        go_wp2_with fail
        go_ret
        obtain rfl : k = 64 := by omega
        exact block_end HOd.out HBw.out HBb.out
  · have d0 : decide ((64 : Int) < (n : Int)) = false := by simp; omega
    have hkh : kh key = key := by unfold kh; rw [if_neg (by have := HS.out.1; omega)]
    have HS0 := HS
    rw [← hkh] at HS0
    have HBw : Hid (Below w.heap.size w w) := Below.refl _ _
    clear HS hkh
    go_enter Tryd.func27, Tryd.ntmps27
    go_wp2_with fail
    go_loopw [7, 8] (fun v i wr => ∃ k : Nat, k ≤ 64 ∧ i = .int .i64 k ∧ wr.ownsRow w.heap.size 5 1 v k (bv ((turnB (kb key) b).take k)) ∧ Below w.heap.size w wr) (fun _ i _ => 64 - (intOf i).toNat)
    case atStart => exact ⟨0, by omega, rfl, ⟨rfl, Or.inl ⟨rfl, rfl⟩⟩, Below.refl _ _⟩
    case round =>
      obtain ⟨k, hk, rfl, hown, hbb⟩ := hrel
      have HO := Lib.hid hown
      have HBb := Lib.hid hbb
      clear hown hbb
      by_cases hlt : k < 64
      · have k0 : (0 : Int) ≤ k := by omega
        have k1 : (k : Int) < 64 := by omega
        have hd : decide ((k : Int) < 64) = true := by simp; omega
        by_cases hin : k < n
        · have HN := Lib.hid (take_in key b k hlt (by rw [HS0.out.1]; exact hin))
          have hd2 : decide ((k : Int) < ((n : Nat) : Int)) = true := by simp; omega
          have k2 : (k : Int) < ((n : Nat) : Int) := by omega
          obtain ⟨bb, off, hka, hc⟩ : ∃ bb off, (a : Option Addr) = some ⟨bb, off, none⟩ ∧ wr.cell? ⟨bb, off + k, none⟩ = some (.int .u8 ((kh key).getD k 0)) := by
            obtain ⟨_, _, h3⟩ := HS0.out.below' HBb.out (Nat.le_refl _)
            rcases h3 with h3 | ⟨bb, off, hka, _, hcl⟩
            · omega
            · exact ⟨bb, off, hka, hcl k hin⟩
          generalize (kh key).getD k 0 = x at *
          subst hka
          go_wp2_with (at_builtin; refine wpList_append_lies _ rfl (.tmp 31) (.tmp 35) 22 rfl w.heap.size 5 i0 (.int .u8 0) 1 1 Tryd.underlying22 HI.out HZ0.out HZ1.out HZ2.out rfl (by decide) u7 k _ rfl (HO.out.alloc _) ⟨wr.heap.size, 0, none⟩ 1 1 _ rfl (by rfl) (World.news_of_block (heap_alloc_new _ _)) (by intro u hu; simp at hu; subst hu; rfl) (by omega) (by unfold maxLen; omega) (by omega) (by have := HBb.out.size; simp; omega) _ rfl ?_; intro gg cc ww oo gr att lt)
          have HQ := Lib.hid oo
          have HC : Hid (Below w.heap.size w ww) := Below.grown (HBb.out.alloc HBb.out.size _) gr (by have := HBb.out.size; simp; omega) (fun j hj => (HO.out.lt j hj).1)
          clear oo gr att lt
          go_wp2_with fail
          go_roundw
          case rel => exact ⟨k + 1, by omega, by go_num, by rw [HN.out]; exact HQ.out, HC.out⟩
          case measure => simp [intOf]; omega
        · have HN := Lib.hid (take_out key b k hlt (by rw [HS0.out.1]; exact Nat.not_lt.1 hin))
          have hd2 : decide ((k : Int) < ((n : Nat) : Int)) = false := by simp; omega
          go_wp2_with (at_builtin; refine wpList_append_lies _ rfl (.tmp 31) (.tmp 35) 22 rfl w.heap.size 5 i0 (.int .u8 0) 1 1 Tryd.underlying22 HI.out HZ0.out HZ1.out HZ2.out rfl (by decide) u7 k _ rfl (HO.out.alloc _) ⟨wr.heap.size, 0, none⟩ 1 1 _ rfl (by rfl) (World.news_of_block (heap_alloc_new _ _)) (by intro u hu; simp at hu; subst hu; rfl) (by omega) (by unfold maxLen; omega) (by omega) (by have := HBb.out.size; simp; omega) _ rfl ?_; intro gg cc ww oo gr att lt)
          have HQ := Lib.hid oo
          have HC : Hid (Below w.heap.size w ww) := Below.grown (HBb.out.alloc HBb.out.size _) gr (by have := HBb.out.size; simp; omega) (fun j hj => (HO.out.lt j hj).1)
          clear oo gr att lt
          go_wp2_with fail
          go_roundw
          case rel => exact ⟨k + 1, by omega, by go_num, by rw [HN.out]; exact HQ.out, HC.out⟩
          case measure => simp [intOf]; omega
      · have hd : decide ((k : Int) < 64) = false := by simp; omega
        have ho := HO.out
        rw [List.take_of_length_le (by rw [turnB_length, kb_length]; omega)] at ho
        have HOd := Lib.hid ho
        clear ho
        go_wp2_with fail
        go_ret
        obtain rfl : k = 64 := by omega
        exact block_end HOd.out HBw.out HBb.out

end Sha
end Go.Proofs.YtodbfkifendniaaDoor
