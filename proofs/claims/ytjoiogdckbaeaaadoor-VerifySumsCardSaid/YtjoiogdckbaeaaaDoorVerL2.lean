/- The walk of VerifySums, over what the program's Check, Most and Worst answer. -/
import Derived.Test.YtjoiogdckbaeaaaDoorVerL1
import Derived.Test.YtjoiogdckbaeaaaDoorVerM
import Derived.Test.YtjoiogdckbaeaaaDoorHeightWb
namespace Go.Proofs.YtjoiogdckbaeaaaDoor
open Go.ChangeShapes Go.WideShapes Go.ChangeAt Go.RowKit
namespace Ver
open Isa Flw Hgt Cst
set_option linter.unusedVariables false
set_option linter.unusedSimpArgs false
/-- these bits hold what is used by the first k -/
def Hold (l : List Iv) (p : Int → Bool) (k N : Nat) : Prop := N < 4294967296 ∧ ∀ j, used l p k j = true → j < 32 → N.testBit j = true
theorem Hold.start (l : List Iv) (p : Int → Bool) : Hold l p 0 0 := ⟨by omega, fun j h => by rw [used_zero] at h; cases h⟩
theorem Hold.skip {l : List Iv} {p : Int → Bool} {k N : Nat} (h : Hold l p k N) (hp : p (l.getD k iz).op = false) : Hold l p (k + 1) N := by
  refine ⟨h.1, fun j hu hj => h.2 j ?_ hj⟩
  rw [used_succ, hp] at hu
  simpa using hu
theorem Hold.add {l : List Iv} {p : Int → Bool} {k N a : Nat} (h : Hold l p k N) (ha : (l.getD k iz).a = (a : Int)) : Hold l p (k + 1) (N ||| 2 ^ (a % 32)) := by
  have hb : 2 ^ (a % 32) < 4294967296 := by
    have : (2 : Nat) ^ (a % 32) < 2 ^ 32 := Nat.pow_lt_pow_right (by omega) (Nat.mod_lt _ (by omega))
    simpa using this
  refine ⟨Nat.or_lt_two_pow (n := 32) h.1 hb, fun j hu hj => ?_⟩
  rw [Nat.testBit_or, Bool.or_eq_true]
  rw [used_succ, Bool.or_eq_true] at hu
  rcases hu with hu | hu
  · exact .inl (h.2 j hu hj)
  · simp only [Bool.and_eq_true, decide_eq_true_eq] at hu
    have e : a % 32 = j := by have := hu.2; omega
    exact .inr (by rw [e]; exact Nat.testBit_two_pow_self)
theorem Hold.none {l : List Iv} {p : Int → Bool} {N : Nat} (h : Hold l p l.length N) : anN (bitsL l p) N = 0 := by
  refine anN_zero (bitsK_lt _ _ _) fun j hj => ?_
  unfold bitsL bitsK at hj
  rw [mask_bit] at hj
  simp only [Bool.and_eq_true, decide_eq_true_eq] at hj
  exact h.2 j hj.2 hj.1
theorem and31 (a : Nat) (ha : a < 256) : bits .and .u8 (a : Int) 31 = ((a % 32 : Nat) : Int) := by
  show IntKind.u8.wrap (((BitVec.ofInt 8 (a : Int)) &&& (BitVec.ofInt 8 31)).toNat : Int) = _
  rw [BitVec.ofInt_natCast, show BitVec.ofInt 8 31 = BitVec.ofNat 8 31 from rfl, BitVec.toNat_and, BitVec.toNat_ofNat, BitVec.toNat_ofNat, Nat.mod_eq_of_lt (by simpa using ha), show (31 % 2 ^ 8 : Nat) = 2 ^ 5 - 1 from by decide, Nat.and_two_pow_sub_one_eq_mod]
  have : a % 2 ^ 5 = a % 32 := rfl
  rw [this]
  have h := Nat.mod_lt a (show 0 < 32 by omega)
  generalize a % 32 = x at *
  simp [IntKind.wrap, IntKind.bits, IntKind.signed]
  omega
set_option maxRecDepth 100000 in
set_option maxHeartbeats 12800000 in
theorem sums_walk (w : World) (hT : Tabs w) (hKn : KnownC) (hV : CheckVC) (hMo : MostC) (hWo : WorstC) (a : Option Addr) (n cp : Nat) (l : List Iv) (h : IRow w a n l) (hc : n ≤ cp ∧ cp ≤ 9223372036854775807) (part : Int) (hp : -9223372036854775808 ≤ part ∧ part ≤ 9223372036854775807) (m : Cm) (ds : List Pd) (c : Cf) (h2 : CfIn w m ds c) :
    Calls Tryd.prog 5 #[.slice a n cp, .int .i64 part, m.val] w fun e w' => e = .returned (.bool true) ∧ Below w.heap.size w w' := by
  have hln : l.length = n := h.1
  have HL := Lib.hid hln
  obtain ⟨S, hS⟩ : ∃ S, w.heap.size = S := ⟨_, rfl⟩
  have HS := Lib.hid hS
  have HX : Hid ((w.alloc (.cells m.cells 33)).heap[S]? = some (.cells m.cells 33 (0, 0))) := by show _ = _; rw [← hS]; exact alloc_new w _
  have HB : Hid (Below S w (w.alloc (.cells m.cells 33))) := by show Below _ _ _; rw [← hS]; exact (Below.refl _ w).alloc (Nat.le_refl _) _
  have HK := Lib.hid (fun W (hb : Below S w W) => hKn W (hT.below hb (by omega)))
  have HG := Lib.hid (fun W => great_any m W)
  have HCk := Lib.hid (fun W (hb : Below S w W) => hV l a n cp part m ds c W (hT.below hb (by omega)) hc.1 hc.2 (h.below hb (by omega)) hp (h2.below hb (by omega)))
  have HMo := Lib.hid (fun M (hM : -9223372036854775808 ≤ M ∧ M ≤ 9223372036854775807) W (hb : Below S w W) => hMo l a n cp M W (hT.below hb (by omega)) hc.1 hc.2 hM.1 hM.2 (h.below hb (by omega)))
  have HWo := Lib.hid (fun W (hb : Below S w W) => hWo l a n cp W (hT.below hb (by omega)) hc.1 hc.2 (h.below hb (by omega)))
  have HSz : Hid (S < (w.alloc (.cells m.cells 33)).heap.size) := by show _ < _; rw [World.size_alloc]; omega
  have HCf := Lib.hid (fun X (hb : Below S w X) => h2.below hb (by omega))
  have HIr := Lib.hid (fun X (hb : Below S w X) => h.below hb (by omega))
  have HC0 := Lib.hid h2
  have HVv := Lib.hid (ver_parts (l := l) (part := part) (c := c))
  have HVo := Lib.hid (ver_ok (l := l) (part := part) (c := c))
  clear hT hKn hV h h2 hc hMo hWo hln
  unfold Cm.val at *
  unfold smV at *
  obtain ⟨Z, hZ⟩ : ∃ Z, verA l part c = Z := ⟨_, rfl⟩
  rw [hZ] at HCk HVv HVo
  clear hZ
  obtain ⟨⟨sh, sf, sr, sw, si, so⟩, K, E⟩ := Z
  unfold smC at HCk
  simp only at HCk HVv HVo
  unfold Cm.cells at HCk HG
  unfold Cm.cells
  go_enter Tryd.func5, Tryd.ntmps5
  go_upto_region 1 with fail
  clear hS
  obtain ⟨X, hX⟩ : ∃ X, w.alloc (.cells m.cells 33) = X := ⟨_, rfl⟩
  rw [hX] at HX HB HSz
  unfold Cm.cells at hX
  rw [hX]
  clear hX
  go_wp2_with fail
  refine (HK.out X HB.out).mono ?_
  rintro e1 w1 ⟨rfl, hb1⟩
  have hsx := HSz.out
  have HX1 : Hid (w1.heap[S]? = some (.cells m.cells 33 (0, 0))) := (hb1.block _ hsx).trans HX.out
  have HB1 : Hid (Below S w w1) := HB.out.trans (hb1.mono (by omega))
  have HSz1 : Hid (S < w1.heap.size) := by have := hb1.size; show _ < _; omega
  clear hb1 HK HX HB HSz hsx
  obtain ⟨⟨y0, y1, y2, y3, y4, y5, y6⟩, y7, y8, y9, y10, y11, y12, y13⟩ := cfg_all HX1.out
  by_cases hn1 : 1000 < n
  · have hd1 : decide ((1000 : Int) < (n : Int)) = true := decide_eq_true (by omega)
    clear hn1
    go_wp2_with fail
    go_ret
    exact ⟨rfl, by rw [HS.out]; exact HB1.out⟩
  have hd1 : decide ((1000 : Int) < (n : Int)) = false := decide_eq_false (by omega)
  have hn2 : n ≤ 1000 := by omega
  clear hn1
  go_wp2_with fail
  refine (HG.out w1).mono ?_
  rintro e2 w2 ⟨rfl, hb2⟩
  have hsx := HSz1.out
  have HX2 : Hid (w2.heap[S]? = some (.cells m.cells 33 (0, 0))) := (hb2.block _ hsx).trans HX1.out
  have HB2 : Hid (Below S w w2) := HB1.out.trans (hb2.mono (by omega))
  have HSz2 : Hid (S < w2.heap.size) := by have := hb2.size; show _ < _; omega
  clear hb2 y0 y1 y2 y3 y4 y5 y6 y7 y8 y9 y10 y11 y12 y13 HX1 HB1 HSz1 hsx HG
  generalize grB m = G at *
  cases G with
  | true =>
    go_wp2_with fail
    go_ret
    exact ⟨rfl, by rw [HS.out]; exact HB2.out⟩
  | false =>
  obtain ⟨⟨y0, y1, y2, y3, y4, y5, y6⟩, y7, y8, y9, y10, y11, y12, y13⟩ := cfg_all HX2.out
  go_wp2_with fail
  refine (HCk.out w2 HB2.out).mono ?_
  rintro e3 w3 ⟨rfl, hb3⟩
  obtain ⟨A1, hA1⟩ : ∃ A1, w3.heap.size = A1 := ⟨_, rfl⟩
  have hsx := HSz2.out
  have hs3 := hb3.size
  have HX4 : Hid ((w3.alloc (.cells #[.int .i64 sh, .int .u32 (sf : Int), .int .u32 (sr : Int), .int .u32 (sw : Int), .int .u32 (si : Int), .int .u32 (so : Int)] 37)).heap[S]? = some (.cells m.cells 33 (0, 0))) := (Below.heap_alloc _ _ _ (by omega)).trans ((hb3.block _ hsx).trans HX2.out)
  have HY4 : Hid ((w3.alloc (.cells #[.int .i64 sh, .int .u32 (sf : Int), .int .u32 (sr : Int), .int .u32 (sw : Int), .int .u32 (si : Int), .int .u32 (so : Int)] 37)).heap[A1]? = some (.cells #[.int .i64 sh, .int .u32 (sf : Int), .int .u32 (sr : Int), .int .u32 (sw : Int), .int .u32 (si : Int), .int .u32 (so : Int)] 37 (0, 0))) := by show _ = _; rw [← hA1]; exact alloc_new w3 _
  have HB4 : Hid (Below S w (w3.alloc (.cells #[.int .i64 sh, .int .u32 (sf : Int), .int .u32 (sr : Int), .int .u32 (sw : Int), .int .u32 (si : Int), .int .u32 (so : Int)] 37))) := (HB2.out.trans (hb3.mono (by omega))).alloc (by omega) _
  have HSz4 : Hid (A1 < (w3.alloc (.cells #[.int .i64 sh, .int .u32 (sf : Int), .int .u32 (sr : Int), .int .u32 (sw : Int), .int .u32 (si : Int), .int .u32 (so : Int)] 37)).heap.size ∧ S < A1) := ⟨by rw [World.size_alloc]; omega, by omega⟩
  clear hb3 hs3 y0 y1 y2 y3 y4 y5 y6 y7 y8 y9 y10 y11 y12 y13 HX2 HB2 HSz2 hsx HCk
  go_upto_region 6 with fail
  clear hA1
  generalize w3.alloc (.cells #[.int .i64 sh, .int .u32 (sf : Int), .int .u32 (sr : Int), .int .u32 (sw : Int), .int .u32 (si : Int), .int .u32 (so : Int)] 37) = w4 at *
  by_cases hE : E = 0
  case neg =>
    have hne : (E != 0) = true := by simpa using hE
    clear hE
    go_wp2_with fail
    go_ret
    exact ⟨rfl, by rw [HS.out]; exact HB4.out⟩
  subst hE
  have hv := HVv.out rfl
  have hok := HVo.out hv
  obtain ⟨q, rfl⟩ := Int.eq_ofNat_of_zero_le hv.p0
  rw [Int.toNat_natCast] at hok
  have hcl : c.st.length = m.np := by rw [HC0.out.st, List.length_map]; exact HC0.out.pd.1
  have hqn : q < m.np := by have := hv.p1; omega
  obtain ⟨pb, po, e5, hat, hwf⟩ := (HCf.out w4 HB4.out).pd.at q hqn
  have hdst : (ds.getD q dz).st = c.st.getD q 0 := by
    rw [HC0.out.st, List.getD_eq_getElem?_getD, List.getD_eq_getElem?_getD, List.getElem?_map, List.getElem?_eq_getElem (by have := HC0.out.pd.1; omega)]
    rfl
  obtain ⟨M, hM⟩ : ∃ M, c.st.getD q 0 = M := ⟨_, rfl⟩
  have hMb : -9223372036854775808 ≤ M ∧ M ≤ 9223372036854775807 := by rw [← hM, ← hdst]; exact hwf
  have s1 := hat.2.1
  rw [hdst, hM] at s1
  rw [hM] at hok
  have hht := hv.ht
  rw [Int.toNat_natCast, hM] at hht
  have hMs : (mostA l M).2 = 0 := by unfold mostA; rw [if_pos hht]
  injection hok with h1 _
  unfold sumL at h1
  injection h1 with h1 h2 h3 h4 h5 h6
  have HMo4 := Lib.hid (HMo.out M hMb)
  rw [hMs, ← h1] at HMo4
  have HFr : Hid ((frE l == 0) = decide ((0 : Int) < (sf : Int))) := by
    show _ = _
    rw [h2]
    unfold wz
    by_cases z : frE l = 0
    · rw [if_pos z, z]
      have := ws_pos l 0
      rw [decide_eq_true (by omega)]; rfl
    · rw [if_neg z]; simpa using z
  rw [← h2] at HWo
  have HBits : Hid (sr = bitsL l rdO ∧ sw = bitsL l wrO ∧ si = bitsL l inO ∧ so = bitsL l ouO) := ⟨h3, h4, h5, h6⟩
  obtain ⟨⟨y0, y1, y2, y3, y4, y5, y6⟩, y7, y8, y9, y10, y11, y12, y13⟩ := cfg_all HX4.out
  rw [e5] at y1
  have q0 : (0 : Int) ≤ q := by omega
  have q1 : (q : Int) < m.np := by omega
  clear hv hcl hat hwf hdst hM hht hMs h1 h2 h3 h4 h5 h6 e5 HMo HVv HVo
  go_wp2_with fail
  refine (HMo4.out w4 HB4.out).mono ?_
  rintro e6 w5 ⟨rfl, hb5⟩
  have hsx := HSz4.out
  have hs5 := hb5.size
  have HY5 : Hid (w5.heap[A1]? = some (.cells #[.int .i64 sh, .int .u32 (sf : Int), .int .u32 (sr : Int), .int .u32 (sw : Int), .int .u32 (si : Int), .int .u32 (so : Int)] 37 (0, 0))) := (hb5.block _ hsx.1).trans HY4.out
  have HB5 : Hid (Below S w w5) := HB4.out.trans (hb5.mono (by omega))
  have HSz5 : Hid (A1 < w5.heap.size ∧ S < A1) := ⟨by omega, hsx.2⟩
  clear y0 y1 y2 y3 y4 y5 y6 y7 y8 y9 y10 y11 y12 y13 s1 hb5 hs5 hsx HX4 HY4 HB4 HSz4 HMo4
  generalize frE l = fe at *
  generalize frN l = fn at *
  go_wp2_with fail
  refine (HWo.out w5 HB5.out).mono ?_
  rintro e7 w6 ⟨rfl, hb6⟩
  have hsx := HSz5.out
  have hs6 := hb6.size
  have HY6 : Hid (w6.heap[A1]? = some (.cells #[.int .i64 sh, .int .u32 (sf : Int), .int .u32 (sr : Int), .int .u32 (sw : Int), .int .u32 (si : Int), .int .u32 (so : Int)] 37 (0, 0))) := (hb6.block _ hsx.1).trans HY5.out
  have HB6 : Hid (Below S w w6) := HB5.out.trans (hb6.mono (by omega))
  have HSz6 : Hid (A1 < w6.heap.size ∧ S < A1) := ⟨by omega, hsx.2⟩
  clear hb6 hs6 hsx HY5 HB5 HSz5 HWo
  obtain ⟨u0, u1, u2, u3, u4, u5⟩ := cells6 HY6.out
  have hfr := HFr.out
  obtain ⟨bf, hbf⟩ : ∃ bf, (fe == 0) = bf := ⟨_, rfl⟩
  rw [hbf] at hfr
  have hfr2 := hfr.symm
  have hfr2N : decide (0 < sf) = bf := by rw [hfr]; by_cases z : 0 < sf <;> simp [z]
  have hbb : (bf != bf) = false := by simp
  have hbb2 : (!bf == bf) = false := by cases bf <;> rfl
  have hbb3 : (!(fe == 0) == bf) = false := by rw [hbf]; exact hbb2
  clear hfr
  go_upto_region 12 with fail
  clear u0 u1 u2 u3 u4 u5 hbf hfr2 hfr2N hbb hbb2 hbb3
  obtain ⟨A3, hA3⟩ : ∃ A3, w6.heap.size = A3 := ⟨_, rfl⟩
  have hsx := HSz6.out
  have HY7 : Hid ((w6.alloc (.cells #[.int .i64 0, .int .u32 0, .int .u32 0, .int .u32 0, .int .u32 0, .int .u32 0] 37)).heap[A1]? = some (.cells #[.int .i64 sh, .int .u32 (sf : Int), .int .u32 (sr : Int), .int .u32 (sw : Int), .int .u32 (si : Int), .int .u32 (so : Int)] 37 (0, 0))) := (Below.heap_alloc _ _ _ hsx.1).trans HY6.out
  have HZ7 : Hid ((w6.alloc (.cells #[.int .i64 0, .int .u32 0, .int .u32 0, .int .u32 0, .int .u32 0, .int .u32 0] 37)).heap[A3]? = some (.cells #[.int .i64 0, .int .u32 0, .int .u32 0, .int .u32 0, .int .u32 0, .int .u32 0] 37 (0, 0))) := by show _ = _; rw [← hA3]; exact alloc_new w6 _
  have HB7 : Hid (Below S w (w6.alloc (.cells #[.int .i64 0, .int .u32 0, .int .u32 0, .int .u32 0, .int .u32 0, .int .u32 0] 37))) := HB6.out.alloc (by omega) _
  have HA : Hid (S < A1 ∧ A1 < A3) := ⟨hsx.2, by omega⟩
  clear hsx HY6 HB6 HSz6
  go_upto_region 13 with fail
  clear hA3
  generalize w6.alloc (.cells #[.int .i64 0, .int .u32 0, .int .u32 0, .int .u32 0, .int .u32 0, .int .u32 0] 37) = w7 at *
  go_wp2_with fail
  go_loopw [78] (fun i wr => ∃ (k N1 N2 N3 N4 : Nat), k ≤ n ∧ i = .int .i64 (k : Nat) ∧ Hold l rdO k N1 ∧ Hold l wrO k N2 ∧ Hold l inO k N3 ∧ Hold l ouO k N4 ∧ wr.heap[A1]? = some (.cells #[.int .i64 sh, .int .u32 (sf : Int), .int .u32 (sr : Int), .int .u32 (sw : Int), .int .u32 (si : Int), .int .u32 (so : Int)] 37 (0, 0)) ∧ wr.heap[A3]? = some (.cells #[.int .i64 0, .int .u32 0, .int .u32 (N1 : Int), .int .u32 (N2 : Int), .int .u32 (N3 : Int), .int .u32 (N4 : Int)] 37 (0, 0)) ∧ Below S w wr) (fun i _ => n - (intOf i).toNat)
  case atStart => exact ⟨0, 0, 0, 0, 0, by omega, rfl, Hold.start _ _, Hold.start _ _, Hold.start _ _, Hold.start _ _, HY7.out, HZ7.out, HB7.out⟩
  case round =>
    obtain ⟨k, N1, N2, N3, N4, hk, rfl, h1, h2, h3, h4, hy, hz, hb⟩ := hrel
    have H1 := Lib.hid h1
    have H2 := Lib.hid h2
    have H3 := Lib.hid h3
    have H4 := Lib.hid h4
    have HY8 := Lib.hid hy
    have HZ8 := Lib.hid hz
    have HB8 := Lib.hid hb
    clear h1 h2 h3 h4 hy hz hb HY7 HZ7 HB7
    by_cases hlt : k < n
    · have hd2 : decide ((k : Int) < (n : Int)) = true := decide_eq_true (by omega)
      have k0 : (0 : Int) ≤ k := by omega
      have k1 : (k : Int) < n := by omega
      obtain ⟨b, off, rfl, hc, hwi⟩ := (HIr.out wr HB8.out).at k hlt
      obtain ⟨c0, c1, c2, c3⟩ := hc
      obtain ⟨x, hx⟩ : ∃ x, l.getD k iz = x := ⟨_, rfl⟩
      have HXi := Lib.hid hx
      rw [hx] at hwi c0 c1 c2 c3
      obtain ⟨xo, xa, xb, xc⟩ := x
      simp only at c0 c1 c2 c3
      obtain ⟨j, rfl⟩ := Int.eq_ofNat_of_zero_le hwi.a.1
      have hj8 : j < 256 := by have := hwi.a.2; simp only at this; omega
      have h31 := and31 j hj8
      have hjm : j % 32 < 32 := Nat.mod_lt _ (by omega)
      have hshl := shl_one (j % 32) hjm
      clear hwi hx
      obtain ⟨I, hI⟩ : ∃ I, wr.heap.size = I := ⟨_, rfl⟩
      have hA := HA.out
      have hAI : A3 < I := by rw [← hI]; exact lt_of_block HZ8.out
      have HY9 : Hid ((wr.alloc (.cells #[.int .u8 xo, .int .u8 (j : Int), .int .u16 xb, .int .u32 xc] 55)).heap[A1]? = some (.cells #[.int .i64 sh, .int .u32 (sf : Int), .int .u32 (sr : Int), .int .u32 (sw : Int), .int .u32 (si : Int), .int .u32 (so : Int)] 37 (0, 0))) := (Below.heap_alloc _ _ _ (by omega)).trans HY8.out
      have HZ9 : Hid ((wr.alloc (.cells #[.int .u8 xo, .int .u8 (j : Int), .int .u16 xb, .int .u32 xc] 55)).heap[A3]? = some (.cells #[.int .i64 0, .int .u32 0, .int .u32 (N1 : Int), .int .u32 (N2 : Int), .int .u32 (N3 : Int), .int .u32 (N4 : Int)] 37 (0, 0))) := (Below.heap_alloc _ _ _ (by omega)).trans HZ8.out
      have hi9 : (wr.alloc (.cells #[.int .u8 xo, .int .u8 (j : Int), .int .u16 xb, .int .u32 xc] 55)).heap[I]? = some (.cells #[.int .u8 xo, .int .u8 (j : Int), .int .u16 xb, .int .u32 xc] 55 (0, 0)) := by rw [← hI]; exact alloc_new wr _
      have HB9 : Hid (Below S w (wr.alloc (.cells #[.int .u8 xo, .int .u8 (j : Int), .int .u16 xb, .int .u32 xc] 55))) := HB8.out.alloc (by omega) _
      go_upto_region 16 with fail
      clear hI c0 c1 c2 c3 HY8 HZ8 HB8 hA
      generalize wr.alloc (.cells #[.int .u8 xo, .int .u8 (j : Int), .int .u16 xb, .int .u32 xc] 55) = w9 at *
      obtain ⟨d0, d1, d2, d3⟩ := cells4 hi9
      clear hi9
      obtain ⟨T, hT⟩ : ∃ T : Nat, 2 ^ (j % 32) = T := ⟨_, rfl⟩
      have hTb : T < 4294967296 := by rw [← hT]; have : (2 : Nat) ^ (j % 32) < 2 ^ 32 := Nat.pow_lt_pow_right (by omega) hjm; simpa using this
      have hTi : ((2 : Int) ^ (j % 32) % 4294967296) = (T : Int) := by
        have e : ((2 : Int) ^ (j % 32)) = ((2 ^ (j % 32) : Nat) : Int) := by push_cast; rfl
        rw [e, hT]; omega
      have HT := Lib.hid hT
      clear hT hshl
      go_upto_region 17 with fail
      rw [hTi]
      clear h31 hTi hjm hj8 d1 d2 d3
      by_cases hq : xo = 23
      · subst hq
        have hor := (bits32 N1 T H1.out.1 hTb).2.1
        obtain ⟨z0, z1, z2, z3, z4, z5⟩ := cells6 HZ9.out
        have zf := fz_at HZ9.out 2
        have H1n : Hid (Hold l rdO (k + 1) (N1 ||| T)) := by show Hold _ _ _ _; rw [← HT.out]; exact H1.out.add (by rw [HXi.out])
        have H2n : Hid (Hold l wrO (k + 1) N2) := H2.out.skip (by rw [HXi.out]; rfl)
        have H3n : Hid (Hold l inO (k + 1) N3) := H3.out.skip (by rw [HXi.out]; rfl)
        have H4n : Hid (Hold l ouO (k + 1) N4) := H4.out.skip (by rw [HXi.out]; rfl)
        have HA := HA.out
        have HZn : Hid ((w9.setCell ⟨A3, 2, none⟩ (.int .u32 ((N1 ||| T : Nat) : Int))).heap[A3]? = some (.cells #[.int .i64 0, .int .u32 0, .int .u32 ((N1 ||| T : Nat) : Int), .int .u32 (N2 : Int), .int .u32 (N3 : Int), .int .u32 (N4 : Int)] 37 (0, 0))) := set_own _ HZ9.out
        have HYn : Hid ((w9.setCell ⟨A3, 2, none⟩ (.int .u32 ((N1 ||| T : Nat) : Int))).heap[A1]? = _) := set_other (show A1 ≠ A3 by omega) HY9.out
        have HBn : Hid (Below S w (w9.setCell ⟨A3, 2, none⟩ (.int .u32 ((N1 ||| T : Nat) : Int)))) := HB9.out.setCell (p := ⟨A3, 2, none⟩) (show S ≤ A3 by omega) _
        clear H1 H2 H3 H4 HY9 HZ9 HB9 HA
        go_wp2_with fail
        exact ⟨⟨k + 1, (N1 ||| T), N2, N3, N4, by omega, by simp, H1n.out, H2n.out, H3n.out, H4n.out, HYn.out, HZn.out, HBn.out⟩, by simp [intOf]; omega⟩
      have q23 : (xo == 23) = false := by simpa using hq
      have r23 := Lib.hid hq
      clear hq
      by_cases hq : xo = 24
      · subst hq
        have hor := (bits32 N1 T H1.out.1 hTb).2.1
        obtain ⟨z0, z1, z2, z3, z4, z5⟩ := cells6 HZ9.out
        have zf := fz_at HZ9.out 2
        have H1n : Hid (Hold l rdO (k + 1) (N1 ||| T)) := by show Hold _ _ _ _; rw [← HT.out]; exact H1.out.add (by rw [HXi.out])
        have H2n : Hid (Hold l wrO (k + 1) N2) := H2.out.skip (by rw [HXi.out]; rfl)
        have H3n : Hid (Hold l inO (k + 1) N3) := H3.out.skip (by rw [HXi.out]; rfl)
        have H4n : Hid (Hold l ouO (k + 1) N4) := H4.out.skip (by rw [HXi.out]; rfl)
        have HA := HA.out
        have HZn : Hid ((w9.setCell ⟨A3, 2, none⟩ (.int .u32 ((N1 ||| T : Nat) : Int))).heap[A3]? = some (.cells #[.int .i64 0, .int .u32 0, .int .u32 ((N1 ||| T : Nat) : Int), .int .u32 (N2 : Int), .int .u32 (N3 : Int), .int .u32 (N4 : Int)] 37 (0, 0))) := set_own _ HZ9.out
        have HYn : Hid ((w9.setCell ⟨A3, 2, none⟩ (.int .u32 ((N1 ||| T : Nat) : Int))).heap[A1]? = _) := set_other (show A1 ≠ A3 by omega) HY9.out
        have HBn : Hid (Below S w (w9.setCell ⟨A3, 2, none⟩ (.int .u32 ((N1 ||| T : Nat) : Int)))) := HB9.out.setCell (p := ⟨A3, 2, none⟩) (show S ≤ A3 by omega) _
        clear H1 H2 H3 H4 HY9 HZ9 HB9 HA
        go_wp2_with fail
        exact ⟨⟨k + 1, (N1 ||| T), N2, N3, N4, by omega, by simp, H1n.out, H2n.out, H3n.out, H4n.out, HYn.out, HZn.out, HBn.out⟩, by simp [intOf]; omega⟩
      have q24 : (xo == 24) = false := by simpa using hq
      have r24 := Lib.hid hq
      clear hq
      by_cases hq : xo = 25
      · subst hq
        have hor := (bits32 N2 T H2.out.1 hTb).2.1
        obtain ⟨z0, z1, z2, z3, z4, z5⟩ := cells6 HZ9.out
        have zf := fz_at HZ9.out 3
        have H2n : Hid (Hold l wrO (k + 1) (N2 ||| T)) := by show Hold _ _ _ _; rw [← HT.out]; exact H2.out.add (by rw [HXi.out])
        have H1n : Hid (Hold l rdO (k + 1) N1) := H1.out.skip (by rw [HXi.out]; rfl)
        have H3n : Hid (Hold l inO (k + 1) N3) := H3.out.skip (by rw [HXi.out]; rfl)
        have H4n : Hid (Hold l ouO (k + 1) N4) := H4.out.skip (by rw [HXi.out]; rfl)
        have HA := HA.out
        have HZn : Hid ((w9.setCell ⟨A3, 3, none⟩ (.int .u32 ((N2 ||| T : Nat) : Int))).heap[A3]? = some (.cells #[.int .i64 0, .int .u32 0, .int .u32 (N1 : Int), .int .u32 ((N2 ||| T : Nat) : Int), .int .u32 (N3 : Int), .int .u32 (N4 : Int)] 37 (0, 0))) := set_own _ HZ9.out
        have HYn : Hid ((w9.setCell ⟨A3, 3, none⟩ (.int .u32 ((N2 ||| T : Nat) : Int))).heap[A1]? = _) := set_other (show A1 ≠ A3 by omega) HY9.out
        have HBn : Hid (Below S w (w9.setCell ⟨A3, 3, none⟩ (.int .u32 ((N2 ||| T : Nat) : Int)))) := HB9.out.setCell (p := ⟨A3, 3, none⟩) (show S ≤ A3 by omega) _
        clear H1 H2 H3 H4 HY9 HZ9 HB9 HA
        go_wp2_with fail
        exact ⟨⟨k + 1, N1, (N2 ||| T), N3, N4, by omega, by simp, H1n.out, H2n.out, H3n.out, H4n.out, HYn.out, HZn.out, HBn.out⟩, by simp [intOf]; omega⟩
      have q25 : (xo == 25) = false := by simpa using hq
      have r25 := Lib.hid hq
      clear hq
      by_cases hq : xo = 26
      · subst hq
        have hor := (bits32 N2 T H2.out.1 hTb).2.1
        obtain ⟨z0, z1, z2, z3, z4, z5⟩ := cells6 HZ9.out
        have zf := fz_at HZ9.out 3
        have H2n : Hid (Hold l wrO (k + 1) (N2 ||| T)) := by show Hold _ _ _ _; rw [← HT.out]; exact H2.out.add (by rw [HXi.out])
        have H1n : Hid (Hold l rdO (k + 1) N1) := H1.out.skip (by rw [HXi.out]; rfl)
        have H3n : Hid (Hold l inO (k + 1) N3) := H3.out.skip (by rw [HXi.out]; rfl)
        have H4n : Hid (Hold l ouO (k + 1) N4) := H4.out.skip (by rw [HXi.out]; rfl)
        have HA := HA.out
        have HZn : Hid ((w9.setCell ⟨A3, 3, none⟩ (.int .u32 ((N2 ||| T : Nat) : Int))).heap[A3]? = some (.cells #[.int .i64 0, .int .u32 0, .int .u32 (N1 : Int), .int .u32 ((N2 ||| T : Nat) : Int), .int .u32 (N3 : Int), .int .u32 (N4 : Int)] 37 (0, 0))) := set_own _ HZ9.out
        have HYn : Hid ((w9.setCell ⟨A3, 3, none⟩ (.int .u32 ((N2 ||| T : Nat) : Int))).heap[A1]? = _) := set_other (show A1 ≠ A3 by omega) HY9.out
        have HBn : Hid (Below S w (w9.setCell ⟨A3, 3, none⟩ (.int .u32 ((N2 ||| T : Nat) : Int)))) := HB9.out.setCell (p := ⟨A3, 3, none⟩) (show S ≤ A3 by omega) _
        clear H1 H2 H3 H4 HY9 HZ9 HB9 HA
        go_wp2_with fail
        exact ⟨⟨k + 1, N1, (N2 ||| T), N3, N4, by omega, by simp, H1n.out, H2n.out, H3n.out, H4n.out, HYn.out, HZn.out, HBn.out⟩, by simp [intOf]; omega⟩
      have q26 : (xo == 26) = false := by simpa using hq
      have r26 := Lib.hid hq
      clear hq
      by_cases hq : xo = 21
      · subst hq
        have hor := (bits32 N3 T H3.out.1 hTb).2.1
        obtain ⟨z0, z1, z2, z3, z4, z5⟩ := cells6 HZ9.out
        have zf := fz_at HZ9.out 4
        have H3n : Hid (Hold l inO (k + 1) (N3 ||| T)) := by show Hold _ _ _ _; rw [← HT.out]; exact H3.out.add (by rw [HXi.out])
        have H1n : Hid (Hold l rdO (k + 1) N1) := H1.out.skip (by rw [HXi.out]; rfl)
        have H2n : Hid (Hold l wrO (k + 1) N2) := H2.out.skip (by rw [HXi.out]; rfl)
        have H4n : Hid (Hold l ouO (k + 1) N4) := H4.out.skip (by rw [HXi.out]; rfl)
        have HA := HA.out
        have HZn : Hid ((w9.setCell ⟨A3, 4, none⟩ (.int .u32 ((N3 ||| T : Nat) : Int))).heap[A3]? = some (.cells #[.int .i64 0, .int .u32 0, .int .u32 (N1 : Int), .int .u32 (N2 : Int), .int .u32 ((N3 ||| T : Nat) : Int), .int .u32 (N4 : Int)] 37 (0, 0))) := set_own _ HZ9.out
        have HYn : Hid ((w9.setCell ⟨A3, 4, none⟩ (.int .u32 ((N3 ||| T : Nat) : Int))).heap[A1]? = _) := set_other (show A1 ≠ A3 by omega) HY9.out
        have HBn : Hid (Below S w (w9.setCell ⟨A3, 4, none⟩ (.int .u32 ((N3 ||| T : Nat) : Int)))) := HB9.out.setCell (p := ⟨A3, 4, none⟩) (show S ≤ A3 by omega) _
        clear H1 H2 H3 H4 HY9 HZ9 HB9 HA
        go_wp2_with fail
        exact ⟨⟨k + 1, N1, N2, (N3 ||| T), N4, by omega, by simp, H1n.out, H2n.out, H3n.out, H4n.out, HYn.out, HZn.out, HBn.out⟩, by simp [intOf]; omega⟩
      have q21 : (xo == 21) = false := by simpa using hq
      have r21 := Lib.hid hq
      clear hq
      by_cases hq : xo = 22
      · subst hq
        have hor := (bits32 N4 T H4.out.1 hTb).2.1
        obtain ⟨z0, z1, z2, z3, z4, z5⟩ := cells6 HZ9.out
        have zf := fz_at HZ9.out 5
        have H4n : Hid (Hold l ouO (k + 1) (N4 ||| T)) := by show Hold _ _ _ _; rw [← HT.out]; exact H4.out.add (by rw [HXi.out])
        have H1n : Hid (Hold l rdO (k + 1) N1) := H1.out.skip (by rw [HXi.out]; rfl)
        have H2n : Hid (Hold l wrO (k + 1) N2) := H2.out.skip (by rw [HXi.out]; rfl)
        have H3n : Hid (Hold l inO (k + 1) N3) := H3.out.skip (by rw [HXi.out]; rfl)
        have HA := HA.out
        have HZn : Hid ((w9.setCell ⟨A3, 5, none⟩ (.int .u32 ((N4 ||| T : Nat) : Int))).heap[A3]? = some (.cells #[.int .i64 0, .int .u32 0, .int .u32 (N1 : Int), .int .u32 (N2 : Int), .int .u32 (N3 : Int), .int .u32 ((N4 ||| T : Nat) : Int)] 37 (0, 0))) := set_own _ HZ9.out
        have HYn : Hid ((w9.setCell ⟨A3, 5, none⟩ (.int .u32 ((N4 ||| T : Nat) : Int))).heap[A1]? = _) := set_other (show A1 ≠ A3 by omega) HY9.out
        have HBn : Hid (Below S w (w9.setCell ⟨A3, 5, none⟩ (.int .u32 ((N4 ||| T : Nat) : Int)))) := HB9.out.setCell (p := ⟨A3, 5, none⟩) (show S ≤ A3 by omega) _
        clear H1 H2 H3 H4 HY9 HZ9 HB9 HA
        go_wp2_with fail
        exact ⟨⟨k + 1, N1, N2, N3, (N4 ||| T), by omega, by simp, H1n.out, H2n.out, H3n.out, H4n.out, HYn.out, HZn.out, HBn.out⟩, by simp [intOf]; omega⟩
      have q22 : (xo == 22) = false := by simpa using hq
      have r22 := Lib.hid hq
      clear hq
      have H1n : Hid (Hold l rdO (k + 1) N1) := H1.out.skip (by rw [HXi.out]; unfold rdO; simp only [decide_eq_false r23.out , decide_eq_false r24.out , Bool.or_self])
      have H2n : Hid (Hold l wrO (k + 1) N2) := H2.out.skip (by rw [HXi.out]; unfold wrO; simp only [decide_eq_false r25.out , decide_eq_false r26.out , Bool.or_self])
      have H3n : Hid (Hold l inO (k + 1) N3) := H3.out.skip (by rw [HXi.out]; unfold inO; simp only [decide_eq_false r21.out , Bool.or_self])
      have H4n : Hid (Hold l ouO (k + 1) N4) := H4.out.skip (by rw [HXi.out]; unfold ouO; simp only [decide_eq_false r22.out , Bool.or_self])
      clear r21 r22 r23 r24 r25 r26 H1 H2 H3 H4
      go_wp2_with fail
      exact ⟨⟨k + 1, N1, N2, N3, N4, by omega, by simp, H1n.out, H2n.out, H3n.out, H4n.out, HY9.out, HZ9.out, HB9.out⟩, by simp [intOf]; omega⟩
    · obtain rfl : k = n := by omega
      have hd2 : decide ((k : Int) < (k : Int)) = false := decide_eq_false (by omega)
      have hbt := HBits.out
      have hln := HL.out
      have e1 : anN sr N1 = 0 := by rw [hbt.1]; exact Hold.none (by rw [hln]; exact H1.out)
      have e2 : anN sw N2 = 0 := by rw [hbt.2.1]; exact Hold.none (by rw [hln]; exact H2.out)
      have e3 : anN si N3 = 0 := by rw [hbt.2.2.1]; exact Hold.none (by rw [hln]; exact H3.out)
      have e4 : anN so N4 = 0 := by rw [hbt.2.2.2]; exact Hold.none (by rw [hln]; exact H4.out)
      have b1 := (bits32 sr N1 (by rw [hbt.1]; exact bitsK_lt _ _ _) H1.out.1).2.2
      have b2 := (bits32 sw N2 (by rw [hbt.2.1]; exact bitsK_lt _ _ _) H2.out.1).2.2
      have b3 := (bits32 si N3 (by rw [hbt.2.2.1]; exact bitsK_lt _ _ _) H3.out.1).2.2
      have b4 := (bits32 so N4 (by rw [hbt.2.2.2]; exact bitsK_lt _ _ _) H4.out.1).2.2
      rw [e1] at b1
      rw [e2] at b2
      rw [e3] at b3
      rw [e4] at b4
      have b5 : bits .or .u32 ((0 : Nat) : Int) ((0 : Nat) : Int) = 0 := by decide
      have b6 : bits .or .u32 (0 : Int) (0 : Int) = 0 := by decide
      obtain ⟨z0, z1, z2, z3, z4, z5⟩ := cells6 HZ8.out
      obtain ⟨y0, y1, y2, y3, y4, y5⟩ := cells6 HY8.out
      clear hbt hln e1 e2 e3 e4 hlt HBits
      go_wp2_with fail
      go_ret
      exact ⟨rfl, by rw [HS.out]; exact HB8.out⟩
end Ver
end Go.Proofs.YtjoiogdckbaeaaaDoor
