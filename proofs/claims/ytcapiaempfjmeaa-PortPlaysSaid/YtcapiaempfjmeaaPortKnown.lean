/- known: the layer does a small thing right. -/
import Derived.Test.YtcapiaempfjmeaaPortW9
namespace Go.Proofs.Ytcapiaempfjmeaa
open Go.ChangeShapes Go.WideShapes Go.ChangeAt Go.RowKit
namespace Prt
set_option linter.unusedVariables false
set_option linter.unusedSimpArgs false
def D0 : Df := ⟨2, 1, 5⟩
def K0 : List Bx := [D0].map newB
def K1 : List Bx := putL K0 1 0 1 7
def K2 : List Bx := sendL K1 1 0
def K3 : List Bx := comL K2
def K4 : List Bx := comL K3
/-- ports of a call's own -/
structure Kn (w : World) (g : Nat) (l : List Bx) (V : World) : Prop where
  pt : Pt V g l
  bel : Below w.heap.size w V
  g : w.heap.size ≤ g
section
variable {w V : World} {g : Nat} {l : List Bx}
theorem Kn.grow (h : Kn w g l V) {V' : World} (hb : Below V.heap.size V V') : Kn w g l V' := ⟨h.pt.below hb (Nat.le_refl _), h.bel.trans (hb.mono h.bel.size), h.g⟩
theorem Kn.write (h : Kn w g l V) {V' : World} {l' : List Bx} (hp : Pt V' g l') (hk : Kept (fun k => k = g) V V') : Kn w g l' V' := ⟨hp, h.bel.trans (hk.toBelow h.bel.size (fun k hk e => by have := h.g; omega)), h.g⟩
theorem put_kn (h : Kn w g l V) (part port word x : Int) (hx : 0 ≤ x ∧ x ≤ 4294967295) (e0 : Int) (he : errW wrt l part port word = e0) :
    Calls Try.prog 15 #[.pointer (some ⟨g, 0, none⟩), .int .i64 part, .int .i64 port, .int .i64 word, .int .u32 x] V fun e V' => e = .returned (.int .i64 e0) ∧ Kn w g (putL l part port word x) V' := by
  subst he
  exact (put_any h.pt part port word x hx).mono fun e V' ⟨h1, h2, h3⟩ => ⟨h1, h.write h2 h3⟩
theorem send_kn (h : Kn w g l V) (part port : Int) (e0 : Int) (he : errA wrt l part port = e0) :
    Calls Try.prog 17 #[.pointer (some ⟨g, 0, none⟩), .int .i64 part, .int .i64 port] V fun e V' => e = .returned (.int .i64 e0) ∧ Kn w g (sendL l part port) V' := by
  subst he
  exact (send_any h.pt part port).mono fun e V' ⟨h1, h2, h3⟩ => ⟨h1, h.write h2 h3⟩
theorem read_kn (h : Kn w g l V) (part port word : Int) (x e0 : Int) (hx : readV l part port word = x) (he : errW rds l part port word = e0) :
    Calls Try.prog 11 #[.pointer (some ⟨g, 0, none⟩), .int .i64 part, .int .i64 port, .int .i64 word] V fun e V' => e = .returned (.tuple #[.int .u32 x, .int .i64 e0]) ∧ Kn w g l V' := by
  subst hx; subst he
  exact (read_any h.pt part port word).mono fun e V' ⟨h1, h2⟩ => ⟨h1, h.grow h2⟩
theorem age_kn (h : Kn w g l V) (part port : Int) (x e0 : Int) (hx : ageV l part port = x) (he : errA rds l part port = e0) :
    Calls Try.prog 13 #[.pointer (some ⟨g, 0, none⟩), .int .i64 part, .int .i64 port] V fun e V' => e = .returned (.tuple #[.int .u32 x, .int .i64 e0]) ∧ Kn w g l V' := by
  subst hx; subst he
  exact (age_any h.pt part port).mono fun e V' ⟨h1, h2⟩ => ⟨h1, h.grow h2⟩
theorem com_kn (h : Kn w g l V) : Calls Try.prog 19 #[.pointer (some ⟨g, 0, none⟩)] V fun e V' => e = .returned (.tuple #[]) ∧ Kn w g (comL l) V' :=
  (Commit_any h.pt).mono fun e V' ⟨h1, h2, h3⟩ => ⟨h1, h.write h2 h3⟩
end
theorem row_def {X : World} {k : Nat} (d : Df) (hd : 0 ≤ d.rd ∧ d.rd ≤ 4294967295) (h : X.heap[k]? = some (.cells #[.int .i64 d.w, .int .i64 d.wr, .int .u32 d.rd] 44 (0, 0))) : FRow (fun _ => False) X (some ⟨k, 0, none⟩) 1 [d] := by
  refine ⟨rfl, by simpa using hd, .inr ⟨k, 0, rfl, id, fun j hj => ?_⟩⟩
  obtain rfl : j = 0 := by omega
  exact ⟨by simp [World.cell?, h], by simp [World.cell?, h], by simp [World.cell?, h]⟩
set_option maxHeartbeats 4000000 in
set_option maxRecDepth 100000 in
theorem known_any (w : World) : Calls Try.prog 6 #[] w fun e w' => e = .returned (.bool true) ∧ Below w.heap.size w w' := by
  have HN := Lib.hid (new_any (c := 1) (row_def D0 (by decide) (heap_alloc_new w (.cells #[.int .i64 2, .int .i64 1, .int .u32 5] 44))) (by omega) (by decide +kernel))
  go_enter Try.func6, Try.ntmps6
  go_wp2_with fail
  refine HN.out.mono ?_
  rintro e w1 ⟨g, rfl, hg, hp, hb⟩
  have H : Kn w g K0 w1 := ⟨hp, (below_alloc _ _).trans (hb.mono (by simp)), by simp at hg; omega⟩
  clear hg hp hb HN
  go_wp2_with fail
  refine (put_kn H 1 0 1 7 (by omega) 0 (by decide +kernel)).mono ?_
  clear H; rintro e w1 ⟨rfl, H⟩
  go_wp2_with fail
  refine (send_kn H 1 0 0 (by decide +kernel)).mono ?_
  clear H; rintro e w1 ⟨rfl, H⟩
  go_wp2_with fail
  refine (read_kn H 2 0 1 0 0 (by decide +kernel) (by decide +kernel)).mono ?_
  clear H; rintro e w1 ⟨rfl, H⟩
  go_wp2_with fail
  refine (age_kn H 2 0 255 0 (by decide +kernel) (by decide +kernel)).mono ?_
  clear H; rintro e w1 ⟨rfl, H⟩
  go_wp2_with fail
  refine (com_kn H).mono ?_
  clear H; rintro e w1 ⟨rfl, H⟩
  go_wp2_with fail
  refine (read_kn H 2 0 1 7 0 (by decide +kernel) (by decide +kernel)).mono ?_
  clear H; rintro e w1 ⟨rfl, H⟩
  go_wp2_with fail
  refine (age_kn H 0 0 0 0 (by decide +kernel) (by decide +kernel)).mono ?_
  clear H; rintro e w1 ⟨rfl, H⟩
  go_wp2_with fail
  refine (com_kn H).mono ?_
  clear H; rintro e w1 ⟨rfl, H⟩
  go_wp2_with fail
  refine (age_kn H 0 0 1 0 (by decide +kernel) (by decide +kernel)).mono ?_
  clear H; rintro e w1 ⟨rfl, H⟩
  go_wp2_with fail
  refine (read_kn H 3 0 0 0 70 (by decide +kernel) (by decide +kernel)).mono ?_
  clear H; rintro e w1 ⟨rfl, H⟩
  go_wp2_with fail
  refine (read_kn H 2 0 2 0 5 (by decide +kernel) (by decide +kernel)).mono ?_
  clear H; rintro e w1 ⟨rfl, H⟩
  go_wp2_with fail
  refine (read_kn H 2 1 0 0 4 (by decide +kernel) (by decide +kernel)).mono ?_
  clear H; rintro e w1 ⟨rfl, H⟩
  go_wp2_with fail
  refine (put_kn H 0 0 0 1 (by omega) 70 (by decide +kernel)).mono ?_
  clear H; rintro e w1 ⟨rfl, H⟩
  have HB := Lib.hid H.bel
  clear H
  go_wp2_with (first
    | (go_at_call 11; refine (read_nil _ _ _ _).mono ?_; rintro e w2 ⟨rfl, rfl⟩)
    | (go_at_call 13; refine (age_nil _ _ _).mono ?_; rintro e w2 ⟨rfl, rfl⟩)
    | (go_at_call 19; refine (Commit_nil _).mono ?_; rintro e w2 ⟨rfl, hb⟩; have HB := Lib.hid (HB.out.trans (hb.mono HB.out.size)); clear hb))
  refine (Drop_nil 0 _).mono ?_
  rintro e w2 ⟨rfl, hb⟩
  have HB := Lib.hid (HB.out.trans (hb.mono HB.out.size))
  clear hb
  go_wp2_with fail
  refine (Unsend_nil 0 _).mono ?_
  rintro e w3 ⟨rfl, hb⟩
  have HB := Lib.hid (HB.out.trans (hb.mono HB.out.size))
  clear hb
  go_wp2_with (first
    | (go_at_call 28; refine (message_nil _ _).mono ?_; rintro e w2 ⟨rfl, rfl⟩)
    | (go_at_call 15; refine (put_nil _ _ _ _ _).mono ?_; rintro e w2 ⟨rfl, rfl⟩)
    | (go_at_call 17; refine (send_nil _ _ _).mono ?_; rintro e w2 ⟨rfl, rfl⟩)
    | (go_at_call 25; refine (copy_nil _).mono ?_; rintro e w2 ⟨rfl, rfl⟩))
  go_ret
  exact ⟨rfl, HB.out⟩
end Prt
end Go.Proofs.Ytcapiaempfjmeaa
