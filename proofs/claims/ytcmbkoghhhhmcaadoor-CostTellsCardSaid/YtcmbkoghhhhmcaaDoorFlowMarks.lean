/- A function that ranges over functions again and again leaves a mark for each: what they are, and how it is left. No program. -/
import Derived.Test.YtcmbkoghhhhmcaaDoorFlowBox
import Derived.RangeFuncLeaves
import Derived.RangeFuncRecord
import Derived.Deep.LoopGhost
namespace Go.Proofs.YtcmbkoghhhhmcaaDoor
open Go.RowKit
namespace Goes
open Rights (Kept)
open Isa
set_option linter.unusedVariables false
set_option linter.unusedSimpArgs false
/-- the marks of these blocks -/
def dfs (rs : List Nat) : List Deferred := rs.map fun r => { target := .collected r, args := #[] }
def Mk (lo : Nat) (rs : List Nat) (w : World) : Prop := rs.Nodup ∧ ∀ r ∈ rs, lo ≤ r ∧ w.heap[r]? = some (.deferred (some []))
theorem Mk.nil (lo : Nat) (w : World) : Mk lo [] w := ⟨List.nodup_nil, by simp⟩
theorem Mk.kept {lo : Nat} {rs : List Nat} {w w' : World} {p : Nat → Prop} (h : Mk lo rs w) (hk : Kept p w w') (hp : ∀ r ∈ rs, ¬ p r) : Mk lo rs w' :=
  ⟨h.1, fun r hr => ⟨(h.2 r hr).1, hk.same (h.2 r hr).2 (hp r hr)⟩⟩
theorem Mk.lt {lo : Nat} {rs : List Nat} {w : World} (h : Mk lo rs w) {r : Nat} (hr : r ∈ rs) : r < w.heap.size := lt_of_block (h.2 r hr).2
theorem Mk.cons {lo : Nat} {rs : List Nat} {w : World} (h : Mk lo rs w) {B : Nat} (hB : w.heap[B]? = some (.deferred (some []))) (hlo : lo ≤ B) (hn : B ∉ rs) : Mk lo (B :: rs) w :=
  ⟨List.nodup_cons.2 ⟨hn, h.1⟩, fun r hr => by
    rcases List.mem_cons.1 hr with e | e
    · subst e; exact ⟨hlo, hB⟩
    · exact h.2 r e⟩
theorem Mk.ne_cells {lo : Nat} {rs : List Nat} {w : World} (h : Mk lo rs w) {r g : Nat} (hr : r ∈ rs) {cs : Array Value} {t : TypeId} {fr : Nat × Nat} (hg : w.heap[g]? = some (.cells cs t fr)) : r ≠ g := by
  intro e
  subst e
  rw [(h.2 r hr).2] at hg
  cases hg
variable {F : Fence} {n : Nat} {P : Program}
/-- how such a function is left -/
theorem leaves_marks {fn : Func} {tmps : Array Value} {R : Ending → World → Prop} {lo : Nat} : ∀ (rs : List Nat) (w : World), Mk lo rs w →
    (∀ w', Kept (fun k => lo ≤ k ∧ ∃ x, w.heap[k]? = some (.deferred x)) w w' → LeavesIn F n P fn tmps R [] .returning w') → LeavesInM F n P fn tmps R (dfs rs) .returning w
  | [], w, _, h => h w (Kept.refl _ w)
  | r :: rs, w, hm, h => by
    have hr := hm.2 r (by simp)
    have hnd := List.nodup_cons.1 hm.1
    refine ⟨by simp, .inl ⟨r, _, rfl, run_takeDeferred hr.2, ?_⟩⟩
    have hk : Kept (fun k => k = r) w (w.putObj r (.deferred none)) := Kept.put (Kept.refl (fun k => k = r) w) (.inl rfl) _
    refine leaves_marks (lo := lo) rs _ ?_ fun w' hk' => h w' ?_
    · exact ⟨hnd.2, fun s hs => ⟨(hm.2 s (by simp [hs])).1, hk.same (hm.2 s (by simp [hs])).2 (fun e => hnd.1 (by have e2 : s = r := e; rw [← e2]; exact hs))⟩⟩
    · refine (hk.mono fun k _ e => ?_).trans (hk'.mono fun k hlt e => ?_)
      · have e2 : k = r := e
        rw [e2]; exact ⟨hr.1, _, hr.2⟩
      · obtain ⟨e1, x, e2⟩ := e
        by_cases q : k = r
        · subst q; exact ⟨e1, _, hr.2⟩
        · rw [World.putObj_heap_other q] at e2
          exact ⟨e1, x, e2⟩
/-- a loop, by a number that falls; what is to be handed on stands behind a variable -/
theorem wp_loop_k {Q : Exit → Act → World → Prop} {a : Act} {w : World} {c : Code} (I : Nat → Act → World → Prop) (n₀ : Nat) (h₀ : I n₀ a w)
    (round : ∀ n a w, I n a w → ∀ (K : Act → World → Prop), (∀ n' a' w', n' < n → I n' a' w' → K a' w') → c.wp P (Exit.then K Q) a w) : (Code.loop c).wp P Q a w :=
  wp_loop_ghost I n₀ h₀ fun n a w h => round n a w h _ fun n' a' w' q r => ⟨n', q, r⟩
end Goes
end Go.Proofs.YtcmbkoghhhhmcaaDoor
