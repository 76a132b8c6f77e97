/- The law WireBack: the first loop's invariant. -/
import Derived.Test.YthodogcpoihjpaaB1
namespace Go.Proofs.Ythodogcpoihjpaa
open Go.RowKit
/-- A part that may be written and read back. -/
def Fine (p : PartR) : Prop := p.ts.length ≤ 500 ∧ 0 ≤ p.k ∧ p.k ≤ 4 ∧ (p.k = 1 → -4611686018427387904 ≤ p.i ∧ p.i ≤ 4611686018427387904) ∧ (p.k = 2 → (p.ts.length : Int) ≤ p.m)
theorem own_ne_cell {x : World} {base V n : Nat} {v u : Value} {l : List Value} (h : x.ownsRow base 5 1 v n l) (hV : x.heap[V]? = some (.cells #[u] 26 (0, 0))) : v.ownBlock ≠ some V := fun e => by
  rcases h.2 with ⟨rfl, _⟩ | ⟨g, cap, cur, rfl, _, hg, _⟩
  · cases e
  · have : g = V := by simpa [Value.ownBlock] using e
    subst this
    rw [hV] at hg
    injection hg with hg
    injection hg with _ hg
    cases hg
/-- What loop 1 keeps: the first writer in block w.heap.size, the second, empty, behind it. -/
structure LI (w : World) (xs : List Nat) (wr : World) : Prop where
  wt : ∃ v, WAt wr w.heap.size w.heap.size v xs
  again : wr.heap[w.heap.size + 1]? = some (.cells #[.slice none 0 0] 26 (0, 0))
  below : Below w.heap.size w wr
theorem LI.below_ {w wr wx : World} {xs : List Nat} (h : LI w xs wr) (hb : Below wr.heap.size wr wx) : LI w xs wx := by
  obtain ⟨v, hv⟩ := h.wt
  exact ⟨⟨v, hv.below hb⟩, (hb.block _ (Array.getElem?_eq_some_iff.1 h.again).1).trans h.again, h.below.trans (hb.mono h.below.size)⟩
theorem LI.next {w wr w1 : World} {xs ys : List Nat} {v v1 : Value} (I : LI w xs wr) (hw : WAt wr w.heap.size w.heap.size v xs) (h1 : WAt w1 w.heap.size w.heap.size v1 (xs ++ ys)) (t : Turn wr w1 w.heap.size v.ownBlock v1.ownBlock) : LI w (xs ++ ys) w1 :=
  ⟨⟨v1, h1⟩, (t.block _ (Array.getElem?_eq_some_iff.1 I.again).1 (by omega) (own_ne_cell hw.own I.again)).trans I.again, I.below.trans (t.below (Nat.le_refl _) hw.blk I.below.size)⟩
theorem li_start (w : World) : LI w [] ((w.alloc (.cells #[.slice none 0 0] 26)).alloc (.cells #[.slice none 0 0] 26)) := by
  have hb := below1 (w.alloc (.cells #[.slice none 0 0] 26)) (.cells #[.slice none 0 0] 26)
  have h0 : WAt (w.alloc (.cells #[.slice none 0 0] 26)) w.heap.size w.heap.size (.slice none 0 0) [] := ⟨heap_alloc_new _ _, World.ownsRow_nil _ _ _ _, Nat.le_refl _⟩
  refine ⟨⟨_, h0.below hb⟩, ?_, (below1 w _).trans (hb.mono (by rw [alloc_size]; exact Nat.le_succ _))⟩
  rw [← alloc_size w (.cells #[.slice none 0 0] 26)]
  exact heap_alloc_new _ _
end Go.Proofs.Ythodogcpoihjpaa
