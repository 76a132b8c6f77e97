/- Two boxed arguments, a result in its cell, two chains in an open order: what such functions share. -/
import Derived.Test.YtbjndjmbbephbaaT2
import Derived.Test.YtbjndjmbbephbaaMonb
namespace Go.Proofs.Ytbjndjmbbephbaa
open Go.RowKit

/-- Operation k turns block g alone, into cs; all others only make new memory. -/
def Rst (k g : Nat) (cs : Array Value) (t i : Nat) (x y : World) : Prop := if i = k then x.grownBy y (some g) ∧ y.heap[g]? = some (.cells cs t (0, 0)) else Below x.heap.size x y
section
variable {k g t i b : Nat} {cs : Array Value} {w x y : World}
theorem Rst.keep (h : Rst k g cs t i x y) (hb : b ≠ g) (hl : b < x.heap.size) : y.heap[b]? = x.heap[b]? := by
  unfold Rst at h
  by_cases e : i = k
  · rw [if_pos e] at h; exact h.1.block b hl (fun e => hb (by injection e))
  · rw [if_neg e] at h; exact h.block b hl
theorem Rst.stay (h : Rst k g cs t i x y) (hi : i ≠ k) (hl : b < x.heap.size) : y.heap[b]? = x.heap[b]? := by
  unfold Rst at h
  rw [if_neg hi] at h; exact h.block b hl
theorem Rst.size (h : Rst k g cs t i x y) : x.heap.size ≤ y.heap.size := by
  unfold Rst at h
  by_cases e : i = k
  · rw [if_pos e] at h; exact h.1.size
  · rw [if_neg e] at h; exact h.size
theorem Rst.below (h : Rst k g cs t i x y) (hg : w.heap.size ≤ g) (hb : Below w.heap.size w x) : Below w.heap.size w y := by
  unfold Rst at h
  by_cases e : i = k
  · rw [if_pos e] at h; exact below_only hb h.1 hb.size hg
  · rw [if_neg e] at h; exact hb.trans (h.mono hb.size)
theorem Rst.of (h : Below x.heap.size x y) (hi : i ≠ k) : Rst k g cs t i x y := by unfold Rst; rw [if_neg hi]; exact h
theorem Rst.done (h : Rst k g cs t k x y) : y.heap[g]? = some (.cells cs t (0, 0)) := by unfold Rst at h; rw [if_pos rfl] at h; exact h.2
theorem Rst.at_ {old : Array Value} (h : x.heap[g]? = some (.cells old t (0, 0))) : Rst k g cs t k x (x.setRow g cs) := by
  unfold Rst; rw [if_pos rfl]
  exact ⟨⟨rfl, rfl, rfl, by simp, fun i hi hne => setRow_other x g i cs (fun e => hne (by rw [e]))⟩, setRow_heap _ _ _ _ _ _ h⟩
theorem lt_of_row {o : Obj} (h : x.heap[b]? = some o) : b < x.heap.size := (Array.getElem?_eq_some_iff.1 h).1
end

/-- Two boxed arguments and a result's cells. -/
structure Two (w : World) (ca cb : Array Value) (ta tb tr n : Nat) (x : World) : Prop where
  a : x.heap[w.heap.size]? = some (.cells ca ta (0, 0))
  b : x.heap[w.heap.size + 1]? = some (.cells cb tb (0, 0))
  r : ∃ old, x.heap[w.heap.size + 1 + 1]? = some (.cells old tr (0, 0)) ∧ old.size = n
  below : Below w.heap.size w x
/-- A new block that is not block g. -/
def NB (g : Nat) (cs : Array Value) (t len : Nat) (v : Value) (x : World) : Prop := ∃ b, v = .slice (some ⟨b, 0, none⟩) len len ∧ b ≠ g ∧ x.heap[b]? = some (.cells cs t (0, 0))
theorem NB.up {k g i t t' len : Nat} {cs cr : Array Value} {v : Value} {x y : World} (h : Rst k g cr t' i x y) : NB g cs t len v x → NB g cs t len v y := fun ⟨b, e, hb, hr⟩ => ⟨b, e, hb, (h.keep hb (lt_of_row hr)).trans hr⟩
theorem NB.new {g : Nat} {x : World} (cs : Array Value) (t len : Nat) (hg : g < x.heap.size) : NB g cs t len (.slice (some ⟨x.heap.size, 0, none⟩) len len) (x.alloc (.cells cs t)) := ⟨_, rfl, by omega, heap_alloc_new _ _⟩
def Done (g : Nat) (cs : Array Value) (t : Nat) (x : World) : Prop := x.heap[g]? = some (.cells cs t (0, 0))
theorem Done.up {k g i t t' : Nat} {cs cr : Array Value} {x y : World} (hi : k ≠ i) (h : Rst k g cr t' i x y) : Done g cs t x → Done g cs t y := fun hr => (h.stay (Ne.symm hi) (lt_of_row hr)).trans hr
theorem Two.drew {w x : World} {ca cb : Array Value} {ta tb tr n : Nat} (I : Two w ca cb ta tb tr n x) : Two w ca cb ta tb tr n x.drew := ⟨I.a, I.b, I.r, ⟨I.below.os, I.below.tape, I.below.output, I.below.size, I.below.block⟩⟩
theorem Two.start (w : World) (ca cb cr : Array Value) (ta tb tr n : Nat) (hn : cr.size = n) : Two w ca cb ta tb tr n (((w.alloc (.cells ca ta)).alloc (.cells cb tb)).alloc (.cells cr tr)) := by
  have h1 : (w.alloc (.cells ca ta)).heap[w.heap.size]? = some (.cells ca ta (0, 0)) := heap_alloc_new _ _
  have h2 : ((w.alloc (.cells ca ta)).alloc (.cells cb tb)).heap[w.heap.size + 1]? = some (.cells cb tb (0, 0)) := by simpa using heap_alloc_new (w.alloc (.cells ca ta)) (.cells cb tb)
  have h3 : (((w.alloc (.cells ca ta)).alloc (.cells cb tb)).alloc (.cells cr tr)).heap[w.heap.size + 1 + 1]? = some (.cells cr tr (0, 0)) := by simpa using heap_alloc_new ((w.alloc (.cells ca ta)).alloc (.cells cb tb)) (.cells cr tr)
  have k1 := (below1 (w.alloc (.cells ca ta)) (.cells cb tb)).block w.heap.size (by simp)
  have k2 := (below1 ((w.alloc (.cells ca ta)).alloc (.cells cb tb)) (.cells cr tr))
  refine ⟨(k2.block w.heap.size (by simp; omega)).trans (k1.trans h1), (k2.block (w.heap.size + 1) (by simp)).trans h2, ⟨cr, h3, hn⟩, (below2 _ _ _).alloc (by simp; omega) _⟩
theorem Two.then_ {w x y : World} {ca cb cs : Array Value} {ta tb tr n k i : Nat} (hn : cs.size = n) (hr : Rst k (w.heap.size + 1 + 1) cs tr i x y) (I : Two w ca cb ta tb tr n x) : Two w ca cb ta tb tr n y :=
  ⟨(hr.keep (by omega) (lt_of_row I.a)).trans I.a, (hr.keep (by omega) (lt_of_row I.b)).trans I.b, by
    by_cases e : i = k
    · subst e; exact ⟨cs, hr.done, hn⟩
    · obtain ⟨old, h1, h2⟩ := I.r
      exact ⟨old, (hr.stay e (lt_of_row h1)).trans h1, h2⟩, hr.below (by omega) I.below⟩
theorem exec_store {P : Program} {ev : Operand → Value} {o : Oper} {w : World} (ty : TypeId) (x y : Operand) (ho : o.op = .store ty x y) (g : Nat) (cells : Array Value) (hx : ev x = .pointer (some ⟨g, 0, none⟩)) (hy : ev y = .agg cells)
    (t : TypeId) (old : Array Value) (hg : w.heap[g]? = some (.cells old t (0, 0))) (hi : (P.info? ty).map (·.size) = some cells.size)
    (hold : old.size = cells.size) (h1 : cells.all (·.oneCell') = true) : (execOp ev o).run P w = .ok .skip (w.setRow g cells) := by
  unfold execOp
  simp only [ho, hx, hy, Instr.storeAt, Instr.sureAddr, Sem.run_bind, Sem.run_pure, Result.andThen_ok, run_storeVar_row w g t ty old cells hg hi hold h1]
end Go.Proofs.Ytbjndjmbbephbaa
