/- The law WireWrites: what it keeps. -/
import Derived.Test.YthodogcpoihjpaaP3
namespace Go.Proofs.Ythodogcpoihjpaa
open Go.RowKit
/-- A part that came in. -/
structure PartR where
  C : Array Value
  k : Int
  i : Int
  m : Int
  n : Nat
  A : Option Addr
  ts : List Nat
  c : Nat
  d : Nat → Nat
  f : Nat → Nat
instance : Inhabited PartR := ⟨⟨#[], 0, 0, 0, 0, none, [], 0, fun _ => 0, fun _ => 0⟩⟩
def PartR.bytes (p : PartR) : List Nat := partB p.k p.i p.n p.ts p.d p.f
/-- A slice of parts that came in. -/
structure PartsAt (w : World) (B N : Nat) (A : Option Addr) (P : Nat → PartR) : Prop where
  at_ : 0 < N → ∃ b o, A = some ⟨b, o, none⟩ ∧ b < B ∧ ∀ j, j < N → rangeA w b (o + j * 45) (P j).C
  cells : ∀ j, j < N → PartC (P j).C (P j).k (P j).i (P j).m (P j).n (P j).A (P j).ts (P j).c (P j).d (P j).f
  ok : ∀ j, j < N → PartOk w B (P j).i (P j).n (P j).A (P j).ts (P j).c (P j).d (P j).f
  len : ∀ j, j < N → (P j).ts.length ≤ maxLen
theorem PartsAt.below {w w' : World} {B N : Nat} {A : Option Addr} {P : Nat → PartR} (h : PartsAt w B N A P) (hb : Below B w w') : PartsAt w' B N A P :=
  ⟨fun hp => by
    obtain ⟨b, o, e, hlt, hc⟩ := h.at_ hp
    exact ⟨b, o, e, hlt, fun j hj i v hv => by rw [← hc j hj i v hv]; exact World.cell?_of_block (w := w) (a := ⟨b, _, none⟩) (hb.block b hlt)⟩,
    h.cells, fun j hj => (h.ok j hj).below hb, h.len⟩
def allB (P : Nat → PartR) (i : Nat) : List Nat := (List.range i).flatMap fun j => (P j).bytes
theorem allB_succ (P : Nat → PartR) (i : Nat) : allB P (i + 1) = allB P i ++ (P i).bytes := by simp [allB, List.range_succ, List.flatMap_append]
theorem allB_zero (P : Nat → PartR) : allB P 0 = [] := rfl
theorem allB_len (P : Nat → PartR) : ∀ i, (∀ j, j < i → (P j).bytes.length ≤ 600) → (allB P i).length ≤ 600 * i
  | 0, _ => by simp [allB]
  | i + 1, h => by
    have h1 := allB_len P i fun j hj => h j (by omega)
    have h2 := h i (by omega)
    rw [allB_succ, List.length_append]
    omega
theorem allB_lt (P : Nat → PartR) (i : Nat) (h : ∀ j, j < i → ∀ z, z ∈ (P j).bytes → z < 256) : ∀ z, z ∈ allB P i → z < 256 := fun z hz => by
  simp only [allB, List.mem_flatMap, List.mem_range] at hz
  obtain ⟨j, hj, hz⟩ := hz
  exact h j hj z hz
/-- What the law's loop keeps: the writer in block W, the slice u of what is wanted. -/
structure WW (w : World) (W : Nat) (xs : List Nat) (u : Value) (wr : World) : Prop where
  at_ : ∃ v, WAt wr w.heap.size W v xs ∧ ∀ k, v.ownBlock = some k → u.ownBlock ≠ some k
  own : wr.ownsRow w.heap.size 5 1 u xs.length (ints8 xs)
  ne : u.ownBlock ≠ some W
  below : Below w.heap.size w wr
theorem WW.below_ {w wr wx : World} {W : Nat} {xs : List Nat} {u : Value} (h : WW w W xs u wr) (hb : Below wr.heap.size wr wx) : WW w W xs u wx := by
  obtain ⟨v, hv, hn⟩ := h.at_
  exact ⟨⟨v, hv.below hb, hn⟩, own_keep h.own fun k _ hk => hb.block k hk, h.ne, h.below.trans (hb.mono h.below.size)⟩
theorem ownsRow_block {w : World} {base : Nat} {v : Value} {n : Nat} {l : List Value} (h : w.ownsRow base 5 1 v n l) : ∀ k, v.ownBlock = some k → base ≤ k ∧ k < w.heap.size := fun k hk => h.lt k hk
theorem own_keep1 {a b : World} {base : Nat} {v : Value} {n : Nat} {l : List Value} (h : a.ownsRow base 5 1 v n l) (hk : ∀ k, v.ownBlock = some k → k < a.heap.size → b.heap[k]? = a.heap[k]?) : b.ownsRow base 5 1 v n l := by
  refine ⟨h.1, ?_⟩
  rcases h.2 with h2 | ⟨g, cap, cur, e, hg, hc, h3⟩
  · exact .inl h2
  · subst e
    exact .inr ⟨g, cap, cur, rfl, hg, (hk g rfl (Array.getElem?_eq_some_iff.1 hc).1).trans hc, h3⟩
theorem WW.turn {w wr w1 : World} {W : Nat} {xs zs : List Nat} {u v v1 : Value} (I : WW w W xs u wr) (hw : WAt wr w.heap.size W v xs) (hn : ∀ k, v.ownBlock = some k → u.ownBlock ≠ some k)
    (h1 : WAt w1 w.heap.size W v1 (xs ++ zs)) (t : Turn wr w1 W v.ownBlock v1.ownBlock) :
    w1.ownsRow w.heap.size 5 1 u xs.length (ints8 xs) ∧ Below w.heap.size w w1 ∧ ∀ u' w2, w2.ownsRow w.heap.size 5 1 u' (xs.length + zs.length) (ints8 (xs ++ zs)) → w1.grownBy w2 u.ownBlock → SameOrNew w1.heap.size u.ownBlock u'.ownBlock → WW w W (xs ++ zs) u' w2 := by
  have hb1 : Below w.heap.size w w1 := I.below.trans ((t.below hw.le hw.blk I.below.size).mono (Nat.le_refl _))
  have ho1 : w1.ownsRow w.heap.size 5 1 u xs.length (ints8 xs) := own_keep1 I.own fun k hk hlt => t.block k hlt (fun e => I.ne (by rw [hk, e])) (fun e => hn k e hk)
  refine ⟨ho1, hb1, fun u' w2 ho2 hg hs => ?_⟩
  have hd : ∀ k, v1.ownBlock = some k → u.ownBlock ≠ some k := fun k hk hu => by
    rcases t.new with e | e
    · exact hn k (by rw [← e]; exact hk) hu
    · have h2 := e k hk
      have h3 := (I.own.lt k hu).2
      omega
  refine ⟨⟨v1, ⟨?_, ?_, h1.le⟩, ?_⟩, ?_, ?_, ?_⟩
  · exact (hg.block W h1.lt I.ne.symm).trans h1.row
  · exact own_keep1 h1.own fun k hk hlt => hg.block k hlt (hd k hk).symm
  · intro k hk
    rcases hs with e | e
    · rw [e]; exact hd k hk
    · intro hu
      have h2 := e k hu
      have h3 := (h1.own.lt k hk).2
      omega
  · rw [List.length_append]; exact ho2
  · rcases hs with e | e
    · rw [e]; exact I.ne
    · intro hu
      have h2 := e W hu
      have h3 := h1.lt
      omega
  · exact hb1.grown hg hb1.size (fun k hk => (ho1.lt k hk).1)
end Go.Proofs.Ythodogcpoihjpaa
