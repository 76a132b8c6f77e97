/- A range over a function whose body never leaves early; the iterator may itself range over another one. -/
import Derived.Test.YtnpacjdgbmldlaaWin
namespace Go.Proofs.Ytnpacjdgbmldlaa
open Go.RowKit Go.Shelf

/-- The function value hands xs, one by one, to a yield that always says 'more'; what the caller knows between two rounds (J) may speak of whatever it likes but of blocks that are no cells and were laid since the call. -/
def Gives {α : Type} (P : Program) (gf : Nat) (lb : Array Value) (encs : α → Array Value) (Kp : Nat → World → World → Prop) (Pre : World → Prop) (xs : List α) (w : World) : Prop :=
  ∀ m, 1 ≤ m → ∀ (l : Nat) (J : List α → World → Prop) (W : World), Below w.heap.size w W → Pre W → OwnFrom W.heap.size J →
    (∀ pre x W1, J pre W1 → pre ++ [x] <+: xs → YieldAt Fence.wide (m - 1) P l (encs x) W1 fun e W' => e = .returned (.bool true) ∧ J (pre ++ [x]) W' ∧ Kp W.heap.size W1 W') →
    J [] W → CallsIn Fence.wide m P gf (#[.func (.yield l) #[] #[]] ++ lb) W fun e W' => (∃ v, e = .returned v) ∧ J xs W'
/-- The same block, or a new one. -/
def SameOrNew (N : Nat) (b b' : Option Nat) : Prop := b' = b ∨ ∀ k, b' = some k → N ≤ k
/-- What stands in two blocks below B stays there. -/
theorem ownFrom_two {β : Type} {B l k : Nat} (hl : l < B) (hk : k < B) (p q : Obj) : OwnFrom B (fun (_ : β) W => W.heap[l]? = some p ∧ W.heap[k]? = some q) := fun _ A C row hs hg hr => by
  have hne : ∀ j, j < B → some j ≠ row := fun j hj e => by
    have := (hr j e.symm).1
    omega
  exact ⟨(hg.block l (Array.getElem?_eq_some_iff.1 hs.1).1 (hne l hl)).trans hs.1, (hg.block k (Array.getElem?_eq_some_iff.1 hs.2).1 (hne k hk)).trans hs.2⟩

/-- The body's end: it goes on to the next round. -/
def goesOn {α : Type} (B : Nat) (Kp : World → World → Prop) (I : List α → World → Prop) (ys : List α) (W : World) : Exit → Act → World → Prop
  | .normal, _, W' => KeepsFrom B W W' ∧ Kp W W' ∧ I ys W'
  | _, _, _ => False

set_option maxHeartbeats 1000000 in
theorem wpIn_range_gives {α : Type} {P : Program} {n : Nat} (h1 : 1 ≤ n - 1) {g : Operand} {ps : Array Tmp} {assign body : Code} {Q : Exit → Act → World → Prop} {a : Act} {w : World}
    {gf : Nat} {lb : Array Value} (hg : a.eval g = .func (.func gf) #[] lb) (eg : ∀ args w, (callFunc gf args).run P w = .ok (.enter gf args) w)
    {encs : α → Array Value} {Kp : Nat → World → World → Prop} {Pre : World → Prop} {xs : List α} {w0 : World} (hseq : Gives P gf lb encs Kp Pre xs w0) (hPre : ∀ W, Below w.heap.size w W → Pre W)
    (hKt : ∀ {A B C : World}, Kp (w.heap.size + 2) A B → Kp (w.heap.size + 2) B C → Kp (w.heap.size + 2) A C) (hKb : ∀ (W : World) (l : Nat) (o o' : Obj), w.heap.size ≤ l → l < w.heap.size + 2 → W.heap[l]? = some o → o.isCells = false → Kp (w.heap.size + 2) W (W.putObj l o'))
    (hb0 : Below w0.heap.size w0 w) (hps : ∀ x, (encs x).size = ps.size)
    (I : List α → World → Prop) (hI : OwnFrom w.heap.size I) (h0 : I [] w) (Ax : α → Act → World → Prop) (hAx : ∀ x a', OwnFrom w.heap.size (fun (_ : Unit) W => Ax x a' W))
    (hassign : ∀ (l : Nat) (pre : List α) (x : α) (W : World) (K : Act → World → Prop), I pre W → (∀ a' W', KeepsFrom w.heap.size W W' → Kp (w.heap.size + 2) W W' → I pre W' → Ax x a' W' → K a' W') →
      assign.wpIn (Fence.wide.inRound l) (n - 1 - 1) P (Exit.then K (fun _ _ _ => False)) { tmps := (ps.zip (encs x)).foldl (fun t (p, v) => t.setIfInBounds p v) a.tmps, defers := [] } W)
    (hbody : ∀ (l : Nat) (pre : List α) (x : α) (a' : Act) (W : World), I pre W → Ax x a' W → pre ++ [x] <+: xs →
      body.wpIn (Fence.wide.inRound l) (n - 1 - 1) P (goesOn w.heap.size (Kp (w.heap.size + 2)) I (pre ++ [x]) W) a' W)
    (hdone : ∀ (D : Nat) (W : World), w.heap.size ≤ D → I xs W → W.heap[D]? = some (.deferred (some [])) → Q .normal { a with defers := { target := .collected D, args := #[] } :: a.defers } W) :
    (Code.rangeFunc g ps assign body).wpIn Fence.wide n P Q a w := by
  refine wpIn_rangeFunc fun fn hfn => ?_
  -- the two blocks of the loop's own: D, for deferred calls; D + 1, its record
  obtain ⟨D, hD⟩ : ∃ D, D = w.heap.size := ⟨_, rfl⟩
  obtain ⟨rec, hrec⟩ : ∃ rec : LoopState → Loop, ∀ s, rec s = { state := s, pending := none, fn, tmps := a.tmps, params := ps, assign, body, defers := D } := ⟨_, fun _ => rfl⟩
  have hlaid := run_enterLoop_outer (P := P) (w := w) fn a.tmps ps assign body
  rw [← hD, ← hrec .ready] at hlaid
  obtain ⟨W1, hW1⟩ : ∃ W1, W1 = (w.alloc (.deferred (some []))).alloc (.loop (rec .ready)) := ⟨_, rfl⟩
  rw [← hW1] at hlaid
  have hsz : W1.heap.size = D + 2 := by rw [hW1, World.size_alloc, World.size_alloc, hD]
  have hdef : W1.heap[D]? = some (.deferred (some [])) := by
    rw [hW1, Below.heap_alloc _ _ _ (by rw [World.size_alloc, hD]; omega), hD]
    exact World.alloc_heap_new w _
  have hlp : W1.heap[D + 1]? = some (.loop (rec .ready)) := by
    have h := World.alloc_heap_new (w.alloc (.deferred (some []))) (.loop (rec .ready))
    rwa [World.size_alloc, ← hW1, ← hD] at h
  have hbl : Below w.heap.size w W1 := by
    rw [hW1]
    exact ((Below.refl _ w).alloc (Nat.le_refl _) _).alloc (by rw [World.size_alloc]; omega) _
  have hi1 : I [] W1 := by rw [hW1]; exact hI.alloc _ (hI.alloc _ h0)
  rw [← hD] at hI hAx hassign hbody hdone hKb hKt hbl
  have hres : (resolve a.eval (rangeCall g (D + 1)) 0).run P W1 = .ok { target := .fn (.func gf) lb, args := #[.func (.yield (D + 1)) #[] #[]] } W1 := by
    simp only [resolve, hg]
    simp [go_sem]
  refine ⟨D + 1, [{ target := .collected D, args := #[] }], W1, _, W1, gf, #[.func (.yield (D + 1)) #[] #[]] ++ lb, W1, hlaid, hres, fun _ _ => trivial, by simp [invoke, go_sem, eg], fun _ => by omega, ?_⟩
  refine (hseq (n - 1) h1 (D + 1) (fun pre W => I pre W ∧ (W.heap[D + 1]? = some (.loop (rec .ready)) ∧ W.heap[D]? = some (.deferred (some [])))) W1 (hb0.trans (hbl.mono (by rw [hD]; exact hb0.size))) (hPre W1 (by rw [← hD]; exact hbl))
    (OwnFrom.and (fun s A B row hs hg' hr => hI s A B row hs hg' fun r e => ⟨by have := (hr r e).1; omega, (hr r e).2⟩) (ownFrom_two (by omega) (by omega) _ _)) ?_ ⟨hi1, hlp, hdef⟩).mono ?_
  · -- a round
    rintro pre x W ⟨hi, hl, hk⟩ hlen
    have hy := run_yield (P := P) (args := encs x) hl (by rw [hrec]; exact hps x)
    rw [hrec .ready] at hy
    refine ⟨_, _, _, _, hy, ?_⟩
    refine roundIn_of_wpIn trivial (hassign _ pre x W _ hi fun a' Wa hka hpa hia hax => ?_)
    have hla : Wa.heap[D + 1]? = some (.loop (rec .ready)) := hka.same _ _ (by omega) hl rfl
    have hda : Wa.heap[D]? = some (.deferred (some [])) := hka.same _ _ (Nat.le_refl _) hk rfl
    have hbeg := run_beginRound (P := P) hla (by rw [hrec])
    have hbusy : ({ rec .ready with state := .busy } : Loop) = rec .busy := by rw [hrec, hrec]
    rw [hbusy] at hbeg
    refine ⟨_, hbeg, ?_⟩
    have hla2 : (Wa.putObj (D + 1) (.loop (rec .busy))).heap[D + 1]? = some (.loop (rec .busy)) := World.putObj_heap_same (Array.getElem?_eq_some_iff.1 hla).1
    have hda2 : (Wa.putObj (D + 1) (.loop (rec .busy))).heap[D]? = some (.deferred (some [])) := (World.putObj_heap_other (by omega)).trans hda
    refine wpIn_mono (hbody _ pre x a' _ (hI.putObj _ hia (by omega) hla rfl) ((hAx x a').putObj (s := ()) _ hax (by omega) hla rfl) hlen) ?_
    intro e a3 W3 hpost
    obtain ⟨rfl, hk3, hp3, hi3⟩ : e = .normal ∧ KeepsFrom D (Wa.putObj (D + 1) (.loop (rec .busy))) W3 ∧ Kp (D + 2) (Wa.putObj (D + 1) (.loop (rec .busy))) W3 ∧ I (pre ++ [x]) W3 := by
      cases e <;> first
        | exact ⟨rfl, hpost⟩
        | exact hpost.elim
    have hl3 := hk3.same _ _ (by omega) hla2 rfl
    have hd3 := hk3.same _ _ (Nat.le_refl _) hda2 rfl
    have hend := run_endRound (P := P) none hl3
    have hready : ({ rec .busy with state := if (none : Option Code).isNone then .ready else .done, pending := none } : Loop) = rec .ready := by rw [hrec, hrec]; rfl
    rw [hready] at hend
    refine ⟨_, _, hend, rfl, ⟨hI.putObj _ hi3 (by omega) hl3 rfl, World.putObj_heap_same (Array.getElem?_eq_some_iff.1 hl3).1, (World.putObj_heap_other (by omega)).trans hd3⟩, ?_⟩
    rw [hsz]
    exact hKt hpa (hKt (hKt (hKb _ _ _ _ (by omega) (by omega) hla rfl) hp3) (hKb _ _ _ _ (by omega) (by omega) hl3 rfl))
  · rintro e W2 ⟨⟨v, rfl⟩, hi, hl, hk⟩
    have hend := run_endLoop (P := P) hl (by rw [hrec]; simp)
    rw [hrec .ready] at hend
    exact ⟨none, _, hend, hdone D _ (Nat.le_refl _) (hI.putObj _ hi (by omega) hl rfl) ((World.putObj_heap_other (by omega)).trans hk)⟩
end Go.Proofs.Ytnpacjdgbmldlaa
