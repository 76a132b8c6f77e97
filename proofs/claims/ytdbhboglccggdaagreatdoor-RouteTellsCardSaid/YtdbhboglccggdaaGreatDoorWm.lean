/- The walk of a region whose order is open, wrapped: what is left to walk stands in a structure, so that no step unfolds the steps behind it. -/
import Derived.Test.YtdbhboglccggdaaGreatDoorMonb
set_option linter.unusedVariables false
set_option linter.unusedSimpArgs false
namespace Go.Proofs.YtdbhboglccggdaaGreatDoor
open M2

structure WM (P : Program) (ops : Array Oper) (R : Nat → World → World → Prop) (D : Nat → World → Prop) (E : World → Prop) (kinds : Nat → Kind) (fin : Act → World → Prop) (i : Nat) (l : List Oper) (a : Act) (F : Nat → World → Prop) : Prop where
  out : wpMono P ops R D E kinds fin i l a F
namespace WM
section
variable {P : Program} {ops : Array Oper} {R : Nat → World → World → Prop} {D : Nat → World → Prop} {E : World → Prop} {kinds : Nat → Kind} {fin : Act → World → Prop}
theorem mono_pure {i : Nat} {o : Oper} {rest : List Oper} {a : Act} {F : Nat → World → Prop} (hw : Region.wanted o (yielded ops a.tmps) = true) (hk : kinds i = .pure)
    (h : ∃ c, (∀ w, (execOp a.eval o).run P w = .ok (.value c) w) ∧ ∃ a', a.put o.dst c = a' ∧ WM P ops R D E kinds fin (i + 1) rest a' (updF F i (factsAt ops F o))) : WM P ops R D E kinds fin i (o :: rest) a F := by
  obtain ⟨c, hc, a', e, h⟩ := h
  exact ⟨M2.mono_pure hw hk ⟨c, hc, a', e, h.out⟩⟩
theorem mono_val {i : Nat} {o : Oper} {rest : List Oper} {a : Act} {F : Nat → World → Prop} (hw : Region.wanted o (yielded ops a.tmps) = true) {c : Value} {p : World → Prop} (hk : kinds i = .val c p)
    (hc : ∀ w, D i w → factsAt ops F o w → growUpon P (R i) w (fun v w' => v = c ∧ p w') ((execOp a.eval o).run P w)) (h : ∃ a', a.put o.dst c = a' ∧ WM P ops R D E kinds fin (i + 1) rest a' (updF F i fun w => p w ∧ factsAt ops F o w)) : WM P ops R D E kinds fin i (o :: rest) a F := by
  obtain ⟨a', e, h⟩ := h
  exact ⟨M2.mono_val hw hk hc ⟨a', e, h.out⟩⟩
theorem mono_mem {i : Nat} {o : Oper} {rest : List Oper} {a : Act} {F : Nat → World → Prop} (hw : Region.wanted o (yielded ops a.tmps) = true) {p : Value → World → Prop} (hk : kinds i = .mem p)
    (hc : ∀ w, D i w → factsAt ops F o w → growUpon P (R i) w p ((execOp a.eval o).run P w)) (h : ∀ v, ∃ a', a.put o.dst v = a' ∧ WM P ops R D E kinds fin (i + 1) rest a' (updF F i fun w => p v w ∧ factsAt ops F o w)) : WM P ops R D E kinds fin i (o :: rest) a F :=
  ⟨M2.mono_mem hw hk hc fun v => by
    obtain ⟨a', e, h⟩ := h v
    exact ⟨a', e, h.out⟩⟩
theorem mono_skip {i : Nat} {o : Oper} {rest : List Oper} {a : Act} {F : Nat → World → Prop} (hw : Region.wanted o (yielded ops a.tmps) = false) (h : ∃ a', a.put o.dst undef = a' ∧ WM P ops R D E kinds fin (i + 1) rest a' (updF F i fun _ => True)) : WM P ops R D E kinds fin i (o :: rest) a F := by
  obtain ⟨a', e, h⟩ := h
  exact ⟨M2.mono_skip hw ⟨a', e, h.out⟩⟩
theorem mono_nil {i : Nat} {a : Act} {F : Nat → World → Prop} (h : ∀ w, E w → (∀ k, F k w) → fin a w) : WM P ops R D E kinds fin i [] a F := ⟨h⟩
theorem app_cons {α : Type} (x : α) (l m : List α) : List.append (x :: l) m = x :: List.append l m := rfl
theorem app_nil {α : Type} (m : List α) : List.append [] m = m := rfl
/-- A region's list spelled one by one (a list of more than 64 is spelled in two parts). -/
theorem relist {P : Program} {id : Nat} {l l' : List Oper} {b : Bool} {a : Act} {w : World} {Q : Exit → Act → World → Prop} (e : l = l') (h : (Code.region id l'.toArray b).wp P Q a w) : (Code.region id l.toArray b).wp P Q a w := e ▸ h
/-- The kernel's long check of a region once, ahead of its ways. -/
theorem with_lex {P : Program} {id : Nat} {l : List Oper} {a : Act} {w : World} {Q : Exit → Act → World → Prop} (hB : Region.lexB .any l.toArray = true) (h : Region.lexB .any l.toArray = true → (Code.region id l.toArray true).wp P Q a w) : (Code.region id l.toArray true).wp P Q a w := h hB
theorem wp_region_kinds {Q : Exit → Act → World → Prop} {id : Nat} {l : List Oper} {a : Act} {w : World} (R : Nat → World → World → Prop) (D : Nat → World → Prop) (E : World → Prop) (L : List (Nat × Kind)) (hmix : P.follows .mixedOrders = true) (hB : Region.lexB .any l.toArray = true)
    (hE : ∀ j w w', R j w w' → E w → E w') (hD : ∀ i j w w', i ≠ j → R j w w' → D i w → D i w') (hup : ∀ x ∈ L, x.2.up R x.1) (hw : E w.drew) (hd : ∀ i, D i w.drew)
    (h : WM P l.toArray R D E (kindsOf L) (fun a w => Q .normal a w) 0 l a (fun _ _ => True)) : (Code.region id l.toArray true).wp P Q a w :=
  M2.wp_region_kinds R D E L hmix hB hE hD hup hw hd h.out
end
end WM
end Go.Proofs.YtdbhboglccggdaaGreatDoor
