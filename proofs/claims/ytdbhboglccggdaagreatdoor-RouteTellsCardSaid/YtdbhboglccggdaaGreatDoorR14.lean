/- Rings that a call made, and none, as they answer. -/
import Derived.Test.YtdbhboglccggdaaGreatDoorR13
set_option maxRecDepth 100000
set_option linter.unusedVariables false
set_option linter.unusedSimpArgs false
namespace Go.Proofs.YtdbhboglccggdaaGreatDoor
open Go.RowKit
theorem RingAt.range {x : World} {g N V R : Nat} (h : RingAt x g N V R) : rangeA x g 0 (cfg N V R) := by
  have : ∃ dn st pv, Rb x g N V R dn st pv := by
    rcases h.2.2.2 with h | ⟨A, c, h, _⟩
    · exact ⟨_, _, _, h⟩
    · exact ⟨_, _, _, h⟩
  obtain ⟨dn, st, pv, hr⟩ := this
  intro j v hj
  rw [Nat.zero_add, hr.cell]
  match j, hj with
  | 0, hj => exact hj
  | 1, hj => exact hj
  | 2, hj => exact hj
theorem config_ring (g N V R : Nat) (w : World) (h : RingAt w g N V R) : Calls Tryz.prog 49 #[.pointer (some ⟨g, 0, none⟩)] w fun e w' => e = .returned (.agg (cfg N V R)) ∧ Below w.heap.size w w' :=
  config_any g N V R w h.range h.lt
theorem env_ring (n g N V R : Nat) (Ψ : World → Prop) (hn : 2 ≤ n) (hR : R ≤ 8) (hN : N ≤ 8) (hV : V ≤ 16) (hup : ∀ x y, Soft n x y → n ≤ x.heap.size → Ψ x → Ψ y) (hon : ∀ x y, RingAt x g N V R → n ≤ x.heap.size → x.grownBy y (some g) → Ψ x → Ψ y) :
    Env n (fun b => b = g) (.pointer (some ⟨g, 0, none⟩)) (Ring.pts ptAt V N) R (fun x => RingAt x g N V R ∧ Tabs x ∧ n ≤ x.heap.size ∧ Ψ x) where
  up x y hs h := ⟨h.1.soft hs, h.2.1.soft hs hn, Nat.le_trans h.2.2.1 hs.size, hup x y hs h.2.2.1 h.2.2.2⟩
  all x h := (all_any g N V R x h.1 h.2.1).mono (by
    rintro e y ⟨A, c, rfl, hl, hp, hr, hg⟩
    exact ⟨A, c, rfl, hp, Only.of_grown hg rfl, hr, h.2.1.only hg h.1.2.2.1, Nat.le_trans h.2.2.1 hg.size, hon x y h.1 h.2.2.1 hg h.2.2.2⟩)
  cf x h := (config_ring g N V R x h.1).mono (by
    rintro e y ⟨rfl, hb⟩
    exact ⟨_, _, rfl, hb⟩)
  sorted := Ring.sorted_sort _
  len := by
    rw [Ring.pts_length]
    have := Nat.mul_le_mul hN hV
    omega
  r := hR
  tag x b h hb := by subst hb; exact h.1.tag
  nle x h := h.2.2.1
theorem env_nil (n : Nat) (Ψ : World → Prop) (hup : ∀ x y, Soft n x y → n ≤ x.heap.size → Ψ x → Ψ y) : Env n (fun _ => False) (.pointer none) [] 0 (fun x => n ≤ x.heap.size ∧ Ψ x) where
  up x y hs h := ⟨Nat.le_trans h.1 hs.size, hup x y hs h.1 h.2⟩
  all x h := (all_nil x).mono (by
    rintro e y ⟨rfl, hb⟩
    exact ⟨none, 0, rfl, PRow.nil _ _ _, Only.of_below hb, Nat.le_trans h.1 hb.size, hup x y (.of_below hb) h.1 h.2⟩)
  cf x h := (config_nil x).mono (by
    rintro e y ⟨rfl, hb⟩
    exact ⟨0, 0, rfl, hb⟩)
  sorted := List.Pairwise.nil
  len := by simp
  r := by omega
  tag x b h hb := hb.elim
  nle x h := h.1
/-- What is asked where a ring is there, or nothing else has turned: to be told of a world behind. -/
theorem Env.weaken {n : Nat} {G G' : Nat → Prop} {p : Value} {ls : List Pt} {R : Nat} {Φ : World → Prop} (E : Env n G p ls R Φ) (hG : ∀ b, G b → G' b) (ht : ∀ x b, Φ x → G' b → ∃ cs fr, x.heap[b]? = some (.cells cs 71 fr)) : Env n G' p ls R Φ where
  up := E.up
  all x h := (E.all x h).mono (by
    rintro e y ⟨A, c, rfl, hp, ho, hf⟩
    exact ⟨A, c, rfl, hp, ⟨ho.os, ho.tape, ho.output, ho.size, fun k hk hn => ho.block k hk (fun h => hn (hG k h))⟩, hf⟩)
  cf := E.cf
  sorted := E.sorted
  len := E.len
  r := E.r
  tag := ht
  nle := E.nle
end Go.Proofs.YtdbhboglccggdaaGreatDoor
