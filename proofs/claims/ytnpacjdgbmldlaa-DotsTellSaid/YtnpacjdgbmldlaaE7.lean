/- The law DotsWhole of layer 4: mathematics. -/
import Derived.Test.YtnpacjdgbmldlaaE6
namespace Go.Proofs.Ytnpacjdgbmldlaa
open Go.RowKit

theorem set_rightM {ls : List Dt} (h : isSet ls = true) : ∀ d ∈ ls, Vec.right d.1 d.2 = true := fun d hd => by
  obtain ⟨i, hi, rfl⟩ := List.getElem_of_mem hd
  have h1 := ((isSet_iff ls).1 h).2 i hi
  unfold dgood at h1
  rw [Bool.and_eq_true] at h1
  have h2 := h1.1
  rw [List.getD_eq_getElem?_getD, List.getElem?_eq_getElem hi] at h2
  exact h2
theorem right_iff {n : Int} {k : Nat} : Vec.right n k = true ↔ 1 ≤ n ∧ n ≤ 8 ∧ 1 ≤ k := by simp [Vec.right]
theorem has_iff {f : Nat → Nat} {n : Int} {k : Nat} : Vec.has f n k = true ↔ Vec.right n k = true ∧ k ≤ f (n - 1).toNat := by
  unfold Vec.has Vec.get
  rw [Bool.and_eq_true, decide_eq_true_eq]
  refine and_congr_right fun h => ?_
  rw [right_iff] at h
  rw [if_pos ⟨h.1, h.2.1⟩]
theorem has_with {f : Nat → Nat} {n : Int} {k : Nat} (e : Dt) : Vec.has (Vec.with_ f e.1 e.2) n k = true ↔ Vec.has f n k = true ∨ (Vec.right n k = true ∧ Vec.right e.1 e.2 = true ∧ e.1 = n ∧ k ≤ e.2) := by
  rw [has_iff, has_iff]
  unfold Vec.with_
  by_cases hr : Vec.right n k = true
  · have h1 := right_iff.1 hr
    have hn : (((n - 1).toNat : Nat) : Int) + 1 = n := by omega
    rw [hn]
    by_cases he : Vec.right e.1 e.2 = true ∧ n = e.1
    · rw [if_pos he]
      simp only [hr, true_and]
      have hmx : k ≤ max (f (n - 1).toNat) e.2 ↔ k ≤ f (n - 1).toNat ∨ k ≤ e.2 := by omega
      rw [hmx]
      constructor
      · rintro (h | h)
        · exact .inl h
        · exact .inr ⟨he.1, he.2.symm, h⟩
      · rintro (h | h)
        · exact .inl h
        · exact .inr h.2.2
    · rw [if_neg he]
      simp only [hr, true_and]
      exact ⟨.inl, fun h => h.elim id fun h => absurd ⟨h.1, h.2.1.symm⟩ he⟩
  · simp [hr]
theorem has_foldl (n : Int) (k : Nat) : ∀ (ls : List Dt) (f : Nat → Nat), Vec.has (ls.foldl (fun f d => Vec.with_ f d.1 d.2) f) n k = true ↔ Vec.has f n k = true ∨ (Vec.right n k = true ∧ ∃ e ∈ ls, Vec.right e.1 e.2 = true ∧ e.1 = n ∧ k ≤ e.2)
  | [], f => by simp
  | d :: ls, f => by
    rw [List.foldl_cons, has_foldl n k ls, has_with]
    simp only [List.mem_cons, exists_eq_or_imp]
    constructor
    · rintro ((h | ⟨h1, h2⟩) | ⟨h1, h2⟩)
      · exact .inl h
      · exact .inr ⟨h1, .inl h2⟩
      · exact .inr ⟨h1, .inr h2⟩
    · rintro (h | ⟨h1, h2 | h2⟩)
      · exact .inl (.inl h)
      · exact .inl (.inr ⟨h1, h2⟩)
      · exact .inr ⟨h1, h2⟩
theorem has_span (ls : List Dt) (n : Int) (k : Nat) : Vec.has (spanF ls) n k = true ↔ Vec.right n k = true ∧ ∃ e ∈ ls, Vec.right e.1 e.2 = true ∧ e.1 = n ∧ k ≤ e.2 := by
  unfold spanF
  rw [has_foldl]
  constructor
  · rintro (h | h)
    · obtain ⟨h1, h2⟩ := has_iff.1 h
      have := right_iff.1 h1
      omega
    · exact h
  · exact .inr
theorem whole_down {ls : List Dt} (h : isWhole ls = true) (n : Int) : ∀ (m k : Nat), (n, k + m) ∈ ls → 1 ≤ k → (n, k) ∈ ls
  | 0, _, hm, _ => hm
  | m + 1, k, hm, hk => by
    have h1 := ((isWhole_iff ls).1 h).2 _ hm
    rcases h1 with h1 | h1
    · simp only at h1; omega
    · exact whole_down h n m k h1 hk
/-- A dot that may be stands in a whole set just where the set's vector covers it. -/
theorem whole_has {ls : List Dt} (h : isWhole ls = true) {d : Dt} (hd : Vec.right d.1 d.2 = true) : Vec.has (spanF ls) d.1 d.2 = decide (d ∈ ls) := by
  rw [Bool.eq_iff_iff, has_span, decide_eq_true_eq]
  constructor
  · rintro ⟨_, e, he, _, h2, h3⟩
    have hk := (right_iff.1 hd).2.2
    refine whole_down h d.1 (e.2 - d.2) d.2 ?_ hk
    rw [Nat.add_sub_cancel' h3, ← h2]
    exact he
  · intro hm
    exact ⟨hd, d, hm, hd, rfl, Nat.le_refl _⟩
theorem set_win {ls : List Dt} (h : isSet ls = true) : winF (spanF ls) ls = ls := by
  unfold winF
  rw [List.filter_eq_self]
  intro d hd
  exact (has_span ls d.1 d.2).2 ⟨set_rightM h d hd, d, hd, set_rightM h d hd, rfl, Nat.le_refl _⟩
theorem whole_win {ls : List Dt} (h : isWhole ls = true) : winF (spanF ls) ls = ls := set_win ((isWhole_iff ls).1 h).1
end Go.Proofs.Ytnpacjdgbmldlaa
