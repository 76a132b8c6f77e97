/- In a set, what is whole: each dot is the next one of those ahead of it just if its predecessor is there. -/
import Derived.Test.YtnpacjdgbmldlaaD9
namespace Go.Proofs.Ytnpacjdgbmldlaa
open Go.RowKit
theorem less_trans {a b c : Dt} (h : Vec.less a.1 a.2 b.1 b.2 = true) (k : Vec.less b.1 b.2 c.1 c.2 = true) : Vec.less a.1 a.2 c.1 c.2 = true := by
  simp only [Vec.less, decide_eq_true_eq] at *
  omega
theorem set_right {ls : List Dt} (h : isSet ls = true) {j : Nat} (hj : j < ls.length) : Vec.right (ls.getD j (0, 0)).1 (ls.getD j (0, 0)).2 = true := by
  have h1 := ((isSet_iff ls).1 h).2 j hj
  unfold dgood at h1
  simp only [Bool.and_eq_true] at h1
  exact h1.1
theorem set_next {ls : List Dt} (h : isSet ls = true) {j : Nat} (hj : j + 1 < ls.length) : Vec.less (ls.getD j (0, 0)).1 (ls.getD j (0, 0)).2 (ls.getD (j + 1) (0, 0)).1 (ls.getD (j + 1) (0, 0)).2 = true := by
  have h1 := ((isSet_iff ls).1 h).2 (j + 1) hj
  rwa [dgood_succ (set_right h hj)] at h1
theorem set_less {ls : List Dt} (h : isSet ls = true) {i : Nat} : ∀ m, i + (m + 1) < ls.length → Vec.less (ls.getD i (0, 0)).1 (ls.getD i (0, 0)).2 (ls.getD (i + (m + 1)) (0, 0)).1 (ls.getD (i + (m + 1)) (0, 0)).2 = true
  | 0, hl => set_next h hl
  | m + 1, hl => less_trans (set_less h m (by omega)) (by have := set_next h (j := i + (m + 1)) (by omega); exact this)
theorem set_lt {ls : List Dt} (h : isSet ls = true) {i j : Nat} (hij : i < j) (hj : j < ls.length) : Vec.less (ls.getD i (0, 0)).1 (ls.getD i (0, 0)).2 (ls.getD j (0, 0)).1 (ls.getD j (0, 0)).2 = true := by
  have h1 := set_less h (i := i) (j - i - 1) (by omega)
  rwa [show i + (j - i - 1 + 1) = j by omega] at h1
theorem get_with (f : Nat → Nat) (m : Int) (k : Nat) (n : Int) (hr : Vec.right m k = true) (hn : 1 ≤ n ∧ n ≤ 8) : Vec.get (Vec.with_ f m k) n = if n = m then max (Vec.get f n) k else Vec.get f n := by
  unfold Vec.get
  rw [if_pos hn, if_pos hn]
  unfold Vec.with_
  by_cases e : n = m
  · rw [if_pos e, if_pos ⟨hr, by omega⟩]
  · rw [if_neg e, if_neg (fun h => e (by omega))]
/-- What the span of the first j dots says of a node. -/
theorem span_says {ls : List Dt} (h : isSet ls = true) {n : Int} (hn : 1 ≤ n ∧ n ≤ 8) : ∀ j, j ≤ ls.length → (∀ i, i < j → (ls.getD i (0, 0)).1 = n → (ls.getD i (0, 0)).2 ≤ Vec.get (spanF (ls.take j)) n) ∧ (Vec.get (spanF (ls.take j)) n = 0 ∨ ∃ i, i < j ∧ ls.getD i (0, 0) = (n, Vec.get (spanF (ls.take j)) n))
  | 0, _ => ⟨fun i hi => by omega, .inl (by simp [spanF, Vec.get])⟩
  | j + 1, hj => by
    obtain ⟨h1, h2⟩ := span_says h hn j (by omega)
    have hr := set_right h (show j < ls.length by omega)
    rw [spanF_take ls (by omega), get_with _ _ _ _ hr hn]
    obtain ⟨d, hd⟩ : ∃ d, d = ls.getD j (0, 0) := ⟨_, rfl⟩
    rw [← hd]
    by_cases e : n = d.1
    · rw [if_pos e]
      refine ⟨fun i hi hin => ?_, ?_⟩
      · by_cases hij : i = j
        · subst hij
          rw [← hd]
          omega
        · have := h1 i (by omega) hin
          omega
      · rcases Nat.le_total d.2 (Vec.get (spanF (ls.take j)) n) with hle | hle
        · rw [Nat.max_eq_left hle]
          rcases h2 with h2 | ⟨i, hi, e2⟩
          · exact .inl h2
          · exact .inr ⟨i, by omega, e2⟩
        · rw [Nat.max_eq_right hle]
          exact .inr ⟨j, by omega, by rw [← hd, e]⟩
    · rw [if_neg e]
      refine ⟨fun i hi hin => ?_, ?_⟩
      · by_cases hij : i = j
        · subst hij
          rw [← hd] at hin
          exact absurd hin.symm e
        · exact h1 i (by omega) hin
      · rcases h2 with h2 | ⟨i, hi, e2⟩
        · exact .inl h2
        · exact .inr ⟨i, by omega, e2⟩
/-- The next one of those ahead, just if the predecessor is there. -/
theorem next_iff {ls : List Dt} (h : isSet ls = true) {j : Nat} (hj : j < ls.length) {n : Int} {k : Nat} (hd : (n, k) = ls.getD j (0, 0)) : Vec.get (spanF (ls.take j)) n + 1 = k ↔ prevOk ls (n, k) := by
  have hr := set_right h hj
  rw [← hd] at hr
  simp only [Vec.right, decide_eq_true_eq] at hr
  obtain ⟨h1, h2⟩ := span_says h ⟨hr.1, hr.2.1⟩ j (by omega)
  have below : ∀ i, i < j → (ls.getD i (0, 0)).1 = n → (ls.getD i (0, 0)).2 < k := fun i hi e => by
    have := set_lt h hi hj
    rw [← hd] at this
    simp only [Vec.less, decide_eq_true_eq] at this
    omega
  have hG : Vec.get (spanF (ls.take j)) n < k := by
    rcases h2 with e | ⟨i, hi, e⟩
    · omega
    · have := below i hi (by rw [e])
      rw [e] at this
      exact this
  constructor
  · intro e
    rcases h2 with e2 | ⟨i, hi, e2⟩
    · exact .inl (by show k = 1; omega)
    · refine .inr ?_
      have hm := getD_mem (ls := ls) (j := i) (by omega)
      rw [e2] at hm
      show (n, k - 1) ∈ ls
      rw [show k - 1 = Vec.get (spanF (ls.take j)) n by omega]
      exact hm
  · intro hp
    rcases hp with hp | hp
    · have : k = 1 := hp
      omega
    · have hm : (n, k - 1) ∈ ls := hp
      obtain ⟨i, hi, e⟩ := List.mem_iff_getElem.1 hm
      have e2 : ls.getD i (0, 0) = (n, k - 1) := by rw [List.getD_eq_getElem?_getD, List.getElem?_eq_getElem hi]; exact e
      have hij : i < j := by
        rcases Nat.lt_trichotomy i j with hl | hl | hl
        · exact hl
        · exfalso
          subst hl
          rw [← hd] at e2
          injection e2 with _ e3
          omega
        · exfalso
          have := set_lt h hl hi
          rw [← hd, e2] at this
          simp only [Vec.less, decide_eq_true_eq] at this
          omega
      have := h1 i hij (by rw [e2])
      rw [e2] at this
      simp only at this
      omega
theorem span_lt {ls : List Dt} (h : isSet ls = true) (hk : ∀ d ∈ ls, d.2 < 18446744073709551616) {j : Nat} (hj : j ≤ ls.length) (n : Int) : Vec.get (spanF (ls.take j)) n < 18446744073709551616 := by
  by_cases hn : 1 ≤ n ∧ n ≤ 8
  · rcases (span_says h hn j hj).2 with e | ⟨i, hi, e⟩
    · omega
    · have hm := getD_mem (ls := ls) (j := i) (by omega)
      rw [e] at hm
      exact hk _ hm
  · unfold Vec.get
    rw [if_neg hn]
    omega
end Go.Proofs.Ytnpacjdgbmldlaa
