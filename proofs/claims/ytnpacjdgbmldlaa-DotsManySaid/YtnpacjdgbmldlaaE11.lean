/- The law DotsMany of layer 4: mathematics. -/
import Derived.Test.YtnpacjdgbmldlaaE9
namespace Go.Proofs.Ytnpacjdgbmldlaa
open Go.RowKit

/-- A node's first m dots. -/
def runF (n : Int) (m : Nat) : List Dt := (List.range m).map fun i => (n, i + 1)
/-- .. and the last k of its first m, the last one first. -/
def backF (n : Int) (m : Nat) : Nat → List Dt
  | 0 => []
  | k + 1 => backF n m k ++ [(n, m - k)]
theorem runF_len (n : Int) (m : Nat) : (runF n m).length = m := by simp [runF]
theorem backF_len (n : Int) (m : Nat) : ∀ k, (backF n m k).length = k
  | 0 => rfl
  | k + 1 => by rw [backF, List.length_append, backF_len n m k]; rfl
theorem runF_mem {n : Int} {m : Nat} {d : Dt} : d ∈ runF n m ↔ d.1 = n ∧ 1 ≤ d.2 ∧ d.2 ≤ m := by
  unfold runF
  rw [List.mem_map]
  constructor
  · rintro ⟨i, hi, rfl⟩
    have := List.mem_range.1 hi
    exact ⟨rfl, by simp, by simp only; omega⟩
  · rintro ⟨h1, h2, h3⟩
    exact ⟨d.2 - 1, List.mem_range.2 (by omega), by obtain ⟨a, b⟩ := d; simp only at *; rw [h1]; congr 1; omega⟩
theorem backF_mem {n : Int} {m : Nat} {d : Dt} : ∀ k, d ∈ backF n m k ↔ d.1 = n ∧ ∃ j, j < k ∧ d.2 = m - j
  | 0 => by simp [backF]
  | k + 1 => by
    rw [backF, List.mem_append, backF_mem k, List.mem_singleton]
    constructor
    · rintro (⟨h1, j, h2, h3⟩ | rfl)
      · exact ⟨h1, j, by omega, h3⟩
      · exact ⟨rfl, k, by omega, rfl⟩
    · rintro ⟨h1, j, h2, h3⟩
      by_cases e : j = k
      · right
        obtain ⟨a, b⟩ := d
        simp only at *
        rw [h1, h3, e]
      · exact .inl ⟨h1, j, by omega, h3⟩
theorem runF_rise (n : Int) (m : Nat) : (runF n m).Pairwise Lt := by
  rw [List.pairwise_iff_getElem]
  intro i j hi hj hij
  simp only [runF, List.getElem_map, List.getElem_range]
  rw [lt_iff]
  exact .inr ⟨rfl, Nat.succ_lt_succ hij⟩
theorem backF_right {n : Int} {m : Nat} (h1 : 1 ≤ n) (h2 : n ≤ 8) : rt (backF n m m) = backF n m m := by
  unfold rt
  rw [List.filter_eq_self]
  intro d hd
  obtain ⟨h3, j, h4, h5⟩ := (backF_mem m).1 hd
  rw [right_iff]
  omega
theorem of_back {n : Int} {m : Nat} (h1 : 1 ≤ n) (h2 : n ≤ 8) : ofF (backF n m m) = runF n (min 2000 m) := by
  rw [← setF_rt, backF_right h1 h2]
  have h : sortD (backF n m m) = runF n m := rise_unique _ _ (sortD_spec _).1 (runF_rise n m) fun d => by
    rw [(sortD_spec _).2, backF_mem, runF_mem]
    refine and_congr_right fun _ => ⟨?_, ?_⟩
    · rintro ⟨j, h3, h4⟩
      omega
    · rintro ⟨h3, h4⟩
      exact ⟨m - d.2, by omega, by omega⟩
  unfold setF
  rw [h]
  unfold runF
  rw [← List.map_take, List.take_range]
theorem run_set {n : Int} {m : Nat} (h1 : 1 ≤ n) (h2 : n ≤ 8) (h3 : m ≤ 2000) : isSet (runF n m) = true :=
  rise_set (runF_rise n m) (fun d hd => by have := runF_mem.1 hd; rw [right_iff]; omega) (by rw [runF_len]; exact h3)
theorem run_whole {n : Int} {m : Nat} (h1 : 1 ≤ n) (h2 : n ≤ 8) (h3 : m ≤ 2000) : isWhole (runF n m) = true := by
  rw [isWhole_iff]
  refine ⟨run_set h1 h2 h3, fun d hd => ?_⟩
  obtain ⟨h4, h5, h6⟩ := runF_mem.1 hd
  by_cases e : d.2 = 1
  · exact .inl e
  · exact .inr (runF_mem.2 ⟨h4, by simp only; omega, by simp only; omega⟩)
theorem run_get {n : Int} {m i : Nat} (h : i < m) : (runF n m).getD i (0, 0) = (n, i + 1) := by
  rw [List.getD_eq_getElem?_getD, List.getElem?_eq_getElem (by rw [runF_len]; exact h)]
  simp [runF]
theorem long_set {ls : List Dt} (h : 2000 < ls.length) : isSet ls = false := by
  unfold isSet
  rw [decide_eq_false (by omega)]
  rfl
theorem run_lt {n : Int} {m : Nat} (h : m ≤ 2000) : ∀ d ∈ runF n m, d.2 < 18446744073709551616 := fun d hd => by have := runF_mem.1 hd; omega
end Go.Proofs.Ytnpacjdgbmldlaa
