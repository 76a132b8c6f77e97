/- The law DotsSets of layer 4: mathematics. -/
import Derived.Test.YtnpacjdgbmldlaaE8
namespace Go.Proofs.Ytnpacjdgbmldlaa
open Go.RowKit

theorem of_small {zs : List Dt} (h : zs.length ≤ 2000) : ofF zs = sortD (rt zs) := by
  rw [← setF_rt]
  unfold setF
  rw [List.take_of_length_le]
  refine Nat.le_trans (sortD_len _) (Nat.le_trans ?_ h)
  unfold rt
  exact List.length_filter_le _ _
theorem of_rise {zs : List Dt} (h : zs.length ≤ 2000) : (ofF zs).Pairwise Lt := by rw [of_small h]; exact (sortD_spec _).1
theorem of_mem {zs : List Dt} (h : zs.length ≤ 2000) (v : Dt) : v ∈ ofF zs ↔ v ∈ zs ∧ Vec.right v.1 v.2 = true := by
  rw [of_small h, (sortD_spec _).2]
  unfold rt
  rw [List.mem_filter]
theorem of_len {zs : List Dt} (h : zs.length ≤ 2000) : (ofF zs).length ≤ zs.length := by
  rw [of_small h]
  refine Nat.le_trans (sortD_len _) ?_
  unfold rt
  exact List.length_filter_le _ _
theorem rise_set {ls : List Dt} (h1 : ls.Pairwise Lt) (h2 : ∀ d ∈ ls, Vec.right d.1 d.2 = true) (h3 : ls.length ≤ 2000) : isSet ls = true := by
  rw [isSet_iff]
  refine ⟨h3, fun i hi => ?_⟩
  unfold dgood
  rw [Bool.and_eq_true]
  constructor
  · rw [List.getD_eq_getElem?_getD, List.getElem?_eq_getElem hi]
    exact h2 _ (List.getElem_mem hi)
  · rw [Bool.or_eq_true]
    by_cases h0 : i = 0
    · exact .inl (decide_eq_true h0)
    · right
      have e1 : ls.getD i (0, 0) = ls[i] := by rw [List.getD_eq_getElem?_getD, List.getElem?_eq_getElem hi]; rfl
      have e2 : ls.getD (i - 1) (0, 0) = ls[i - 1] := by rw [List.getD_eq_getElem?_getD, List.getElem?_eq_getElem (by omega : i - 1 < ls.length)]; rfl
      rw [e1, e2]
      exact List.pairwise_iff_getElem.1 h1 (i - 1) i (by omega) hi (by omega)
theorem of_set {zs : List Dt} (h : zs.length ≤ 2000) : isSet (ofF zs) = true := rise_set (of_rise h) (fun d hd => ((of_mem h d).1 hd).2) (Nat.le_trans (of_len h) h)
theorem of_comm {xs ys : List Dt} (h : xs.length + ys.length ≤ 2000) : ofF (ys ++ xs) = ofF (xs ++ ys) := by
  have h1 : (ys ++ xs).length ≤ 2000 := by rw [List.length_append]; omega
  have h2 : (xs ++ ys).length ≤ 2000 := by rw [List.length_append]; omega
  refine rise_unique _ _ (of_rise h1) (of_rise h2) fun v => ?_
  rw [of_mem h1, of_mem h2, List.mem_append, List.mem_append, Or.comm]
theorem some_len {xs ys : List Dt} {q : Bool} : (someF xs ys q).length ≤ xs.length := List.length_filter_le _ _
theorem some_mem {xs ys : List Dt} {q : Bool} (v : Dt) : v ∈ someF xs ys q ↔ v ∈ xs ∧ decide (v ∈ ys) = q := by
  unfold someF
  rw [List.mem_filter, beq_iff_eq]
theorem of_some {xs ys : List Dt} {q : Bool} (h : xs.length ≤ 2000) : ofF (someF xs ys q) = (ofF xs).filter fun d => decide (d ∈ ys) == q := by
  have h1 : (someF xs ys q).length ≤ 2000 := Nat.le_trans some_len h
  refine rise_unique _ _ (of_rise h1) ((of_rise h).filter _) fun v => ?_
  rw [of_mem h1, some_mem, List.mem_filter, of_mem h, beq_iff_eq]
  exact ⟨fun h => ⟨⟨h.1.1, h.2⟩, h.1.2⟩, fun h => ⟨⟨h.1.1, h.2⟩, h.1.2⟩⟩
theorem of_parts {xs ys : List Dt} (h : xs.length ≤ 2000) : (ofF (someF xs ys true)).length + (ofF (someF xs ys false)).length = (ofF xs).length := by
  rw [of_some h, of_some h]
  generalize ofF xs = l
  induction l with
  | nil => rfl
  | cons x l ih =>
    by_cases hx : x ∈ ys <;> simp [List.filter_cons, hx] at ih ⊢ <;> omega
theorem join_mem {xs ys : List Dt} (h : xs.length + ys.length ≤ 2000) {d : Dt} (hd : Vec.right d.1 d.2 = true) : decide (d ∈ ofF (xs ++ ys)) = (decide (d ∈ xs) || decide (d ∈ ys)) := by
  have h2 : (xs ++ ys).length ≤ 2000 := by rw [List.length_append]; omega
  rw [Bool.eq_iff_iff, decide_eq_true_eq, of_mem h2, List.mem_append, Bool.or_eq_true, decide_eq_true_eq, decide_eq_true_eq]
  exact ⟨fun h => h.1, fun h => ⟨h, hd⟩⟩
theorem meet_mem {xs ys : List Dt} (h : xs.length ≤ 2000) {d : Dt} (hd : Vec.right d.1 d.2 = true) : decide (d ∈ ofF (someF xs ys true)) = (decide (d ∈ xs) && decide (d ∈ ys)) := by
  rw [Bool.eq_iff_iff, decide_eq_true_eq, of_mem (Nat.le_trans some_len h), some_mem, Bool.and_eq_true, decide_eq_true_eq, decide_eq_true_eq]
  exact ⟨fun h => h.1, fun h => ⟨h, hd⟩⟩
theorem minus_mem {xs ys : List Dt} (h : xs.length ≤ 2000) {d : Dt} (hd : Vec.right d.1 d.2 = true) : decide (d ∈ ofF (someF xs ys false)) = (decide (d ∈ xs) && !decide (d ∈ ys)) := by
  rw [Bool.eq_iff_iff, decide_eq_true_eq, of_mem (Nat.le_trans some_len h), some_mem, Bool.and_eq_true, decide_eq_true_eq, Bool.not_eq_true']
  exact ⟨fun h => h.1, fun h => ⟨h, hd⟩⟩
theorem eq3_same (a b : Int) (h : a = b) {ev : Operand → Value} {o : Oper} {w : World} (x y : Operand) (ho : o.op = .binOp .eql 3 x y 3) (hx : ev x = .int .i64 a) (hy : ev y = .int .i64 b) : (execOp ev o).run Try.prog w = .ok (.value (.bool true)) w := by
  subst h
  unfold execOp
  simp only [ho, hx, hy]
  go_simp
end Go.Proofs.Ytnpacjdgbmldlaa
