/- The mathematics of rings: nodes as they come first, points in order, lists of parts (no program is spoken of here). -/
set_option linter.unusedVariables false
set_option linter.unusedSimpArgs false
namespace Go.Proofs.YtdbhboglccggdaaGreatDoor
namespace Ring

def stepN (m : Nat) (acc : List Nat) (x : Nat) : List Nat := if acc.length = m then acc else if x ∈ acc then acc else acc ++ [x]
/-- The numbers of a list, each as it comes first, at most m. -/
def upTo (m : Nat) (l : List Nat) : List Nat := l.foldl (stepN m) []
def stepF (acc : List Nat) (x : Nat) : List Nat := if x ∈ acc then acc else acc ++ [x]
def fold (acc l : List Nat) : List Nat := l.foldl stepF acc
def firsts (l : List Nat) : List Nat := fold [] l

theorem step_take (m : Nat) (acc : List Nat) (x : Nat) : stepN m (acc.take m) x = (stepF acc x).take m := by
  unfold stepN stepF
  rw [List.length_take]
  rcases Nat.lt_or_ge acc.length m with h | h
  · rw [List.take_of_length_le (by omega), if_neg (by omega)]
    split
    · rw [List.take_of_length_le (by omega)]
    · rw [List.take_of_length_le (by simp; omega)]
  · rw [if_pos (by omega)]
    split
    · rfl
    · rw [List.take_append_of_le_length h]
theorem foldN_take (m : Nat) : ∀ (l acc : List Nat), l.foldl (stepN m) (acc.take m) = (l.foldl stepF acc).take m
  | [], acc => rfl
  | x :: l, acc => by
    rw [List.foldl_cons, List.foldl_cons, step_take]
    exact foldN_take m l _
theorem upTo_eq (m : Nat) (l : List Nat) : upTo m l = (firsts l).take m := by
  have := foldN_take m l []
  rwa [List.take_nil] at this
theorem upTo_full {m : Nat} {acc : List Nat} (h : acc.length = m) : ∀ l : List Nat, l.foldl (stepN m) acc = acc
  | [] => rfl
  | x :: l => by
    rw [List.foldl_cons, show stepN m acc x = acc by unfold stepN; rw [if_pos h]]
    exact upTo_full h l

theorem mem_fold : ∀ (l acc : List Nat) (y : Nat), y ∈ fold acc l ↔ y ∈ acc ∨ y ∈ l
  | [], acc, y => by simp [fold]
  | x :: l, acc, y => by
    have h := mem_fold l (stepF acc x) y
    unfold fold at h ⊢
    rw [List.foldl_cons, h]
    unfold stepF
    split
    · rename_i hx
      simp only [List.mem_cons]
      constructor
      · rintro (h | h)
        · exact .inl h
        · exact .inr (.inr h)
      · rintro (h | rfl | h)
        · exact .inl h
        · exact .inl hx
        · exact .inr h
    · have e : y ∈ acc ++ [x] ↔ y ∈ acc ∨ y = x := by simp
      rw [e, List.mem_cons]
      constructor
      · rintro ((h | h) | h)
        · exact .inl h
        · exact .inr (.inl h)
        · exact .inr (.inr h)
      · rintro (h | h | h)
        · exact .inl (.inl h)
        · exact .inl (.inr h)
        · exact .inr h
theorem mem_firsts (l : List Nat) (y : Nat) : y ∈ firsts l ↔ y ∈ l := by
  have h := mem_fold l [] y
  have e : y ∈ ([] : List Nat) ∨ y ∈ l ↔ y ∈ l := by simp
  exact h.trans e
theorem nodup_fold : ∀ (l acc : List Nat), acc.Nodup → (fold acc l).Nodup
  | [], acc, h => h
  | x :: l, acc, h => by
    unfold fold
    rw [List.foldl_cons]
    apply nodup_fold l
    unfold stepF
    split
    · exact h
    · rename_i hx
      rw [List.nodup_append]
      refine ⟨h, by simp, fun a ha b hb e => ?_⟩
      simp only [List.mem_singleton] at hb
      subst hb
      subst e
      exact hx ha
theorem nodup_firsts (l : List Nat) : (firsts l).Nodup := nodup_fold l [] List.nodup_nil
theorem fold_mem : ∀ (l acc : List Nat), (∀ x, x ∈ l → x ∈ acc) → fold acc l = acc
  | [], _, _ => rfl
  | x :: l, acc, h => by
    unfold fold
    rw [List.foldl_cons, show stepF acc x = acc by unfold stepF; rw [if_pos (h x List.mem_cons_self)]]
    exact fold_mem l acc fun y hy => h y (List.mem_cons_of_mem _ hy)
theorem fold_append (a b acc : List Nat) : fold acc (a ++ b) = fold (fold acc a) b := List.foldl_append
theorem fold_filter (p : Nat → Bool) : ∀ (l acc : List Nat), fold (acc.filter p) (l.filter p) = (fold acc l).filter p
  | [], _ => rfl
  | x :: l, acc => by
    have h := fold_filter p l (stepF acc x)
    have e : fold acc (x :: l) = fold (stepF acc x) l := rfl
    rw [e, ← h]
    by_cases hp : p x = true
    · rw [List.filter_cons_of_pos hp]
      have e2 : fold (acc.filter p) (x :: l.filter p) = fold (stepF (acc.filter p) x) (l.filter p) := rfl
      rw [e2]
      congr 1
      unfold stepF
      by_cases hx : x ∈ acc
      · rw [if_pos hx, if_pos (List.mem_filter.2 ⟨hx, hp⟩)]
      · rw [if_neg hx, if_neg (fun h => hx (List.mem_filter.1 h).1), List.filter_append, List.filter_cons_of_pos hp, List.filter_nil]
    · rw [List.filter_cons_of_neg hp]
      congr 1
      unfold stepF
      split
      · rfl
      · rw [List.filter_append, List.filter_cons_of_neg hp, List.filter_nil, List.append_nil]
theorem firsts_filter (p : Nat → Bool) (l : List Nat) : firsts (l.filter p) = (firsts l).filter p := fold_filter p l []

theorem length_le_of_subset : ∀ (a b : List Nat), a.Nodup → (∀ x, x ∈ a → x ∈ b) → a.length ≤ b.length
  | [], _, _, _ => by simp
  | x :: a, b, hn, hs => by
    have hx := hs x List.mem_cons_self
    rw [List.nodup_cons] at hn
    have h := length_le_of_subset a (b.erase x) hn.2 fun y hy => by
      have hne : y ≠ x := fun e => hn.1 (e ▸ hy)
      exact (List.mem_erase_of_ne hne).2 (hs y (List.mem_cons_of_mem _ hy))
    rw [List.length_erase_of_mem hx] at h
    have := List.length_pos_of_mem hx
    simp only [List.length_cons]
    omega

/-- A point: where it stands, and its node. -/
abbrev Pt := Nat × Nat
def le (x y : Pt) : Bool := decide (x.1 < y.1 ∨ x.1 = y.1 ∧ x.2 ≤ y.2)
theorem le_trans' (a b c : Pt) : le a b = true → le b c = true → le a c = true := by
  simp only [le, decide_eq_true_eq]; omega
theorem le_total' (a b : Pt) : (le a b || le b a) = true := by
  simp only [le, Bool.or_eq_true, decide_eq_true_eq]; omega
theorem le_anti (a b : Pt) (h : le a b = true) (k : le b a = true) : a = b := by
  simp only [le, decide_eq_true_eq] at h k
  exact Prod.ext (by omega) (by omega)
theorem sorted_unique {a b : List Pt} (ha : a.Pairwise fun x y => le x y = true) (hb : b.Pairwise fun x y => le x y = true) (hp : a.Perm b) : a = b :=
  List.Perm.eq_of_pairwise (fun x y _ _ h k => le_anti x y h k) ha hb hp
theorem sorted_sort (l : List Pt) : (l.mergeSort le).Pairwise fun x y => le x y = true := List.pairwise_mergeSort le_trans' le_total' l

/-- A node's points; all points of a membership; these in order. f: where the ith point of a node stands. -/
def ofNode (f : Nat → Nat → Nat) (V n : Nat) : List Pt := (List.range V).map fun i => (f n i, n)
def raw (f : Nat → Nat → Nat) (V : Nat) : Nat → List Pt
  | 0 => []
  | N + 1 => raw f V N ++ ofNode f V (N + 1)
def pts (f : Nat → Nat → Nat) (V N : Nat) : List Pt := (raw f V N).mergeSort le
theorem raw_length (f : Nat → Nat → Nat) (V : Nat) : ∀ N, (raw f V N).length = N * V
  | 0 => by simp [raw]
  | N + 1 => by simp [raw, raw_length f V N, ofNode, Nat.succ_mul]
theorem pts_length (f : Nat → Nat → Nat) (V N : Nat) : (pts f V N).length = N * V := by rw [pts, List.length_mergeSort, raw_length]
theorem raw_node {f : Nat → Nat → Nat} {V : Nat} : ∀ {N : Nat} {p : Pt}, p ∈ raw f V N → 1 ≤ p.2 ∧ p.2 ≤ N
  | 0, p, h => by simp [raw] at h
  | N + 1, p, h => by
    rcases List.mem_append.1 h with h | h
    · have := raw_node h; omega
    · simp only [ofNode, List.mem_map] at h
      obtain ⟨i, _, rfl⟩ := h
      dsimp only; omega
theorem pts_node {f : Nat → Nat → Nat} {V N : Nat} {p : Pt} (h : p ∈ pts f V N) : 1 ≤ p.2 ∧ p.2 ≤ N := raw_node ((List.mergeSort_perm _ _).mem_iff.1 h)
theorem raw_has {f : Nat → Nat → Nat} {V : Nat} (hV : 0 < V) : ∀ {N n : Nat}, 1 ≤ n → n ≤ N → (f n 0, n) ∈ raw f V N
  | 0, n, h1, h2 => by omega
  | N + 1, n, h1, h2 => by
    rcases Nat.lt_or_ge N n with h | h
    · obtain rfl : n = N + 1 := by omega
      exact List.mem_append_right _ (by simp only [ofNode, List.mem_map, List.mem_range]; exact ⟨0, hV, rfl⟩)
    · exact List.mem_append_left _ (raw_has hV h1 h)
theorem pts_has {f : Nat → Nat → Nat} {V N n : Nat} (hV : 0 < V) (h1 : 1 ≤ n) (h2 : n ≤ N) : (f n 0, n) ∈ pts f V N := (List.mergeSort_perm _ _).mem_iff.2 (raw_has hV h1 h2)

/-- From the first point that is not below base on, and round. -/
def turn (base : Nat) (l : List Pt) : List Pt := l.filter (fun p => decide (base ≤ p.1)) ++ l.filter (fun p => !decide (base ≤ p.1))
theorem mem_turn {base : Nat} {l : List Pt} {p : Pt} : p ∈ turn base l ↔ p ∈ l := by
  simp only [turn, List.mem_append, List.mem_filter]
  by_cases h : base ≤ p.1 <;> simp [h]
def listOf (l : List Pt) (base m : Nat) : List Nat := upTo m ((turn base l).map (·.2))
theorem listOf_length {f : Nat → Nat → Nat} {V N m base : Nat} (hV : 0 < V) (hm : m ≤ N) : (listOf (pts f V N) base m).length = m := by
  rw [listOf, upTo_eq, List.length_take]
  have h := length_le_of_subset ((List.range N).map (· + 1)) (firsts ((turn base (pts f V N)).map (·.2)))
    (by
      rw [List.Nodup, List.pairwise_map]
      exact List.nodup_range.imp fun h e => h (by omega))
    fun x hx => by
      simp only [List.mem_map, List.mem_range] at hx
      obtain ⟨i, hi, rfl⟩ := hx
      rw [mem_firsts, List.mem_map]
      exact ⟨_, mem_turn.2 (pts_has hV (by omega) (by omega)), rfl⟩
  rw [List.length_map, List.length_range] at h
  omega
theorem listOf_node {f : Nat → Nat → Nat} {V N m base x : Nat} (h : x ∈ listOf (pts f V N) base m) : 1 ≤ x ∧ x ≤ N := by
  rw [listOf, upTo_eq] at h
  have h := List.mem_of_mem_take h
  rw [mem_firsts, List.mem_map] at h
  obtain ⟨p, hp, rfl⟩ := h
  exact pts_node (mem_turn.1 hp)
theorem listOf_nodup (l : List Pt) (base m : Nat) : (listOf l base m).Nodup := by
  rw [listOf, upTo_eq]
  exact (nodup_firsts _).sublist (List.take_sublist _ _)
theorem listOf_le (l : List Pt) (base m : Nat) : (listOf l base m).length ≤ m := by
  rw [listOf, upTo_eq, List.length_take]; omega

/-- With one node more. -/
theorem pts_grow (f : Nat → Nat → Nat) (V N : Nat) : (pts f V (N + 1)).filter (fun p => decide (p.2 ≠ N + 1)) = pts f V N := by
  refine sorted_unique ((sorted_sort _).sublist List.filter_sublist) (sorted_sort _) ?_
  have h1 := (List.mergeSort_perm (raw f V (N + 1)) le).filter (fun p => decide (p.2 ≠ N + 1))
  have h2 : (raw f V (N + 1)).filter (fun p => decide (p.2 ≠ N + 1)) = raw f V N := by
    rw [raw, List.filter_append, List.filter_eq_self.2 (fun p hp => by have := raw_node hp; simp; omega), List.filter_eq_nil_iff.2 (fun p hp => ?_), List.append_nil]
    simp only [ofNode, List.mem_map] at hp
    obtain ⟨i, _, rfl⟩ := hp
    simp
  rw [h2] at h1
  exact h1.trans (List.mergeSort_perm _ _).symm
theorem turn_grow (base : Nat) (q : Nat → Bool) (l : List Pt) : (turn base l).filter (fun p => q p.2) = turn base (l.filter fun p => q p.2) := by
  unfold turn
  rw [List.filter_append, List.filter_filter, List.filter_filter, List.filter_filter, List.filter_filter]
  congr 1
  all_goals exact List.filter_congr fun p _ => Bool.and_comm _ _
theorem listOf_grow (f : Nat → Nat → Nat) (V N m base : Nat) : (listOf (pts f V (N + 1)) base m).filter (fun n => decide (n ≠ N + 1)) <+: listOf (pts f V N) base m := by
  have e : (turn base (pts f V N)).map (·.2) = ((turn base (pts f V (N + 1))).map (·.2)).filter (fun n => decide (n ≠ N + 1)) := by
    rw [List.filter_map, ← pts_grow f V N, ← turn_grow base (fun n => decide (n ≠ N + 1))]
    rfl
  rw [listOf, listOf, upTo_eq, upTo_eq, e, firsts_filter]
  generalize firsts _ = F
  rw [List.prefix_take_iff]
  refine ⟨(List.take_prefix m F).filter _, ?_⟩
  exact Nat.le_trans (List.length_filter_le _ _) (by rw [List.length_take]; omega)
/-- The place from which the points are gone through. -/
def firstAt (base : Nat) (l : List Pt) : Nat := (l.filter fun p => !decide (base ≤ p.1)).length
theorem split_at (base : Nat) : ∀ (l : List Pt), l.Pairwise (fun x y => le x y = true) → l = l.filter (fun p => !decide (base ≤ p.1)) ++ l.filter (fun p => decide (base ≤ p.1))
  | [], _ => rfl
  | x :: l, h => by
    rw [List.pairwise_cons] at h
    have ih := split_at base l h.2
    by_cases hx : base ≤ x.1
    · have h1 : ∀ p, p ∈ l → base ≤ p.1 := fun p hp => by
        have := h.1 p hp
        simp only [le, decide_eq_true_eq] at this
        omega
      have e1 : l.filter (fun p => !decide (base ≤ p.1)) = [] := List.filter_eq_nil_iff.2 fun p hp => by simp [h1 p hp]
      rw [e1, List.nil_append] at ih
      rw [List.filter_cons_of_neg (by simp [hx]), List.filter_cons_of_pos (by simp [hx]), e1, List.nil_append, ← ih]
    · rw [List.filter_cons_of_pos (by simp [hx]), List.filter_cons_of_neg (by simp [hx]), List.cons_append, ← ih]
theorem turn_rot (base : Nat) (l : List Pt) (h : l.Pairwise (fun x y => le x y = true)) : turn base l = l.drop (firstAt base l) ++ l.take (firstAt base l) := by
  have e := split_at base l h
  unfold turn firstAt
  congr 1
  · conv => rhs; rw [e]
    rw [List.filter_append]
    simp
  · conv => rhs; rw [e]
    rw [List.filter_append]
    simp
theorem firstAt_le (base : Nat) (l : List Pt) : firstAt base l ≤ l.length := List.length_filter_le _ _
theorem firstAt_split (base : Nat) (l : List Pt) (h : l.Pairwise (fun x y => le x y = true)) (i : Nat) (hi : i < l.length) : decide (base ≤ (l.getD i (0, 0)).1) = decide (firstAt base l ≤ i) := by
  have e := split_at base l h
  unfold firstAt
  generalize hA : l.filter (fun p => !decide (base ≤ p.1)) = A at *
  generalize hB : l.filter (fun p => decide (base ≤ p.1)) = B at *
  rcases Nat.lt_or_ge i A.length with hl | hl
  · have hm : l.getD i (0, 0) ∈ A := by
      rw [e, List.getD_eq_getElem?_getD, List.getElem?_append_left hl, List.getElem?_eq_getElem hl]
      exact List.getElem_mem _
    rw [← hA] at hm
    have := (List.mem_filter.1 hm).2
    rw [decide_eq_false (show ¬ A.length ≤ i by omega)]
    simpa using this
  · have hb : i - A.length < B.length := by
      have := congrArg List.length e
      rw [List.length_append] at this
      omega
    have hm : l.getD i (0, 0) ∈ B := by
      rw [e, List.getD_eq_getElem?_getD, List.getElem?_append_right hl, List.getElem?_eq_getElem hb]
      exact List.getElem_mem _
    rw [← hB] at hm
    rw [decide_eq_true hl]
    exact (List.mem_filter.1 hm).2
/-- The i-th node on the way. -/
theorem turn_get (base : Nat) (l : List Pt) (h : l.Pairwise (fun x y => le x y = true)) (i : Nat) (hi : i < l.length) : (turn base l).getD i (0, 0) = l.getD ((firstAt base l + i) % l.length) (0, 0) := by
  rw [turn_rot base l h]
  have hf := firstAt_le base l
  generalize firstAt base l = f at *
  simp only [List.getD_eq_getElem?_getD]
  rcases Nat.lt_or_ge i (l.length - f) with h1 | h1
  · rw [List.getElem?_append_left (by rw [List.length_drop]; exact h1), List.getElem?_drop, Nat.mod_eq_of_lt (by omega)]
  · rw [List.getElem?_append_right (by rw [List.length_drop]; exact h1), List.length_drop, List.getElem?_take, if_pos (by omega), show (f + i) % l.length = i - (l.length - f) by
      rw [Nat.mod_eq_sub_mod (by omega), Nat.mod_eq_of_lt (by omega)]; omega]
theorem turn_length (base : Nat) (l : List Pt) : (turn base l).length = l.length := by
  unfold turn
  rw [List.length_append]
  induction l with
  | nil => rfl
  | cons x l ih =>
    by_cases hx : base ≤ x.1
    · rw [List.filter_cons_of_pos (by simp [hx]), List.filter_cons_of_neg (by simp [hx])]; simp only [List.length_cons]; omega
    · rw [List.filter_cons_of_neg (by simp [hx]), List.filter_cons_of_pos (by simp [hx])]; simp only [List.length_cons]; omega

/-- How often all nodes stand in all lists. -/
theorem sum_count : ∀ (N : Nat) (l : List Nat), l.Nodup → (∀ x, x ∈ l → 1 ≤ x ∧ x ≤ N) → ((List.range N).filter fun n => decide (n + 1 ∈ l)).length = l.length := by
  intro N l hn hl
  refine Nat.le_antisymm ?_ ?_
  · have h := length_le_of_subset (((List.range N).filter fun n => decide (n + 1 ∈ l)).map (· + 1)) l
      (by
        rw [List.Nodup, List.pairwise_map]
        exact (List.nodup_range.sublist List.filter_sublist).imp fun h e => h (by omega))
      fun x hx => by
        simp only [List.mem_map, List.mem_filter, decide_eq_true_eq] at hx
        obtain ⟨i, ⟨_, hi⟩, rfl⟩ := hx
        exact hi
    rwa [List.length_map] at h
  · have h := length_le_of_subset l (((List.range N).filter fun n => decide (n + 1 ∈ l)).map (· + 1)) hn fun x hx => by
      have := hl x hx
      simp only [List.mem_map, List.mem_filter, decide_eq_true_eq, List.mem_range]
      exact ⟨x - 1, ⟨by omega, by rwa [show x - 1 + 1 = x by omega]⟩, by omega⟩
    rwa [List.length_map] at h
def partsOf (L : Nat → List Nat) (n : Nat) : List Nat := (List.range 8).filter fun k => decide (n ∈ L k)
theorem sum_parts (N : Nat) (L : Nat → List Nat) (m : Nat) (hn : ∀ k, k < 8 → (L k).Nodup) (hl : ∀ k, k < 8 → ∀ x, x ∈ L k → 1 ≤ x ∧ x ≤ N) (hm : ∀ k, k < 8 → (L k).length = m) :
    ((List.range N).map fun n => (partsOf L (n + 1)).length).sum = 8 * m := by
  have h : ∀ (K : Nat), K ≤ 8 → ((List.range N).map fun n => ((List.range K).filter fun k => decide (n + 1 ∈ L k)).length).sum = K * m := by
    intro K
    induction K with
    | zero =>
      intro _
      have : ∀ M : Nat, ((List.range M).map fun _ => 0).sum = 0 := fun M => by
        induction M with
        | zero => rfl
        | succ M ih => rw [List.range_succ, List.map_append, List.sum_append, ih]; rfl
      rw [Nat.zero_mul]
      exact this N
    | succ K ih =>
      intro hK
      have e : ∀ n, ((List.range (K + 1)).filter fun k => decide (n + 1 ∈ L k)).length = ((List.range K).filter fun k => decide (n + 1 ∈ L k)).length + (if decide (n + 1 ∈ L K) = true then 1 else 0) := fun n => by
        rw [List.range_succ, List.filter_append, List.length_append]
        congr 1
        by_cases h : n + 1 ∈ L K <;> simp [h]
      have e2 : ∀ M : Nat, ((List.range M).map fun n => ((List.range (K + 1)).filter fun k => decide (n + 1 ∈ L k)).length).sum = ((List.range M).map fun n => ((List.range K).filter fun k => decide (n + 1 ∈ L k)).length).sum + ((List.range M).filter fun n => decide (n + 1 ∈ L K)).length := by
        intro M
        induction M with
        | zero => rfl
        | succ M ihM =>
          rw [List.range_succ (n := M), List.map_append, List.map_append, List.sum_append, List.sum_append, ihM, List.filter_append, List.length_append, List.map_singleton, List.map_singleton, List.sum_singleton, List.sum_singleton, e M]
          have : (List.filter (fun n => decide (n + 1 ∈ L K)) [M]).length = (if decide (M + 1 ∈ L K) = true then 1 else 0) := by
            by_cases h : M + 1 ∈ L K <;> simp [h]
          rw [this]
          omega
      rw [e2, ih (by omega), sum_count N (L K) (hn K (by omega)) (hl K (by omega)), hm K (by omega), Nat.succ_mul]
  exact h 8 (Nat.le_refl _)
end Ring
end Go.Proofs.YtdbhboglccggdaaGreatDoor
