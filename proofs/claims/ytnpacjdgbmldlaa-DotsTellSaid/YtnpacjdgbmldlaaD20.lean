/- The mathematics of Of: what is sorted and compact is what is inserted dot by dot. -/
import Derived.Test.YtnpacjdgbmldlaaD19
namespace Go.Proofs.Ytnpacjdgbmldlaa
open Go.RowKit Go.Shelf Go.Lib Go.Sort

/-- Ahead: by node, then by number. -/
def Lt (a b : Dt) : Prop := Vec.less a.1 a.2 b.1 b.2 = true
theorem lt_iff {a b : Dt} : Lt a b ↔ a.1 < b.1 ∨ (a.1 = b.1 ∧ a.2 < b.2) := by unfold Lt Vec.less; simp
theorem Lt.trans {a b c : Dt} (h : Lt a b) (k : Lt b c) : Lt a c := by rw [lt_iff] at *; omega
theorem Lt.irrefl (a : Dt) : ¬ Lt a a := by rw [lt_iff]; omega
theorem Lt.tri (a b : Dt) : Lt a b ∨ a = b ∨ Lt b a := by
  rw [lt_iff, lt_iff]
  by_cases h1 : a.1 = b.1
  · by_cases h2 : a.2 = b.2
    · exact .inr (.inl (Prod.ext h1 h2))
    · omega
  · omega
/-- Lists that rise strictly, with the same members, are one. -/
theorem rise_unique : ∀ (xs ys : List Dt), xs.Pairwise Lt → ys.Pairwise Lt → (∀ d, d ∈ xs ↔ d ∈ ys) → xs = ys
  | [], ys, _, _, h => by
    cases ys with
    | nil => rfl
    | cons y ys => exact absurd ((h y).2 (by simp)) (by simp)
  | x :: xs, [], _, _, h => absurd ((h x).1 (by simp)) (by simp)
  | x :: xs, y :: ys, hx, hy, h => by
    rw [List.pairwise_cons] at hx hy
    have e : x = y := by
      rcases Lt.tri x y with h1 | h1 | h1
      · have h2 := (h x).1 (by simp)
        rcases List.mem_cons.1 h2 with h3 | h3
        · exact h3
        · exact absurd (h1.trans (hy.1 x h3)) (Lt.irrefl x)
      · exact h1
      · have h2 := (h y).2 (by simp)
        rcases List.mem_cons.1 h2 with h3 | h3
        · exact h3.symm
        · exact absurd (h1.trans (hx.1 y h3)) (Lt.irrefl y)
    subst e
    rw [rise_unique xs ys hx.2 hy.2 fun d => ?_]
    constructor
    · intro hd
      rcases List.mem_cons.1 ((h d).1 (List.mem_cons_of_mem _ hd)) with h3 | h3
      · exact absurd (h3 ▸ hx.1 d hd) (Lt.irrefl x)
      · exact h3
    · intro hd
      rcases List.mem_cons.1 ((h d).2 (List.mem_cons_of_mem _ hd)) with h3 | h3
      · exact absurd (h3 ▸ hy.1 d hd) (Lt.irrefl x)
      · exact h3

theorem compact_rise (d : Array Dt) (hs : ∀ i j, i < j → j < d.size → ¬ Lt d[j]! d[i]!) : ∀ m, m ≤ d.size → (compactUpTo d m).Pairwise Lt ∧ (∀ v, v ∈ compactUpTo d m ↔ ∃ j, j < m ∧ d[j]! = v) ∧ (∀ v ∈ compactUpTo d m, v = d[m - 1]! ∨ Lt v d[m - 1]!)
  | 0, _ => by simp [compactUpTo]
  | m + 1, h => by
    obtain ⟨h1, h2, h3⟩ := compact_rise d hs m (by omega)
    have mem : ∀ v, (∃ j, j < m + 1 ∧ d[j]! = v) ↔ (∃ j, j < m ∧ d[j]! = v) ∨ d[m]! = v := fun v => by
      constructor
      · rintro ⟨j, hj, e⟩
        by_cases ej : j = m
        · exact .inr (ej ▸ e)
        · exact .inl ⟨j, by omega, e⟩
      · rintro (⟨j, hj, e⟩ | e)
        · exact ⟨j, by omega, e⟩
        · exact ⟨m, by omega, e⟩
    rw [compactUpTo_succ, Nat.add_sub_cancel]
    by_cases hk : keeps d m = true
    · rw [if_pos hk]
      have lt : ∀ v ∈ compactUpTo d m, Lt v d[m]! := fun v hv => by
        have hm : m ≠ 0 := fun e => by subst e; simp [compactUpTo] at hv
        have hne : d[m]! ≠ d[m - 1]! := by
          simp only [keeps, decide_eq_true_eq] at hk
          rcases hk with hk | hk
          · exact absurd hk hm
          · exact hk
        have hlt : Lt d[m - 1]! d[m]! := by
          rcases Lt.tri d[m - 1]! d[m]! with e | e | e
          · exact e
          · exact absurd e.symm hne
          · exact absurd e (hs (m - 1) m (by omega) (by omega))
        rcases h3 v hv with e | e
        · rw [e]; exact hlt
        · exact e.trans hlt
      refine ⟨?_, fun v => ?_, fun v hv => ?_⟩
      · rw [List.pairwise_append]
        exact ⟨h1, by simp, fun a ha b hb => by rw [List.mem_singleton.1 hb]; exact lt a ha⟩
      · rw [List.mem_append, List.mem_singleton, h2 v, mem v]
        exact or_congr Iff.rfl eq_comm
      · rcases List.mem_append.1 hv with h4 | h4
        · exact .inr (lt v h4)
        · exact .inl (List.mem_singleton.1 h4)
    · rw [if_neg hk, List.append_nil]
      have he : m ≠ 0 ∧ d[m]! = d[m - 1]! := by
        simp only [keeps, decide_eq_true_eq, not_or, Classical.not_not] at hk
        exact hk
      refine ⟨h1, fun v => ?_, fun v hv => by rw [he.2]; exact h3 v hv⟩
      rw [h2 v, mem v]
      constructor
      · exact .inl
      · rintro (h4 | h4)
        · exact h4
        · exact ⟨m - 1, by omega, by rw [← he.2]; exact h4⟩

theorem sortD_spec (zs : List Dt) : (sortD zs).Pairwise Lt ∧ ∀ v, v ∈ sortD zs ↔ v ∈ zs := by
  obtain ⟨so, hso⟩ : ∃ so, so = zs.mergeSort fun x y => !(ltOf cmpD) y x := ⟨_, rfl⟩
  have hp : so.Pairwise fun a b => (!(ltOf cmpD) b a) = true := by
    rw [hso]
    refine List.pairwise_mergeSort (fun a b c h1 h2 => ?_) (fun a b => ?_) zs
    · rw [ltOf_cmpD] at *
      simp only [Vec.less, Bool.not_eq_true', decide_eq_false_iff_not] at *
      omega
    · rw [ltOf_cmpD, ltOf_cmpD]
      simp only [Vec.less, Bool.or_eq_true, Bool.not_eq_true', decide_eq_false_iff_not]
      omega
  have hs : ∀ i j, i < j → j < so.toArray.size → ¬ Lt so.toArray[j]! so.toArray[i]! := fun i j hij hj => by
    have hj' : j < so.length := by simpa using hj
    have h := List.pairwise_iff_getElem.1 hp i j (by omega) hj' hij
    rw [getElem!_pos so.toArray j hj, getElem!_pos so.toArray i (by omega)]
    rw [ltOf_cmpD] at h
    simp only [Bool.not_eq_true'] at h
    simp only [List.getElem_toArray]
    unfold Lt
    rw [h]
    simp
  obtain ⟨h1, h2, _⟩ := compact_rise so.toArray hs so.length (by simp)
  have he : sortD zs = compactUpTo so.toArray so.length := by unfold sortD Lib.compact; rw [← hso]
  rw [he]
  refine ⟨h1, fun v => ?_⟩
  rw [h2 v, show v ∈ zs ↔ v ∈ so by rw [hso, List.mem_mergeSort]]
  constructor
  · rintro ⟨j, hj, e⟩
    rw [getElem!_pos so.toArray j (by simpa using hj)] at e
    rw [← e]
    simp
  · intro hv
    obtain ⟨j, hj, e⟩ := List.getElem_of_mem hv
    exact ⟨j, hj, by rw [getElem!_pos so.toArray j (by simpa using hj)]; simpa using e⟩

theorem insertF_spec {ls : List Dt} (hp : ls.Pairwise Lt) (d : Dt) : (insertF ls d).Pairwise Lt ∧ ∀ v, v ∈ insertF ls d ↔ v ∈ ls ∨ (v = d ∧ Vec.right d.1 d.2 = true) := by
  unfold insertF
  split
  · next h =>
    obtain ⟨hr, hn⟩ := h
    have hsp := List.takeWhile_append_dropWhile (p := fun x : Dt => Vec.less x.1 x.2 d.1 d.2) (l := ls)
    have hdr : ∀ b ∈ ls.dropWhile (fun x : Dt => Vec.less x.1 x.2 d.1 d.2), Lt d b := by
      have hsuf : (ls.dropWhile (fun x : Dt => Vec.less x.1 x.2 d.1 d.2)).Pairwise Lt := hp.sublist (List.dropWhile_sublist _)
      cases hd : ls.dropWhile (fun x : Dt => Vec.less x.1 x.2 d.1 d.2) with
      | nil => intro b hb; simp at hb
      | cons y ys =>
        have hy : ¬ (Vec.less y.1 y.2 d.1 d.2 = true) := by
          have h1 := List.head_dropWhile_not (fun x : Dt => Vec.less x.1 x.2 d.1 d.2) (l := ls) (by rw [hd]; simp)
          simp only [hd, List.head_cons] at h1
          simp [h1]
        have hym : y ∈ ls := (List.dropWhile_sublist _).subset (by rw [hd]; simp)
        have hdy : Lt d y := by
          rcases Lt.tri d y with e | e | e
          · exact e
          · exact absurd (e ▸ hym) hn
          · exact absurd e hy
        rw [hd, List.pairwise_cons] at hsuf
        intro b hb
        rcases List.mem_cons.1 hb with e | e
        · rw [e]; exact hdy
        · exact hdy.trans (hsuf.1 b e)
    have htk : ∀ a ∈ ls.takeWhile (fun x : Dt => Vec.less x.1 x.2 d.1 d.2), Lt a d := fun a ha => List.all_eq_true.1 (List.all_takeWhile (p := fun x : Dt => Vec.less x.1 x.2 d.1 d.2) (l := ls)) a ha
    constructor
    · rw [List.pairwise_append, List.pairwise_cons]
      refine ⟨hp.sublist (List.takeWhile_sublist _), ⟨hdr, hp.sublist (List.dropWhile_sublist _)⟩, fun a ha b hb => ?_⟩
      rcases List.mem_cons.1 hb with e | e
      · rw [e]; exact htk a ha
      · exact (htk a ha).trans (hdr b e)
    · intro v
      have hm : v ∈ ls ↔ v ∈ ls.takeWhile (fun x : Dt => Vec.less x.1 x.2 d.1 d.2) ∨ v ∈ ls.dropWhile (fun x : Dt => Vec.less x.1 x.2 d.1 d.2) := by
        conv => lhs; rw [← hsp]
        exact List.mem_append
      rw [List.mem_append, List.mem_cons, hm]
      constructor
      · rintro (h1 | h1 | h1)
        · exact .inl (.inl h1)
        · exact .inr ⟨h1, hr⟩
        · exact .inl (.inr h1)
      · rintro ((h1 | h1) | h1)
        · exact .inl h1
        · exact .inr (.inr h1)
        · exact .inr (.inl h1.1)
  · next h =>
    refine ⟨hp, fun v => ⟨.inl, ?_⟩⟩
    rintro (h1 | ⟨rfl, h1⟩)
    · exact h1
    · by_cases hn : v ∈ ls
      · exact hn
      · exact absurd ⟨h1, hn⟩ h
theorem foldl_spec : ∀ (ls acc : List Dt), acc.Pairwise Lt → (ls.foldl insertF acc).Pairwise Lt ∧ ∀ v, v ∈ ls.foldl insertF acc ↔ v ∈ acc ∨ (v ∈ ls ∧ Vec.right v.1 v.2 = true)
  | [], acc, h => ⟨h, fun v => by simp⟩
  | d :: ls, acc, h => by
    obtain ⟨h1, h2⟩ := insertF_spec h d
    obtain ⟨h3, h4⟩ := foldl_spec ls (insertF acc d) h1
    refine ⟨h3, fun v => ?_⟩
    rw [List.foldl_cons, h4 v, h2 v, List.mem_cons]
    constructor
    · rintro ((a | ⟨rfl, b⟩) | ⟨a, b⟩)
      · exact .inl a
      · exact .inr ⟨.inl rfl, b⟩
      · exact .inr ⟨.inr a, b⟩
    · rintro (a | ⟨rfl | a, b⟩)
      · exact .inl (.inl a)
      · exact .inl (.inr ⟨rfl, b⟩)
      · exact .inr ⟨a, b⟩
theorem insAll_spec (ls : List Dt) : (insAll ls).Pairwise Lt ∧ ∀ v, v ∈ insAll ls ↔ v ∈ ls ∧ Vec.right v.1 v.2 = true := by
  obtain ⟨h1, h2⟩ := foldl_spec ls [] (by simp)
  exact ⟨h1, fun v => by rw [insAll, h2 v]; simp⟩
/-- The code's Of is the reference's. -/
theorem setF_rt (ls : List Dt) : setF (rt ls) = ofF ls := by
  obtain ⟨a1, a2⟩ := sortD_spec (rt ls)
  obtain ⟨b1, b2⟩ := insAll_spec ls
  unfold setF ofF
  rw [rise_unique _ _ a1 b1 fun d => ?_]
  rw [a2 d, b2 d]
  unfold rt
  rw [List.mem_filter]
theorem setF_rts (LL : List (List Dt)) : setF (rts LL) = ofF LL.flatten := by
  rw [← setF_rt]
  congr 1
  unfold rts rt
  rw [List.flatMap_def, List.filter_flatten]
end Go.Proofs.Ytnpacjdgbmldlaa
