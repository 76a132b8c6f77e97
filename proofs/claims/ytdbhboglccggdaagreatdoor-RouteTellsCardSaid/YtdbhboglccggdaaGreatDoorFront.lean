/- A region whose order is open but for its last operations, which stand behind all others one behind the other (the assignments of 'x, y := ..'): the first ones by one walk in the text's order; what 'alloc' gives is told apart. -/
import Derived.Test.YtdbhboglccggdaaGreatDoorMonb
import Derived.Test.YtdbhboglccggdaaGreatDoorWm
set_option linter.unusedVariables false
set_option linter.unusedSimpArgs false
namespace Go.Proofs.YtdbhboglccggdaaGreatDoor
namespace M3
open M2

/-- From k on the operations come one behind the other. -/
def seqFrom (md : Region.Mode) (ops : Array Oper) : Nat → Nat → Array Bool → Bool
  | 0, _, L => (Region.ready md ops L).isEmpty
  | f + 1, k, L => (Region.ready md ops L == [k]) && seqFrom md ops f (k + 1) (L.setIfInBounds k true)

section
variable {P : Program} {md : Region.Mode} {full : Array Oper} {Q : Exit → Act → World → Prop}
theorem wpAny_end {L : Array Bool} {a : Act} {w : World} (h : Region.ready md full L = []) (hq : Q .normal a w) : ∀ n, wpAny P md full Q n L a w
  | 0 => ⟨h, hq⟩
  | n + 1 => ⟨fun _ => hq, fun i hi => by rw [h] at hi; cases hi⟩
theorem wpAny_seq : ∀ (l : List Oper) (k : Nat) (L : Array Bool) (a : Act) (w : World) (n : Nat), (∀ j, l[j]? = full[k + j]?) → seqFrom md full l.length k L = true → wpList P full Q l a w → wpAny P md full Q (n + l.length) L a w
  | [], _, L, a, w, n, _, hs, h => wpAny_end (by simpa [seqFrom] using hs) h _
  | o :: l, k, L, a, w, n, hl, hs, h => by
    have h0 : full[k]? = some o := by simpa using (hl 0).symm
    simp only [List.length_cons, seqFrom, Bool.and_eq_true, beq_iff_eq] at hs
    obtain ⟨hr, hs⟩ := hs
    have go : ∀ a w, wpList P full Q l a w → wpAny P md full Q (n + l.length) (L.setIfInBounds k true) a w := fun a w hh =>
      wpAny_seq l (k + 1) _ a w n (fun j => by have := hl (j + 1); simpa [Nat.add_assoc, Nat.add_comm 1 j] using this) hs hh
    show wpAny P md full Q ((n + l.length) + 1) L a w
    refine ⟨fun e => (by rw [hr] at e; cases e), fun i hi => ?_⟩
    rw [hr, List.mem_singleton] at hi
    subst hi
    unfold wpOp
    rw [h0]
    dsimp only
    unfold wpList at h
    by_cases hw : Region.wanted o (yielded full a.tmps) = true
    · rw [if_pos hw] at h ⊢
      exact h.imp (Oper.wp_mono go) id
    · rw [if_neg hw] at h ⊢
      exact go _ _ h
end

/-- No two of the new blocks are one. -/
def Dist (news : List (Nat × Nat)) (a : Act) : Prop := ∀ p ∈ news, ∀ q ∈ news, p.1 ≠ q.1 → a.tmps.getD p.2 undef ≠ a.tmps.getD q.2 undef
structure Born (news : List (Nat × Nat)) (L : Array Bool) (a : Act) (w : World) : Prop where
  size : ∀ p ∈ news, p.2 < a.tmps.size
  lt : ∀ p ∈ news, L.getD p.1 false = true → ∃ b, a.tmps.getD p.2 undef = .pointer (some ⟨b, 0, none⟩) ∧ b < w.heap.size
  ne : ∀ p ∈ news, ∀ q ∈ news, p.1 ≠ q.1 → L.getD p.1 false = true → L.getD q.1 false = true → a.tmps.getD p.2 undef ≠ a.tmps.getD q.2 undef

/-- o waits for operation k, in at most n steps. -/
def waits (md : Region.Mode) (front : Array Oper) : Nat → Oper → Nat → Bool
  | 0, _, _ => false
  | n + 1, o, k => o.after.any fun e => Region.binds md e && (decide (e.on = k) || ((front[e.on]?).map fun o' => waits md front n o' k).getD false)
/-- What is asked of the split: by program. -/
def splitB (md : Region.Mode) (full front : Array Oper) (nb : Nat) (news : List (Nat × Nat)) : Bool :=
  full.size == front.size + nb
  && (List.range front.size).all (fun i => ((front[i]?).map fun o => o.guard.isNone && o.after.all (fun e => !Region.binds md e || decide (e.on < i)) && news.all (fun p => decide (p.1 = i) == (o.dst == some p.2))).getD false)
  && (List.range full.size).all (fun i => decide (i < front.size) || ((full[i]?).map fun o => o.after.any (fun e => Region.binds md e && decide (front.size ≤ e.on)) || (List.range front.size).all fun k => waits md front 5 o k).getD false)
  && news.all (fun p => decide (p.1 < front.size))

section
variable {P : Program} {md : Region.Mode} {full front : Array Oper} {nb : Nat} {news : List (Nat × Nat)} {Q : Exit → Act → World → Prop}
variable {R : Nat → World → World → Prop} {D : Nat → World → Prop} {E : World → Prop} {kinds : Nat → Kind}

theorem split_front (h : splitB md full front nb news = true) {i : Nat} {o : Oper} (hi : front[i]? = some o) :
    o.guard = none ∧ (∀ e ∈ o.after, Region.binds md e = true → e.on < i) ∧ ∀ p ∈ news, (p.1 = i ↔ o.dst = some p.2) := by
  simp only [splitB, Bool.and_eq_true, List.all_eq_true, List.mem_range] at h
  have hlt : i < front.size := (Array.getElem?_eq_some_iff.1 hi).1
  have h1 := h.1.1.2 i hlt
  rw [hi] at h1
  simp only [Option.map_some, Option.getD_some, Bool.and_eq_true, Array.all_eq_true_iff_forall_mem, List.all_eq_true, Option.isNone_iff_eq_none, Bool.or_eq_true, Bool.not_eq_true', decide_eq_true_eq, beq_iff_eq] at h1
  refine ⟨h1.1.1, fun e he hb => (h1.1.2 e he).resolve_left (by rw [hb]; exact Bool.noConfusion), fun p hp => ?_⟩
  have h2 := h1.2 p hp
  constructor
  · intro e
    rw [decide_eq_true e] at h2
    exact eq_of_beq h2.symm
  · intro e
    rw [e, beq_self_eq_true] at h2
    exact of_decide_eq_true h2
theorem split_back (h : splitB md full front nb news = true) {i : Nat} {o : Oper} (hi : full[i]? = some o) (hge : front.size ≤ i) : (∃ e ∈ o.after, Region.binds md e = true ∧ front.size ≤ e.on) ∨ ∀ k, k < front.size → waits md front 5 o k = true := by
  simp only [splitB, Bool.and_eq_true, List.all_eq_true, List.mem_range] at h
  have h1 := h.1.2 i (Array.getElem?_eq_some_iff.1 hi).1
  rw [hi] at h1
  simp only [Option.map_some, Option.getD_some, Bool.or_eq_true, decide_eq_true_eq, List.all_eq_true, List.mem_range, Array.any_eq_true', Bool.and_eq_true] at h1
  rcases h1 with h1 | h1 | h1
  · omega
  · exact .inl h1
  · exact .inr h1
theorem split_size (h : splitB md full front nb news = true) : full.size = front.size + nb := by
  simp only [splitB, Bool.and_eq_true, beq_iff_eq] at h
  exact h.1.1.1
theorem split_new (h : splitB md full front nb news = true) : ∀ p ∈ news, p.1 < front.size := by
  simp only [splitB, Bool.and_eq_true, List.all_eq_true, decide_eq_true_eq] at h
  exact h.2

theorem app_lt {L r : Array Bool} {i : Nat} (d : Bool) (h : i < L.size) : (L ++ r).getD i d = L.getD i d := by
  simp only [Array.getD_eq_getD_getElem?, Array.getElem?_append_left h]
theorem app_set {L r : Array Bool} {i : Nat} (h : i < L.size) (v : Bool) : (L ++ r).setIfInBounds i v = L.setIfInBounds i v ++ r := by
  rw [Array.setIfInBounds_append_left h]
theorem ready_lt (hsp : splitB md full front nb news = true) (hpre : ∀ j, j < front.size → full[j]? = front[j]?) {L r : Array Bool} (hL : L.size = front.size) {j : Nat} (hj : j < front.size) : j ∈ Region.ready md full (L ++ r) ↔ j ∈ Region.ready md front L := by
  rw [mem_ready, mem_ready, app_lt true (by omega), hpre j hj]
  constructor
  · rintro ⟨h0, o, ho, h⟩
    refine ⟨h0, o, ho, fun e he hb => ?_⟩
    have := h e he hb
    rwa [app_lt false (by have := (split_front hsp ho).2.1 e he hb; omega)] at this
  · rintro ⟨h0, o, ho, h⟩
    refine ⟨h0, o, ho, fun e he hb => ?_⟩
    rw [app_lt false (by have := (split_front hsp ho).2.1 e he hb; omega)]
    exact h e he hb
theorem all_of_none (hsp : splitB md full front nb news = true) {L : Array Bool} (hL : L.size = front.size) (h : Region.ready md front L = []) : ∀ n i, i < n → i < front.size → L.getD i true = true := by
  intro n
  induction n with
  | zero => intro i hi; omega
  | succ n ih =>
    intro i hi hlt
    cases hg : L.getD i true with
    | true => rfl
    | false =>
      have : i ∈ Region.ready md front L := by
        rw [mem_ready]
        refine ⟨hg, front[i], Array.getElem?_eq_getElem hlt, fun e he hb => ?_⟩
        have h1 := (split_front hsp (Array.getElem?_eq_getElem hlt)).2.1 e he hb
        have h2 := ih e.on (by omega) (by omega)
        rw [Array.getD_eq_getD_getElem?, Array.getElem?_eq_getElem (by omega)] at h2 ⊢
        exact h2
      rw [h] at this
      cases this
theorem all_rep {L : Array Bool} {n : Nat} (hL : L.size = n) (h : ∀ i, i < n → L.getD i true = true) : L = Array.replicate n true := by
  apply Array.ext
  · simpa using hL
  · intro i h1 h2
    have := h i (by omega)
    rw [Array.getD_eq_getD_getElem?, Array.getElem?_eq_getElem h1] at this
    simpa using this
/-- With an operation all that it waits for is listed. -/
def Closed (md : Region.Mode) (front : Array Oper) (L : Array Bool) : Prop := ∀ i o, front[i]? = some o → L.getD i false = true → ∀ e ∈ o.after, Region.binds md e = true → L.getD e.on false = true
theorem Closed.next {L : Array Bool} (hC : Closed md front L) {i : Nat} (hi : i ∈ Region.ready md front L) : Closed md front (L.setIfInBounds i true) := fun j o ho hl e he hb => by
  by_cases hji : j = i
  · subst hji
    obtain ⟨_, o', ho', hall⟩ := mem_ready.1 hi
    rw [ho] at ho'
    injection ho' with ho'
    subst ho'
    exact getD_set_true (hall e he hb)
  · rw [getD_set_ne false (Ne.symm hji)] at hl
    exact getD_set_true (hC j o ho hl e he hb)
theorem waits_listed {L : Array Bool} (hC : Closed md front L) {k : Nat} (hk : k < front.size) : ∀ (n : Nat) (o : Oper), waits md front n o k = true → (∀ e ∈ o.after, Region.binds md e = true → e.on < front.size → L.getD e.on false = true) → L.getD k false = true
  | 0, _, h, _ => by cases h
  | n + 1, o, h, hl => by
    simp only [waits, Array.any_eq_true', Bool.and_eq_true, Bool.or_eq_true, decide_eq_true_eq] at h
    obtain ⟨e, he, hb, h2⟩ := h
    rcases h2 with rfl | h2
    · exact hl e he hb hk
    · cases hf : front[e.on]? with
      | none => rw [hf] at h2; cases h2
      | some o' =>
        rw [hf] at h2
        have hlt : e.on < front.size := (Array.getElem?_eq_some_iff.1 hf).1
        exact waits_listed hC hk n o' h2 fun e' he' hb' _ => hC e.on o' hf (hl e he hb hlt) e' he' hb'
theorem ready_front (hsp : splitB md full front nb news = true) (hpre : ∀ j, j < front.size → full[j]? = front[j]?) {L : Array Bool} (hL : L.size = front.size) (hC : Closed md front L) (hne : Region.ready md front L ≠ []) {i : Nat}
    (hi : i ∈ Region.ready md full (L ++ Array.replicate nb false)) : i < front.size ∧ i ∈ Region.ready md front L := by
  rcases Nat.lt_or_ge i front.size with hlt | hge
  · exact ⟨hlt, (ready_lt hsp hpre hL hlt).1 hi⟩
  · exfalso
    rw [mem_ready] at hi
    obtain ⟨_, o, ho, hall⟩ := hi
    apply hne
    rw [List.eq_nil_iff_forall_not_mem]
    intro k hk
    have hk' := mem_ready.1 hk
    obtain ⟨hk0, ok, hok, _⟩ := hk'
    have hkl : k < front.size := (Array.getElem?_eq_some_iff.1 hok).1
    have h1 : L.getD k false = true := by
      rcases split_back hsp ho hge with ⟨e, he, hb, hle⟩ | hw
      · exfalso
        have h0 := hall e he hb
        rw [Array.getD_eq_getD_getElem?, Array.getElem?_append_right (by omega), Array.getElem?_replicate] at h0
        split at h0 <;> simp at h0
      · exact waits_listed hC hkl 5 o (hw k hkl) fun e he hb hlt => by
          have h0 := hall e he hb
          rwa [app_lt false (by omega)] at h0
    rw [Array.getD_eq_getD_getElem?, Array.getElem?_eq_getElem (by omega)] at h1 hk0
    rw [Option.getD_some] at h1 hk0
    rw [h1] at hk0
    cases hk0

/-- What is asked of the new blocks' operations. -/
def NewOk (P : Program) (front : Array Oper) (news : List (Nat × Nat)) : Prop :=
  ∀ p ∈ news, ∀ o, front[p.1]? = some o → ∀ (ev : Operand → Value) (w : World), ∃ y, (execOp ev o).run P w = .ok (.value (.pointer (some ⟨w.heap.size, 0, none⟩))) y ∧ w.heap.size < y.heap.size

theorem Born.next (hsp : splitB md full front nb news = true) {L : Array Bool} (hL : L.size = front.size) {a : Act} {w w' : World} (hB : Born news L a w) (hw : w.heap.size ≤ w'.heap.size) {i : Nat} {o : Oper} (hi : front[i]? = some o) (hun : L.getD i true = false) {v : Value}
    (hv : (∃ p ∈ news, p.1 = i) → v = .pointer (some ⟨w.heap.size, 0, none⟩) ∧ w.heap.size < w'.heap.size) : Born news (L.setIfInBounds i true) (a.put o.dst v) w' := by
  have hlt : i < front.size := (Array.getElem?_eq_some_iff.1 hi).1
  have size : (a.put o.dst v).tmps.size = a.tmps.size := by unfold Act.put; split <;> simp
  have old : ∀ p ∈ news, p.1 ≠ i → (a.put o.dst v).tmps.getD p.2 undef = a.tmps.getD p.2 undef := fun p hp hne => by
    have h := (split_front hsp hi).2.2 p hp
    unfold Act.put
    cases hd : o.dst with
    | none => rfl
    | some d =>
      have : d ≠ p.2 := fun e => hne (h.2 (by rw [hd, e]))
      simp [Array.getElem?_setIfInBounds_ne this]
  have new : ∀ p ∈ news, p.1 = i → (a.put o.dst v).tmps.getD p.2 undef = .pointer (some ⟨w.heap.size, 0, none⟩) ∧ w.heap.size < w'.heap.size := fun p hp he => by
    have h := (split_front hsp hi).2.2 p hp
    obtain ⟨hv1, hv2⟩ := hv ⟨p, hp, he⟩
    refine ⟨?_, hv2⟩
    rw [h.1 he, hv1]
    have := hB.size p hp
    simp [Act.put, this]
  have unl : ∀ j, j ≠ i → (L.setIfInBounds i true).getD j false = L.getD j false := fun j hj => getD_set_ne false (Ne.symm hj)
  refine ⟨fun p hp => by rw [size]; exact hB.size p hp, fun p hp hl => ?_, fun p hp q hq hne hl1 hl2 => ?_⟩
  · by_cases e : p.1 = i
    · exact ⟨_, (new p hp e).1, (new p hp e).2⟩
    · rw [unl _ e] at hl
      obtain ⟨b, h1, h2⟩ := hB.lt p hp hl
      exact ⟨b, by rw [old p hp e]; exact h1, by omega⟩
  · by_cases e1 : p.1 = i
    · have e2 : q.1 ≠ i := fun e => hne (by rw [e1, e])
      rw [unl _ e2] at hl2
      obtain ⟨b, h1, h2⟩ := hB.lt q hq hl2
      rw [old q hq e2, (new p hp e1).1, h1]
      intro e
      injection e with e
      injection e with e
      injection e with e
      omega
    · rw [unl _ e1] at hl1
      by_cases e2 : q.1 = i
      · obtain ⟨b, h1, h2⟩ := hB.lt p hp hl1
        rw [old p hp e1, (new q hq e2).1, h1]
        intro e
        injection e with e
        injection e with e
        injection e with e
        omega
      · rw [unl _ e2] at hl2
        rw [old p hp e1, old q hq e2]
        exact hB.ne p hp q hq hne hl1 hl2

/-- The rest, behind all of the first ones. -/
def Back (P : Program) (md : Region.Mode) (full : Array Oper) (nf nb : Nat) (Q : Exit → Act → World → Prop) (a : Act) (w : World) : Prop :=
  ∀ n, wpAny P md full Q (n + nb) (Array.replicate nf true ++ Array.replicate nb false) a w

theorem wpAny_of_front (hsp : splitB md full front nb news = true) (hpre : ∀ j, j < front.size → full[j]? = front[j]?) (hnew : NewOk P front news)
    (hR : ∀ j w w', R j w w' → w.heap.size ≤ w'.heap.size) (hE : ∀ j w w', R j w w' → E w → E w') (hD : ∀ i j w w', i ≠ j → R j w w' → D i w → D i w')
    (hp : ∀ i c p, kinds i = .val c p → ∀ j w w', i ≠ j → R j w w' → p w → p w') (hm : ∀ i p, kinds i = .mem p → ∀ j v w w', i ≠ j → R j w w' → p v w → p v w') :
    ∀ (fuel : Nat) (L : Array Bool) (a : Act) (F : Nat → World → Prop) (w : World), L.size = front.size → Closed md front L → Born news L a w → E w → (∀ i, L.getD i true = false → D i w) → (∀ k, F k w) →
      (∀ j, L.getD j true = false → ∀ k w w', R j w w' → F k w → F k w') →
    wpAnyM P front R D E kinds (fun a w => Dist news a → Back P md full front.size nb Q a w) md fuel L a F → wpAny P md full Q (fuel + nb) (L ++ Array.replicate nb false) a w
  | 0, L, a, F, w, hL, _, hB, hw, _, hF, _, h => by
    have hall := all_rep hL fun i hi => all_of_none hsp hL h.1 (i + 1) i (Nat.lt_succ_self _) hi
    have hd : Dist news a := fun p hp q hq hne => hB.ne p hp q hq hne (by rw [hall]; simp [split_new hsp p hp]) (by rw [hall]; simp [split_new hsp q hq])
    have := h.2 w hw hF hd 0
    rw [hall]
    exact this
  | fuel + 1, L, a, F, w, hL, hC, hB, hw, hd, hF, hU, h => by
    by_cases hr : Region.ready md front L = []
    · have hall := all_rep hL fun i hi => all_of_none hsp hL hr (i + 1) i (Nat.lt_succ_self _) hi
      have hd : Dist news a := fun p hp q hq hne => hB.ne p hp q hq hne (by rw [hall]; simp [split_new hsp p hp]) (by rw [hall]; simp [split_new hsp q hq])
      have := h.1 hr w hw hF hd (fuel + 1)
      rw [hall]
      exact this
    · rw [show fuel + 1 + nb = (fuel + nb) + 1 by omega]
      refine ⟨fun e => ?_, fun i hi => ?_⟩
      · exfalso
        apply hr
        rw [List.eq_nil_iff_forall_not_mem]
        intro k hk
        obtain ⟨_, ok, hok, _⟩ := mem_ready.1 hk
        have := (ready_lt hsp hpre (r := Array.replicate nb false) hL (Array.getElem?_eq_some_iff.1 hok).1).2 hk
        rw [e] at this
        cases this
      · obtain ⟨hif, hi'⟩ := ready_front hsp hpre hL hC hr hi
        have h1 := h.2 i hi'
        have hun : L.getD i true = false := (mem_ready.1 hi').1
        have hlt : i < L.size := by omega
        have hsz' : (L.setIfInBounds i true).size = front.size := by simpa using hL
        have sub : ∀ j, (L.setIfInBounds i true).getD j true = false → j ≠ i ∧ L.getD j true = false := fun j hj => by
          by_cases e : i = j
          · subst e; simp [hlt] at hj
          · exact ⟨fun e' => e e'.symm, by rwa [getD_set_ne true e] at hj⟩
        have upF : ∀ (o : Oper) j, L.getD j true = false → ∀ w w', R j w w' → factsAt front F o w → factsAt front F o w' := fun o j hj w w' hr hf k ok d a1 a2 a3 => hU j hj k w w' hr (hf k ok d a1 a2 a3)
        have ho : front[i]? = some front[i] := Array.getElem?_eq_getElem hif
        obtain ⟨o, hoo⟩ : ∃ o, o = front[i] := ⟨_, rfl⟩
        rw [← hoo] at ho
        have goOn : ∀ (v : Value) (f : World → Prop) (w' : World), R i w w' → f w' → (∀ j, i ≠ j → L.getD j true = false → ∀ x y, R j x y → f x → f y) → ((∃ p ∈ news, p.1 = i) → v = .pointer (some ⟨w.heap.size, 0, none⟩) ∧ w.heap.size < w'.heap.size) →
            wpAnyM P front R D E kinds (fun a w => Dist news a → Back P md full front.size nb Q a w) md fuel (L.setIfInBounds i true) (a.put o.dst v) (updF F i f) → wpAny P md full Q (fuel + nb) ((L ++ Array.replicate nb false).setIfInBounds i true) (a.put o.dst v) w' := by
          intro v f w' hri hf hu hv hk
          rw [app_set hlt]
          refine wpAny_of_front hsp hpre hnew hR hE hD hp hm fuel _ _ _ w' hsz' (hC.next hi') (Born.next hsp hL hB (hR _ _ _ hri) ho hun hv) (hE _ _ _ hri hw) (fun j hj => ?_) (fun k => ?_) (fun j hj k x y hxy => ?_) hk
          · obtain ⟨h2, h3⟩ := sub j hj
            exact hD j i _ _ h2 hri (hd j h3)
          · unfold updF
            by_cases e : k = i
            · rw [if_pos e]; exact hf
            · rw [if_neg e]; exact hU i hun k _ _ hri (hF k)
          · obtain ⟨h2, h3⟩ := sub j hj
            unfold updF
            by_cases e : k = i
            · rw [if_pos e]; exact hu j (fun e => h2 e.symm) h3 x y hxy
            · rw [if_neg e]; exact hU j h3 k _ _ hxy
        unfold mOp at h1
        unfold wpOp
        rw [hpre i hif, ho]
        rw [ho] at h1
        dsimp only at h1 ⊢
        unfold mStep at h1
        have fo : factsAt front F o w := fun k ok d _ _ _ => hF k
        have hg := (split_front hsp ho).1
        have hwt : ∀ y, Region.wanted o y = true := fun y => by simp [Region.wanted, hg]
        rw [if_pos (hwt _)] at h1
        rw [if_pos (hwt _)]
        left
        have hN : (∃ p ∈ news, p.1 = i) → ∃ y, (execOp a.eval o).run P w = .ok (.value (.pointer (some ⟨w.heap.size, 0, none⟩))) y ∧ w.heap.size < y.heap.size := by
          rintro ⟨p, hp, rfl⟩
          exact hnew p hp o ho a.eval w
        cases ki : kinds i with
        | pure =>
          simp only [ki] at h1
          obtain ⟨c, hc, h1⟩ := h1
          unfold Oper.wp
          rw [hc w]
          have hno : ¬ ∃ p ∈ news, p.1 = i := fun hh => by
            obtain ⟨y, hy1, hy2⟩ := hN hh
            rw [hc w] at hy1
            injection hy1 with h1 h2
            rw [h2] at hy2
            exact Nat.lt_irrefl _ hy2
          show wpAny P md full Q (fuel + nb) ((L ++ Array.replicate nb false).setIfInBounds i true) (a.put o.dst c) w
          rw [app_set hlt]
          refine wpAny_of_front hsp hpre hnew hR hE hD hp hm fuel _ _ _ w hsz' (hC.next hi') (Born.next hsp hL hB (Nat.le_refl _) ho hun (fun hh => absurd hh hno)) hw (fun j hj => hd j (sub j hj).2) (fun k => ?_) (fun j hj k x y hxy => ?_) h1
          · unfold updF
            by_cases e : k = i
            · rw [if_pos e]; exact fo
            · rw [if_neg e]; exact hF k
          · obtain ⟨h2, h3⟩ := sub j hj
            unfold updF
            by_cases e : k = i
            · rw [if_pos e]; exact upF o j h3 x y hxy
            · rw [if_neg e]; exact hU j h3 k _ _ hxy
        | val c p =>
          simp only [ki] at h1
          obtain ⟨hc, h1⟩ := h1
          have h2 := hc w (hd i hun) fo
          have hu : ∀ j, i ≠ j → L.getD j true = false → ∀ x y, R j x y → (p x ∧ factsAt front F o x) → (p y ∧ factsAt front F o y) := fun j hij hj x y hxy hf => ⟨hp i c p ki j x y hij hxy hf.1, upF o j hj x y hxy hf.2⟩
          have hfo : ∀ y, R i w y → factsAt front F o y := fun y hr => upF o i hun w y hr fo
          unfold Oper.wp
          generalize (execOp a.eval o).run P w = r at *
          cases r with
          | ok n w' =>
            cases n <;> simp only [growUpon] at h2 <;> simp only [Oper.upon]
            case value u =>
              obtain ⟨hr, rfl, hpw⟩ := h2
              exact goOn u _ w' hr ⟨hpw, hfo _ hr⟩ hu (fun hh => by obtain ⟨y, e, hy⟩ := hN hh; injection e with e1 e2; injection e1 with e1; exact ⟨e1, by rw [e2]; exact hy⟩) h1
            case skip => obtain ⟨hr, rfl, hpw⟩ := h2; exact goOn undef _ w' hr ⟨hpw, hfo _ hr⟩ hu (fun hh => by obtain ⟨y, e, hy⟩ := hN hh; injection e with e1 e2; cases e1) h1
            case enter f args => exact Calls.mono h2 fun e w'' ⟨v, he, hr, hv, hpw⟩ => by subst he; subst hv; exact goOn v _ w'' hr ⟨hpw, hfo _ hr⟩ hu (fun hh => by obtain ⟨y, e, hy⟩ := hN hh; injection e with e1 e2; cases e1) h1
          | halt x w' => simp only [growUpon] at h2
        | mem p =>
          simp only [ki] at h1
          obtain ⟨hc, h1⟩ := h1
          have h2 := hc w (hd i hun) fo
          have hu : ∀ v j, i ≠ j → L.getD j true = false → ∀ x y, R j x y → (p v x ∧ factsAt front F o x) → (p v y ∧ factsAt front F o y) := fun v j hij hj x y hxy hf => ⟨hm i p ki j v x y hij hxy hf.1, upF o j hj x y hxy hf.2⟩
          have hfo : ∀ y, R i w y → factsAt front F o y := fun y hr => upF o i hun w y hr fo
          unfold Oper.wp
          generalize (execOp a.eval o).run P w = r at *
          cases r with
          | ok n w' =>
            cases n <;> simp only [growUpon] at h2 <;> simp only [Oper.upon]
            case value u =>
              obtain ⟨hr, hpw⟩ := h2
              exact goOn u _ w' hr ⟨hpw, hfo _ hr⟩ (hu u) (fun hh => by obtain ⟨y, e, hy⟩ := hN hh; injection e with e1 e2; injection e1 with e1; exact ⟨e1, by rw [e2]; exact hy⟩) (h1 u)
            case skip => obtain ⟨hr, hpw⟩ := h2; exact goOn undef _ w' hr ⟨hpw, hfo _ hr⟩ (hu undef) (fun hh => by obtain ⟨y, e, hy⟩ := hN hh; injection e with e1 e2; cases e1) (h1 undef)
            case enter f args => exact Calls.mono h2 fun e w'' ⟨v, he, hr, hpw⟩ => by subst he; exact goOn v _ w'' hr ⟨hpw, hfo _ hr⟩ (hu v) (fun hh => by obtain ⟨y, e, hy⟩ := hN hh; injection e with e1 e2; cases e1) (h1 v)
          | halt x w' => simp only [growUpon] at h2

theorem wpMono_fin {ops : Array Oper} {fin fin' : Act → World → Prop} (hf : ∀ a w, fin a w → fin' a w) : ∀ (l : List Oper) (i : Nat) (a : Act) (F : Nat → World → Prop), wpMono P ops R D E kinds fin i l a F → wpMono P ops R D E kinds fin' i l a F
  | [], _, _, _, h => fun w h1 h2 => hf _ _ (h w h1 h2)
  | _ :: rest, i, _, _, h => mStep_mono (fun a F hh => wpMono_fin hf rest (i + 1) a F hh) h

/-- **THE FIRST nf OPERATIONS BY ONE WALK IN THE TEXT'S ORDER, the others, one behind the other, by the plain walk.** -/
theorem wp_region_front {id : Nat} {l : List Oper} {a : Act} {w : World} (nf : Nat) (news : List (Nat × Nat)) (R : Nat → World → World → Prop) (D : Nat → World → Prop) (E : World → Prop) (K : List (Nat × Kind)) (hmix : P.follows .mixedOrders = true)
    (hsp : splitB .any l.toArray (l.take nf).toArray (l.drop nf).length news = true) (hB : Region.lexB .any (l.take nf).toArray = true)
    (hseq : seqFrom .any l.toArray (l.drop nf).length nf (Array.replicate nf true ++ Array.replicate (l.drop nf).length false) = true) (hnf : nf ≤ l.length)
    (hnew : NewOk P (l.take nf).toArray news) (hslots : ∀ p ∈ news, p.2 < a.tmps.size)
    (hR : ∀ j w w', R j w w' → w.heap.size ≤ w'.heap.size) (hE : ∀ j w w', R j w w' → E w → E w') (hD : ∀ i j w w', i ≠ j → R j w w' → D i w → D i w')
    (hup : ∀ x ∈ K, x.2.up R x.1) (hw : E w.drew) (hd : ∀ i, D i w.drew)
    (h : wpMono P (l.take nf).toArray R D E (kindsOf K) (fun a w => Dist news a → wpList P l.toArray Q (l.drop nf) a w) 0 (l.take nf) a (fun _ _ => True)) : (Code.region id l.toArray true).wp P Q a w := by
  have hsz : (l.take nf).toArray.size = nf := by simp; omega
  have hfull : l.toArray.size = nf + (l.drop nf).length := by simp; omega
  simp only [Region.lexB, Bool.and_eq_true] at hB
  refine wp_region_any hmix ?_
  rw [hfull]
  have hrep : Array.replicate (nf + (l.drop nf).length) false = Array.replicate nf false ++ Array.replicate (l.drop nf).length false := by
    apply Array.ext'
    simp [List.replicate_append_replicate]
  rw [hrep]
  refine wpAny_of_front (md := .any) (front := (l.take nf).toArray) (R := R) (D := D) (E := E) (kinds := kindsOf K) hsp (fun j hj => ?_) hnew hR hE hD
    (fun i c p e => by have := kindsOf_up hup i; rw [e] at this; exact this) (fun i p e => by have := kindsOf_up hup i; rw [e] at this; exact this)
    nf _ _ (fun _ _ => True) _ (by rw [hsz]; simp) (fun i o ho hl => ?_) ⟨hslots, fun p _ hl => ?_, fun p _ q _ _ hl _ => ?_⟩ hw (fun i _ => hd i) (fun _ => trivial) (fun _ _ _ _ _ _ _ => trivial) ?_
  · rw [hsz] at hj
    simp [hj]
  · exfalso
    rw [Array.getD_eq_getD_getElem?, Array.getElem?_replicate] at hl
    split at hl <;> simp at hl
  · exfalso
    rw [Array.getD_eq_getD_getElem?, Array.getElem?_replicate] at hl
    split at hl <;> simp at hl
  · exfalso
    rw [Array.getD_eq_getD_getElem?, Array.getElem?_replicate] at hl
    split at hl <;> simp at hl
  · have h2 := wpAnyM_lex (P := P) (R := R) (D := D) (E := E) (kinds := kindsOf K) (fin := fun a w => Dist news a → Back P .any l.toArray (l.take nf).toArray.size (l.drop nf).length Q a w) (md := .any) hB.1 (l.take nf) 0 (Array.replicate (l.take nf).length false) a (fun _ _ => True) (by simp) (by simpa using hB.2) ?_
    · rw [List.length_take, Nat.min_eq_left hnf] at h2
      exact h2
    · refine wpMono_fin (fun a w hh hd n => ?_) _ _ _ _ h
      rw [hsz]
      exact wpAny_seq (l.drop nf) nf _ a w n (fun j => by simp) hseq (hh hd)
end
end M3
open M2
namespace WM
section
variable {P : Program} {ops : Array Oper} {R : Nat → World → World → Prop} {D : Nat → World → Prop} {E : World → Prop} {kinds : Nat → Kind} {fin : Act → World → Prop}
theorem wp_region_front {Q : Exit → Act → World → Prop} {id : Nat} {l : List Oper} {a : Act} {w : World} (nf : Nat) (news : List (Nat × Nat)) (R : Nat → World → World → Prop) (D : Nat → World → Prop) (E : World → Prop) (K : List (Nat × Kind)) (hmix : P.follows .mixedOrders = true)
    (hsp : M3.splitB .any l.toArray (l.take nf).toArray (l.drop nf).length news = true) (hB : Region.lexB .any (l.take nf).toArray = true)
    (hseq : M3.seqFrom .any l.toArray (l.drop nf).length nf (Array.replicate nf true ++ Array.replicate (l.drop nf).length false) = true) (hnf : nf ≤ l.length)
    (hnew : M3.NewOk P (l.take nf).toArray news) (hslots : ∀ p ∈ news, p.2 < a.tmps.size)
    (hR : ∀ j w w', R j w w' → w.heap.size ≤ w'.heap.size) (hE : ∀ j w w', R j w w' → E w → E w') (hD : ∀ i j w w', i ≠ j → R j w w' → D i w → D i w')
    (hup : ∀ x ∈ K, x.2.up R x.1) (hw : E w.drew) (hd : ∀ i, D i w.drew)
    (h : WM P (l.take nf).toArray R D E (kindsOf K) (fun a w => M3.Dist news a → wpList P l.toArray Q (l.drop nf) a w) 0 (l.take nf) a (fun _ _ => True)) : (Code.region id l.toArray true).wp P Q a w :=
  M3.wp_region_front nf news R D E K hmix hsp hB hseq hnf hnew hslots hR hE hD hup hw hd h.out
end
end WM
end Go.Proofs.YtdbhboglccggdaaGreatDoor
