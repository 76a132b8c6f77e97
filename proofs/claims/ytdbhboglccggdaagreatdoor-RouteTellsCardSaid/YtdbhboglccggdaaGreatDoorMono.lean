/- A region whose order is open, whose operations make memory and call: one walk in the text's order serves every order, where what is said of each operation's value stays true as the world grows. -/
import Derived.Orders
import Derived.Still
import Derived.Tactics
set_option linter.unusedVariables false
set_option linter.unusedSimpArgs false
namespace Go.Proofs.YtdbhboglccggdaaGreatDoor

/-- What is said of an operation: it only reckons (pure); it comes to the value c, and then p holds of the world (val); it comes to some value of which, with the world, p holds (mem). -/
inductive Kind where
  | pure
  | val (c : Value) (p : World → Prop)
  | mem (p : Value → World → Prop)

section
variable (P : Program) (ops : Array Oper) (R : World → World → Prop) (D : World → Prop) (kinds : Nat → Kind) (fin : Act → World → Prop)

def growUpon (w : World) (p : Value → World → Prop) : Result Next → Prop
  | .ok (.value u) w' => R w w' ∧ p u w'
  | .ok .skip w' => R w w' ∧ p undef w'
  | .ok (.enter f args) w' => Calls P f args w' fun e w'' => ∃ v, e = .returned v ∧ R w w'' ∧ p v w''
  | _ => False

def factsAt (F : Nat → World → Prop) (o : Oper) (w : World) : Prop := ∀ k ok d, ops[k]? = some ok → ok.dst = some d → d ∈ o.looksAt ops → F k w
def updF (F : Nat → World → Prop) (k : Nat) (p : World → Prop) : Nat → World → Prop := fun j => if j = k then p else F j

/-- Operation number i, which is o, comes up. -/
def mStep (i : Nat) (o : Oper) (K : Act → (Nat → World → Prop) → Prop) (a : Act) (F : Nat → World → Prop) : Prop :=
  if Region.wanted o (yielded ops a.tmps) = true then
    match kinds i with
    | .pure => ∃ c, (∀ w, (execOp a.eval o).run P w = .ok (.value c) w) ∧ K (a.put o.dst c) (updF F i (factsAt ops F o))
    | .val c p => (∀ w, D w → factsAt ops F o w → growUpon P R w (fun v w' => v = c ∧ p w') ((execOp a.eval o).run P w)) ∧ K (a.put o.dst c) (updF F i fun w => p w ∧ factsAt ops F o w)
    | .mem p => (∀ w, D w → factsAt ops F o w → growUpon P R w p ((execOp a.eval o).run P w)) ∧ ∀ v, K (a.put o.dst v) (updF F i fun w => p v w ∧ factsAt ops F o w)
  else K (a.put o.dst undef) (updF F i fun _ => True)

def mOp (i : Nat) (K : Act → (Nat → World → Prop) → Prop) (a : Act) (F : Nat → World → Prop) : Prop :=
  match ops[i]? with
  | none => K a F
  | some o => mStep P ops R D kinds i o K a F

/-- The walk in the text's order. -/
def wpMono : Nat → List Oper → Act → (Nat → World → Prop) → Prop
  | _, [], a, F => ∀ w, D w → (∀ k, F k w) → fin a w
  | i, o :: rest, a, F => mStep P ops R D kinds i o (wpMono (i + 1) rest) a F

/-- Whatever order is picked. -/
def wpAnyM (md : Region.Mode) : Nat → Array Bool → Act → (Nat → World → Prop) → Prop
  | 0, listed, a, F => Region.ready md ops listed = [] ∧ ∀ w, D w → (∀ k, F k w) → fin a w
  | fuel + 1, listed, a, F =>
    (Region.ready md ops listed = [] → ∀ w, D w → (∀ k, F k w) → fin a w) ∧
    ∀ i ∈ Region.ready md ops listed, mOp P ops R D kinds i (wpAnyM md fuel (listed.setIfInBounds i true)) a F
end

section
variable {P : Program} {ops : Array Oper} {R : World → World → Prop} {D : World → Prop} {kinds : Nat → Kind} {fin : Act → World → Prop} {md : Region.Mode}

theorem updF_comm (F : Nat → World → Prop) {i j : Nat} (h : i ≠ j) (p q : World → Prop) : updF (updF F i p) j q = updF (updF F j q) i p := by
  funext k
  unfold updF
  by_cases h1 : k = j
  · subst h1
    rw [if_pos rfl, if_neg (Ne.symm h), if_pos rfl]
  · rw [if_neg h1]
    by_cases h2 : k = i
    · rw [if_pos h2, if_pos h2]
    · rw [if_neg h2, if_neg h2, if_neg h1]
theorem factsAt_upd {F : Nat → World → Prop} {o oj : Oper} {j : Nat} {p : World → Prop} (hj : ops[j]? = some oj) (h : ∀ d, oj.dst = some d → d ∉ o.looksAt ops) : factsAt ops (updF F j p) o = factsAt ops F o := by
  funext w
  apply propext
  constructor
  · intro hf k ok d h1 h2 h3
    have := hf k ok d h1 h2 h3
    unfold updF at this
    by_cases e : k = j
    · subst e
      have : ok = oj := Option.some.inj (h1.symm.trans hj)
      subst this
      exact absurd h3 (h d h2)
    · rwa [if_neg e] at this
  · intro hf k ok d h1 h2 h3
    unfold updF
    by_cases e : k = j
    · subst e
      have : ok = oj := Option.some.inj (h1.symm.trans hj)
      subst this
      exact absurd h3 (h d h2)
    · rw [if_neg e]; exact hf k ok d h1 h2 h3

/-- Two operations that are apart: their order is of no matter. -/
theorem mStep_swap {i j : Nat} {oi oj : Oper} (hij : i ≠ j) (hi : ops[i]? = some oi) (hj : ops[j]? = some oj) (hap : oi.apart ops oj = true)
    (hsi : ∀ cs b, oi.op ≠ .select cs b) (hsj : ∀ cs b, oj.op ≠ .select cs b) {K : Act → (Nat → World → Prop) → Prop} {a : Act} {F : Nat → World → Prop}
    (h : mStep P ops R D kinds i oi (mStep P ops R D kinds j oj K) a F) : mStep P ops R D kinds j oj (mStep P ops R D kinds i oi K) a F := by
  obtain ⟨h1, h2, h3⟩ := Oper.apart_spec hap
  have ei : ∀ u, execOp (a.put oj.dst u).eval oi = execOp a.eval oi := fun u => execOp_put oi hsi a oj.dst u h3
  have ej : ∀ v, execOp (a.put oi.dst v).eval oj = execOp a.eval oj := fun v => execOp_put oj hsj a oi.dst v h1
  have wi : ∀ u, Region.wanted oi (yielded ops (a.put oj.dst u).tmps) = Region.wanted oi (yielded ops a.tmps) := fun u => wanted_put oi a oj.dst u h3
  have wj : ∀ v, Region.wanted oj (yielded ops (a.put oi.dst v).tmps) = Region.wanted oj (yielded ops a.tmps) := fun v => wanted_put oj a oi.dst v h1
  have fi : ∀ p, factsAt ops (updF F j p) oi = factsAt ops F oi := fun p => factsAt_upd hj h3
  have fj : ∀ p, factsAt ops (updF F i p) oj = factsAt ops F oj := fun p => factsAt_upd hi h1
  have cm : ∀ v u, (a.put oi.dst v).put oj.dst u = (a.put oj.dst u).put oi.dst v := fun v u => Act.put_comm a v u h2
  have cf : ∀ p q, updF (updF F i p) j q = updF (updF F j q) i p := fun p q => updF_comm F hij p q
  unfold mStep at *
  by_cases hwi : Region.wanted oi (yielded ops a.tmps) = true
  · rw [if_pos hwi] at h
    by_cases hwj : Region.wanted oj (yielded ops a.tmps) = true
    · rw [if_pos hwj]
      cases ki : kinds i with
      | pure =>
        simp only [ki, wj, hwj, if_true, fj, ej] at h
        obtain ⟨c, hc, h⟩ := h
        cases kj : kinds j with
        | pure =>
          simp only [kj] at h ⊢
          obtain ⟨d, hd, h⟩ := h
          refine ⟨d, hd, ?_⟩
          rw [if_pos (by rw [wi]; exact hwi)]
          refine ⟨c, by rw [ei]; exact hc, ?_⟩
          rw [fi, ← cm, ← cf]; exact h
        | val d q =>
          simp only [kj] at h ⊢
          refine ⟨h.1, ?_⟩
          rw [if_pos (by rw [wi]; exact hwi)]
          refine ⟨c, by rw [ei]; exact hc, ?_⟩
          rw [fi, ← cm, ← cf]; exact h.2
        | mem q =>
          simp only [kj] at h ⊢
          refine ⟨h.1, fun u => ?_⟩
          rw [if_pos (by rw [wi]; exact hwi)]
          refine ⟨c, by rw [ei]; exact hc, ?_⟩
          rw [fi, ← cm, ← cf]; exact h.2 u
      | val c p =>
        simp only [ki, wj, hwj, if_true, fj, ej] at h
        obtain ⟨hc, h⟩ := h
        cases kj : kinds j with
        | pure =>
          simp only [kj] at h ⊢
          obtain ⟨d, hd, h⟩ := h
          refine ⟨d, hd, ?_⟩
          rw [if_pos (by rw [wi]; exact hwi)]
          refine ⟨by rw [ei, fi]; exact hc, ?_⟩
          rw [fi, ← cm, ← cf]; exact h
        | val d q =>
          simp only [kj] at h ⊢
          refine ⟨h.1, ?_⟩
          rw [if_pos (by rw [wi]; exact hwi)]
          refine ⟨by rw [ei, fi]; exact hc, ?_⟩
          rw [fi, ← cm, ← cf]; exact h.2
        | mem q =>
          simp only [kj] at h ⊢
          refine ⟨h.1, fun u => ?_⟩
          rw [if_pos (by rw [wi]; exact hwi)]
          refine ⟨by rw [ei, fi]; exact hc, ?_⟩
          rw [fi, ← cm, ← cf]; exact h.2 u
      | mem p =>
        simp only [ki, wj, hwj, if_true, fj, ej] at h
        obtain ⟨hc, h⟩ := h
        cases kj : kinds j with
        | pure =>
          simp only [kj] at h ⊢
          obtain ⟨d, hd, _⟩ := h undef
          refine ⟨d, hd, ?_⟩
          rw [if_pos (by rw [wi]; exact hwi)]
          refine ⟨by rw [ei, fi]; exact hc, fun v => ?_⟩
          obtain ⟨d', hd', h'⟩ := h v
          have e : d' = d := by
            have h1 := hd default
            rw [hd' default] at h1
            injection h1 with h1
            injection h1
          subst e
          rw [fi, ← cm, ← cf]; exact h'
        | val d q =>
          simp only [kj] at h ⊢
          refine ⟨(h undef).1, ?_⟩
          rw [if_pos (by rw [wi]; exact hwi)]
          refine ⟨by rw [ei, fi]; exact hc, fun v => ?_⟩
          rw [fi, ← cm, ← cf]; exact (h v).2
        | mem q =>
          simp only [kj] at h ⊢
          refine ⟨(h undef).1, fun u => ?_⟩
          rw [if_pos (by rw [wi]; exact hwi)]
          refine ⟨by rw [ei, fi]; exact hc, fun v => ?_⟩
          rw [fi, ← cm, ← cf]; exact (h v).2 u
    · rw [if_neg hwj]
      rw [if_pos (by rw [wi]; exact hwi)]
      cases ki : kinds i with
      | pure =>
        simp only [ki, wj] at h ⊢
        obtain ⟨c, hc, h⟩ := h
        rw [if_neg hwj] at h
        refine ⟨c, by rw [ei]; exact hc, ?_⟩
        rw [fi, ← cm, ← cf]; exact h
      | val c p =>
        simp only [ki, wj] at h ⊢
        obtain ⟨hc, h⟩ := h
        rw [if_neg hwj] at h
        refine ⟨by rw [ei, fi]; exact hc, ?_⟩
        rw [fi, ← cm, ← cf]; exact h
      | mem p =>
        simp only [ki, wj] at h ⊢
        obtain ⟨hc, h⟩ := h
        refine ⟨by rw [ei, fi]; exact hc, fun v => ?_⟩
        have h := h v
        rw [if_neg hwj] at h
        rw [fi, ← cm, ← cf]; exact h
  · rw [if_neg hwi, wj] at h
    by_cases hwj : Region.wanted oj (yielded ops a.tmps) = true
    · rw [if_pos hwj] at h ⊢
      cases kj : kinds j with
      | pure =>
        simp only [kj, fj, ej] at h ⊢
        obtain ⟨d, hd, h⟩ := h
        refine ⟨d, hd, ?_⟩
        rw [if_neg (by rw [wi]; exact hwi), ← cm, ← cf]; exact h
      | val d q =>
        simp only [kj, fj, ej] at h ⊢
        refine ⟨h.1, ?_⟩
        rw [if_neg (by rw [wi]; exact hwi), ← cm, ← cf]; exact h.2
      | mem q =>
        simp only [kj, fj, ej] at h ⊢
        refine ⟨h.1, fun u => ?_⟩
        rw [if_neg (by rw [wi]; exact hwi), ← cm, ← cf]; exact h.2 u
    · rw [if_neg hwj] at h ⊢
      rw [if_neg (by rw [wi]; exact hwi), ← cm, ← cf]; exact h

theorem mStep_mono {i : Nat} {o : Oper} {K K' : Act → (Nat → World → Prop) → Prop} {a : Act} {F : Nat → World → Prop} (hk : ∀ a F, K a F → K' a F) (h : mStep P ops R D kinds i o K a F) : mStep P ops R D kinds i o K' a F := by
  unfold mStep at *
  by_cases hw : Region.wanted o (yielded ops a.tmps) = true
  · rw [if_pos hw] at h ⊢
    cases ki : kinds i with
    | pure =>
      simp only [ki] at h ⊢
      obtain ⟨c, hc, h⟩ := h
      exact ⟨c, hc, hk _ _ h⟩
    | val c p =>
      simp only [ki] at h ⊢
      exact ⟨h.1, hk _ _ h.2⟩
    | mem p =>
      simp only [ki] at h ⊢
      exact ⟨h.1, fun v => hk _ _ (h.2 v)⟩
  · rw [if_neg hw] at h ⊢
    exact hk _ _ h

theorem wpAnyM_first {i : Nat} {oi : Oper} (hi : ops[i]? = some oi) (hsel : ∀ (j : Nat) (o : Oper) cs b, ops[j]? = some o → o.op ≠ .select cs b) :
    ∀ (fuel : Nat) (listed : Array Bool) (a : Act) (F : Nat → World → Prop),
      (∀ j oj, ops[j]? = some oj → j ≠ i → listed.getD j true = false → (∀ e ∈ oj.after, Region.binds md e = true → e.on ≠ i) → oi.apart ops oj = true) →
      i ∈ Region.ready md ops listed →
      mStep P ops R D kinds i oi (wpAnyM P ops R D kinds fin md fuel (listed.setIfInBounds i true)) a F → wpAnyM P ops R D kinds fin md (fuel + 1) listed a F := by
  intro fuel
  induction fuel with
  | zero =>
    intro listed a F _ hr H
    refine ⟨fun h => (by rw [h] at hr; cases hr), fun j hj => ?_⟩
    by_cases hji : j = i
    · subst hji
      unfold mOp; rw [hi]; exact H
    · have := ready_mono hj hji
      have hready : Region.ready md ops (listed.setIfInBounds i true) = [] := by
        unfold mStep at H
        by_cases hw : Region.wanted oi (yielded ops a.tmps) = true
        · rw [if_pos hw] at H
          cases ki : kinds i with
          | pure => simp only [ki] at H; obtain ⟨_, _, h, _⟩ := H; exact h
          | val c p => simp only [ki] at H; exact H.2.1
          | mem p => simp only [ki] at H; exact (H.2 undef).1
        · rw [if_neg hw] at H
          exact H.1
      rw [hready] at this
      cases this
  | succ fuel ih =>
    intro listed a F hfree hr H
    refine ⟨fun h => (by rw [h] at hr; cases hr), fun j hj => ?_⟩
    by_cases hji : j = i
    · subst hji
      unfold mOp; rw [hi]; exact H
    · obtain ⟨hjun, oj, hoj, hall⟩ := mem_ready.1 hj
      have hnot : ∀ e ∈ oj.after, Region.binds md e = true → e.on ≠ i := fun e he hb heq => by
        have h1 := hall e he hb
        have h0 := (mem_ready.1 hr).1
        rw [heq] at h1
        rcases Nat.lt_or_ge i listed.size with h' | h'
        · simp [h'] at h0 h1; rw [h0] at h1; cases h1
        · simp [Array.getElem?_eq_none h'] at h1
      have hap := hfree j oj hoj hji hjun hnot
      have H2 : mStep P ops R D kinds i oi (mStep P ops R D kinds j oj (wpAnyM P ops R D kinds fin md fuel ((listed.setIfInBounds i true).setIfInBounds j true))) a F :=
        mStep_mono (fun a' F' h => by
          have h3 := h.2 j (ready_mono hj hji)
          unfold mOp at h3; rw [hoj] at h3; exact h3) H
      have H3 := mStep_swap (Ne.symm hji) hi hoj hap (fun cs b => hsel i oi cs b hi) (fun cs b => hsel j oj cs b hoj) H2
      have hfree' : ∀ k ok, ops[k]? = some ok → k ≠ i → (listed.setIfInBounds j true).getD k true = false →
          (∀ e ∈ ok.after, Region.binds md e = true → e.on ≠ i) → oi.apart ops ok = true := fun k ok hk hki hun hno => by
        refine hfree k ok hk hki ?_ hno
        by_cases hjk : j = k
        · subst hjk; exact hjun
        · rw [getD_set_ne true hjk] at hun; exact hun
      unfold mOp
      rw [hoj]
      refine mStep_mono (fun a' F' h => ih (listed.setIfInBounds j true) a' F' hfree' (ready_mono hr (Ne.symm hji)) ?_) H3
      rw [Array.setIfInBounds_comm _ _ hji]
      exact h

theorem wpAnyM_lex (hs : Region.noSelect ops = true) : ∀ (l : List Oper) (k : Nat) (listed : Array Bool) (a : Act) (F : Nat → World → Prop), (∀ j, l[j]? = ops[k + j]?) →
    Region.lexFrom md ops l.length k listed = true → wpMono P ops R D kinds fin k l a F → wpAnyM P ops R D kinds fin md l.length listed a F
  | [], _, _, _, _, _, hB, h => ⟨by simpa [Region.lexFrom] using hB, h⟩
  | o :: l, k, listed, a, F, hl, hB, h => by
    have h0 : ops[k]? = some o := by simpa using (hl 0).symm
    simp only [List.length_cons, Region.lexFrom, Bool.and_eq_true] at hB
    obtain ⟨⟨hr, hf⟩, hB'⟩ := hB
    exact wpAnyM_first h0 (Region.noSelect_spec hs) l.length listed a F (Region.free_spec h0 hf) (by simpa using hr)
      (mStep_mono (fun a' F' h' => wpAnyM_lex hs l (k + 1) _ a' F' (fun j => by have := hl (j + 1); simpa [Nat.add_assoc, Nat.add_comm 1 j] using this) hB' h') h)

variable {Q : Exit → Act → World → Prop}
/-- It is a 'wpAny', from every world of the class in which what is known holds. -/
theorem wpAny_of_mono (hD : ∀ w w', R w w' → D w → D w') (hp : ∀ i c p, kinds i = .val c p → ∀ w w', R w w' → p w → p w') (hm : ∀ i p, kinds i = .mem p → ∀ v w w', R w w' → p v w → p v w') :
    ∀ (fuel : Nat) (listed : Array Bool) (a : Act) (F : Nat → World → Prop) (w : World), D w → (∀ k, F k w) → (∀ k w w', R w w' → F k w → F k w') →
    wpAnyM P ops R D kinds (fun a w => Q .normal a w) md fuel listed a F → wpAny P md ops Q fuel listed a w
  | 0, _, _, _, w, hw, hF, _, h => ⟨h.1, h.2 w hw hF⟩
  | fuel + 1, listed, a, F, w, hw, hF, hU, h => by
    refine ⟨fun h0 => h.1 h0 w hw hF, fun i hi => ?_⟩
    have h1 := h.2 i hi
    have upF : ∀ (o : Oper) w w', R w w' → factsAt ops F o w → factsAt ops F o w' := fun o w w' hr hf k ok d a1 a2 a3 => hU k w w' hr (hf k ok d a1 a2 a3)
    have goOn : ∀ (o : Oper) (v : Value) (f : World → Prop) (w' : World), R w w' → f w' → (∀ x y, R x y → f x → f y) →
        wpAnyM P ops R D kinds (fun a w => Q .normal a w) md fuel (listed.setIfInBounds i true) (a.put o.dst v) (updF F i f) → wpAny P md ops Q fuel (listed.setIfInBounds i true) (a.put o.dst v) w' := by
      intro o v f w' hr hf hu hk
      refine wpAny_of_mono hD hp hm fuel _ _ _ w' (hD _ _ hr hw) (fun k => ?_) (fun k x y hxy => ?_) hk
      · unfold updF
        by_cases e : k = i
        · rw [if_pos e]; exact hf
        · rw [if_neg e]; exact hU k _ _ hr (hF k)
      · unfold updF
        by_cases e : k = i
        · rw [if_pos e]; exact hu x y hxy
        · rw [if_neg e]; exact hU k _ _ hxy
    unfold mOp at h1
    unfold wpOp
    cases ho : ops[i]? with
    | none =>
      rw [ho] at h1
      exact wpAny_of_mono hD hp hm fuel _ _ _ w hw hF hU h1
    | some o =>
      rw [ho] at h1
      dsimp only at h1 ⊢
      unfold mStep at h1
      have fo : factsAt ops F o w := fun k ok d _ _ _ => hF k
      by_cases hwt : Region.wanted o (yielded ops a.tmps) = true
      · rw [if_pos hwt] at h1
        rw [if_pos hwt]
        left
        cases ki : kinds i with
        | pure =>
          simp only [ki] at h1
          obtain ⟨c, hc, h1⟩ := h1
          unfold Oper.wp
          rw [hc w]
          show wpAny P md ops Q fuel _ _ w
          -- the world stands: what held holds
          refine wpAny_of_mono hD hp hm fuel _ _ _ w hw (fun k => ?_) (fun k x y hxy => ?_) h1
          · unfold updF
            by_cases e : k = i
            · rw [if_pos e]; exact fo
            · rw [if_neg e]; exact hF k
          · unfold updF
            by_cases e : k = i
            · rw [if_pos e]; exact upF o x y hxy
            · rw [if_neg e]; exact hU k _ _ hxy
        | val c p =>
          simp only [ki] at h1
          obtain ⟨hc, h1⟩ := h1
          have h2 := hc w hw fo
          have hu : ∀ x y, R x y → (p x ∧ factsAt ops F o x) → (p y ∧ factsAt ops F o y) := fun x y hxy hf => ⟨hp i c p ki x y hxy hf.1, upF o x y hxy hf.2⟩
          unfold Oper.wp
          generalize (execOp a.eval o).run P w = r at *
          cases r with
          | ok n w' =>
            cases n <;> simp only [growUpon] at h2 <;> simp only [Oper.upon]
            case value u => obtain ⟨hr, rfl, hpw⟩ := h2; exact goOn o u _ w' hr ⟨hpw, upF o _ _ hr fo⟩ hu h1
            case skip => obtain ⟨hr, rfl, hpw⟩ := h2; exact goOn o undef _ w' hr ⟨hpw, upF o _ _ hr fo⟩ hu h1
            case enter f args => exact Calls.mono h2 fun e w'' ⟨v, he, hr, hv, hpw⟩ => by subst he; subst hv; exact goOn o v _ w'' hr ⟨hpw, upF o _ _ hr fo⟩ hu h1
          | halt x w' => simp only [growUpon] at h2
        | mem p =>
          simp only [ki] at h1
          obtain ⟨hc, h1⟩ := h1
          have h2 := hc w hw fo
          have hu : ∀ v x y, R x y → (p v x ∧ factsAt ops F o x) → (p v y ∧ factsAt ops F o y) := fun v x y hxy hf => ⟨hm i p ki v x y hxy hf.1, upF o x y hxy hf.2⟩
          unfold Oper.wp
          generalize (execOp a.eval o).run P w = r at *
          cases r with
          | ok n w' =>
            cases n <;> simp only [growUpon] at h2 <;> simp only [Oper.upon]
            case value u => obtain ⟨hr, hpw⟩ := h2; exact goOn o u _ w' hr ⟨hpw, upF o _ _ hr fo⟩ (hu u) (h1 u)
            case skip => obtain ⟨hr, hpw⟩ := h2; exact goOn o undef _ w' hr ⟨hpw, upF o _ _ hr fo⟩ (hu undef) (h1 undef)
            case enter f args => exact Calls.mono h2 fun e w'' ⟨v, he, hr, hpw⟩ => by subst he; exact goOn o v _ w'' hr ⟨hpw, upF o _ _ hr fo⟩ (hu v) (h1 v)
          | halt x w' => simp only [growUpon] at h2
      · rw [if_neg hwt] at h1
        rw [if_neg hwt]
        refine wpAny_of_mono hD hp hm fuel _ _ _ w hw (fun k => ?_) (fun k x y hxy => ?_) h1
        · unfold updF
          by_cases e : k = i
          · rw [if_pos e]; trivial
          · rw [if_neg e]; exact hF k
        · unfold updF
          by_cases e : k = i
          · rw [if_pos e]; exact fun h => h
          · rw [if_neg e]; exact hU k _ _ hxy

/-- **ONE WALK IN THE TEXT'S ORDER SERVES EVERY ORDER**, memory being made: 'R' is how the world may turn, 'D' holds in all worlds on the way. -/
theorem wp_region_mono {id : Nat} {l : List Oper} {a : Act} {w : World} (R : World → World → Prop) (D : World → Prop) (kinds : Nat → Kind) (hmix : P.follows .mixedOrders = true) (hB : Region.lexB .any l.toArray = true)
    (hD : ∀ w w', R w w' → D w → D w') (hp : ∀ i c p, kinds i = .val c p → ∀ w w', R w w' → p w → p w') (hm : ∀ i p, kinds i = .mem p → ∀ v w w', R w w' → p v w → p v w')
    (hw : D w.drew) (h : wpMono P l.toArray R D kinds (fun a w => Q .normal a w) 0 l a (fun _ _ => True)) : (Code.region id l.toArray true).wp P Q a w := by
  simp only [Region.lexB, Bool.and_eq_true] at hB
  refine wp_region_any hmix (wpAny_of_mono (R := R) (D := D) (kinds := kinds) hD hp hm _ _ _ (fun _ _ => True) _ hw (fun _ => trivial) (fun _ _ _ _ _ => trivial) ?_)
  have := wpAnyM_lex (R := R) (D := D) (kinds := kinds) (fin := fun a w => Q .normal a w) (md := .any) hB.1 l 0 (Array.replicate l.length false) a (fun _ _ => True) (by simp) (by simpa using hB.2) h
  simpa using this

theorem mono_pure {i : Nat} {o : Oper} {rest : List Oper} {a : Act} {F : Nat → World → Prop} (hw : Region.wanted o (yielded ops a.tmps) = true) (hk : kinds i = .pure)
    (h : ∃ c, (∀ w, (execOp a.eval o).run P w = .ok (.value c) w) ∧ ∃ a', a.put o.dst c = a' ∧ wpMono P ops R D kinds fin (i + 1) rest a' (updF F i (factsAt ops F o))) : wpMono P ops R D kinds fin i (o :: rest) a F := by
  unfold wpMono mStep
  rw [if_pos hw, hk]
  obtain ⟨c, hc, _, rfl, h⟩ := h
  exact ⟨c, hc, h⟩
theorem mono_val {i : Nat} {o : Oper} {rest : List Oper} {a : Act} {F : Nat → World → Prop} (hw : Region.wanted o (yielded ops a.tmps) = true) {c : Value} {p : World → Prop} (hk : kinds i = .val c p)
    (hc : ∀ w, D w → factsAt ops F o w → growUpon P R w (fun v w' => v = c ∧ p w') ((execOp a.eval o).run P w)) (h : ∃ a', a.put o.dst c = a' ∧ wpMono P ops R D kinds fin (i + 1) rest a' (updF F i fun w => p w ∧ factsAt ops F o w)) : wpMono P ops R D kinds fin i (o :: rest) a F := by
  unfold wpMono mStep
  rw [if_pos hw, hk]
  obtain ⟨_, rfl, h⟩ := h
  exact ⟨hc, h⟩
theorem mono_mem {i : Nat} {o : Oper} {rest : List Oper} {a : Act} {F : Nat → World → Prop} (hw : Region.wanted o (yielded ops a.tmps) = true) {p : Value → World → Prop} (hk : kinds i = .mem p)
    (hc : ∀ w, D w → factsAt ops F o w → growUpon P R w p ((execOp a.eval o).run P w)) (h : ∀ v, ∃ a', a.put o.dst v = a' ∧ wpMono P ops R D kinds fin (i + 1) rest a' (updF F i fun w => p v w ∧ factsAt ops F o w)) : wpMono P ops R D kinds fin i (o :: rest) a F := by
  unfold wpMono mStep
  rw [if_pos hw, hk]
  refine ⟨hc, fun v => ?_⟩
  obtain ⟨_, rfl, h⟩ := h v
  exact h
theorem mono_skip {i : Nat} {o : Oper} {rest : List Oper} {a : Act} {F : Nat → World → Prop} (hw : Region.wanted o (yielded ops a.tmps) = false) (h : ∃ a', a.put o.dst undef = a' ∧ wpMono P ops R D kinds fin (i + 1) rest a' (updF F i fun _ => True)) : wpMono P ops R D kinds fin i (o :: rest) a F := by
  unfold wpMono mStep
  rw [if_neg (by rw [hw]; exact Bool.false_ne_true)]
  obtain ⟨_, rfl, h⟩ := h
  exact h
theorem mono_nil {i : Nat} {a : Act} {F : Nat → World → Prop} (h : ∀ w, D w → (∀ k, F k w) → fin a w) : wpMono P ops R D kinds fin i [] a F := h

def Kind.up (R : World → World → Prop) : Kind → Prop
  | .pure => True
  | .val _ p => ∀ w w', R w w' → p w → p w'
  | .mem p => ∀ v w w', R w w' → p v w → p v w'
/-- The kinds by a list: what is not in it only reckons. -/
def kindsOf : List (Nat × Kind) → Nat → Kind
  | [], _ => .pure
  | (k, x) :: l, i => if i = k then x else kindsOf l i
theorem kindsOf_up {R : World → World → Prop} : ∀ {L : List (Nat × Kind)}, (∀ x ∈ L, x.2.up R) → ∀ i, (kindsOf L i).up R
  | [], _, _ => trivial
  | (k, x) :: l, h, i => by
    unfold kindsOf
    by_cases e : i = k
    · rw [if_pos e]; exact h (k, x) (by simp)
    · rw [if_neg e]; exact kindsOf_up (fun y hy => h y (by simp [hy])) i
theorem wp_region_kinds {id : Nat} {l : List Oper} {a : Act} {w : World} (R : World → World → Prop) (D : World → Prop) (L : List (Nat × Kind)) (hmix : P.follows .mixedOrders = true) (hB : Region.lexB .any l.toArray = true)
    (hD : ∀ w w', R w w' → D w → D w') (hup : ∀ x ∈ L, x.2.up R) (hw : D w.drew)
    (h : wpMono P l.toArray R D (kindsOf L) (fun a w => Q .normal a w) 0 l a (fun _ _ => True)) : (Code.region id l.toArray true).wp P Q a w :=
  wp_region_mono R D (kindsOf L) hmix hB hD (fun i c p e => by have := kindsOf_up hup i; rw [e] at this; exact this) (fun i p e => by have := kindsOf_up hup i; rw [e] at this; exact this) hw h
end
end Go.Proofs.YtdbhboglccggdaaGreatDoor
