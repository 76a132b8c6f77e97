/- The law RoutePicks: what it asks of a ring, and what comes of it. -/
import Derived.Test.YtdbhboglccggdaaGreatDoorQ10
set_option maxRecDepth 100000
set_option linter.unusedVariables false
set_option linter.unusedSimpArgs false
namespace Go.Proofs.YtdbhboglccggdaaGreatDoor
open Go.RowKit Go.Shelf
/-! ### mathematics -/
theorem hasI_mem {l : List Nat} {x : Int} : hasI l x = true ↔ ∃ n, n ∈ l ∧ ((n : Nat) : Int) = x := by
  unfold hasI
  rw [List.any_eq_true]
  constructor
  · rintro ⟨n, h1, h2⟩
    exact ⟨n, h1, of_decide_eq_true h2⟩
  · rintro ⟨n, h1, h2⟩
    exact ⟨n, h1, decide_eq_true h2⟩
/-- Do both hold a part of the first eight, and are they two? -/
def peerB (ls : List Pt) (R : Nat) (a z : Int) : Bool := decide (z ≠ a) && (List.range 8).any fun (k : Nat) => hasI (LK ls R (k : Int)) a && hasI (LK ls R (k : Int)) z
theorem peerB_comm (ls : List Pt) (R : Nat) (a z : Int) : peerB ls R a z = peerB ls R z a := by
  unfold peerB
  congr 1
  · rw [decide_eq_decide]
    exact ⟨fun h => h.symm, fun h => h.symm⟩
  · congr 1
    funext k
    exact Bool.and_comm _ _
theorem peers_has {ls : List Pt} {R : Nat} {a : Int} {l : List Nat} (hm : ∀ x, x ∈ l ↔ Peer ls R a x) (z : Int) : hasI l z = peerB ls R a z := by
  rw [Bool.eq_iff_iff, hasI_mem]
  unfold peerB
  rw [Bool.and_eq_true, decide_eq_true_eq, List.any_eq_true]
  constructor
  · rintro ⟨n, hn, rfl⟩
    obtain ⟨h1, k, h2, h3⟩ := (hm n).1 hn
    obtain ⟨h4, h5⟩ := partsI_mem h2
    exact ⟨h1, k, by simpa using h4, by rw [Bool.and_eq_true]; exact ⟨h5, hasI_mem.2 ⟨n, h3, rfl⟩⟩⟩
  · rintro ⟨h1, k, hk, h2⟩
    rw [Bool.and_eq_true] at h2
    obtain ⟨n, h3, rfl⟩ := hasI_mem.1 h2.2
    refine ⟨n, (hm n).2 ⟨h1, k, ?_, h3⟩, rfl⟩
    unfold partsI
    rw [List.mem_filter]
    exact ⟨hk, h2.1⟩
theorem shared_eq (ls : List Pt) (R : Nat) (a b : Int) : sharedL ls R a b = if a = b then [] else (List.range 8).filter fun (k : Nat) => hasI (LK ls R (k : Int)) a && hasI (LK ls R (k : Int)) b := by
  unfold sharedL
  split
  · rfl
  · unfold partsI notH
    rw [List.filter_filter]
    apply List.filter_congr
    intro k _
    rw [Bool.not_not]
    exact Bool.and_comm _ _
theorem shared_comm (ls : List Pt) (R : Nat) (a b : Int) : sharedL ls R a b = sharedL ls R b a := by
  rw [shared_eq, shared_eq]
  by_cases h : a = b
  · rw [if_pos h, if_pos h.symm]
  · rw [if_neg h, if_neg (fun e => h e.symm)]
    apply List.filter_congr
    intro k _
    exact Bool.and_comm _ _
theorem shared_mem {ls : List Pt} {R : Nat} {a b : Int} {k : Nat} (h : k ∈ sharedL ls R a b) : hasI (LK ls R (k : Int)) a = true ∧ hasI (LK ls R (k : Int)) b = true := by
  rw [shared_eq] at h
  split at h
  · cases h
  · rw [List.mem_filter, Bool.and_eq_true] at h
    exact h.2
theorem shared_len (ls : List Pt) (R : Nat) (a b : Int) : (sharedL ls R a b).length ≤ 8 := by
  rw [shared_eq]
  split
  · exact Nat.zero_le _
  · have := List.length_filter_le (fun (k : Nat) => hasI (LK ls R (k : Int)) a && hasI (LK ls R (k : Int)) b) (List.range 8)
    rwa [List.length_range] at this
theorem without_count {l : List Nat} (h : l.Nodup) (z : Int) : ((without l z).length : Int) = (l.length : Int) - (if hasI l z = true then 1 else 0) := by
  induction l with
  | nil => rfl
  | cons x l ih =>
    rw [List.nodup_cons] at h
    have ih := ih h.2
    have hc : hasI (x :: l) z = (decide (((x : Nat) : Int) = z) || hasI l z) := rfl
    rw [hc]
    unfold without at ih ⊢
    rw [List.filter_cons]
    by_cases hx : ((x : Nat) : Int) = z
    · have hn : hasI l z = false := by
        cases hq : hasI l z with
        | false => rfl
        | true =>
          obtain ⟨n, h1, h2⟩ := hasI_mem.1 hq
          have : n = x := by omega
          exact absurd (this ▸ h1) h.1
      rw [hn, if_neg (by decide)] at ih
      rw [decide_eq_true hx, if_neg (by decide), Bool.true_or, if_pos rfl, List.length_cons]
      omega
    · rw [decide_eq_false hx, if_pos (by decide), Bool.false_or, List.length_cons, List.length_cons]
      omega
/-- What the law finds of who is picked. -/
structure Picked (l : List Nat) (us : List Int) (right : Bool) (r : Int × Int) : Prop where
  skip : ∀ j, j < l.length → (∀ i, i ≤ j → ((l.getD i 0 : Nat) : Int) ≠ r.1) → hasZ us ((l.getD j 0 : Nat) : Int) = false
  ok : r.2 = 0 → hasI l r.1 = true ∧ hasZ us r.1 = true
  code : r.2 = 0 ∨ (r.2 == 0) = false
theorem pickL_picked {l : List Nat} {us : List Int} (hn : ∀ y, y ∈ l → 1 ≤ y) (b : Bool) : Picked l us b (pickL l us) := by
  unfold pickL
  cases hq : l.find? (fun (n : Nat) => hasZ us (n : Int)) with
  | none =>
    have h := List.find?_eq_none.1 hq
    exact ⟨fun j hj _ => by
      have := h _ (getD_mem hj)
      simpa using this, (fun e => by cases e), .inr rfl⟩
  | some n =>
    have hp := List.find?_some hq
    have hm := List.mem_of_find?_eq_some hq
    refine ⟨fun j hj hne => ?_, fun _ => ⟨hasI_mem.2 ⟨n, hm, rfl⟩, hp⟩, .inl rfl⟩
    cases hz : hasZ us ((l.getD j 0 : Nat) : Int) with
    | false => rfl
    | true =>
      exfalso
      obtain ⟨hp2, pr, bs, hl, hall⟩ := List.find?_eq_some_iff_append.1 hq
      have hlen : l.getD pr.length 0 = n := by
        rw [hl, List.getD_eq_getElem?_getD, List.getElem?_append_right (Nat.le_refl _), Nat.sub_self]
        rfl
      rcases Nat.lt_or_ge j pr.length with h1 | h1
      · have h2 : l.getD j 0 ∈ pr := by
          rw [hl, List.getD_eq_getElem?_getD, List.getElem?_append_left h1, List.getElem?_eq_getElem h1]
          exact List.getElem_mem _
        have h3 := hall _ h2
        rw [hz] at h3
        cases h3
      · exact hne pr.length h1 (by rw [hlen])
theorem pickR_picked {ls : List Pt} {R : Nat} {s : ByteArray} {us : List Int} (hn : ∀ y, y ∈ KL ls R s → 1 ≤ y) : Picked (KL ls R s) us (rightK s) (pickR ls R s us) := by
  unfold pickR
  cases hr : rightK s with
  | false =>
    rw [if_neg (by decide), KL_no hr]
    exact ⟨fun j hj => absurd hj (Nat.not_lt_zero _), (fun e => by cases e), .inr rfl⟩
  | true =>
    rw [if_pos rfl]
    by_cases h : KL ls R s = []
    · rw [if_pos h, h]
      exact ⟨fun j hj => absurd hj (Nat.not_lt_zero _), (fun e => by cases e), .inr rfl⟩
    · rw [if_neg h]
      exact pickL_picked hn true
/-! ### what is asked -/
/-- While the law RoutePicks asks: the ring, the key's list, and who is up. -/
structure PQ (w : World) (g N V R : Nat) (B : Option Addr) (l : List Nat) (A : Option Addr) (us : List Int) (x : World) : Prop where
  l : Row .i64 x (fun b => b ≠ g) B l
  u : RowZ x (fun b => b ≠ g) A us
  r : RH w g N V R x
theorem PQ.kept {w : World} {g N V R : Nat} {B : Option Addr} {l : List Nat} {A : Option Addr} {us : List Int} {x y : World} (h : PQ w g N V R B l A us x) (ho : Only (fun b => b = g) x y) (hr : RH w g N V R y) : PQ w g N V R B l A us y :=
  ⟨h.l.kept ho (fun _ h e => h e), h.u.keep (fun b hb hl => ho.block b hl hb), hr⟩
theorem one_any (b : Bool) (w : World) : Calls Tryz.prog 26 #[.bool b] w fun e y => e = .returned (.int .i64 (if b = true then 1 else 0)) ∧ w = y := by
  cases b with
  | true =>
    go_enter Tryz.func26, Tryz.ntmps26
    go_wp2
    go_ret
    exact ⟨rfl, rfl⟩
  | false =>
    go_enter Tryz.func26, Tryz.ntmps26
    go_wp2
    go_ret
    exact ⟨rfl, rfl⟩
end Go.Proofs.YtdbhboglccggdaaGreatDoor
