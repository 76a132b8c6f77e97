/- The law RingHolds. -/
import Derived.Test.YtdbhboglccggdaaGreatDoorR14
set_option maxRecDepth 100000
set_option linter.unusedVariables false
set_option linter.unusedSimpArgs false
namespace Go.Proofs.YtdbhboglccggdaaGreatDoor
open Go.RowKit
/-- What holds while the law RingHolds asks its ring. -/
structure RH (w : World) (g N V R : Nat) (x : World) : Prop where
  ring : RingAt x g N V R
  tabs : Tabs x
  size : w.heap.size + 1 ≤ x.heap.size
  below : Below w.heap.size w x
  box : x.heap[w.heap.size]? = some (.cells (cfg N V R) 23)
theorem RH.box0 {w x : World} {g N V R : Nat} (h : RH w g N V R x) : x.cell? ⟨w.heap.size, 0, none⟩ = some (.int .i64 (N : Int)) := by rw [cell_of_row _ _ _ _ _ _ h.box]; rfl
theorem RH.box2 {w x : World} {g N V R : Nat} (h : RH w g N V R x) : x.cell? ⟨w.heap.size, 2, none⟩ = some (.int .i64 (R : Int)) := by rw [cell_of_row _ _ _ _ _ _ h.box]; rfl
theorem RH.soft {w x y : World} {g N V R : Nat} (h : RH w g N V R x) (hs : Soft (w.heap.size + 1) x y) (h2 : 2 ≤ w.heap.size) : RH w g N V R y :=
  ⟨h.ring.soft hs, h.tabs.soft hs (by omega), Nat.le_trans h.size hs.size, Below.soft h.below hs (by omega) h.below.size, (hs.block _ (by have := h.size; omega) (.inl (by omega))).trans h.box⟩
theorem RH.drew {w x : World} {g N V R : Nat} (h : RH w g N V R x) (h2 : 2 ≤ w.heap.size) : RH w g N V R x.drew := h.soft (.of_below (Below.refl _ _).drew) h2
theorem env_holds {w : World} {g N V R : Nat} (h2 : 2 ≤ w.heap.size) (hg : w.heap.size + 1 ≤ g) (hN : N ≤ 8) (hV : V ≤ 16) (hR : R ≤ 8) : Env (w.heap.size + 1) (fun b => b = g) (.pointer (some ⟨g, 0, none⟩)) (Ring.pts ptAt V N) R (RH w g N V R) where
  up x y hs h := h.soft hs h2
  all x h := (all_any g N V R x h.ring h.tabs).mono (by
    rintro e y ⟨A, c, rfl, hl, hp, hr, hgr⟩
    exact ⟨A, c, rfl, hp, Only.of_grown hgr rfl, hr, h.tabs.only hgr h.ring.2.2.1, Nat.le_trans h.size hgr.size, h.below.grown hgr h.below.size (fun k hk => by injection hk with hk; omega), (hgr.block _ (by have := h.size; omega) (fun e => by injection e with e; omega)).trans h.box⟩)
  cf x h := (config_ring g N V R x h.ring).mono (by
    rintro e y ⟨rfl, hb⟩
    exact ⟨_, _, rfl, hb⟩)
  sorted := Ring.sorted_sort _
  len := by
    rw [Ring.pts_length]
    have := Nat.mul_le_mul hN hV
    omega
  r := hR
  tag x b h hb := by subst hb; exact h.ring.tag
  nle x h := h.size
theorem Row.cell {k : IntKind} {x : World} {ok : Nat → Prop} {A : Option Addr} {l : List Nat} (h : Row k x ok A l) (b o : Nat) (hA : A = some ⟨b, o, none⟩) (i : Nat) (hi : i < l.length) : x.cell? ⟨b, o + i, none⟩ = some (.int k ((l.getD i 0 : Nat) : Int)) := by
  obtain ⟨b', o', e, _, hc⟩ := h.at_ (by omega)
  rw [hA] at e
  cases e
  exact hc i hi
theorem getD_mem {l : List Nat} {i : Nat} (hi : i < l.length) : l.getD i 0 ∈ l := by
  rw [List.getD_eq_getElem?_getD, List.getElem?_eq_getElem hi]
  exact List.getElem_mem _
theorem nodup_get {l : List Nat} (h : l.Nodup) {i j : Nat} (hi : i < l.length) (hj : j < i) : l.getD i 0 ≠ l.getD j 0 := by
  intro e
  rw [List.getD_eq_getElem?_getD, List.getD_eq_getElem?_getD, List.getElem?_eq_getElem hi, List.getElem?_eq_getElem (by omega)] at e
  have e : l[i] = l[j] := e
  have := (List.getElem_inj h).1 e
  omega
theorem partsI_mem {ls : List Pt} {R : Nat} {m : Int} {p : Nat} (h : p ∈ partsI ls R m 8) : p < 8 ∧ hasI (LK ls R (p : Int)) m = true := by
  unfold partsI at h
  rw [List.mem_filter, List.mem_range] at h
  exact h
theorem partsI_rise {ls : List Pt} {R : Nat} {m : Int} {i j : Nat} (hi : i < (partsI ls R m 8).length) (hj : j < i) : (partsI ls R m 8).getD j 0 < (partsI ls R m 8).getD i 0 := by
  have h : (partsI ls R m 8).Pairwise (· < ·) := List.pairwise_lt_range.sublist List.filter_sublist
  rw [List.getD_eq_getElem?_getD, List.getD_eq_getElem?_getD, List.getElem?_eq_getElem hi, List.getElem?_eq_getElem (by omega)]
  exact List.pairwise_iff_getElem.1 h j i (by omega) hi hj
/-- How many parts the first m nodes hold. -/
def sumP (ls : List Pt) (R : Nat) (m : Nat) : Nat := ((List.range m).map fun n => (partsI ls R ((n + 1 : Nat) : Int) 8).length).sum
theorem sumP_succ (ls : List Pt) (R m : Nat) : sumP ls R (m + 1) = sumP ls R m + (partsI ls R ((m + 1 : Nat) : Int) 8).length := by
  unfold sumP
  rw [List.range_succ, List.map_append, List.sum_append]
  simp
theorem sumP_le (ls : List Pt) (R : Nat) : ∀ m, sumP ls R m ≤ m * 8
  | 0 => by simp [sumP]
  | m + 1 => by
    have h1 := sumP_le ls R m
    have h2 := partsI_len ls R ((m + 1 : Nat) : Int) 8
    rw [sumP_succ]
    omega
theorem sumP_all {N V R : Nat} (hV : 0 < V) (hR : R ≤ N) : sumP (Ring.pts ptAt V N) R N = 8 * R := by
  have h := Ring.sum_parts N (fun k => Ring.listOf (Ring.pts ptAt V N) (baseK k) R) R (fun k _ => Ring.listOf_nodup _ _ _) (fun k _ x hx => Ring.listOf_node hx) (fun k _ => Ring.listOf_length hV hR)
  rw [← h]
  unfold sumP
  congr 1
  apply List.map_congr_left
  intro n _
  unfold partsI Ring.partsOf
  congr 1
  apply List.filter_congr
  intro k hk
  rw [LK_ok _ _ _ (by simpa using hk), hasI_nat]
end Go.Proofs.YtdbhboglccggdaaGreatDoor
