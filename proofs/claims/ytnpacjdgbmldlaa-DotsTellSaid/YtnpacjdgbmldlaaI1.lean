/- Appending, and what stays of the rows that were; what insert asks of mathematics. -/
import Derived.Test.YtnpacjdgbmldlaaD13
import Derived.Test.YtnpacjdgbmldlaaWA
namespace Go.Proofs.Ytnpacjdgbmldlaa
open Go.RowKit

/-- Rows of p dots stay, and blocks of two cells stay. -/
structure RI (B p j : Nat) (x y : World) : Prop where
  low : Below B x y
  all : j ≠ 7 → Below x.heap.size x y
  rows : ∀ (v : Value) (xs : List Value), x.ownsRow B 35 2 v p xs → y.ownsRow B 35 2 v p xs
  two : ∀ (k : Nat) (cs : Array Value), x.heap[k]? = some (Obj.cells cs 35 (0, 0)) → cs.size = 2 → y.heap[k]? = x.heap[k]?
theorem RI.of {B p j : Nat} {x y : World} (hB : B ≤ x.heap.size) (h : Below x.heap.size x y) : RI B p j x y :=
  ⟨h.mono hB, fun _ => h, fun _ _ ho => own_keep ho fun k _ hk => h.block k hk, fun k _ hk _ => h.block k (lt_of_row hk)⟩
theorem append_kept {P : Program} {x : World} {B p : Nat} (t ty : TypeId) (i : TypeInfo) (z : Value) (ht : P.underlying t = some (.slice 35)) (hi : P.info? 35 = some i) (hz : i.zero = some z) (hsize : i.size = 2) (hzs : z.cells.size = 2)
    (v : Value) (xs : List Value) (hown : x.ownsRow B 35 2 v p xs) (ad : Addr) (c : Nat) (d : Dt) (hnews : ∀ j u, (dcells d)[j]? = some u → x.cell? (ad.add j) = some u)
    (h63 : p + 1 ≤ maxLen) (hbytes : (p + 1) * i.bytes ≤ 140737488355328) (hB : B ≤ x.heap.size) (hp : p = 0 → v = .slice none 0 0) :
    ∃ v' w', (Builtin.append_ #[t, t] ty #[v, .slice (some ad) 1 c]).run P x = .ok v' w' ∧ w'.ownsRow B 35 2 v' (p + 1) (xs ++ dcells d) ∧ RI B p 7 x w' := by
  have h1 : ∀ u ∈ dcells d, u.oneCell' = true := fun y hy => by
    simp only [dcells, List.mem_cons, List.mem_nil_iff, or_false] at hy
    rcases hy with rfl | rfl <;> rfl
  obtain ⟨v', w', hr, h2, h3, _⟩ := run_append_own (P := P) x B t ty 35 i z 2 i.bytes ht hi hz hsize rfl hzs (by decide) v p xs hown ad 1 c (dcells d) rfl hnews h1 h63 hbytes hB
  have hlow : Below B x w' := (Below.refl B x).grown h3 hB fun k hk => (hown.lt k hk).1
  refine ⟨v', w', hr, h2, ?_⟩
  have fresh : (∀ k, k < x.heap.size → w'.heap[k]? = x.heap[k]?) → RI B p 7 x w' := fun h => ⟨hlow, fun e => absurd rfl e, fun _ _ ho => own_keep ho fun k _ hk => h k hk, fun k _ hk _ => h k (lt_of_row hk)⟩
  have hown' := hown
  rcases hown.2 with ⟨rfl, _⟩ | ⟨g, cap, cur, rfl, hbg, hg, hnc, hcm, hcs, htake⟩
  · exact fresh fun k hk => h3.block k hk (by simp [Value.ownBlock])
  · by_cases hroom : p + 1 ≤ cap
    · have hfit : p * i.size + (dcells d).length ≤ cur.size := by rw [hsize, hcs]; simp only [dcells, List.length_cons, List.length_nil]; omega
      have hr2 := run_append_room (P := P) x t ty 35 i ht hi g p cap cur hg ad 1 c (dcells d) (by rw [hsize]; rfl) hnews h1 hroom hfit
      rw [hr] at hr2
      injection hr2 with e1 e2
      have hne : ∀ k, k ≠ g → w'.heap[k]? = x.heap[k]? := fun k hk => by rw [e2]; exact setRow_other _ _ _ _ hk
      have hat : w'.heap[g]? = some (.cells (cur.toList.take (p * i.size) ++ dcells d ++ cur.toList.drop (p * i.size + (dcells d).length)).toArray 35 (0, 0)) := by rw [e2]; exact setRow_heap _ _ _ _ _ _ hg
      refine ⟨hlow, fun e => absurd rfl e, fun v2 xs2 ho => ?_, fun k cs hk h2 => ?_⟩
      · refine ⟨ho.1, ?_⟩
        rcases ho.2 with hn | ⟨g2, cap2, cur2, e, hb2, hg2, hn2, hm2, hc2, ht2⟩
        · exact .inl hn
        · by_cases eg : g2 = g
          · subst eg
            rw [hg] at hg2
            injection hg2 with hg2
            injection hg2 with hg2
            subst hg2
            refine .inr ⟨g2, cap2, _, e, hb2, hat, hn2, hm2, ?_, ?_⟩
            · simp only [List.size_toArray, List.length_append, List.length_take, List.length_drop, Array.length_toList]
              rw [← hc2]
              omega
            · simp only [List.append_assoc]
              rw [hsize, List.take_append_of_le_length (by rw [List.length_take, Array.length_toList]; omega), List.take_take, Nat.min_self]
              exact ht2
          · exact .inr ⟨g2, cap2, cur2, e, hb2, (hne g2 eg).trans hg2, hn2, hm2, hc2, ht2⟩
      · refine hne k fun e => ?_
        subst e
        rw [hg] at hk
        injection hk with hk
        injection hk with hk
        subst hk
        have hp0 : p ≠ 0 := fun e => by have := hp e; cases this
        omega
    · have holds : ∀ j u, xs[j]? = some u → x.cell? ((⟨g, 0, none⟩ : Addr).add j) = some u := hown'.cells (g := g) rfl
      have hr2 := run_append_grow (P := P) x t ty 35 i z ht hi hz ⟨g, 0, none⟩ p cap xs (by rw [hsize]; exact hown'.1) holds ad 1 c (dcells d) (by rw [hsize]; rfl) hnews (by omega) (by unfold maxLen at h63; omega) (growslice_fits (by omega) hbytes)
      rw [hr] at hr2
      injection hr2 with e1 e2
      exact fresh fun k hk => by rw [e2]; exact heap_alloc_old x.drew _ hk
theorem tw_facts (f : Dt → Bool) : ∀ ls : List Dt, (∀ i, i < (ls.takeWhile f).length → f (ls.getD i (0, 0)) = true) ∧ ((ls.takeWhile f).length < ls.length → f (ls.getD (ls.takeWhile f).length (0, 0)) = false) ∧ ls.take (ls.takeWhile f).length = ls.takeWhile f ∧ ls.drop (ls.takeWhile f).length = ls.dropWhile f
  | [] => by simp
  | x :: ls => by
    obtain ⟨h1, h2, h3, h4⟩ := tw_facts f ls
    by_cases hx : f x = true
    · rw [List.takeWhile_cons_of_pos hx, List.dropWhile_cons_of_pos hx]
      refine ⟨fun i hi => ?_, fun h => ?_, ?_, ?_⟩
      · cases i with
        | zero => exact hx
        | succ i => exact h1 i (by simpa using hi)
      · exact h2 (by simpa using h)
      · rw [List.length_cons, List.take_succ_cons, h3]
      · rw [List.length_cons, List.drop_succ_cons, h4]
    · rw [List.takeWhile_cons_of_neg hx, List.dropWhile_cons_of_neg hx]
      refine ⟨fun i hi => absurd hi (by simp), fun _ => ?_, rfl, rfl⟩
      exact Bool.eq_false_iff.2 hx
theorem tw_le (f : Dt → Bool) : ∀ ls : List Dt, (ls.takeWhile f).length ≤ ls.length
  | [] => by simp
  | x :: ls => by
    by_cases hx : f x = true
    · rw [List.takeWhile_cons_of_pos hx, List.length_cons, List.length_cons]; exact Nat.succ_le_succ (tw_le f ls)
    · rw [List.takeWhile_cons_of_neg hx]; simp
/-- `s[k:]` and `s[:k]` of slices whose elements have several cells. -/
def cutA2 (A : Option Addr) (cap k : Nat) : Option Addr := if cap = k then A else A.map (·.add (k * 2))
theorem run_sliceAt_from2 {P : Program} (t e : TypeId) (hu : P.underlying t = some (.slice e)) (hs : (P.info? e).map (·.size) = some 2) (A : Option Addr) (n c k : Nat) (hk : k ≤ n) (w : World) :
    (Instr.sliceAt t (.slice A n c) (some (.int .i64 (k : Int))) none none).run P w = .ok (.slice (cutA2 A c k) (n - k) (c - k)) w := by
  have h : (Instr.slice t (.slice A n c) (some (.int .i64 (k : Int))) none none).run P w = .ok (.slice (cutA2 A c k) (n - k) (c - k)) w := by
    cases hq : P.info? e with
    | none => simp [hq] at hs
    | some i =>
      have hi : i.size = 2 := by simpa [hq] using hs
      simp [Instr.slice, Instr.sliceBounds, Instr.sliceBound, asIntOf, Sem.run_bind, run_underlying hu w, sizeOf, typeInfo, hq, hi, hk, cutA2, Result.andThen]
  simp only [Instr.sliceAt, Sem.run_bind, run_underlying hu w, Result.andThen, h]
theorem run_sliceAt_to2 {P : Program} (t e : TypeId) (hu : P.underlying t = some (.slice e)) (hs : (P.info? e).map (·.size) = some 2) (A : Option Addr) (n c k : Nat) (hk : k ≤ c) (w : World) :
    (Instr.sliceAt t (.slice A n c) none (some (.int .i64 (k : Int))) none).run P w = .ok (.slice A k c) w := by
  have h : (Instr.slice t (.slice A n c) none (some (.int .i64 (k : Int))) none).run P w = .ok (.slice A k c) w := by
    cases hq : P.info? e with
    | none => simp [hq] at hs
    | some i =>
      have hi : i.size = 2 := by simpa [hq] using hs
      have ha : A.map (fun a : Addr => a.add 0) = A := by cases A <;> simp [Addr.add]
      simp [Instr.slice, Instr.sliceBounds, Instr.sliceBound, asIntOf, Sem.run_bind, run_underlying hu w, sizeOf, typeInfo, hq, hi, hk, Result.andThen, ha]
  simp only [Instr.sliceAt, Sem.run_bind, run_underlying hu w, Result.andThen, h]
theorem Dots.behind {w : World} {A : Option Addr} {ls : List Dt} {o : Nat → Prop} (h : Dots w o A ls) {k c : Nat} (hk : k ≤ ls.length) (hc : ls.length ≤ c) : Dots w o (cutA2 A c k) (ls.drop k) := ⟨fun hp => by
  rw [List.length_drop] at hp
  obtain ⟨b, off, rfl, hb, hcell⟩ := h.at_ (by omega)
  refine ⟨b, off + k * 2, ?_, hb, fun j hj => ?_⟩
  · rw [cutA2, if_neg (by omega)]
    simp only [Option.map_some, Addr.add_mid]
  · rw [List.length_drop] at hj
    have h1 := hcell (k + j) (by omega)
    have e : (ls.drop k).getD j (0, 0) = ls.getD (k + j) (0, 0) := by simp [List.getD_eq_getElem?_getD]
    rw [e, show off + k * 2 + j * 2 = off + (k + j) * 2 by omega]
    exact h1⟩
end Go.Proofs.Ytnpacjdgbmldlaa
