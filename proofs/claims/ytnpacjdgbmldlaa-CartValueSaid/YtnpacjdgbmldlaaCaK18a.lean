/- Appending entries to entries, and what stays. -/
import Derived.Test.YtnpacjdgbmldlaaCaK16
set_option linter.unusedVariables false
set_option linter.unusedSimpArgs false
namespace Go.Proofs.Ytnpacjdgbmldlaa
open Go.RowKit Go.Lib

/-- What an operation of the region leaves: below K all; all, but for operation 10; rows of p entries; blocks of nothing; blocks of other types. -/
structure RA (K p n : Nat) (L : List Value) (j : Nat) (x y : World) : Prop where
  low : RowKit.Below K x y
  all : j ≠ 10 → RowKit.Below x.heap.size x y
  rows : ∀ (v : Value) (xs : List Value), x.ownsRow K 58 4 v p xs → y.ownsRow K 58 4 v p xs
  rows2 : ∀ (v : Value), x.ownsRow K 58 4 v n L → y.ownsRow K 58 4 v n L
  zero : ∀ (k : Nat), x.heap[k]? = some (.cells #[] 58 (0, 0)) → y.heap[k]? = some (.cells #[] 58 (0, 0))
  tag : KeepT 58 x y
theorem RA.of {K p n j : Nat} {L : List Value} {x y : World} (hK : K ≤ x.heap.size) (h : RowKit.Below x.heap.size x y) : RA K p n L j x y :=
  ⟨h.mono hK, fun _ => h, fun _ _ ho => own_keep ho fun k _ hk => h.block k hk, fun _ ho => own_keep ho fun k _ hk => h.block k hk, fun k hk => (h.block k (lt_of_row hk)).trans hk, KeepT.of h⟩
theorem append_keptE {x : World} {K b o c : Nat} {ty : TypeId} {v : Value} {p : Nat} {xs ys : List Ent} {ok : Nat → Prop} (hp : 0 < p) (hown : x.ownsRow K 58 4 v p (ents4 xs)) (hE : Ents x ok (some ⟨b, o, none⟩) ys)
    (hm : p + ys.length ≤ 100000) (hKx : K ≤ x.heap.size) :
    ∃ v' w', (Builtin.append_ #[54, 54] ty #[v, .slice (some ⟨b, o, none⟩) ys.length c]).run Try.prog x = .ok v' w' ∧ w'.ownsRow K 58 4 v' (p + ys.length) (ents4 xs ++ ents4 ys) ∧ RA K p (p + ys.length) (ents4 xs ++ ents4 ys) 10 x w' := by
  obtain ⟨i, hi, hz, hsz, hby⟩ := info_parts info58
  have hnews : ∀ j u, (ents4 ys)[j]? = some u → x.cell? ((⟨b, o, none⟩ : Addr).add j) = some u := fun j u hu => by
    have hj : j < ys.length * 4 := by
      have := (List.getElem?_eq_some_iff.1 hu).1
      rwa [ents4_len] at this
    obtain ⟨a, ha, hc⟩ := hE.flat (by omega)
    cases ha
    exact hc j u hu
  have h1 : ∀ u ∈ ents4 ys, u.oneCell' = true := ents4_one'
  obtain ⟨v', w', hr, h2, h3, _⟩ := run_append_own (P := Try.prog) x K 54 ty 58 i entZ 4 i.bytes Try.underlying54 hi hz hsz rfl rfl (by decide) v p (ents4 xs) hown ⟨b, o, none⟩ ys.length c (ents4 ys) (ents4_len ys) hnews h1 (by unfold maxLen; omega) (by rw [hby]; omega) hKx
  have hlow : RowKit.Below K x w' := (RowKit.Below.refl K x).grown h3 hKx fun k hk => (hown.lt k hk).1
  have htag : KeepT 58 x w' := fun k cs u fr hk hne => (h3.block k (lt_of_row hk) (fun e2 => by
    obtain ⟨cur, hc⟩ := own_tag hown e2.symm
    rw [hk] at hc
    injection hc with hc
    injection hc with _ hc
    exact hne hc)).trans hk
  refine ⟨v', w', hr, h2, ?_⟩
  have hown' := hown
  rcases hown.2 with ⟨_, h0⟩ | ⟨g, cap, cur, rfl, hbg, hg, hnc, hcm, hcs, htake⟩
  · omega
  · have hzero : ∀ (k : Nat), x.heap[k]? = some (.cells #[] 58 (0, 0)) → w'.heap[k]? = some (.cells #[] 58 (0, 0)) := fun k hk => (h3.block k (lt_of_row hk) (fun e => by
      simp only [Value.ownBlock, Option.some.injEq] at e
      subst e
      rw [hg] at hk
      injection hk with hk
      injection hk with hk
      subst hk
      simp at hcs
      omega)).trans hk
    by_cases hroom : p + ys.length ≤ cap
    · have hfit : p * i.size + (ents4 ys).length ≤ cur.size := by rw [hsz, hcs, ents4_len]; omega
      have hr2 := run_append_room (P := Try.prog) x 54 ty 58 i Try.underlying54 hi g p cap cur hg ⟨b, o, none⟩ ys.length c (ents4 ys) (by rw [hsz]; exact ents4_len ys) hnews h1 hroom hfit
      rw [hr] at hr2
      injection hr2 with e1 e2
      have hne : ∀ k, k ≠ g → w'.heap[k]? = x.heap[k]? := fun k hk => by rw [e2]; exact setRow_other _ _ _ _ hk
      have hat : w'.heap[g]? = some (.cells (cur.toList.take (p * i.size) ++ ents4 ys ++ cur.toList.drop (p * i.size + (ents4 ys).length)).toArray 58 (0, 0)) := by rw [e2]; exact setRow_heap _ _ _ _ _ _ hg
      refine ⟨hlow, fun e => absurd rfl e, fun v2 xs2 ho => ?_, fun v2 ho => ?_, hzero, htag⟩
      · refine ⟨ho.1, ?_⟩
        rcases ho.2 with hn | ⟨g2, cap2, cur2, e, hb2, hg2, hn2, hm2, hc2, ht2⟩
        · exact .inl hn
        · by_cases eg : g2 = g
          · subst eg
            rw [hg] at hg2
            injection hg2 with hg2
            injection hg2 with hg2
            subst hg2
            refine .inr ⟨g2, cap2, _, e, hb2, hat, hn2, hm2, ?_, ?_⟩
            · simp only [List.size_toArray, List.length_append, List.length_take, List.length_drop, Array.length_toList]
              rw [← hc2]
              omega
            · simp only [List.append_assoc]
              rw [hsz, List.take_append_of_le_length (by rw [List.length_take, Array.length_toList]; omega), List.take_take, Nat.min_self]
              exact ht2
          · exact .inr ⟨g2, cap2, cur2, e, hb2, (hne g2 eg).trans hg2, hn2, hm2, hc2, ht2⟩
      · refine ⟨ho.1, ?_⟩
        rcases ho.2 with hn | ⟨g2, cap2, cur2, e, hb2, hg2, hn2, hm2, hc2, ht2⟩
        · exact .inl hn
        · by_cases eg : g2 = g
          · subst eg
            rw [hg] at hg2
            injection hg2 with hg2
            injection hg2 with hg2
            subst hg2
            refine .inr ⟨g2, cap2, _, e, hb2, hat, hn2, hm2, ?_, ?_⟩
            · simp only [List.size_toArray, List.length_append, List.length_take, List.length_drop, Array.length_toList]
              rw [← hc2]
              omega
            · simp only [List.append_assoc]
              rw [hsz, htake, ← List.append_assoc, List.take_append_of_le_length (by rw [List.length_append, hown'.1, ents4_len ys]; omega)]
              exact List.take_of_length_le (by rw [List.length_append, hown'.1, ents4_len ys]; omega)
          · exact .inr ⟨g2, cap2, cur2, e, hb2, (hne g2 eg).trans hg2, hn2, hm2, hc2, ht2⟩
    · have holds : ∀ j u, (ents4 xs)[j]? = some u → x.cell? ((⟨g, 0, none⟩ : Addr).add j) = some u := hown'.cells (g := g) rfl
      have hr2 := run_append_grow (P := Try.prog) x 54 ty 58 i entZ Try.underlying54 hi hz ⟨g, 0, none⟩ p cap (ents4 xs) (by rw [hsz]; exact hown'.1) holds ⟨b, o, none⟩ ys.length c (ents4 ys) (by rw [hsz]; exact ents4_len ys) hnews (by omega) (by omega) (growslice_fits (by omega) (by rw [hby]; omega))
      rw [hr] at hr2
      injection hr2 with e1 e2
      have hk : ∀ k, k < x.heap.size → w'.heap[k]? = x.heap[k]? := fun k hk => by rw [e2]; exact heap_alloc_old x.drew _ hk
      exact ⟨hlow, fun e => absurd rfl e, fun _ _ ho => own_keep ho fun k _ h => hk k h, fun _ ho => own_keep ho fun k _ h => hk k h, hzero, htag⟩
end Go.Proofs.Ytnpacjdgbmldlaa
