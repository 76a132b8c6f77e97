/- The digest as a fold over the padded text, block by block (no program is spoken of here). -/
import Derived.Test.YtdbhboglccggdaaGreatDoorSB4
set_option linter.unusedVariables false
set_option linter.unusedSimpArgs false
namespace Go.Proofs.YtdbhboglccggdaaGreatDoor
theorem absorb_f {s : Sha.St} (h : s.f < 64) (x : Nat) : (Sha.absorb s x).f = (s.f + 1) % 64 := by
  unfold Sha.absorb
  by_cases h1 : s.f + 1 = 64
  · rw [if_pos h1, h1]
  · rw [if_neg h1]
    show s.f + 1 = _
    omega
theorem fold_f : ∀ (xs : List Nat) (s : Sha.St), s.f < 64 → (xs.foldl Sha.absorb s).f = (s.f + xs.length) % 64
  | [], s, h => by simp only [List.foldl_nil, List.length_nil]; omega
  | x :: xs, s, h => by
    have h1 := absorb_f h x
    rw [List.foldl_cons, fold_f xs _ (by omega), h1, List.length_cons]
    omega
/-- The padded text. -/
def padded (xs : List Nat) : List Nat := xs ++ padTail (xs.length % 64) xs.length
theorem padded_length (xs : List Nat) : (padded xs).length = xs.length + (1 + (119 - xs.length % 64) % 64 + 8) := by
  unfold padded
  rw [List.length_append, padTail_length]
theorem shaFin_eq (xs : List Nat) (hl : xs.length < 18446744073709551616) : shaFin xs = (padded xs).foldl Sha.absorb initSt := by
  unfold shaFin padded
  have hf : (shaSt xs).f = xs.length % 64 := by
    unfold shaSt
    rw [fold_f xs initSt (by decide)]
    show (0 + xs.length) % 64 = _
    rw [Nat.zero_add]
  rw [hf, Nat.mod_eq_of_lt hl, List.foldl_append]
  rfl
/-- The state behind k blocks. -/
def stK (P : List Nat) (k : Nat) : Sha.St := (P.take (64 * k)).foldl Sha.absorb initSt
def chunk (P : List Nat) (k : Nat) : List Nat := (P.drop (64 * k)).take 64
theorem stK_f (P : List Nat) (k : Nat) (h : 64 * k ≤ P.length) : (stK P k).f = 0 := by
  unfold stK
  rw [fold_f _ _ (by decide), List.length_take, Nat.min_eq_left h]
  show (0 + 64 * k) % 64 = 0
  omega
theorem stK_step (P : List Nat) (k : Nat) (h : 64 * (k + 1) ≤ P.length) : (stK P (k + 1)).h = Sha.mix (stK P k).h (Sha.lay (stK P k).b 0 (chunk P k)) := by
  have hf := stK_f P k (by omega)
  have hc : (chunk P k).length = 64 := by unfold chunk; rw [List.length_take, List.length_drop]; omega
  have e : stK P (k + 1) = (chunk P k).foldl Sha.absorb (stK P k) := by
    unfold stK chunk
    rw [show 64 * (k + 1) = 64 * k + 64 by omega, List.take_add, List.foldl_append]
  rw [e, Sha.absorb_full _ _ (by omega) (by omega), hf]
theorem chunk_get (P : List Nat) (k : Nat) (b : Nat → Nat) {j : Nat} (hj : j < 64) (h : 64 * (k + 1) ≤ P.length) : Sha.lay b 0 (chunk P k) j = P.getD (64 * k + j) 0 := by
  have hc : (chunk P k).length = 64 := by unfold chunk; rw [List.length_take, List.length_drop]; omega
  unfold Sha.lay
  rw [if_pos (by omega), Nat.sub_zero]
  unfold chunk
  rw [List.getD_eq_getElem?_getD, List.getElem?_take, if_pos hj, List.getElem?_drop, List.getD_eq_getElem?_getD]
theorem stK_end (P : List Nat) (k : Nat) (h : 64 * k = P.length) : stK P k = P.foldl Sha.absorb initSt := by
  unfold stK
  rw [h, List.take_length]
theorem sha_eq (xs : List Nat) (hl : xs.length < 18446744073709551616) (k : Nat) (h : 64 * k = (padded xs).length) : sha xs = bytesOf (stK (padded xs) k).h := by
  unfold sha
  rw [shaFin_eq xs hl, stK_end _ _ h]
end Go.Proofs.YtdbhboglccggdaaGreatDoor
