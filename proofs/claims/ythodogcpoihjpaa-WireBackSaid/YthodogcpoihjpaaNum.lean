/- Numbers as bytes: plain functions on Nat; the contract of bits.Len64. -/
import Derived.Test.YthodogcpoihjpaaRows
import Derived.Test.YthodogcpoihjpaaBase
import Derived.Lib.BitFns
import Derived.Lib.Small
import Derived.Lib.Walk
namespace Go.Proofs.Ythodogcpoihjpaa
open Go.RowKit

/-- The bytes of a number, the greatest first; f is fuel. -/
def beF : Nat → Nat → List Nat
  | 0, _ => []
  | f + 1, n => if n = 0 then [] else beF f (n / 256) ++ [n % 256]
def be (n : Nat) : List Nat := beF 8 n
/-- A number as it is written. -/
def numB (n : Nat) : List Nat := (be n).length :: be n
theorem beF_fuel : ∀ (f n : Nat), n < 256 ^ f → ∀ g, f ≤ g → beF g n = beF f n
  | 0, n, h, g, _ => by
    have : n = 0 := by simpa using h
    subst this
    cases g <;> simp [beF]
  | f + 1, n, h, g, hg => by
    obtain ⟨k, rfl⟩ : ∃ k, g = k + 1 := ⟨g - 1, by omega⟩
    unfold beF
    by_cases h0 : n = 0
    · rw [if_pos h0, if_pos h0]
    · rw [if_neg h0, if_neg h0, beF_fuel f (n / 256) (by rw [Nat.pow_succ] at h; exact Nat.div_lt_of_lt_mul (by omega)) k (by omega)]
theorem be_zero : be 0 = [] := rfl
theorem be_step (n : Nat) (h0 : n ≠ 0) (h : n < 18446744073709551616) : be n = be (n / 256) ++ [n % 256] := by
  unfold be
  rw [show (8 : Nat) = 7 + 1 from rfl, beF, if_neg h0, beF_fuel 7 (n / 256) (by omega) (7 + 1) (by omega)]
theorem be_lt (n : Nat) : ∀ f, ∀ x ∈ beF f n, x < 256 := by
  intro f
  induction f generalizing n with
  | zero => intro x hx; cases hx
  | succ f ih =>
    intro x hx
    unfold beF at hx
    split at hx
    · cases hx
    · rcases List.mem_append.1 hx with h | h
      · exact ih _ x h
      · rw [List.mem_singleton] at h
        omega
theorem be_length_le (n : Nat) : ∀ f, (beF f n).length ≤ f := by
  intro f
  induction f generalizing n with
  | zero => exact Nat.le_refl _
  | succ f ih =>
    unfold beF
    split
    · exact Nat.zero_le _
    · rw [List.length_append]
      have := ih (n / 256)
      simp only [List.length_cons, List.length_nil]
      omega
theorem numB_lt (n : Nat) : ∀ x ∈ numB n, x < 256 := by
  intro x hx
  rcases List.mem_cons.1 hx with rfl | h
  · have := be_length_le n 8
    unfold be
    omega
  · exact be_lt n 8 x h
theorem be_len8 (n : Nat) : (be n).length ≤ 8 := be_length_le n 8
/-- How many bytes: by the bits. -/
theorem be_length : ∀ n, n < 18446744073709551616 → (be n).length = (Lib.bitLen n + 7) / 8 := by
  intro n
  induction n using Nat.strongRecOn with
  | _ n ih =>
    intro h
    by_cases h0 : n = 0
    · subst h0; rfl
    · rw [be_step n h0 h, List.length_append, ih (n / 256) (by omega) (by omega)]
      by_cases hs : n < 256
      · have e : n / 256 = 0 := by omega
        have l := Lib.bitLen_le8 ⟨n, hs⟩
        have p : 0 < Lib.bitLen n := by rw [Lib.bitLen_half n h0 (by omega)]; omega
        simp only at l
        rw [e, show Lib.bitLen 0 = 0 from rfl]
        simp only [List.length_cons, List.length_nil]
        omega
      · rw [Lib.bitLen_shift8 n (by omega) h]
        simp only [List.length_cons, List.length_nil]
        omega
theorem take_snoc {α : Type} (l : List α) (x : α) : (l ++ [x]).take l.length = l := by simp
/-- What stands ahead of the last m bytes. -/
theorem be_take : ∀ (m n : Nat), n < 18446744073709551616 → m ≤ (be n).length → (be n).take ((be n).length - m) = be (n / 256 ^ m)
  | 0, n, _, _ => by simp
  | m + 1, n, h, hm => by
    have h0 : n ≠ 0 := by
      rintro rfl
      rw [be_zero] at hm
      simp at hm
    rw [be_step n h0 h] at hm ⊢
    rw [List.length_append] at hm ⊢
    simp only [List.length_cons, List.length_nil] at hm ⊢
    rw [List.take_append_of_le_length (by omega), show (be (n / 256)).length + (0 + 1) - (m + 1) = (be (n / 256)).length - m by omega, be_take m (n / 256) (by omega) (by omega), Nat.div_div_eq_div_mul, Nat.pow_succ, Nat.mul_comm 256]
/-- The byte that stands m behind the last. -/
theorem be_get (m n : Nat) (h : n < 18446744073709551616) (hm : m < (be n).length) : (be n).getD ((be n).length - 1 - m) 0 = n / 256 ^ m % 256 := by
  have h1 := be_take m n h (by omega)
  have h0 : n / 256 ^ m ≠ 0 := by
    intro e
    rw [e, be_zero] at h1
    have := congrArg List.length h1
    rw [List.length_take, List.length_nil] at this
    omega
  have h2 : n / 256 ^ m < 18446744073709551616 := Nat.lt_of_le_of_lt (Nat.div_le_self _ _) h
  rw [be_step _ h0 h2] at h1
  have h3 : ((be n).take ((be n).length - m))[(be n).length - 1 - m]? = some (n / 256 ^ m % 256) := by
    rw [h1, List.getElem?_append_right]
    · have hl := congrArg List.length h1
      rw [List.length_take, List.length_append] at hl
      simp only [List.length_cons, List.length_nil] at hl
      rw [show (be n).length - 1 - m - (be (n / 256 ^ m / 256)).length = 0 by omega]
      rfl
    · have hl := congrArg List.length h1
      rw [List.length_take, List.length_append] at hl
      simp only [List.length_cons, List.length_nil] at hl
      omega
  rw [List.getElem?_take, if_pos (by omega)] at h3
  rw [List.getD_eq_getElem?_getD, h3]
  rfl
end Go.Proofs.Ythodogcpoihjpaa
