/- total, sizes, vectors of tally; plus of the reference. -/
import Derived.Test.YtbjndjmbbephbaaV1
namespace Go.Proofs.Ytbjndjmbbephbaa
open Go.RowKit

namespace Tal
def M : Nat := 4611686018427387904
def add (x y : Nat) : Nat := min (x + y) M
def sum (ls : List Nat) : Nat := min ls.sum M
theorem sum_le (ls : List Nat) : sum ls ≤ 4611686018427387904 := Nat.min_le_right _ _
theorem sum_snoc (ls : List Nat) (n : Nat) : sum (ls ++ [n]) = min (sum ls + min n M) M := by
  simp only [sum, List.sum_append, List.sum_cons, List.sum_nil]
  omega
theorem sum_take (ls : List Nat) {j : Nat} (h : j < ls.length) : sum (ls.take (j + 1)) = min (sum (ls.take j) + min (ls.getD j 0) 4611686018427387904) 4611686018427387904 := by
  rw [List.take_add_one, List.getD_eq_getElem?_getD, List.getElem?_eq_getElem h]
  exact sum_snoc _ _
theorem sum_two (x y : Nat) : sum [x, y] = add x y := by simp [sum, add]
def up (n : Int) : Nat := n.toNat
def down (n : Int) : Nat := (-n).toNat
def szs (n : Int) (i : Nat) : Nat := if i = 0 then up n else down n
end Tal

/-- A slice of numbers of 64 bits. -/
structure Nums (w : World) (ok : Nat → Prop) (A : Option Addr) (ls : List Nat) : Prop where
  at_ : 0 < ls.length → ∃ b o, A = some ⟨b, o, none⟩ ∧ ok b ∧ ∀ j, j < ls.length → w.cell? ⟨b, o + j, none⟩ = some (.int .u64 ((ls.getD j 0 : Nat) : Int))
theorem Nums.keep {w w' : World} {ok : Nat → Prop} {A : Option Addr} {ls : List Nat} (h : Nums w ok A ls) (hk : ∀ b j, ok b → b < w.heap.size → w'.cell? ⟨b, j, none⟩ = w.cell? ⟨b, j, none⟩) : Nums w' ok A ls :=
  ⟨fun hp => by
    obtain ⟨b, o, e, hb, hc⟩ := h.at_ hp
    refine ⟨b, o, e, hb, fun j hj => ?_⟩
    have h1 := hc j hj
    rw [hk b _ hb (World.block_lt_of_cell? w _ h1)]
    exact h1⟩
theorem Nums.below {w w' : World} {B : Nat} {A : Option Addr} {ls : List Nat} (h : Nums w (· < B) A ls) (hg : Below B w w') : Nums w' (· < B) A ls :=
  h.keep fun b j hb _ => World.cell?_of_block (w := w) (a := ⟨b, j, none⟩) (hg.block b hb)

set_option maxRecDepth 100000 in
set_option maxHeartbeats 1000000 in
theorem total_any (ls : List Nat) (c : Nat) (A : Option Addr) (w : World) {ok : Nat → Prop} (hv : Nums w ok A ls) (hm : ls.length ≤ 9223372036854775807) :
    Calls Try.prog 23 #[.slice A ls.length c] w fun e w' => e = .returned (.int .u64 ((Tal.sum ls : Nat) : Int)) ∧ w' = w := by
  have HV := Lib.hid hv
  clear hv
  go_enter Try.func23, Try.ntmps23
  go_wp2
  go_loopw [3, 8] (fun a v wr => ∃ j : Nat, j ≤ ls.length ∧ v = .int .i64 j ∧ (∃ q : Nat, a = .int .u64 (q : Int) ∧ Hid (q = Tal.sum (ls.take j))) ∧ Hid (wr = w)) (fun _ v _ => ls.length - (intOf v).toNat)
  case atStart => exact ⟨0, by omega, rfl, ⟨0, rfl, by show 0 = _; simp [Tal.sum]⟩, rfl⟩
  case round =>
    obtain ⟨j, hj, rfl, ⟨q, rfl, HQ⟩, HW⟩ := hrel
    by_cases hlt : j < ls.length
    · obtain ⟨b, o, hA, _, hc⟩ := HV.out.at_ (by omega)
      subst hA
      obtain ⟨n, hn⟩ : ∃ n, n = ls.getD j 0 := ⟨_, rfl⟩
      have c1 : wr.cell? ⟨b, o + j, none⟩ = some (.int .u64 (n : Int)) := by rw [HW.out, hn]; exact hc j hlt
      have hq : q ≤ 4611686018427387904 := by rw [HQ.out]; exact Tal.sum_le _
      have HS : Hid (Tal.sum (ls.take (j + 1)) = min (q + min n 4611686018427387904) 4611686018427387904) := by show _ = _; rw [Tal.sum_take ls hlt, ← HQ.out, ← hn]
      clear hn HQ hc
      by_cases h1 : n ≤ 4611686018427387904
      · have h1' : (n : Int) ≤ 4611686018427387904 := by omega
        have h1'' : ¬ ((4611686018427387904 : Int) < (n : Int)) := by omega
        have hw : IntKind.u64.wrap ((q : Int) + (n : Int)) = (q : Int) + (n : Int) := by rw [IntKind.wrap_u64]; omega
        by_cases h2 : q + n ≤ 4611686018427387904
        · have h2' : ¬ ((4611686018427387904 : Int) < (q : Int) + (n : Int)) := by omega
          go_wp2
          go_roundw
          case rel => exact ⟨j + 1, by omega, by go_num, ⟨q + n, by first | rfl | (congr 1; omega) | (simp; omega), by show _ = _; rw [HS.out]; omega⟩, HW⟩
          case measure => simp [intOf]; omega
        · have h2' : (4611686018427387904 : Int) < (q : Int) + (n : Int) := by omega
          go_wp2
          go_roundw
          case rel => exact ⟨j + 1, by omega, by go_num, ⟨4611686018427387904, rfl, by show _ = _; rw [HS.out]; omega⟩, HW⟩
          case measure => simp [intOf]; omega
      · have h1' : (4611686018427387904 : Int) < (n : Int) := by omega
        have hw : IntKind.u64.wrap ((q : Int) + 4611686018427387904) = (q : Int) + 4611686018427387904 := by rw [IntKind.wrap_u64]; omega
        by_cases h2 : q = 0
        · subst h2
          go_wp2
          go_roundw
          case rel => exact ⟨j + 1, by omega, by go_num, ⟨4611686018427387904, rfl, by show _ = _; rw [HS.out]; omega⟩, HW⟩
          case measure => simp [intOf]; omega
        · have h2' : (4611686018427387904 : Int) < (q : Int) + 4611686018427387904 := by omega
          go_wp2
          go_roundw
          case rel => exact ⟨j + 1, by omega, by go_num, ⟨4611686018427387904, rfl, by show _ = _; rw [HS.out]; omega⟩, HW⟩
          case measure => simp [intOf]; omega
    · obtain rfl : j = ls.length := by omega
      go_wp2
      go_ret
      refine ⟨ret_int ?_, HW.out⟩
      rw [HQ.out, List.take_length]

set_option maxRecDepth 100000 in
set_option maxHeartbeats 1000000 in
theorem plus_any (x y : Nat) (w : World) (hx : x < 18446744073709551616) (hy : y < 18446744073709551616) :
    Calls Try.prog 26 #[.int .u64 (x : Int), .int .u64 (y : Int)] w fun e w' => e = .returned (.int .u64 ((Tal.add x y : Nat) : Int)) ∧ w' = w := by
  by_cases h1 : 4611686018427387904 ≤ x
  · have h1' : (4611686018427387904 : Int) ≤ (x : Int) := by omega
    go_enter Try.func26, Try.ntmps26
    go_wp2
    go_ret
    refine ⟨ret_int ?_, rfl⟩
    simp only [Tal.add, Tal.M]; omega
  · have h1' : (x : Int) < 4611686018427387904 := by omega
    by_cases h2 : 4611686018427387904 ≤ y
    · have h2' : (4611686018427387904 : Int) ≤ (y : Int) := by omega
      go_enter Try.func26, Try.ntmps26
      go_wp2
      go_ret
      refine ⟨ret_int ?_, rfl⟩
      simp only [Tal.add, Tal.M]; omega
    · have h2' : (y : Int) < 4611686018427387904 := by omega
      have hw : IntKind.u64.wrap ((x : Int) + (y : Int)) = (x : Int) + (y : Int) := by rw [IntKind.wrap_u64]; omega
      by_cases h3 : 4611686018427387904 ≤ x + y
      · have h3' : (4611686018427387904 : Int) ≤ (x : Int) + (y : Int) := by omega
        go_enter Try.func26, Try.ntmps26
        go_wp2
        go_ret
        refine ⟨ret_int ?_, rfl⟩
        simp only [Tal.add, Tal.M]; omega
      · obtain ⟨s, hs⟩ : ∃ s : Nat, s = x + y := ⟨_, rfl⟩
        have hw' : IntKind.u64.wrap ((x : Int) + (y : Int)) = (s : Int) := by rw [hw]; omega
        have b1 : decide ((4611686018427387904 : Int) ≤ (x : Int)) = false := by rw [decide_eq_false_iff_not]; omega
        have b2 : decide ((4611686018427387904 : Int) ≤ (y : Int)) = false := by rw [decide_eq_false_iff_not]; omega
        have b3 : decide ((4611686018427387904 : Int) ≤ (s : Int)) = false := by rw [decide_eq_false_iff_not]; omega
        have H3 := Lib.hid h3
        have HS := Lib.hid hs
        have HX := Lib.hid hx
        have HY := Lib.hid hy
        clear h3 hs hw hx hy h1 h1' h2 h2'
        go_enter Try.func26, Try.ntmps26
        go_wp2
        go_ret
        refine ⟨ret_int ?_, rfl⟩
        have := H3.out
        have := HS.out
        simp only [Tal.add, Tal.M]; omega
end Go.Proofs.Ytbjndjmbbephbaa
