/- For every int n the law ShaBlocks of layer 1 returns true: the program's Blocks(n) is the document's count of blocks, and its fixed calls come out as they must. No condition on n. -/
import Derived.Test.YtlejlgamefdckaaDoorA7
namespace Go.Proofs.YtlejlgamefdckaaDoor
open Go.RowKit

set_option maxHeartbeats 400000 in
theorem ref_blocks_neg (n : Int) (w : World) (h : n < 0) : Calls Tryd.prog 13 #[.int .i64 n] w fun e w' => e = .returned (.int .u64 0) ∧ w = w' := by
  go_enter Tryd.func13, Tryd.ntmps13
  go_wp2
  go_ret
  exact ⟨rfl, rfl⟩
set_option maxHeartbeats 400000 in
theorem ref_blocks_nat (n : Nat) (w : World) (h : n ≤ 9223372036854775807) : Calls Tryd.prog 13 #[.int .i64 n] w fun e w' => e = .returned (.int .u64 ((n + 8) / 64 + 1 : Nat)) ∧ w = w' := by
  by_cases h2 : 56 ≤ n % 64
  · have h3 : (56 : Int) ≤ (n : Int) % 64 := by omega
    go_enter Tryd.func13, Tryd.ntmps13
    go_wp2
    go_ret
    exact ⟨ret_int (by omega), rfl⟩
  · have h3 : (n : Int) % 64 < 56 := by omega
    go_enter Tryd.func13, Tryd.ntmps13
    go_wp2
    go_ret
    exact ⟨ret_int (by omega), rfl⟩
/-- How many blocks n bytes make. -/
def blk (n : Int) : Int := if n < 0 then 0 else (((n.toNat + 8) / 64 + 1 : Nat) : Int)
theorem blocks_all (n : Int) (w : World) (h : n ≤ 9223372036854775807) : Calls Tryd.prog 12 #[.int .i64 n] w fun e w' => e = .returned (.int .u64 (blk n)) ∧ w = w' := by
  unfold blk
  by_cases hn : n < 0
  · rw [if_pos hn]; exact blocks_neg n w hn
  · rw [if_neg hn]
    obtain ⟨m, rfl⟩ := Int.eq_ofNat_of_zero_le (by omega : 0 ≤ n)
    exact blocks_nat m w (by omega)
theorem ref_blocks_all (n : Int) (w : World) (h : n ≤ 9223372036854775807) : Calls Tryd.prog 13 #[.int .i64 n] w fun e w' => e = .returned (.int .u64 (blk n)) ∧ w = w' := by
  unfold blk
  by_cases hn : n < 0
  · rw [if_pos hn]; exact ref_blocks_neg n w hn
  · rw [if_neg hn]
    obtain ⟨m, rfl⟩ := Int.eq_ofNat_of_zero_le (by omega : 0 ≤ n)
    exact ref_blocks_nat m w (by omega)
set_option maxHeartbeats 400000 in
theorem law_blocks (n : Int) (w : World) (ht : Tabs w) (h : n ≤ 9223372036854775807) : Calls Tryd.prog 4 #[.int .i64 n] w fun e w' => e = .returned (.bool true) ∧ Below w.heap.size w w' := by
  have HT := Lib.hid ht
  clear ht
  go_enter Tryd.func4, Tryd.ntmps4
  go_wp2_with (first
    | (go_at_call 7; refine (alive_any _ HT.out).mono ?_; rintro e w1 ⟨rfl, hb1⟩; have HB1 := Lib.hid hb1; clear hb1)
    | (go_at_call 12; refine (blocks_all n _ h).mono ?_; rintro e w2 ⟨rfl, rfl⟩)
    | (go_at_call 13; refine (ref_blocks_all n _ h).mono ?_; rintro e w2 ⟨rfl, rfl⟩))
  go_ret
  exact ⟨rfl, HB1.out⟩
end Go.Proofs.YtlejlgamefdckaaDoor
