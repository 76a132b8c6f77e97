/- A node's point; Compare and Or of package cmp. -/
import Derived.Test.YtdbhboglccggdaaGreatDoorR1
import Derived.Test.YtdbhboglccggdaaGreatDoorSB7
set_option maxRecDepth 100000
set_option linter.unusedVariables false
set_option linter.unusedSimpArgs false
namespace Go.Proofs.YtdbhboglccggdaaGreatDoor
open Go.RowKit
/-- Where the ith point of a node stands. -/
def ptAt (n i : Nat) : Nat := pt (sha [110, 48 + n, 97 + i]) 8
theorem ptAt_lt (n i : Nat) : ptAt n i < 18446744073709551616 := pt_lt (fun i => bytesOf_lt _ i) 8
theorem three_bytes (w : World) (x y z : Nat) (hx : x < 256) (hy : y < 256) (hz : z < 256) : Bytes (w.alloc (.cells #[.int .u8 (x : Int), .int .u8 (y : Int), .int .u8 (z : Int)] 5)) (· < (w.alloc (.cells #[.int .u8 (x : Int), .int .u8 (y : Int), .int .u8 (z : Int)] 5)).heap.size) (some ⟨w.heap.size, 0, none⟩) [x, y, z] := by
  refine ⟨fun v hv => ?_, fun _ => ⟨_, _, rfl, by simp, fun j hj => ?_⟩⟩
  · simp only [List.mem_cons, List.mem_nil_iff, or_false] at hv
    rcases hv with rfl | rfl | rfl
    · exact hx
    · exact hy
    · exact hz
  · rw [Nat.zero_add, cell_of_row _ _ _ _ _ _ (heap_alloc_new _ _)]
    match j, hj with
    | 0, _ => rfl
    | 1, _ => rfl
    | 2, _ => rfl
set_option maxHeartbeats 1000000 in
theorem pointAt_any (n i : Nat) (hn : n ≤ 8) (hi : i ≤ 16) (w : World) (ht : Tabs w) : Calls Tryz.prog 83 #[.int .i64 (n : Int), .int .i64 (i : Int)] w fun e w' => e = .returned (.int .u64 ((ptAt n i : Nat) : Int)) ∧ Below w.heap.size w w' := by
  have HC : Hid (∀ x y : Int, x = ((48 + n : Nat) : Int) → y = ((97 + i : Nat) : Int) → Calls Tryz.prog 65 #[.slice (some ⟨w.heap.size, 0, none⟩) 3 3] (w.alloc (.cells #[.int .u8 110, .int .u8 x, .int .u8 y] 5)) fun e w' => e = .returned (.int .u64 ((ptAt n i : Nat) : Int)) ∧ Below w.heap.size w w') := Lib.hid (fun x y hx hy => by
    subst hx hy
    have hb := (Below.refl w.heap.size w).alloc (Nat.le_refl _) (.cells #[.int .u8 110, .int .u8 ((48 + n : Nat) : Int), .int .u8 ((97 + i : Nat) : Int)] 5)
    refine (point_any [110, 48 + n, 97 + i] 3 (some ⟨w.heap.size, 0, none⟩) _ (ht.below hb) (three_bytes w 110 (48 + n) (97 + i) (by omega) (by omega) (by omega)) (by simp) (by unfold maxLen; simp)).mono ?_
    rintro e w' ⟨rfl, hb2⟩
    exact ⟨rfl, hb.trans (hb2.mono hb.size)⟩)
  clear ht
  go_enter Tryz.func83, Tryz.ntmps83
  go_wp2_with (go_at_call 65; refine (HC.out _ _ (by omega) (by omega)).mono ?_; rintro e w1 ⟨rfl, hb1⟩; have HB1 := Lib.hid hb1; clear hb1)
  go_ret
  exact ⟨rfl, HB1.out⟩
set_option maxHeartbeats 1000000 in
theorem rpointAt_any (n i : Nat) (hn : n ≤ 8) (hi : i ≤ 16) (w : World) : Calls Tryz.prog 53 #[.int .i64 (n : Int), .int .i64 (i : Int)] w fun e w' => e = .returned (.int .u64 ((ptAt n i : Nat) : Int)) ∧ Below w.heap.size w w' := by
  have HC : Hid (∀ x y : Int, x = ((48 + n : Nat) : Int) → y = ((97 + i : Nat) : Int) → Calls Tryz.prog 66 #[.slice (some ⟨w.heap.size, 0, none⟩) 3 3] (w.alloc (.cells #[.int .u8 110, .int .u8 x, .int .u8 y] 5)) fun e w' => e = .returned (.int .u64 ((ptAt n i : Nat) : Int)) ∧ Below w.heap.size w w') := Lib.hid (fun x y hx hy => by
    subst hx hy
    have hb := (Below.refl w.heap.size w).alloc (Nat.le_refl _) (.cells #[.int .u8 110, .int .u8 ((48 + n : Nat) : Int), .int .u8 ((97 + i : Nat) : Int)] 5)
    refine (rpoint_any [110, 48 + n, 97 + i] 3 (some ⟨w.heap.size, 0, none⟩) _ (three_bytes w 110 (48 + n) (97 + i) (by omega) (by omega) (by omega)) (fun e => by cases e) (by simp)).mono ?_
    rintro e w' ⟨rfl, hb2⟩
    exact ⟨rfl, hb.trans (hb2.mono hb.size)⟩)
  have e1 : IntKind.i64.wrap (48 + (n : Int)) = 48 + (n : Int) := IntWalk.i64_in _ (by omega)
  have e2 : IntKind.i64.wrap (97 + (i : Int)) = 97 + (i : Int) := IntWalk.i64_in _ (by omega)
  go_enter Tryz.func53, Tryz.ntmps53
  go_wp2_with (go_at_call 66; refine (HC.out _ _ (by omega) (by omega)).mono ?_; rintro e w1 ⟨rfl, hb1⟩; have HB1 := Lib.hid hb1; clear hb1)
  go_ret
  exact ⟨rfl, HB1.out⟩
def cmpI (x y : Int) : Int := if x < y then -1 else if y < x then 1 else 0
theorem cmp72 (x y : Int) (w : World) : Calls Tryz.prog 102 #[.int .u64 x, .int .u64 y] w fun e w' => e = .returned (.int .i64 (cmpI x y)) ∧ w = w' := by
  by_cases h1 : x < y
  · have HE : Hid (cmpI x y = -1) := if_pos h1
    go_enter Tryz.func102, Tryz.ntmps102
    go_wp2
    go_ret
    exact ⟨int_arg' HE.out.symm, rfl⟩
  · by_cases h2 : y < x
    · have HE : Hid (cmpI x y = 1) := by show _ = _; unfold cmpI; rw [if_neg h1, if_pos h2]
      go_enter Tryz.func102, Tryz.ntmps102
      go_wp2
      go_ret
      exact ⟨int_arg' HE.out.symm, rfl⟩
    · have HE : Hid (cmpI x y = 0) := by show _ = _; unfold cmpI; rw [if_neg h1, if_neg h2]
      go_enter Tryz.func102, Tryz.ntmps102
      go_wp2
      go_ret
      exact ⟨int_arg' HE.out.symm, rfl⟩
theorem cmp73 (x y : Int) (w : World) : Calls Tryz.prog 103 #[.int .i64 x, .int .i64 y] w fun e w' => e = .returned (.int .i64 (cmpI x y)) ∧ w = w' := by
  by_cases h1 : x < y
  · have HE : Hid (cmpI x y = -1) := if_pos h1
    go_enter Tryz.func103, Tryz.ntmps103
    go_wp2
    go_ret
    exact ⟨int_arg' HE.out.symm, rfl⟩
  · by_cases h2 : y < x
    · have HE : Hid (cmpI x y = 1) := by show _ = _; unfold cmpI; rw [if_neg h1, if_pos h2]
      go_enter Tryz.func103, Tryz.ntmps103
      go_wp2
      go_ret
      exact ⟨int_arg' HE.out.symm, rfl⟩
    · have HE : Hid (cmpI x y = 0) := by show _ = _; unfold cmpI; rw [if_neg h1, if_neg h2]
      go_enter Tryz.func103, Tryz.ntmps103
      go_wp2
      go_ret
      exact ⟨int_arg' HE.out.symm, rfl⟩
def orI (a b : Int) : Int := if a = 0 then b else a
set_option maxHeartbeats 1000000 in
theorem or71 (g : Nat) (a b : Int) (w : World) (h0 : w.cell? ⟨g, 0, none⟩ = some (.int .i64 a)) (h1 : w.cell? ⟨g, 1, none⟩ = some (.int .i64 b)) : Calls Tryz.prog 101 #[.slice (some ⟨g, 0, none⟩) 2 2] w fun e w' => e = .returned (.int .i64 (orI a b)) ∧ w = w' := by
  go_enter Tryz.func101, Tryz.ntmps101
  go_wp2
  go_loop [8] (fun v => ∃ i : Nat, v = .int .i64 i ∧ i ≤ 2 ∧ Hid (0 < i → a = 0) ∧ Hid (1 < i → b = 0)) (fun v => 2 - (intOf v).toNat)
  case atStart => exact ⟨0, rfl, by omega, fun h => by omega, fun h => by omega⟩
  case round =>
    obtain ⟨i, rfl, hi, HA, HB⟩ := hrel
    rcases (show i = 0 ∨ i = 1 ∨ i = 2 by omega) with rfl | rfl | rfl
    · by_cases ha : a = 0
      · have hb : (a != 0) = false := by rw [bne_eq_false_iff_eq]; exact ha
        have HA2 := Lib.hid ha
        clear ha
        go_wp2
        go_round
        case rel => exact ⟨1, rfl, by omega, fun _ => HA2.out, fun h => by omega⟩
        case measure => simp [intOf]
      · have hb : (a != 0) = true := by rw [bne_iff_ne]; exact ha
        have HE : Hid (orI a b = a) := if_neg ha
        clear ha
        go_wp2
        go_ret
        exact ⟨int_arg' HE.out.symm, rfl⟩
    · have HA0 := HA.out (by omega)
      by_cases ha : b = 0
      · have hb : (b != 0) = false := by rw [bne_eq_false_iff_eq]; exact ha
        have HA2 := Lib.hid ha
        have HA3 := Lib.hid HA0
        clear ha HA0
        go_wp2
        go_round
        case rel => exact ⟨2, rfl, by omega, fun _ => HA3.out, fun _ => HA2.out⟩
        case measure => simp [intOf]
      · have hb : (b != 0) = true := by rw [bne_iff_ne]; exact ha
        have HE : Hid (orI a b = b) := if_pos HA0
        clear ha HA0
        go_wp2
        go_ret
        exact ⟨int_arg' HE.out.symm, rfl⟩
    · have HE : Hid (orI a b = 0) := by show _ = _; unfold orI; rw [if_pos (HA.out (by omega)), HB.out (by omega)]
      go_wp2
      go_ret
      exact ⟨int_arg' HE.out.symm, rfl⟩
end Go.Proofs.YtdbhboglccggdaaGreatDoor
