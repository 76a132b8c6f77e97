/- sizes, Right, Value of tally. -/
import Derived.Test.YtbjndjmbbephbaaT1
namespace Go.Proofs.Ytbjndjmbbephbaa
open Go.RowKit

abbrev tallyV (u d : Nat) : Value := .agg #[.int .u64 (u : Int), .int .u64 (d : Int)]
theorem arr2 (f : Nat → Nat) : arrOf .u64 2 f = #[.int .u64 (f 0 : Int), .int .u64 (f 1 : Int)] := rfl
theorem size55 : (Try.prog.info? 55).map (·.size) = some 2 := by kernel_rfl
theorem size40 : (Try.prog.info? 40).map (·.size) = some 2 := by kernel_rfl
theorem size38 : (Try.prog.info? 38).map (·.size) = some 2 := by kernel_rfl
theorem size26 : (Try.prog.info? 26).map (·.size) = some 16 := by kernel_rfl
theorem size30 : (Try.prog.info? 30).map (·.size) = some 16 := by kernel_rfl
theorem size53 : (Try.prog.info? 53).map (·.size) = some 16 := by kernel_rfl

theorem ret_two {a b c d : Int} (h1 : a = c) (h2 : b = d) : Ending.returned (.agg #[.int .u64 a, .int .u64 b]) = .returned (.agg #[.int .u64 c, .int .u64 d]) := by rw [h1, h2]
theorem nums_new (w : World) (x y : Int) (t : TypeId) : (w.alloc (.cells #[.int .u64 x, .int .u64 y] t)).heap[w.heap.size]? = some (.cells #[.int .u64 x, .int .u64 y] t (0, 0)) := heap_alloc_new _ _

set_option maxRecDepth 100000 in
set_option maxHeartbeats 1000000 in
theorem sizes_any (n : Int) (w : World) (h1 : -9223372036854775808 ≤ n) (h2 : n ≤ 9223372036854775807) :
    Calls Try.prog 21 #[.int .i64 n] w fun e w' => e = .returned (.agg (arrOf .u64 2 (Tal.szs n))) ∧ Below w.heap.size w w' := by
  rw [arr2]
  have HD := Lib.hid (nums_new w 0 0 55)
  by_cases hn : n < 0
  · obtain ⟨m, hm⟩ : ∃ m : Nat, (m : Int) = -n := ⟨(-n).toNat, by omega⟩
    have e1 : IntKind.i64.wrap (n + 1) = n + 1 := by rw [IntKind.wrap_i64]; omega
    have e2 : IntKind.i64.wrap (-(n + 1)) = -(n + 1) := by rw [IntKind.wrap_i64]; omega
    have e3 : IntKind.u64.wrap (-(n + 1)) = -(n + 1) := by rw [IntKind.wrap_u64]; omega
    have e4 : IntKind.u64.wrap (-(n + 1) + 1) = (m : Int) := by rw [IntKind.wrap_u64]; omega
    have H1 := Lib.hid h1
    have H2 := Lib.hid h2
    have HM := Lib.hid hm
    clear h1 h2 hm
    have s2 : Hid ((Try.prog.info? 55).map (·.size) = some (#[.int .u64 0, .int .u64 (m : Int)] : Array Value).size) := size55
    have o2 : Hid ((#[.int .u64 0, .int .u64 (m : Int)] : Array Value).all (·.oneCell') = true) := two_one _ _ rfl rfl
    have z2 : Hid ((#[.int .u64 0, .int .u64 0] : Array Value).size = (#[.int .u64 0, .int .u64 (m : Int)] : Array Value).size) := rfl
    go_enter Try.func21, Try.ntmps21
    go_wp2_with (refine wpList_store_row rfl 55 _ _ rfl w.heap.size #[.int .u64 0, .int .u64 (m : Int)] rfl rfl 55 _ HD.out s2.out z2.out o2.out ?_)
    refine bodyPost_ret (results_cell_row Try.results21 _ _ w.heap.size 55 _ (0, 0) _ rfl (setRow_heap _ _ _ _ _ _ HD.out) Try.underlying55 rfl s2.out) rfl ⟨?_, below_setRow' (below1 _ _) (Nat.le_refl _) _⟩
    have := HM.out
    refine ret_two ?_ ?_
    · show (0 : Int) = ((Tal.up n : Nat) : Int)
      simp only [Tal.up]; omega
    · show (m : Int) = ((Tal.down n : Nat) : Int)
      simp only [Tal.down]; omega
  · obtain ⟨m, hm⟩ : ∃ m : Nat, (m : Int) = n := ⟨n.toNat, by omega⟩
    subst hm
    have e3 : IntKind.u64.wrap (m : Int) = (m : Int) := by rw [IntKind.wrap_u64]; omega
    have H1 := Lib.hid h1
    have H2 := Lib.hid h2
    clear h1 h2
    have s2 : Hid ((Try.prog.info? 55).map (·.size) = some (#[.int .u64 (m : Int), .int .u64 0] : Array Value).size) := size55
    have o2 : Hid ((#[.int .u64 (m : Int), .int .u64 0] : Array Value).all (·.oneCell') = true) := two_one _ _ rfl rfl
    have z2 : Hid ((#[.int .u64 0, .int .u64 0] : Array Value).size = (#[.int .u64 (m : Int), .int .u64 0] : Array Value).size) := rfl
    go_enter Try.func21, Try.ntmps21
    go_wp2_with (refine wpList_store_row rfl 55 _ _ rfl w.heap.size #[.int .u64 (m : Int), .int .u64 0] rfl rfl 55 _ HD.out s2.out z2.out o2.out ?_)
    refine bodyPost_ret (results_cell_row Try.results21 _ _ w.heap.size 55 _ (0, 0) _ rfl (setRow_heap _ _ _ _ _ _ HD.out) Try.underlying55 rfl s2.out) rfl ⟨?_, below_setRow' (below1 _ _) (Nat.le_refl _) _⟩
    refine ret_two ?_ ?_
    · show (m : Int) = ((Tal.up m : Nat) : Int)
      simp only [Tal.up]; omega
    · show (0 : Int) = ((Tal.down m : Nat) : Int)
      simp only [Tal.down]; omega

theorem right_any (u d : Nat) (w : World) : Calls Try.prog 18 #[tallyV u d] w fun e w' => e = .returned (.bool (decide (u ≤ 4611686018427387904 ∧ d ≤ 4611686018427387904))) ∧ Below w.heap.size w w' := by
  go_enter Try.func18, Try.ntmps18
  go_wp2
  all_goals
    go_ret
    refine ⟨ret_bool ?_, below1 _ _⟩
    first | rfl | (rw [Bool.eq_iff_iff]; simp only [Bool.and_eq_true, decide_eq_true_eq, Bool.false_eq_true, false_iff, iff_true, true_iff]; omega)

set_option maxHeartbeats 1000000 in
theorem value_any (u d : Nat) (w : World) (hu : u < 18446744073709551616) : Calls Try.prog 19 #[tallyV u d] w fun e w' => e = .returned (.int .u64 ((u - d : Nat) : Int)) ∧ Below w.heap.size w w' := by
  by_cases h : d ≤ u
  · have h' : (d : Int) ≤ (u : Int) := by omega
    have hl : ¬ ((u : Int) < (d : Int)) := by omega
    have e1 : IntKind.u64.wrap ((u : Int) - (d : Int)) = ((u - d : Nat) : Int) := by rw [IntKind.wrap_u64]; omega
    have E1 := Lib.hid e1
    have HU := Lib.hid hu
    by_cases e : d = u
    · subst e
      clear e1 hu
      go_enter Try.func19, Try.ntmps19
      go_wp2
      go_ret
      refine ⟨ret_int ?_, below1 _ _⟩
      first | rfl | simp
    · have hlt : (d : Int) < (u : Int) := by omega
      clear hu
      go_enter Try.func19, Try.ntmps19
      go_wp2
      go_ret
      exact ⟨ret_int (by first | rfl | exact E1.out), below1 _ _⟩
  · have h' : (u : Int) < (d : Int) := by omega
    have e1 : IntKind.u64.wrap ((u : Int) - (u : Int)) = 0 := by rw [IntKind.wrap_u64]; omega
    have HU := Lib.hid hu
    clear hu
    go_enter Try.func19, Try.ntmps19
    go_wp2
    go_ret
    refine ⟨ret_int ?_, below1 _ _⟩
    show (0 : Int) = _
    omega
end Go.Proofs.Ytbjndjmbbephbaa
