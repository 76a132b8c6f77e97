/- Count of the reference. -/
import Derived.Test.YtbjndjmbbephbaaT11
namespace Go.Proofs.Ytbjndjmbbephbaa
open Go.RowKit

/-- A boxed counter that turns, a result of noughts. -/
structure OneR (w : World) (g : Nat → Nat) (x : World) : Prop where
  a : x.rowIs w.heap.size 30 16 (fun j => .int .u64 ((g j : Nat) : Int))
  r : x.heap[w.heap.size + 1]? = some (.cells (arrOf .u64 16 fun _ => 0) 30 (0, 0))
  below : Below w.heap.size w x
theorem OneR.start (w : World) (h : Nat → Nat) : OneR w h ((w.alloc (.cells (arrOf .u64 16 h) 30)).alloc (.cells #[.int .u64 0, .int .u64 0, .int .u64 0, .int .u64 0, .int .u64 0, .int .u64 0, .int .u64 0, .int .u64 0, .int .u64 0, .int .u64 0, .int .u64 0, .int .u64 0, .int .u64 0, .int .u64 0, .int .u64 0, .int .u64 0] 30)) := by
  have I : One w (arrOf .u64 16 h) 30 (arrOf .u64 16 fun _ => 0) 30 ((w.alloc (.cells (arrOf .u64 16 h) 30)).alloc (.cells #[.int .u64 0, .int .u64 0, .int .u64 0, .int .u64 0, .int .u64 0, .int .u64 0, .int .u64 0, .int .u64 0, .int .u64 0, .int .u64 0, .int .u64 0, .int .u64 0, .int .u64 0, .int .u64 0, .int .u64 0, .int .u64 0] 30)) := One.start w (arrOf .u64 16 h) (arrOf .u64 16 fun _ => 0) 30 30
  exact ⟨arr_row I.a, I.r, I.below⟩
theorem OneR.drew {w x : World} {g : Nat → Nat} (I : OneR w g x) : OneR w g x.drew := ⟨I.a, I.r, ⟨I.below.os, I.below.tape, I.below.output, I.below.size, I.below.block⟩⟩
theorem OneR.step {w x : World} {g : Nat → Nat} {q U : Nat} {v : Int} (I : OneR w g x) (hv : v = ((g q + U : Nat) : Int)) : OneR w (Tal.plusAt g q U) (x.setCell ⟨w.heap.size, q, none⟩ (.int .u64 v)) := by
  subst hv
  refine ⟨(I.a.set q _).congr fun j hj => ?_, (Below.heap_setCell _ _ _ _ (by simp)).trans I.r, I.below.setCell (by simp) _⟩
  by_cases e : j = q
  · subst e; simp [Tal.plusAt]
  · simp [Tal.plusAt, e]
theorem plusAt_zero (h : Nat → Nat) (q : Nat) : Tal.plusAt h q 0 = h := by funext j; simp [Tal.plusAt]

set_option maxRecDepth 100000 in
set_option maxHeartbeats 4000000 in
theorem tcountR_any (h : Nat → Nat) (node n : Int) (w : World) (hh : ∀ i, i < 16 → h i < 18446744073709551616) (h1 : -9223372036854775808 ≤ n) (h2 : n ≤ 9223372036854775807) :
    Calls Try.prog 8 #[ctrV h, .int .i64 node, .int .i64 n] w fun e w' => e = .returned (cntV (Tal.cnt h node n)) ∧ Below w.heap.size w w' := by
  have HS := Lib.hid (OneR.start w h)
  have HR := Lib.hid HS.out.r
  have s30 : ∀ {f : Nat → Nat}, Hid ((Try.prog.info? 30).map (·.size) = some (arrOf .u64 16 f).size) := fun {f} => by rw [arrOf_size]; exact size30
  have ss : ∀ {f g : Nat → Nat}, Hid ((arrOf .u64 16 f).size = (arrOf .u64 16 g).size) := fun {f g} => by rw [arrOf_size, arrOf_size]; exact rfl
  have HB0 := Lib.hid built30_0
  have bad : ¬ (1 ≤ node ∧ node ≤ 8) → Hid (Ending.returned (.tuple #[.agg (arrOf .u64 16 fun _ => 0), .int .i64 11]) = .returned (cntV (Tal.cnt h node n))) := fun hn => by
    show _ = _; rw [Tal.cnt_node hn]
  by_cases n1 : 1 ≤ node
  · by_cases n2 : node ≤ 8
    · clear bad
      obtain ⟨i, rfl⟩ : ∃ i : Nat, node = (i : Int) + 1 := ⟨(node - 1).toNat, by omega⟩
      have hi : i < 8 := by omega
      clear n1
      have eW : IntKind.i64.wrap ((i : Int) + 1 - 1) = (i : Int) := by rw [IntKind.wrap_i64]; omega
      by_cases hn : n < 0
      · obtain ⟨D, hV⟩ : ∃ m : Nat, m = Tal.down n := ⟨_, rfl⟩
        have hVn : (D : Int) = -n := by rw [hV]; simp only [Tal.down]; omega
        have o0 : Tal.up n = 0 := by simp only [Tal.up]; omega
        have eC : IntKind.u64.wrap n = 18446744073709551616 - (D : Int) := by rw [IntKind.wrap_u64]; omega
        have eC2 : IntKind.u64.wrap (0 - (18446744073709551616 - (D : Int))) = (D : Int) := by rw [IntKind.wrap_u64]; omega
        have eC3 : IntKind.u64.wrap (-(18446744073709551616 - (D : Int))) = (D : Int) := by rw [IntKind.wrap_u64]; omega
        obtain ⟨x, hx⟩ : ∃ x, x = h (8 + i) := ⟨_, rfl⟩
        have hxb : x < 18446744073709551616 := by rw [hx]; exact hh _ (by omega)
        have over : 18446744073709551615 < x + D → Hid (Ending.returned (.tuple #[.agg (arrOf .u64 16 fun _ => 0), .int .i64 13]) = .returned (cntV (Tal.cnt h ((i : Int) + 1) n))) := fun ho => by
          show _ = _; rw [Tal.cnt_over hi (.inr (by rw [← hx, ← hV]; exact ho))]
        have fine : ¬ (18446744073709551615 < x + D) → Hid (Ending.returned (.tuple #[.agg (arrOf .u64 16 (Tal.plusAt h (8 + i) D)), .int .i64 0]) = .returned (cntV (Tal.cnt h ((i : Int) + 1) n))) := fun ho => by
          show _ = _
          rw [Tal.cnt_ok hi (by rw [o0]; have := hh i (by omega); omega) (by rw [← hx, ← hV]; exact ho), o0, plusAt_zero, hV]
        have eX : IntKind.u64.wrap (18446744073709551615 - (x : Int)) = 18446744073709551615 - (x : Int) := by rw [IntKind.wrap_u64]; omega
        have c0 := HS.out.a.cell (i := (8 + i)) (by omega)
        rw [← hx] at c0
        have f0 := HS.out.a.frozen (8 + i)
        generalize hw1 : (w.alloc (.cells (arrOf .u64 16 h) 30)).alloc (.cells #[.int .u64 0, .int .u64 0, .int .u64 0, .int .u64 0, .int .u64 0, .int .u64 0, .int .u64 0, .int .u64 0, .int .u64 0, .int .u64 0, .int .u64 0, .int .u64 0, .int .u64 0, .int .u64 0, .int .u64 0, .int .u64 0] 30) = w1 at HS HR c0 f0
        by_cases ho : 18446744073709551615 < x + D
        · have HE := over ho
          have hoi : 18446744073709551615 - (x : Int) < (D : Int) := by omega
          clear over fine ho hV hVn o0 hx hh h1 h2
          have HXB := Lib.hid hxb
          clear hxb
          go_enter Try.func8, Try.ntmps8
          go_wp2_with (first
            | (refine wpList_built rfl 30 _ rfl [] rfl _ HB0.out ?_)
            | (refine wpList_store_row rfl 30 _ _ rfl (w.heap.size + 1) (arrOf .u64 16 fun _ => 0) rfl rfl 30 _ HR.out s30.out ss.out (arrOf_one _ _ _) ?_)
            | (refine bodyPost_ret (results_cell_tmp Try.results8 _ _ (w.heap.size + 1) 30 _ (0, 0) _ rfl (setRow_heap _ _ _ _ _ _ HR.out) Try.underlying30 rfl s30.out rfl) rfl ⟨HE.out, below_setRow' HS.out.below (by omega) _⟩))
        · have HE := fine ho
          have hoi : ¬ (18446744073709551615 - (x : Int) < (D : Int)) := by omega
          have eS : IntKind.u64.wrap ((x : Int) + (D : Int)) = ((x + D : Nat) : Int) := by rw [IntKind.wrap_u64]; omega
          have HO := Lib.hid (HS.out.step (q := (8 + i)) (U := D) (v := ((x + D : Nat) : Int)) (by rw [hx])).drew
          obtain ⟨G, hG⟩ : ∃ G, G = Tal.plusAt h (8 + i) D := ⟨_, rfl⟩
          rw [← hG] at HE HO
          have HA : Hid (_ = _) := row_arr HO.out.a
          have HRR := Lib.hid HO.out.r
          have HBB := Lib.hid HO.out.below
          have HXB := Lib.hid hxb
          clear over fine ho hV hVn o0 hx hh h1 h2 hxb hG HO HS HR
          go_enter Try.func8, Try.ntmps8
          go_wp2_with fail
          go_region
          go_wp2_with (first
            | (refine wpList_load_row rfl 30 _ rfl w.heap.size rfl 30 (arrOf .u64 16 G) (0, 0) _ HA.out Try.underlying30 rfl s30.out ?_)
            | (refine wpList_store_row rfl 30 _ _ rfl (w.heap.size + 1) (arrOf .u64 16 G) rfl rfl 30 _ HRR.out s30.out ss.out (arrOf_one _ _ _) ?_)
            | (refine bodyPost_ret (results_cell_tmp Try.results8 _ _ (w.heap.size + 1) 30 _ (0, 0) _ rfl (setRow_heap _ _ _ _ _ _ HRR.out) Try.underlying30 rfl s30.out rfl) rfl ⟨HE.out, below_setRow' HBB.out (by omega) _⟩))
      · obtain ⟨U, hV⟩ : ∃ m : Nat, m = Tal.up n := ⟨_, rfl⟩
        have hVn : (U : Int) = n := by rw [hV]; simp only [Tal.up]; omega
        have o0 : Tal.down n = 0 := by simp only [Tal.down]; omega
        have eC : IntKind.u64.wrap n = (U : Int) := by rw [IntKind.wrap_u64]; omega
        obtain ⟨x, hx⟩ : ∃ x, x = h i := ⟨_, rfl⟩
        have hxb : x < 18446744073709551616 := by rw [hx]; exact hh _ (by omega)
        have over : 18446744073709551615 < x + U → Hid (Ending.returned (.tuple #[.agg (arrOf .u64 16 fun _ => 0), .int .i64 13]) = .returned (cntV (Tal.cnt h ((i : Int) + 1) n))) := fun ho => by
          show _ = _; rw [Tal.cnt_over hi (.inl (by rw [← hx, ← hV]; exact ho))]
        have fine : ¬ (18446744073709551615 < x + U) → Hid (Ending.returned (.tuple #[.agg (arrOf .u64 16 (Tal.plusAt h i U)), .int .i64 0]) = .returned (cntV (Tal.cnt h ((i : Int) + 1) n))) := fun ho => by
          show _ = _
          rw [Tal.cnt_ok hi (by rw [← hx, ← hV]; exact ho) (by rw [o0]; have := hh (8 + i) (by omega); omega), o0, plusAt_zero, hV]
        have eX : IntKind.u64.wrap (18446744073709551615 - (x : Int)) = 18446744073709551615 - (x : Int) := by rw [IntKind.wrap_u64]; omega
        have c0 := HS.out.a.cell (i := i) (by omega)
        rw [← hx] at c0
        have f0 := HS.out.a.frozen i
        generalize hw1 : (w.alloc (.cells (arrOf .u64 16 h) 30)).alloc (.cells #[.int .u64 0, .int .u64 0, .int .u64 0, .int .u64 0, .int .u64 0, .int .u64 0, .int .u64 0, .int .u64 0, .int .u64 0, .int .u64 0, .int .u64 0, .int .u64 0, .int .u64 0, .int .u64 0, .int .u64 0, .int .u64 0] 30) = w1 at HS HR c0 f0
        by_cases ho : 18446744073709551615 < x + U
        · have HE := over ho
          have hoi : 18446744073709551615 - (x : Int) < (U : Int) := by omega
          clear over fine ho hV hVn o0 hx hh h1 h2
          have HXB := Lib.hid hxb
          clear hxb
          go_enter Try.func8, Try.ntmps8
          go_wp2_with (first
            | (refine wpList_built rfl 30 _ rfl [] rfl _ HB0.out ?_)
            | (refine wpList_store_row rfl 30 _ _ rfl (w.heap.size + 1) (arrOf .u64 16 fun _ => 0) rfl rfl 30 _ HR.out s30.out ss.out (arrOf_one _ _ _) ?_)
            | (refine bodyPost_ret (results_cell_tmp Try.results8 _ _ (w.heap.size + 1) 30 _ (0, 0) _ rfl (setRow_heap _ _ _ _ _ _ HR.out) Try.underlying30 rfl s30.out rfl) rfl ⟨HE.out, below_setRow' HS.out.below (by omega) _⟩))
        · have HE := fine ho
          have hoi : ¬ (18446744073709551615 - (x : Int) < (U : Int)) := by omega
          have eS : IntKind.u64.wrap ((x : Int) + (U : Int)) = ((x + U : Nat) : Int) := by rw [IntKind.wrap_u64]; omega
          have HO := Lib.hid (HS.out.step (q := i) (U := U) (v := ((x + U : Nat) : Int)) (by rw [hx])).drew
          obtain ⟨G, hG⟩ : ∃ G, G = Tal.plusAt h i U := ⟨_, rfl⟩
          rw [← hG] at HE HO
          have HA : Hid (_ = _) := row_arr HO.out.a
          have HRR := Lib.hid HO.out.r
          have HBB := Lib.hid HO.out.below
          have HXB := Lib.hid hxb
          clear over fine ho hV hVn o0 hx hh h1 h2 hxb hG HO HS HR
          go_enter Try.func8, Try.ntmps8
          go_wp2_with fail
          go_region
          go_wp2_with (first
            | (refine wpList_load_row rfl 30 _ rfl w.heap.size rfl 30 (arrOf .u64 16 G) (0, 0) _ HA.out Try.underlying30 rfl s30.out ?_)
            | (refine wpList_store_row rfl 30 _ _ rfl (w.heap.size + 1) (arrOf .u64 16 G) rfl rfl 30 _ HRR.out s30.out ss.out (arrOf_one _ _ _) ?_)
            | (refine bodyPost_ret (results_cell_tmp Try.results8 _ _ (w.heap.size + 1) 30 _ (0, 0) _ rfl (setRow_heap _ _ _ _ _ _ HRR.out) Try.underlying30 rfl s30.out rfl) rfl ⟨HE.out, below_setRow' HBB.out (by omega) _⟩))
    · have n2' : 8 < node := by omega
      have HE := bad (by omega)
      clear bad hh h1 h2
      go_enter Try.func8, Try.ntmps8
      go_wp2_with (first
        | (refine wpList_built rfl 30 _ rfl [] rfl _ HB0.out ?_)
        | (refine wpList_store_row rfl 30 _ _ rfl (w.heap.size + 1) (arrOf .u64 16 fun _ => 0) rfl rfl 30 _ HR.out s30.out ss.out (arrOf_one _ _ _) ?_)
        | (refine bodyPost_ret (results_cell_tmp Try.results8 _ _ (w.heap.size + 1) 30 _ (0, 0) _ rfl (setRow_heap _ _ _ _ _ _ HR.out) Try.underlying30 rfl s30.out rfl) rfl ⟨HE.out, below_setRow' HS.out.below (by omega) _⟩))
  · have n1' : node < 1 := by omega
    have HE := bad (by omega)
    clear bad hh h1 h2
    go_enter Try.func8, Try.ntmps8
    go_wp2_with (first
      | (refine wpList_built rfl 30 _ rfl [] rfl _ HB0.out ?_)
      | (refine wpList_store_row rfl 30 _ _ rfl (w.heap.size + 1) (arrOf .u64 16 fun _ => 0) rfl rfl 30 _ HR.out s30.out ss.out (arrOf_one _ _ _) ?_)
      | (refine bodyPost_ret (results_cell_tmp Try.results8 _ _ (w.heap.size + 1) 30 _ (0, 0) _ rfl (setRow_heap _ _ _ _ _ _ HR.out) Try.underlying30 rfl s30.out rfl) rfl ⟨HE.out, below_setRow' HS.out.below (by omega) _⟩))
end Go.Proofs.Ytbjndjmbbephbaa
