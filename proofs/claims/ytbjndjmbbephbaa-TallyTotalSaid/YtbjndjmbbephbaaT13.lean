/- The law's own 'alive'. -/
import Derived.Test.YtbjndjmbbephbaaT12
namespace Go.Proofs.Ytbjndjmbbephbaa
open Go.RowKit

def k0 : Nat → Nat := fun _ => 0
def c1 : Nat → Nat := Tal.plusAt (Tal.plusAt k0 1 5) 9 0
def c2 : Nat → Nat := Tal.plusAt (Tal.plusAt c1 1 0) 9 1
theorem cnt1 : Tal.cnt k0 2 5 = (c1, 0) := Tal.cnt_ok (i := 1) (by decide) (by decide) (by decide)
theorem cnt2 : Tal.cnt c1 2 (-1) = (c2, 0) := Tal.cnt_ok (i := 1) (by decide) (by decide) (by decide)
theorem cnt3 : Tal.cnt c2 9 1 = (k0, 11) := Tal.cnt_node (by decide)
theorem c1_lt : ∀ i, i < 16 → c1 i < 18446744073709551616 := by decide
theorem c2_lt : ∀ i, i < 16 → c2 i < 18446744073709551616 := by decide
theorem built40_a : Try.prog.built 40 [(0, .int .u64 6), (1, .int .u64 3)] = some #[.int .u64 6, .int .u64 3] := by kernel_rfl
theorem built40_b : Try.prog.built 40 [(0, .int .u64 5), (1, .int .u64 1)] = some #[.int .u64 5, .int .u64 1] := by kernel_rfl
theorem built40_c : Try.prog.built 40 [(0, .int .u64 4611686018427387905)] = some #[.int .u64 4611686018427387905, .int .u64 0] := by kernel_rfl
theorem ints3 (w : World) : Ints (w.alloc (.cells #[.int .i64 2, .int .i64 (-3), .int .i64 4] 3)) (· < (w.alloc (.cells #[.int .i64 2, .int .i64 (-3), .int .i64 4] 3)).heap.size) (some ⟨w.heap.size, 0, none⟩) [2, -3, 4] :=
  ⟨fun x hx => by simp only [List.mem_cons, List.mem_nil_iff, or_false] at hx; rcases hx with rfl | rfl | rfl <;> omega, fun _ => ⟨_, _, rfl, by simp, fun j hj => by
    rw [cell_of_row _ _ _ _ _ _ (heap_alloc_new _ _)]
    match j, hj with
    | 0, _ => rfl
    | 1, _ => rfl
    | 2, _ => rfl⟩⟩
/-- The tally and the counter of 'alive'. -/
structure LInv (w : World) (b1 b2 : Nat) (g : Nat → Nat) (x : World) : Prop where
  t : x.heap[b1]? = some (.cells #[.int .u64 6, .int .u64 3] 40 (0, 0))
  c : x.heap[b2]? = some (.cells (arrOf .u64 16 g) 26 (0, 0))
  ne : b1 ≠ b2
  far : w.heap.size ≤ b2
  below : Below w.heap.size w x
theorem LInv.then_ {w x y : World} {b1 b2 : Nat} {g : Nat → Nat} (hb : Below x.heap.size x y) (I : LInv w b1 b2 g x) : LInv w b1 b2 g y :=
  ⟨(hb.block _ (lt_of_row I.t)).trans I.t, (hb.block _ (lt_of_row I.c)).trans I.c, I.ne, I.far, I.below.trans (hb.mono I.below.size)⟩
theorem LInv.put {w x : World} {b1 b2 : Nat} {g : Nat → Nat} (I : LInv w b1 b2 g x) (f : Nat → Nat) : LInv w b1 b2 f (x.setRow b2 (arrOf .u64 16 f)) :=
  ⟨(setRow_other _ _ _ _ I.ne).trans I.t, setRow_heap _ _ _ _ _ _ I.c, I.ne, I.far, below_setRow' I.below I.far _⟩

set_option maxRecDepth 100000 in
set_option maxHeartbeats 4000000 in
theorem alive_any (w : World) : Calls Try.prog 10 #[] w fun e w' => e = .returned (.bool true) ∧ Below w.heap.size w w' := by
  have s26 : ∀ {f : Nat → Nat}, Hid ((Try.prog.info? 26).map (·.size) = some (arrOf .u64 16 f).size) := fun {f} => by rw [arrOf_size]; exact size26
  have ss : ∀ {f g : Nat → Nat}, Hid ((arrOf .u64 16 f).size = (arrOf .u64 16 g).size) := fun {f g} => by rw [arrOf_size, arrOf_size]; exact rfl
  have s40 : ∀ {x y : Int}, Hid ((Try.prog.info? 40).map (·.size) = some (#[.int .u64 x, .int .u64 y] : Array Value).size) := fun {x y} => pair_size x y
  have HB0 := Lib.hid built26_0
  go_enter Try.func10, Try.ntmps10
  go_wp2_with fail
  refine (tsum_any [2, -3, 4] 3 _ _ (ints3 w) (by decide)).mono ?_
  rintro e w1 ⟨rfl, hb⟩
  rw [show Tal.ups [2, -3, 4] = 6 by decide, show Tal.downs [2, -3, 4] = 3 by decide]
  have HB1 := Lib.hid ((below1 w _).trans (hb.mono (below1 w (.cells #[.int .i64 2, .int .i64 (-3), .int .i64 4] 3)).size))
  clear hb
  go_wp2_with (refine wpList_built rfl 26 _ rfl [] rfl _ HB0.out ?_)
  have HT : Hid ((w1.alloc (.cells #[.int .u64 6, .int .u64 3] 40)).heap[w1.heap.size]? = some (.cells #[.int .u64 6, .int .u64 3] 40 (0, 0))) := heap_alloc_new _ _
  have HB2 := Lib.hid (HB1.out.alloc HB1.out.size (.cells #[.int .u64 6, .int .u64 3] 40))
  generalize w1.alloc (.cells #[.int .u64 6, .int .u64 3] 40) = w2 at *
  generalize w1.heap.size = b1 at *
  clear HB1
  refine (tcount_any k0 2 5 w2 (fun _ _ => by show (0 : Nat) < _; omega) (by decide) (by decide)).mono ?_
  rintro e w3 ⟨rfl, hb⟩
  rw [cnt1]
  have HT3 : Hid (w3.heap[b1]? = some (.cells #[.int .u64 6, .int .u64 3] 40 (0, 0))) := (hb.block _ (lt_of_row HT.out)).trans HT.out
  have HB3 := Lib.hid (HB2.out.trans (hb.mono HB2.out.size))
  clear hb HT HB2
  have hN := Lib.hid (zero_row16 w3 26)
  have HL3 : Hid (LInv w b1 w3.heap.size c1 (w3.alloc (.cells (arrOf .u64 16 c1) 26))) :=
    ⟨((below1 w3 _).block _ (lt_of_row HT3.out)).trans HT3.out, heap_alloc_new _ _, by have := lt_of_row HT3.out; omega, HB3.out.size, HB3.out.alloc HB3.out.size _⟩
  have HC3 : Hid (_ = _) := HL3.out.c
  go_wp2_with (first
    | (refine wpList_store_row rfl 26 _ _ rfl w3.heap.size (arrOf .u64 16 c1) rfl rfl 26 _ hN.out s26.out ss.out (arrOf_one _ _ _) ?_; rw [set_z16])
    | (refine wpList_load_row rfl 26 _ rfl w3.heap.size rfl 26 (arrOf .u64 16 c1) (0, 0) _ HC3.out Try.underlying26 rfl s26.out ?_))
  generalize w3.alloc (.cells (arrOf .u64 16 c1) 26) = w4 at *
  generalize w3.heap.size = b2 at *
  clear HB3 hN HT3 HC3
  refine (tcount_any c1 2 (-1) w4 c1_lt (by decide) (by decide)).mono ?_
  rintro e w5 ⟨rfl, hb⟩
  rw [cnt2]
  have HL5 := Lib.hid (HL3.out.then_ hb)
  clear hb HL3
  have HC5 : Hid (_ = _) := HL5.out.c
  have HL6 := Lib.hid (HL5.out.put c2)
  have HC6 : Hid (_ = _) := HL6.out.c
  go_wp2_with (first
    | (refine wpList_store_row rfl 26 _ _ rfl b2 (arrOf .u64 16 c2) rfl rfl 26 _ HC5.out s26.out ss.out (arrOf_one _ _ _) ?_)
    | (refine wpList_load_row rfl 26 _ rfl b2 rfl 26 (arrOf .u64 16 c2) (0, 0) _ HC6.out Try.underlying26 rfl s26.out ?_))
  generalize w5.setRow b2 (arrOf .u64 16 c2) = w6 at *
  clear HL5 HC5 HC6
  refine (tcount_any c2 9 1 w6 c2_lt (by decide) (by decide)).mono ?_
  rintro e w7 ⟨rfl, hb⟩
  rw [cnt3]
  have HL7 := Lib.hid (HL6.out.then_ hb)
  clear hb HL6
  have hN := Lib.hid (zero_row16 w7 26)
  have HL8 := Lib.hid (HL7.out.then_ (below1 w7 (.cells (arrOf .u64 16 k0) 26)))
  have HT8 : Hid (_ = _) := HL8.out.t
  have hbA := Lib.hid built40_a
  have hbB := Lib.hid built40_b
  have hbC := Lib.hid built40_c
  go_wp2_with (first
    | (refine wpList_store_row rfl 26 _ _ rfl w7.heap.size (arrOf .u64 16 k0) rfl rfl 26 _ hN.out s26.out ss.out (arrOf_one _ _ _) ?_; rw [set_z16])
    | (refine wpList_load_row rfl 40 _ rfl b1 rfl 40 #[.int .u64 6, .int .u64 3] (0, 0) _ HT8.out Try.underlying40 rfl s40.out ?_)
    | (refine wpList_load_w 40 _ rfl rfl b1 rfl 40 #[.int .u64 6, .int .u64 3] (0, 0) _ HT8.out Try.underlying40 rfl s40.out ?_))
  generalize w7.alloc (.cells (arrOf .u64 16 k0) 26) = w8 at *
  clear HL7 hN HT8
  refine (value_any 6 3 w8 (by decide)).mono ?_
  rintro e w9 ⟨rfl, hb⟩
  have HL9 := Lib.hid (HL8.out.then_ hb)
  clear hb HL8
  have HC9 : Hid (_ = _) := HL9.out.c
  go_wp2_with (refine wpList_load_w 26 _ rfl rfl b2 rfl 26 (arrOf .u64 16 c2) (0, 0) _ HC9.out Try.underlying26 rfl s26.out ?_)
  refine (ttotal_any c2 w9).mono ?_
  rintro e wa ⟨rfl, hb⟩
  rw [show Tal.sum (list8 c2) = 5 by decide, show Tal.sum (list8 (half c2)) = 1 by decide]
  have HLa := Lib.hid (HL9.out.then_ hb)
  clear hb HL9 HC9
  have HTa : Hid (_ = _) := HLa.out.t
  go_wp2_with (first
    | (refine wpList_built_w 40 _ rfl rfl [(0, .int .u64 5), (1, .int .u64 1)] rfl _ hbB.out ?_)
    | (refine wpList_load_w 40 _ rfl rfl b1 rfl 40 #[.int .u64 6, .int .u64 3] (0, 0) _ HTa.out Try.underlying40 rfl s40.out ?_))
  refine (right_any 6 3 wa).mono ?_
  rintro e wb ⟨rfl, hb⟩
  rw [show decide (6 ≤ 4611686018427387904 ∧ 3 ≤ 4611686018427387904) = true by decide]
  have HLb := Lib.hid (HLa.out.then_ hb)
  clear hb HLa HTa
  go_wp2_with (refine wpList_built_w 40 _ rfl rfl [(0, .int .u64 4611686018427387905)] rfl _ hbC.out ?_)
  refine (right_any 4611686018427387905 0 wb).mono ?_
  rintro e wc ⟨rfl, hb⟩
  rw [show decide (4611686018427387905 ≤ 4611686018427387904 ∧ 0 ≤ 4611686018427387904) = false by decide]
  have HLc := Lib.hid (HLb.out.then_ hb)
  clear hb HLb
  go_wp2
  go_ret
  exact ⟨rfl, HLc.out.below⟩
end Go.Proofs.Ytbjndjmbbephbaa
