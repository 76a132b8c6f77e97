/- Counters: vectors and Join of tally, the law's own 'of' and 'as'. -/
import Derived.Test.YtbjndjmbbephbaaT5
namespace Go.Proofs.Ytbjndjmbbephbaa
open Go.RowKit

/-- The counter whose numbers are h: 8 up, then 8 down. -/
abbrev ctrV (h : Nat → Nat) : Value := .agg (arrOf .u64 16 h)
def half (h : Nat → Nat) : Nat → Nat := fun i => h (8 + i)
theorem range_lo {x : World} {b : Nat} {t : TypeId} {h : Nat → Nat} (hr : x.heap[b]? = some (.cells (arrOf .u64 16 h) t (0, 0))) : rangeA x b 0 (arrOf .u64 8 h) :=
  rangeA_arr fun j hj => by rw [cell_of_row _ _ _ _ _ _ hr, arrOf_get _ _ (by omega), Nat.zero_add]
theorem range_hi {x : World} {b : Nat} {t : TypeId} {h : Nat → Nat} (hr : x.heap[b]? = some (.cells (arrOf .u64 16 h) t (0, 0))) : rangeA x b 8 (arrOf .u64 8 (half h)) :=
  rangeA_arr fun j hj => by rw [cell_of_row _ _ _ _ _ _ hr, arrOf_get _ _ (by omega)]; rfl
theorem arr16 (h : Nat → Nat) : arrOf .u64 16 h = #[.int .u64 (h 0 : Int), .int .u64 (h 1 : Int), .int .u64 (h 2 : Int), .int .u64 (h 3 : Int), .int .u64 (h 4 : Int), .int .u64 (h 5 : Int), .int .u64 (h 6 : Int), .int .u64 (h 7 : Int), .int .u64 (h 8 : Int), .int .u64 (h 9 : Int), .int .u64 (h 10 : Int), .int .u64 (h 11 : Int), .int .u64 (h 12 : Int), .int .u64 (h 13 : Int), .int .u64 (h 14 : Int), .int .u64 (h 15 : Int)] := rfl
theorem built53 (h : Nat → Nat) : Try.prog.built 53 [(0, vecV h), (1, vecV (half h))] = some (arrOf .u64 16 h) := by kernel_rfl
theorem built30 (h : Nat → Nat) : Try.prog.built 30 [(0, vecV h), (1, vecV (half h))] = some (arrOf .u64 16 h) := by kernel_rfl
theorem built26 (h : Nat → Nat) : Try.prog.built 26 [(0, vecV h), (1, vecV (half h))] = some (arrOf .u64 16 h) := by kernel_rfl
theorem z16_size (h : Nat → Nat) : (#[.int .u64 0, .int .u64 0, .int .u64 0, .int .u64 0, .int .u64 0, .int .u64 0, .int .u64 0, .int .u64 0, .int .u64 0, .int .u64 0, .int .u64 0, .int .u64 0, .int .u64 0, .int .u64 0, .int .u64 0, .int .u64 0] : Array Value).size = (arrOf .u64 16 h).size := by rw [arrOf_size]; rfl
theorem zz_size : (#[.int .u64 0, .int .u64 0, .int .u64 0, .int .u64 0, .int .u64 0, .int .u64 0, .int .u64 0, .int .u64 0, .int .u64 0, .int .u64 0, .int .u64 0, .int .u64 0, .int .u64 0, .int .u64 0, .int .u64 0, .int .u64 0] : Array Value).size = 16 := rfl

set_option maxRecDepth 100000 in
set_option maxHeartbeats 1000000 in
theorem vectors_any (h : Nat → Nat) (w : World) : Calls Try.prog 20 #[ctrV h] w fun e w' => e = .returned (ctrV h) ∧ Below w.heap.size w w' := by
  have HI0 := One.start w (arrOf .u64 16 h) #[.int .u64 0, .int .u64 0, .int .u64 0, .int .u64 0, .int .u64 0, .int .u64 0, .int .u64 0, .int .u64 0, .int .u64 0, .int .u64 0, .int .u64 0, .int .u64 0, .int .u64 0, .int .u64 0, .int .u64 0, .int .u64 0] 26 53
  have HL := Lib.hid (range_lo HI0.a)
  have HH := Lib.hid (range_hi HI0.a)
  have HR := Lib.hid HI0.r
  have HO := Lib.hid (HI0.out (arrOf .u64 16 h))
  have HZ := Lib.hid (z16_size h)
  have HB := Lib.hid (built53 h)
  have s24 : ∀ {f : Nat → Nat}, Hid ((Try.prog.info? 24).map (·.size) = some (arrOf .u64 8 f).size) := fun {f} => by rw [arrOf_size]; exact size24
  have s16 : ∀ {f : Nat → Nat}, Hid ((Try.prog.info? 53).map (·.size) = some (arrOf .u64 16 f).size) := fun {f} => by rw [arrOf_size]; exact size53
  clear HI0
  go_enter Try.func20, Try.ntmps20
  go_wp2_with (first
    | (refine wpList_load_arr rfl 24 _ rfl w.heap.size 0 rfl (arrOf .u64 8 h) _ HL.out Try.underlying24 rfl s24.out ?_)
    | (refine wpList_load_arr rfl 24 _ rfl w.heap.size 8 rfl (arrOf .u64 8 (half h)) _ HH.out Try.underlying24 rfl s24.out ?_)
    | (refine wpList_built rfl 53 _ rfl [(0, vecV h), (1, vecV (half h))] rfl _ HB.out ?_)
    | (refine wpList_store_row rfl 53 _ _ rfl (w.heap.size + 1) (arrOf .u64 16 h) rfl rfl 53 _ HR.out s16.out HZ.out (arrOf_one _ _ _) ?_)
    | (refine bodyPost_ret (results_cell_row Try.results20 _ _ (w.heap.size + 1) 53 _ (0, 0) _ rfl HO.out.r Try.underlying53 rfl s16.out) rfl ⟨rfl, HO.out.below⟩))

set_option maxRecDepth 100000 in
set_option maxHeartbeats 1000000 in
theorem of_any (h : Nat → Nat) (w : World) : Calls Try.prog 9 #[ctrV h] w fun e w' => e = .returned (ctrV h) ∧ Below w.heap.size w w' := by
  have HI0 := One.start w (arrOf .u64 16 h) #[.int .u64 0, .int .u64 0, .int .u64 0, .int .u64 0, .int .u64 0, .int .u64 0, .int .u64 0, .int .u64 0, .int .u64 0, .int .u64 0, .int .u64 0, .int .u64 0, .int .u64 0, .int .u64 0, .int .u64 0, .int .u64 0] 26 30
  have HL := Lib.hid (range_lo HI0.a)
  have HH := Lib.hid (range_hi HI0.a)
  have HR := Lib.hid HI0.r
  have HO := Lib.hid (HI0.out (arrOf .u64 16 h))
  have HZ := Lib.hid (z16_size h)
  have HB := Lib.hid (built30 h)
  have s24 : ∀ {f : Nat → Nat}, Hid ((Try.prog.info? 24).map (·.size) = some (arrOf .u64 8 f).size) := fun {f} => by rw [arrOf_size]; exact size24
  have s16 : ∀ {f : Nat → Nat}, Hid ((Try.prog.info? 30).map (·.size) = some (arrOf .u64 16 f).size) := fun {f} => by rw [arrOf_size]; exact size30
  clear HI0
  go_enter Try.func9, Try.ntmps9
  go_wp2_with (first
    | (refine wpList_load_arr rfl 24 _ rfl w.heap.size 0 rfl (arrOf .u64 8 h) _ HL.out Try.underlying24 rfl s24.out ?_)
    | (refine wpList_load_arr rfl 24 _ rfl w.heap.size 8 rfl (arrOf .u64 8 (half h)) _ HH.out Try.underlying24 rfl s24.out ?_)
    | (refine wpList_built rfl 30 _ rfl [(0, vecV h), (1, vecV (half h))] rfl _ HB.out ?_)
    | (refine wpList_store_row rfl 30 _ _ rfl (w.heap.size + 1) (arrOf .u64 16 h) rfl rfl 30 _ HR.out s16.out HZ.out (arrOf_one _ _ _) ?_)
    | (refine bodyPost_ret (results_cell_row Try.results9 _ _ (w.heap.size + 1) 30 _ (0, 0) _ rfl HO.out.r Try.underlying30 rfl s16.out) rfl ⟨rfl, HO.out.below⟩))

set_option maxHeartbeats 400000 in
theorem as_any (u d : Nat) (w : World) : Calls Try.prog 13 #[tallyV u d] w fun e w' => e = .returned (tallyV u d) ∧ Below w.heap.size w w' := by
  have HI0 := One.start w #[.int .u64 (u : Int), .int .u64 (d : Int)] #[.int .u64 0, .int .u64 0] 40 38
  have HR := Lib.hid HI0.r
  have HO := Lib.hid (HI0.out #[.int .u64 (u : Int), .int .u64 (d : Int)])
  have s38 : Hid ((Try.prog.info? 38).map (·.size) = some (#[.int .u64 (u : Int), .int .u64 (d : Int)] : Array Value).size) := size38
  have o2 : Hid ((#[.int .u64 (u : Int), .int .u64 (d : Int)] : Array Value).all (·.oneCell') = true) := two_one _ _ rfl rfl
  have z2 : Hid ((#[.int .u64 0, .int .u64 0] : Array Value).size = (#[.int .u64 (u : Int), .int .u64 (d : Int)] : Array Value).size) := rfl
  clear HI0
  go_enter Try.func13, Try.ntmps13
  go_wp2_with (first
    | (refine wpList_store_row rfl 38 _ _ rfl (w.heap.size + 1) #[.int .u64 (u : Int), .int .u64 (d : Int)] rfl rfl 38 _ HR.out s38.out z2.out o2.out ?_)
    | (refine bodyPost_ret (results_cell_row Try.results13 _ _ (w.heap.size + 1) 38 _ (0, 0) _ rfl HO.out.r Try.underlying38 rfl s38.out) rfl ⟨rfl, HO.out.below⟩))
end Go.Proofs.Ytbjndjmbbephbaa
