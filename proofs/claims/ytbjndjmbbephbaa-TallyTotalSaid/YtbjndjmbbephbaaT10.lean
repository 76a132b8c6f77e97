/- The reference's Total. -/
import Derived.Test.YtbjndjmbbephbaaT9
namespace Go.Proofs.Ytbjndjmbbephbaa
open Go.RowKit

def tl (f : Nat → Nat) (i : Nat) : Nat := Tal.sum ((List.range i).map f)
theorem tl_succ (f : Nat → Nat) (i : Nat) : tl f (i + 1) = Tal.add (tl f i) (f i) := by
  unfold tl
  rw [List.range_succ, List.map_append]
  exact Tal.sum_snoc' _ _
theorem tl_lt (f : Nat → Nat) (i : Nat) : tl f i < 18446744073709551616 := Nat.lt_of_le_of_lt (Tal.sum_le _) (by decide)
/-- A boxed counter, a result, a tally. -/
structure UInv (w : World) (h : Nat → Nat) (u d : Nat) (x : World) : Prop where
  a : x.heap[w.heap.size]? = some (.cells (arrOf .u64 16 h) 30 (0, 0))
  r : x.heap[w.heap.size + 1]? = some (.cells #[.int .u64 0, .int .u64 0] 38 (0, 0))
  t : x.heap[w.heap.size + 1 + 1]? = some (.cells #[.int .u64 (u : Int), .int .u64 (d : Int)] 38 (0, 0))
  below : Below w.heap.size w x
theorem UInv.start (w : World) (h : Nat → Nat) : UInv w h 0 0 (((w.alloc (.cells (arrOf .u64 16 h) 30)).alloc (.cells #[.int .u64 0, .int .u64 0] 38)).alloc (.cells #[.int .u64 0, .int .u64 0] 38)) := by
  have I := Two.start w (arrOf .u64 16 h) #[.int .u64 0, .int .u64 0] #[.int .u64 0, .int .u64 0] 30 38 38 2 rfl
  have h3 : (((w.alloc (.cells (arrOf .u64 16 h) 30)).alloc (.cells #[.int .u64 0, .int .u64 0] 38)).alloc (.cells #[.int .u64 0, .int .u64 0] 38)).heap[w.heap.size + 1 + 1]? = some (.cells #[.int .u64 0, .int .u64 0] 38 (0, 0)) := by simpa using heap_alloc_new ((w.alloc (.cells (arrOf .u64 16 h) 30)).alloc (.cells #[.int .u64 0, .int .u64 0] 38)) (.cells #[.int .u64 0, .int .u64 0] 38)
  exact ⟨I.a, I.b, h3, I.below⟩
theorem UInv.then_ {w x y : World} {h : Nat → Nat} {u d : Nat} (hb : Below x.heap.size x y) (I : UInv w h u d x) : UInv w h u d y :=
  ⟨(hb.block _ (lt_of_row I.a)).trans I.a, (hb.block _ (lt_of_row I.r)).trans I.r, (hb.block _ (lt_of_row I.t)).trans I.t, I.below.trans (hb.mono I.below.size)⟩
theorem UInv.drew {w x : World} {h : Nat → Nat} {u d : Nat} (I : UInv w h u d x) : UInv w h u d x.drew := ⟨I.a, I.r, I.t, ⟨I.below.os, I.below.tape, I.below.output, I.below.size, I.below.block⟩⟩
theorem UInv.put {w x : World} {h : Nat → Nat} {u d : Nat} (I : UInv w h u d x) (p q : Nat) : UInv w h p q (x.setRow (w.heap.size + 1 + 1) #[.int .u64 (p : Int), .int .u64 (q : Int)]) :=
  ⟨(setRow_other _ _ _ _ (by omega)).trans I.a, (setRow_other _ _ _ _ (by omega)).trans I.r, setRow_heap _ _ _ _ _ _ I.t, below_setRow' I.below (by omega) _⟩
theorem UInv.put2 {w x : World} {h : Nat → Nat} {u d : Nat} (I : UInv w h u d x) (p q : Nat) : UInv w h p q ((x.setCell ⟨w.heap.size + 1 + 1, 0, none⟩ (.int .u64 (p : Int))).setCell ⟨w.heap.size + 1 + 1, 1, none⟩ (.int .u64 (q : Int))) :=
  ⟨((Below.heap_setCell _ _ _ _ (by simp; omega)).trans (Below.heap_setCell _ _ _ _ (by simp; omega))).trans I.a, ((Below.heap_setCell _ _ _ _ (by simp)).trans (Below.heap_setCell _ _ _ _ (by simp))).trans I.r, setCell_pair1 (setCell_pair0 I.t _) _, (I.below.setCell (by simp; omega) _).setCell (by simp; omega) _⟩

set_option maxRecDepth 100000 in
set_option maxHeartbeats 2000000 in
theorem ttotalR_any (h : Nat → Nat) (w : World) (hh : ∀ i, i < 16 → h i < 18446744073709551616) : Calls Try.prog 15 #[ctrV h] w fun e w' => e = .returned (tallyV (Tal.sum (list8 h)) (Tal.sum (list8 (half h)))) ∧ Below w.heap.size w w' := by
  have HI0 := Lib.hid (UInv.start w h)
  have HH := Lib.hid hh
  clear hh
  go_enter Try.func15, Try.ntmps15
  go_wp2_with fail
  generalize ((w.alloc (.cells (arrOf .u64 16 h) 30)).alloc (.cells #[.int .u64 0, .int .u64 0] 38)).alloc (.cells #[.int .u64 0, .int .u64 0] 38) = w1 at *
  go_loopw [4] (fun v wx => ∃ j : Nat, j ≤ 8 ∧ v = .int .i64 j ∧ Hid (UInv w h (tl h j) (tl (half h) j) wx)) (fun v _ => 8 - (intOf v).toNat)
  case atStart => exact ⟨0, by omega, rfl, HI0⟩
  case round =>
    clear HI0
    obtain ⟨j, hj, rfl, HI⟩ := hrel
    by_cases hlt : j < 8
    · obtain ⟨u, hu⟩ : ∃ u, u = tl h j := ⟨_, rfl⟩
      obtain ⟨d, hd⟩ : ∃ d, d = tl (half h) j := ⟨_, rfl⟩
      obtain ⟨x, hx⟩ : ∃ x, x = h j := ⟨_, rfl⟩
      obtain ⟨y, hy⟩ : ∃ y, y = h (8 + j) := ⟨_, rfl⟩
      obtain ⟨P, hP⟩ : ∃ P, P = Tal.add u x := ⟨_, rfl⟩
      obtain ⟨Q, hQ⟩ : ∃ Q, Q = Tal.add d y := ⟨_, rfl⟩
      have HP : Hid (tl h (j + 1) = P) := by show _ = _; rw [tl_succ, ← hu, ← hx, hP]
      have HQ : Hid (tl (half h) (j + 1) = Q) := by show _ = _; rw [tl_succ, ← hd, hQ, hy]; rfl
      have HC : Hid (∀ w', Calls Try.prog 24 #[tallyV u d, tallyV x y] w' fun e w'' => e = .returned (tallyV P Q) ∧ Below w'.heap.size w' w'') := fun w' => by
        rw [hP, hQ]
        exact tplusR_any u d x y w' (by rw [hu]; exact tl_lt _ _) (by rw [hd]; exact tl_lt _ _) (by rw [hx]; exact HH.out _ (by omega)) (by rw [hy]; exact HH.out _ (by omega))
      rw [← hu, ← hd] at HI
      have c0 : wr.cell? ⟨w.heap.size + 1 + 1, 0, none⟩ = some (.int .u64 (u : Int)) := by rw [cell_of_row _ _ _ _ _ _ HI.out.t]; rfl
      have c1 : wr.cell? ⟨w.heap.size + 1 + 1, 1, none⟩ = some (.int .u64 (d : Int)) := by rw [cell_of_row _ _ _ _ _ _ HI.out.t]; rfl
      have c2 : wr.cell? ⟨w.heap.size, j, none⟩ = some (.int .u64 (x : Int)) := by rw [cell_of_row _ _ _ _ _ _ HI.out.a, arrOf_get _ _ (by omega), hx]
      have c3 : wr.cell? ⟨w.heap.size, 8 + j, none⟩ = some (.int .u64 (y : Int)) := by rw [cell_of_row _ _ _ _ _ _ HI.out.a, arrOf_get _ _ (by omega), hy]
      have HID := Lib.hid HI.out.drew
      clear hu hd hx hy hP hQ HI
      go_wp2_with fail
      go_region_with (go_at_call 24; refine (HC.out _).mono ?_; rintro e w4 ⟨rfl, hb⟩; have HI4 := Lib.hid (HID.out.then_ hb); have d0 : w4.cell? ⟨w.heap.size + 1 + 1, 0, none⟩ = some (.int .u64 (u : Int)) := (by rw [cell_of_row _ _ _ _ _ _ HI4.out.t]; rfl); have d1 : w4.cell? ⟨w.heap.size + 1 + 1, 1, none⟩ = some (.int .u64 (d : Int)) := (by rw [cell_of_row _ _ _ _ _ _ HI4.out.t]; rfl); have f0 := frozen_row HI4.out.t 0; have f1 := frozen_row HI4.out.t 1; clear hb)
      all_goals
        go_wp2_with fail
        exact ⟨⟨j + 1, by omega, by go_num, by rw [HP.out, HQ.out]; exact Lib.hid (HI4.out.put2 P Q)⟩, by simp [intOf]; omega⟩
    · obtain rfl : j = 8 := by omega
      have HE : Hid (Ending.returned (tallyV (tl h 8) (tl (half h) 8)) = Ending.returned (tallyV (Tal.sum (list8 h)) (Tal.sum (list8 (half h))))) := rfl
      obtain ⟨u, hu⟩ : ∃ u, u = tl h 8 := ⟨_, rfl⟩
      obtain ⟨d, hd⟩ : ∃ d, d = tl (half h) 8 := ⟨_, rfl⟩
      rw [← hu, ← hd] at HI HE
      clear hu hd
      have HT := Lib.hid HI.out.t
      have HR := Lib.hid HI.out.r
      have HB := Lib.hid HI.out.below
      have t38 : ∀ {x y : Int}, Hid ((Try.prog.info? 38).map (·.size) = some (#[.int .u64 x, .int .u64 y] : Array Value).size) := fun {x y} => size38
      have p2 : Hid ((#[.int .u64 (u : Int), .int .u64 (d : Int)] : Array Value).all (·.oneCell') = true) := two_one _ _ rfl rfl
      have y2 : Hid ((#[.int .u64 0, .int .u64 0] : Array Value).size = (#[.int .u64 (u : Int), .int .u64 (d : Int)] : Array Value).size) := rfl
      clear HI
      go_wp2_with (first
        | (refine wpList_load_row rfl 38 _ rfl (w.heap.size + 1 + 1) rfl 38 #[.int .u64 (u : Int), .int .u64 (d : Int)] (0, 0) _ HT.out Try.underlying38 rfl t38.out ?_)
        | (refine wpList_store_row rfl 38 _ _ rfl (w.heap.size + 1) #[.int .u64 (u : Int), .int .u64 (d : Int)] rfl rfl 38 _ HR.out t38.out y2.out p2.out ?_)
        | (refine bodyPost_ret (results_cell_row Try.results15 _ _ (w.heap.size + 1) 38 _ (0, 0) _ rfl (setRow_heap _ _ _ _ _ _ HR.out) Try.underlying38 rfl t38.out) rfl ⟨HE.out, below_setRow' HB.out (by omega) _⟩))
end Go.Proofs.Ytbjndjmbbephbaa
