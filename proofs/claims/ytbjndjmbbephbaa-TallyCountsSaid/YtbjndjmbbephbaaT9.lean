/- Total of tally and of the reference. -/
import Derived.Test.YtbjndjmbbephbaaT8
namespace Go.Proofs.Ytbjndjmbbephbaa
open Go.RowKit

def list8 (f : Nat → Nat) : List Nat := (List.range 8).map f
theorem list8_len (f : Nat → Nat) : (list8 f).length = 8 := by simp [list8]
theorem nums_row8 {x : World} {b : Nat} {f : Nat → Nat} (h : x.heap[b]? = some (.cells (arrOf .u64 8 f) 24 (0, 0))) : Nums x (fun _ => True) (some ⟨b, 0, none⟩) (list8 f) :=
  ⟨fun _ => ⟨b, 0, rfl, trivial, fun j hj => by
    rw [list8_len] at hj
    rw [cell_of_row _ _ _ _ _ _ h, Nat.zero_add, arrOf_get _ _ hj, List.getD_eq_getElem?_getD, list8, List.getElem?_map, List.getElem?_range hj]
    rfl⟩⟩
theorem index53_0 (h : Nat → Nat) (w : World) : (Instr.index 53 (ctrV h) (.int .i64 ((0 : Nat) : Int))).run Try.prog w = .ok (vecV h) w := by kernel_rfl
theorem index53_1 (h : Nat → Nat) (w : World) : (Instr.index 53 (ctrV h) (.int .i64 ((1 : Nat) : Int))).run Try.prog w = .ok (vecV (half h)) w := by kernel_rfl
theorem frozen_row {x : World} {b t : Nat} {cs : Array Value} (h : x.heap[b]? = some (.cells cs t (0, 0))) (j : Nat) : x.frozen? ⟨b, j, none⟩ = false := by
  simp [World.frozen?, h]
theorem exec_index {P : Program} {ev : Operand → Value} {o : Oper} {w : World} (t : TypeId) (x y : Operand) (ho : o.op = .index t x y) {v u r : Value} (hx : ev x = v) (hy : ev y = u) (h : (Instr.index t v u).run P w = .ok r w) : (execOp ev o).run P w = .ok (.value r) w := by
  unfold execOp
  simp only [ho, hx, hy, Sem.run_bind, h, Result.andThen_ok, Sem.run_pure]
theorem wpList_index {P : Program} {ops : Array Oper} {rest : List Oper} {o : Oper} {a : Act} {w : World} {Q : Exit → Act → World → Prop} (hgd : o.guard = none) (t : TypeId) (x y : Operand) (ho : o.op = .index t x y) {v u r : Value} (hx : a.eval x = v) (hy : a.eval y = u) (hr : (Instr.index t v u).run P w = .ok r w)
    (h : wpList P ops Q rest (a.put o.dst r) w) : wpList P ops Q (o :: rest) a w :=
  wpList_plain hgd fun _ hK => by
    unfold Oper.wp
    rw [exec_index t x y ho hx hy hr]
    exact hK _ _ h

/-- A boxed counter, a result, the totals of both ways. -/
structure QInv (w : World) (h : Nat → Nat) (u d : Nat) (x : World) : Prop where
  a : x.heap[w.heap.size]? = some (.cells (arrOf .u64 16 h) 26 (0, 0))
  r : x.heap[w.heap.size + 1]? = some (.cells #[.int .u64 0, .int .u64 0] 40 (0, 0))
  t : x.heap[w.heap.size + 1 + 1]? = some (.cells #[.int .u64 (u : Int), .int .u64 (d : Int)] 55 (0, 0))
  below : Below w.heap.size w x
theorem QInv.start (w : World) (h : Nat → Nat) : QInv w h 0 0 (((w.alloc (.cells (arrOf .u64 16 h) 26)).alloc (.cells #[.int .u64 0, .int .u64 0] 40)).alloc (.cells #[.int .u64 0, .int .u64 0] 55)) := by
  have I := Two.start w (arrOf .u64 16 h) #[.int .u64 0, .int .u64 0] #[.int .u64 0, .int .u64 0] 26 40 55 2 rfl
  have h3 : (((w.alloc (.cells (arrOf .u64 16 h) 26)).alloc (.cells #[.int .u64 0, .int .u64 0] 40)).alloc (.cells #[.int .u64 0, .int .u64 0] 55)).heap[w.heap.size + 1 + 1]? = some (.cells #[.int .u64 0, .int .u64 0] 55 (0, 0)) := by simpa using heap_alloc_new ((w.alloc (.cells (arrOf .u64 16 h) 26)).alloc (.cells #[.int .u64 0, .int .u64 0] 40)) (.cells #[.int .u64 0, .int .u64 0] 55)
  exact ⟨I.a, I.b, h3, I.below⟩
theorem QInv.then_ {w x y : World} {h : Nat → Nat} {u d : Nat} (hb : Below x.heap.size x y) (I : QInv w h u d x) : QInv w h u d y :=
  ⟨(hb.block _ (lt_of_row I.a)).trans I.a, (hb.block _ (lt_of_row I.r)).trans I.r, (hb.block _ (lt_of_row I.t)).trans I.t, I.below.trans (hb.mono I.below.size)⟩
theorem setCell_pair0 {x : World} {b t : Nat} {u d : Int} (h : x.heap[b]? = some (.cells #[.int .u64 u, .int .u64 d] t (0, 0))) (v : Int) : (x.setCell ⟨b, 0, none⟩ (.int .u64 v)).heap[b]? = some (.cells #[.int .u64 v, .int .u64 d] t (0, 0)) := by
  simp [World.setCell, Array.getElem?_modify, h]
theorem setCell_pair1 {x : World} {b t : Nat} {u d : Int} (h : x.heap[b]? = some (.cells #[.int .u64 u, .int .u64 d] t (0, 0))) (v : Int) : (x.setCell ⟨b, 1, none⟩ (.int .u64 v)).heap[b]? = some (.cells #[.int .u64 u, .int .u64 v] t (0, 0)) := by
  simp [World.setCell, Array.getElem?_modify, h]
theorem QInv.up {w x : World} {h : Nat → Nat} {u d : Nat} (I : QInv w h u d x) (v : Nat) : QInv w h v d (x.setCell ⟨w.heap.size + 1 + 1, 0, none⟩ (.int .u64 (v : Int))) :=
  ⟨(Below.heap_setCell _ _ _ _ (by simp; omega)).trans I.a, (Below.heap_setCell _ _ _ _ (by simp)).trans I.r, setCell_pair0 I.t _, I.below.setCell (by simp; omega) _⟩
theorem QInv.down {w x : World} {h : Nat → Nat} {u d : Nat} (I : QInv w h u d x) (v : Nat) : QInv w h u v (x.setCell ⟨w.heap.size + 1 + 1, 1, none⟩ (.int .u64 (v : Int))) :=
  ⟨(Below.heap_setCell _ _ _ _ (by simp; omega)).trans I.a, (Below.heap_setCell _ _ _ _ (by simp)).trans I.r, setCell_pair1 I.t _, I.below.setCell (by simp; omega) _⟩

theorem total8 {x : World} {b : Nat} {f : Nat → Nat} {s : Nat} (h : x.heap[b]? = some (.cells (arrOf .u64 8 f) 24 (0, 0))) (e : s = Tal.sum (list8 f)) :
    Calls Try.prog 23 #[.slice (some ⟨b, 0, none⟩) 8 8] x fun e w' => e = .returned (.int .u64 (s : Int)) ∧ w' = x := by
  subst e
  have k := total_any (list8 f) 8 (some ⟨b, 0, none⟩) x (nums_row8 h) (by rw [list8_len]; omega)
  rw [list8_len] at k
  exact k
set_option maxRecDepth 100000 in
set_option maxHeartbeats 2000000 in
theorem ttotal_any (h : Nat → Nat) (w : World) : Calls Try.prog 14 #[ctrV h] w fun e w' => e = .returned (tallyV (Tal.sum (list8 h)) (Tal.sum (list8 (half h)))) ∧ Below w.heap.size w w' := by
  have HI0 := Lib.hid (QInv.start w h)
  have hL := Lib.hid (QInv.start w h).a
  have s26 : ∀ {f : Nat → Nat}, Hid ((Try.prog.info? 26).map (·.size) = some (arrOf .u64 16 f).size) := fun {f} => by rw [arrOf_size]; exact size26
  have s24 : ∀ {f : Nat → Nat}, Hid ((Try.prog.info? 24).map (·.size) = some (arrOf .u64 8 f).size) := fun {f} => by rw [arrOf_size]; exact size24
  have zs : ∀ {f : Nat → Nat}, Hid ((#[.int .u64 0, .int .u64 0, .int .u64 0, .int .u64 0, .int .u64 0, .int .u64 0, .int .u64 0, .int .u64 0] : Array Value).size = (arrOf .u64 8 f).size) := fun {f} => by rw [arrOf_size]; exact rfl
  obtain ⟨u, hu⟩ : ∃ u, u = Tal.sum (list8 h) := ⟨_, rfl⟩
  obtain ⟨d, hd⟩ : ∃ d, d = Tal.sum (list8 (half h)) := ⟨_, rfl⟩
  rw [← hu, ← hd]
  have HU := Lib.hid hu
  have HD := Lib.hid hd
  clear hu hd
  go_enter Try.func14, Try.ntmps14
  go_wp2_with (refine wpList_load_row rfl 26 _ rfl w.heap.size rfl 26 (arrOf .u64 16 h) (0, 0) _ hL.out Try.underlying26 rfl s26.out ?_)
  generalize ((w.alloc (.cells (arrOf .u64 16 h) 26)).alloc (.cells #[.int .u64 0, .int .u64 0] 40)).alloc (.cells #[.int .u64 0, .int .u64 0] 55) = w1 at *
  refine (vectors_any h w1).mono ?_
  rintro e w2 ⟨rfl, hb⟩
  have HI2 := Lib.hid (HI0.out.then_ hb)
  clear hb HI0 hL
  go_wp2_with fail
  go_loopw [8] (fun v wx => ∃ j : Nat, j ≤ 2 ∧ v = .int .i64 j ∧ Hid (QInv w h (if 0 < j then u else 0) (if 1 < j then d else 0) wx)) (fun v _ => 2 - (intOf v).toNat)
  case atStart => exact ⟨0, by omega, rfl, HI2⟩
  case round =>
    clear HI2
    obtain ⟨j, hj, rfl, HI⟩ := hrel
    rcases (show j = 0 ∨ j = 1 ∨ j = 2 by omega) with rfl | rfl | rfl
    · have HI : QInv w h 0 0 wr := by simpa using HI.out
      have hN := Lib.hid (heap_alloc_new wr (.cells #[.int .u64 0, .int .u64 0, .int .u64 0, .int .u64 0, .int .u64 0, .int .u64 0, .int .u64 0, .int .u64 0] 24))
      have HK := HI.then_ (below1 wr (.cells (arrOf .u64 8 h) 24))
      have HT := Lib.hid (total8 (heap_alloc_new wr (.cells (arrOf .u64 8 h) 24)) HU.out)
      have HX := Lib.hid (index53_0 h wr)
      have c1 : (wr.alloc (.cells (arrOf .u64 8 h) 24)).cell? ⟨w.heap.size + 1 + 1, 0, none⟩ = some (.int .u64 0) := by rw [cell_of_row _ _ _ _ _ _ HK.t]; rfl
      have f1 : (wr.alloc (.cells (arrOf .u64 8 h) 24)).frozen? ⟨w.heap.size + 1 + 1, 0, none⟩ = false := frozen_row HK.t _
      have HO := Lib.hid (HK.up u)
      clear HI HK
      go_wp2_with (first
        | (refine wpList_index rfl 53 _ _ rfl (v := ctrV h) (u := .int .i64 ((0 : Nat) : Int)) rfl rfl HX.out ?_)
        | (refine wpList_store_row rfl 24 _ _ rfl wr.heap.size (arrOf .u64 8 h) rfl rfl 24 _ hN.out s24.out zs.out (arrOf_one _ _ _) ?_; rw [World.setRow_alloc_new])
        | (go_at_call 23; refine HT.out.mono ?_; rintro e w5 ⟨rfl, rfl⟩))
      go_roundw
      case rel => exact ⟨1, by omega, by first | rfl | go_num, by simpa using HO⟩
      case measure => simp [intOf]
    · have HI : QInv w h u 0 wr := by simpa using HI.out
      have hN := Lib.hid (heap_alloc_new wr (.cells #[.int .u64 0, .int .u64 0, .int .u64 0, .int .u64 0, .int .u64 0, .int .u64 0, .int .u64 0, .int .u64 0] 24))
      have HK := HI.then_ (below1 wr (.cells (arrOf .u64 8 (half h)) 24))
      have HT := Lib.hid (total8 (heap_alloc_new wr (.cells (arrOf .u64 8 (half h)) 24)) HD.out)
      have HX := Lib.hid (index53_1 h wr)
      have c1 : (wr.alloc (.cells (arrOf .u64 8 (half h)) 24)).cell? ⟨w.heap.size + 1 + 1, 1, none⟩ = some (.int .u64 0) := by rw [cell_of_row _ _ _ _ _ _ HK.t]; rfl
      have f1 : (wr.alloc (.cells (arrOf .u64 8 (half h)) 24)).frozen? ⟨w.heap.size + 1 + 1, 1, none⟩ = false := frozen_row HK.t _
      have HO := Lib.hid (HK.down d)
      clear HI HK
      go_wp2_with (first
        | (refine wpList_index rfl 53 _ _ rfl (v := ctrV h) (u := .int .i64 ((1 : Nat) : Int)) rfl rfl HX.out ?_)
        | (refine wpList_store_row rfl 24 _ _ rfl wr.heap.size (arrOf .u64 8 (half h)) rfl rfl 24 _ hN.out s24.out zs.out (arrOf_one _ _ _) ?_; rw [World.setRow_alloc_new])
        | (go_at_call 23; refine HT.out.mono ?_; rintro e w5 ⟨rfl, rfl⟩))
      go_roundw
      case rel => exact ⟨2, by omega, by first | rfl | go_num, by simpa using HO⟩
      case measure => simp [intOf]
    · have HI : QInv w h u d wr := by simpa using HI.out
      have HR := Lib.hid HI.r
      have HB := Lib.hid HI.below
      have c0 : wr.cell? ⟨w.heap.size + 1 + 1, 0, none⟩ = some (.int .u64 (u : Int)) := by rw [cell_of_row _ _ _ _ _ _ HI.t]; rfl
      have c1 : wr.cell? ⟨w.heap.size + 1 + 1, 1, none⟩ = some (.int .u64 (d : Int)) := by rw [cell_of_row _ _ _ _ _ _ HI.t]; rfl
      have t40 : Hid ((Try.prog.info? 40).map (·.size) = some (#[.int .u64 (u : Int), .int .u64 (d : Int)] : Array Value).size) := size40
      have p2 : Hid ((#[.int .u64 (u : Int), .int .u64 (d : Int)] : Array Value).all (·.oneCell') = true) := two_one _ _ rfl rfl
      have y2 : Hid ((#[.int .u64 0, .int .u64 0] : Array Value).size = (#[.int .u64 (u : Int), .int .u64 (d : Int)] : Array Value).size) := rfl
      clear HI
      go_wp2_with (first
        | (refine wpList_store_row rfl 40 _ _ rfl (w.heap.size + 1) #[.int .u64 (u : Int), .int .u64 (d : Int)] rfl rfl 40 _ HR.out t40.out y2.out p2.out ?_)
        | (refine bodyPost_ret (results_cell_row Try.results14 _ _ (w.heap.size + 1) 40 _ (0, 0) _ rfl (setRow_heap _ _ _ _ _ _ HR.out) Try.underlying40 rfl t40.out) rfl ⟨rfl, below_setRow' HB.out (by omega) _⟩))
end Go.Proofs.Ytbjndjmbbephbaa
