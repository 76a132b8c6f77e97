/- With, Covers, Has, Next, Order of vec and of the reference. -/
import Derived.Test.YtnpacjdgbmldlaaV1
import Derived.Test.YtnpacjdgbmldlaaEq
namespace Go.Proofs.Ytnpacjdgbmldlaa
open Go.RowKit

namespace Vec
def with_ (f : Nat → Nat) (n : Int) (k : Nat) : Nat → Nat := fun i => if Vec.right n k = true ∧ (i : Int) + 1 = n then max (f i) k else f i
def covers (f g : Nat → Nat) : Bool := (List.range 8).all fun i => decide (g i ≤ f i)
def same (f g : Nat → Nat) : Bool := (List.range 8).all fun i => decide (f i = g i)
theorem covers_iff (f g : Nat → Nat) : covers f g = true ↔ ∀ i, i < 8 → g i ≤ f i := by simp only [covers, List.all_eq_true, List.mem_range, decide_eq_true_eq]
theorem same_iff (f g : Nat → Nat) : same f g = true ↔ ∀ i, i < 8 → f i = g i := by simp only [same, List.all_eq_true, List.mem_range, decide_eq_true_eq]
def has (f : Nat → Nat) (n : Int) (k : Nat) : Bool := Vec.right n k && decide (k ≤ Vec.get f n)
end Vec
/-- Block b holds a dot. -/
def DotAt (w : World) (b : Nat) (t : TypeId) (n : Int) (k : Nat) : Prop := w.heap[b]? = some (.cells #[.int .i64 n, .int .u64 (k : Int)] t (0, 0))
theorem DotAt.node {w : World} {b : Nat} {t : TypeId} {n : Int} {k : Nat} (h : DotAt w b t n k) : w.cell? ⟨b, 0, none⟩ = some (.int .i64 n) := by rw [cell_of_row _ _ _ _ _ _ h]; rfl
theorem DotAt.num {w : World} {b : Nat} {t : TypeId} {n : Int} {k : Nat} (h : DotAt w b t n k) : w.cell? ⟨b, 1, none⟩ = some (.int .u64 (k : Int)) := by rw [cell_of_row _ _ _ _ _ _ h]; rfl
theorem DotAt.keep {w w' : World} {b : Nat} {t : TypeId} {n : Int} {k : Nat} (h : DotAt w b t n k) (e : w'.heap[b]? = w.heap[b]?) : DotAt w' b t n k := e.trans h
theorem DotAt.lt {w : World} {b : Nat} {t : TypeId} {n : Int} {k : Nat} (h : DotAt w b t n k) : b < w.heap.size := (Array.getElem?_eq_some_iff.1 h).1
theorem DotAt.below {B : Nat} {w w' : World} {b : Nat} {t : TypeId} {n : Int} {k : Nat} (h : DotAt w b t n k) (hb : Below B w w') (hl : b < B) : DotAt w' b t n k := h.keep (hb.block b hl)
theorem DotAt.new (w : World) (t : TypeId) (n : Int) (k : Nat) : DotAt (w.alloc (.cells #[.int .i64 n, .int .u64 (k : Int)] t)) w.heap.size t n k := heap_alloc_new _ _
theorem DotAt.alloc {w : World} {b : Nat} {t : TypeId} {n : Int} {k : Nat} (h : DotAt w b t n k) (o : Obj) : DotAt (w.alloc o) b t n k := h.below (below1 w o) h.lt

/-- A boxed vector, a boxed dot, a result of noughts. -/
structure WInv (w : World) (t : TypeId) (f : Nat → Nat) (n : Int) (k : Nat) (wr : World) : Prop where
  a : wr.rowIs w.heap.size 27 8 (fun i => .int .u64 ((f i : Nat) : Int))
  d : DotAt wr (w.heap.size + 1) t n k
  zero : wr.rowIs (w.heap.size + 1 + 1) 27 8 (fun _ => .int .u64 0)
  below : Below w.heap.size w wr
theorem WInv.start (w : World) (t : TypeId) (f : Nat → Nat) (n : Int) (k : Nat) : WInv w t f n k (((w.alloc (.cells (arrOf .u64 8 f) 27)).alloc (.cells #[.int .i64 n, .int .u64 (k : Int)] t)).alloc (.cells #[.int .u64 0, .int .u64 0, .int .u64 0, .int .u64 0, .int .u64 0, .int .u64 0, .int .u64 0, .int .u64 0] 27)) := by
  refine ⟨((vec_row w f).alloc _).alloc _, ?_, ?_, (below2 _ _ _).alloc (by simp; omega) _⟩
  · have h := DotAt.new (w.alloc (.cells (arrOf .u64 8 f) 27)) t n k
    simpa using h.alloc _
  · have h := zero_row ((w.alloc (.cells (arrOf .u64 8 f) 27)).alloc (.cells #[.int .i64 n, .int .u64 (k : Int)] t))
    simpa using h
theorem WInv.then_ {w w1 w2 : World} {t : TypeId} {f : Nat → Nat} {n : Int} {k : Nat} (h : WInv w t f n k w1) (hb : Below w1.heap.size w1 w2) : WInv w t f n k w2 :=
  ⟨row_below h.a hb h.a.lt, h.d.below hb h.d.lt, row_below h.zero hb h.zero.lt, h.below.trans (hb.mono h.below.size)⟩
theorem WInv.turn {w wr : World} {t : TypeId} {f : Nat → Nat} {n : Int} {k i : Nat} (h : WInv w t f n k wr) (hr : Vec.right n k = true) (hn : n = (i : Int) + 1) {x : Int} (hx : x = ((max (f i) k : Nat) : Int)) :
    WInv w t (Vec.with_ f n k) n k (wr.setCell ⟨w.heap.size, i, none⟩ (.int .u64 x)) := by
  subst hx
  refine ⟨(h.a.set i _).congr fun j hj => ?_, h.d.keep (Below.heap_setCell _ _ _ _ (by simp)), h.zero.setOther (by simp; omega) _, h.below.setCell (by simp) _⟩
  by_cases e : j = i
  · subst e
    subst hn
    simp [Vec.with_, hr]
  · rw [if_neg e, Vec.with_, if_neg (by omega)]
theorem with_not {f : Nat → Nat} {n : Int} {k : Nat} (h : ¬ Vec.right n k = true) : Vec.with_ f n k = f := by
  funext i
  rw [Vec.with_, if_neg (fun e => h e.1)]
theorem size25 : (Try.prog.info? 25).map (·.size) = some 2 := by kernel_rfl
theorem size35 : (Try.prog.info? 35).map (·.size) = some 2 := by kernel_rfl
theorem WInv.drewN {w wr : World} {t : TypeId} {f : Nat → Nat} {n : Int} {k : Nat} (I : WInv w t f n k wr) (m : Nat) : WInv w t f n k (wr.drewN m) := ⟨I.a, I.d, I.zero, ⟨I.below.os, I.below.tape, I.below.output, I.below.size, I.below.block⟩⟩
theorem WInv.drew {w wr : World} {t : TypeId} {f : Nat → Nat} {n : Int} {k : Nat} (I : WInv w t f n k wr) : WInv w t f n k wr.drew := I.drewN 1

set_option maxHeartbeats 1000000 in
theorem with_any (f : Nat → Nat) (n : Int) (k : Nat) (w : World) : Calls Try.prog 70 #[vecV f, dotV n k] w fun e w' => e = .returned (vecV (Vec.with_ f n k)) ∧ Below w.heap.size w w' := by
  have HI0 := Lib.hid (WInv.start w 25 f n k)
  have s27 : ∀ {f : Nat → Nat}, Hid ((Try.prog.info? 27).map (·.size) = some (arrOf .u64 8 f).size) := fun {f} => by rw [arrOf_size]; exact size27
  have s25 : Hid ((Try.prog.info? 25).map (·.size) = some (#[.int .i64 n, .int .u64 (k : Int)] : Array Value).size) := size25
  have ss : ∀ {f g : Nat → Nat}, Hid ((arrOf .u64 8 f).size = (arrOf .u64 8 g).size) := fun {f g} => by rw [arrOf_size, arrOf_size]; exact rfl
  go_enter Try.func70, Try.ntmps70
  go_wp2_with (refine wpList_load_row rfl 25 _ rfl (w.heap.size + 1) rfl 25 _ (0, 0) _ HI0.out.d Try.underlying25 rfl s25.out ?_)
  refine (right_any n k _).mono ?_
  rintro e w1 ⟨rfl, hb1⟩
  have HI := Lib.hid (HI0.out.then_ hb1)
  clear hb1 HI0
  by_cases hr : Vec.right n k = true
  · have h1 : 1 ≤ n ∧ n ≤ 8 := by
      have := hr
      simp only [Vec.right, decide_eq_true_eq] at this
      exact ⟨this.1, this.2.1⟩
    obtain ⟨i, rfl⟩ : ∃ i : Nat, n = (i : Int) + 1 := ⟨(n - 1).toNat, by omega⟩
    have hi : i < 8 := by omega
    have c1 := HI.out.a.cell hi
    have f1 := HI.out.a.frozen i
    have c2 := HI.out.d.node
    have c3 := HI.out.d.num
    clear h1
    go_wp2_with fail
    go_region
    obtain ⟨w2, hw2⟩ : ∃ w2, w2 = (w1.setCell ⟨w.heap.size, i, none⟩ (.int .u64 (if f i < k then (k : Int) else (f i : Int)))).drew := ⟨_, rfl⟩
    rw [← hw2]
    have HI2 : Hid (WInv w 25 (Vec.with_ f (i + 1) k) (i + 1) k w2) := by
      rw [hw2]
      exact (HI.out.turn hr rfl (by split <;> omega)).drew
    clear hw2 HI
    have ha := Lib.hid (row27 HI2.out.a)
    have hz := Lib.hid (row27 (f := fun _ => 0) HI2.out.zero)
    have HB := Lib.hid HI2.out.below
    clear HI2
    go_wp2_with (first
      | (refine wpList_load_row rfl 27 _ rfl w.heap.size rfl 27 _ (0, 0) _ ha.out Try.underlying27 rfl s27.out ?_)
      | (refine wpList_store_row rfl 27 _ _ rfl (w.heap.size + 1 + 1) (arrOf .u64 8 (Vec.with_ f (i + 1) k)) rfl rfl 27 _ hz.out s27.out ss.out (arrOf_one _ _ _) ?_)
      | (refine bodyPost_ret (results_cell_row Try.results70 _ _ (w.heap.size + 1 + 1) 27 _ (0, 0) _ rfl (setRow_heap _ _ _ _ _ _ hz.out) Try.underlying27 rfl s27.out) rfl ⟨rfl, below_setRow' HB.out (by omega) _⟩))
  · have ha := Lib.hid (row27 HI.out.a)
    have hz := Lib.hid (row27 (f := fun _ => 0) HI.out.zero)
    have HB := Lib.hid HI.out.below
    clear HI
    go_wp2_with (first
      | (refine wpList_load_row rfl 27 _ rfl w.heap.size rfl 27 _ (0, 0) _ ha.out Try.underlying27 rfl s27.out ?_)
      | (refine wpList_store_row rfl 27 _ _ rfl (w.heap.size + 1 + 1) (arrOf .u64 8 f) rfl rfl 27 _ hz.out s27.out ss.out (arrOf_one _ _ _) ?_)
      | (refine bodyPost_ret (results_cell_row Try.results70 _ _ (w.heap.size + 1 + 1) 27 _ (0, 0) _ rfl (setRow_heap _ _ _ _ _ _ hz.out) Try.underlying27 rfl s27.out) rfl ⟨by rw [with_not hr], below_setRow' HB.out (by omega) _⟩))
end Go.Proofs.Ytnpacjdgbmldlaa
