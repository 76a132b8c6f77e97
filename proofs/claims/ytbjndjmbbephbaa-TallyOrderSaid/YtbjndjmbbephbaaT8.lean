/- The reference's Join of counters. -/
import Derived.Test.YtbjndjmbbephbaaT7
import Derived.Deep.Cut
namespace Go.Proofs.Ytbjndjmbbephbaa
open Go.RowKit

def midC (h k : Nat → Nat) (i p : Nat) (j : Nat) : Nat := if j < i ∨ (8 ≤ j ∧ j < 8 + p) then max (h j) (k j) else h j
/-- a, b boxed, a result of noughts, and out: up to i, and from 8 on to 8 + p, joined. -/
structure KInv (w : World) (h k : Nat → Nat) (i p : Nat) (x : World) : Prop where
  a : x.rowIs w.heap.size 30 16 (fun j => .int .u64 ((h j : Nat) : Int))
  b : x.rowIs (w.heap.size + 1) 30 16 (fun j => .int .u64 ((k j : Nat) : Int))
  zero : x.rowIs (w.heap.size + 1 + 1) 30 16 (fun _ => .int .u64 0)
  out_ : x.rowIs (w.heap.size + 1 + 1 + 1) 30 16 (fun j => .int .u64 ((midC h k i p j : Nat) : Int))
  below : Below w.heap.size w x
theorem KInv.start (w : World) (h k : Nat → Nat) : KInv w h k 0 0 ((((w.alloc (.cells (arrOf .u64 16 h) 30)).alloc (.cells (arrOf .u64 16 k) 30)).alloc (.cells #[.int .u64 0, .int .u64 0, .int .u64 0, .int .u64 0, .int .u64 0, .int .u64 0, .int .u64 0, .int .u64 0, .int .u64 0, .int .u64 0, .int .u64 0, .int .u64 0, .int .u64 0, .int .u64 0, .int .u64 0, .int .u64 0] 30)).alloc (.cells (arrOf .u64 16 h) 30)) := by
  have h1 := Two.start w (arrOf .u64 16 h) (arrOf .u64 16 k) (arrOf .u64 16 fun _ => 0) 30 30 30 16 (arrOf_size _ _ _)
  have h0 := h1
  obtain ⟨a1, b1, _, d1⟩ := h1
  have r1 : (((w.alloc (.cells (arrOf .u64 16 h) 30)).alloc (.cells (arrOf .u64 16 k) 30)).alloc (.cells (arrOf .u64 16 fun _ => 0) 30)).heap[w.heap.size + 1 + 1]? = some (.cells (arrOf .u64 16 fun _ => 0) 30 (0, 0)) := by simpa using heap_alloc_new ((w.alloc (.cells (arrOf .u64 16 h) 30)).alloc (.cells (arrOf .u64 16 k) 30)) (.cells (arrOf .u64 16 fun _ => 0) 30)
  have o1 : ((((w.alloc (.cells (arrOf .u64 16 h) 30)).alloc (.cells (arrOf .u64 16 k) 30)).alloc (.cells (arrOf .u64 16 fun _ => 0) 30)).alloc (.cells (arrOf .u64 16 h) 30)).heap[w.heap.size + 1 + 1 + 1]? = some (.cells (arrOf .u64 16 h) 30 (0, 0)) := by simpa using heap_alloc_new (((w.alloc (.cells (arrOf .u64 16 h) 30)).alloc (.cells (arrOf .u64 16 k) 30)).alloc (.cells (arrOf .u64 16 fun _ => 0) 30)) (.cells (arrOf .u64 16 h) 30)
  refine ⟨(arr_row a1).alloc _, (arr_row b1).alloc _, (arr_row r1).alloc _, (arr_row o1).congr fun j _ => ?_, d1.alloc d1.size _⟩
  rw [midC, if_neg (by omega)]
theorem KInv.drew {w x : World} {h k : Nat → Nat} {i p : Nat} (I : KInv w h k i p x) : KInv w h k i p x.drew := ⟨I.a, I.b, I.zero, I.out_, ⟨I.below.os, I.below.tape, I.below.output, I.below.size, I.below.block⟩⟩
theorem KInv.step {w x : World} {h k : Nat → Nat} {i p i' p' q : Nat} {v : Int} (I : KInv w h k i p x) (hv : v = ((max (h q) (k q) : Nat) : Int)) (hq : i' = i + 1 ∧ p' = p ∧ q = i ∨ i' = i ∧ p' = p + 1 ∧ q = 8 + p) :
    KInv w h k i' p' (x.setCell ⟨w.heap.size + 1 + 1 + 1, q, none⟩ (.int .u64 v)) := by
  subst hv
  refine ⟨I.a.setOther (by simp; omega) _, I.b.setOther (by simp) _, I.zero.setOther (by simp) _, (I.out_.set q _).congr fun j hj => ?_, I.below.setCell (by simp; omega) _⟩
  by_cases e : j = q
  · subst e
    rw [if_pos rfl, midC, if_pos (by omega)]
  · rw [if_neg e]
    unfold midC
    by_cases hl : j < i ∨ (8 ≤ j ∧ j < 8 + p)
    · rw [if_pos hl, if_pos (by omega)]
    · rw [if_neg hl, if_neg (by omega)]
theorem KInv.pass {w x : World} {h k : Nat → Nat} {i p i' p' q : Nat} (I : KInv w h k i p x) (hv : k q ≤ h q) (hq : i' = i + 1 ∧ p' = p ∧ q = i ∨ i' = i ∧ p' = p + 1 ∧ q = 8 + p) : KInv w h k i' p' x := by
  have e : ∀ j, midC h k i p j = midC h k i' p' j := fun j => by
    unfold midC
    by_cases e : j = q
    · subst e
      split <;> split <;> omega
    · split <;> split <;> omega
  exact ⟨I.a, I.b, I.zero, I.out_.congr fun j hj => by rw [e j], I.below⟩
theorem row30 {w : World} {b : Nat} {f : Nat → Nat} (h : w.rowIs b 30 16 (fun i => .int .u64 ((f i : Nat) : Int))) : w.heap[b]? = some (.cells (arrOf .u64 16 f) 30 (0, 0)) := row_arr h

theorem set4 (w : World) (a b c : Obj) (cs ds : Array Value) (t : TypeId) : ((((w.alloc a).alloc b).alloc c).alloc (.cells cs t)).setRow (w.heap.size + 1 + 1 + 1) ds = (((w.alloc a).alloc b).alloc c).alloc (.cells ds t) := by
  have h := World.setRow_alloc_new (((w.alloc a).alloc b).alloc c) cs ds t
  simpa using h
theorem new4 (w : World) (a b c d : Obj) : ((((w.alloc a).alloc b).alloc c).alloc d).heap[w.heap.size + 1 + 1 + 1]? = some d := by
  have h := heap_alloc_new (((w.alloc a).alloc b).alloc c) d
  simpa using h

set_option maxRecDepth 100000 in
set_option maxHeartbeats 2000000 in
theorem tjoinR_any (h k : Nat → Nat) (w : World) : Calls Try.prog 12 #[ctrV h, ctrV k] w fun e w' => e = .returned (ctrV (cmax h k)) ∧ Below w.heap.size w w' := by
  have HI0 := Lib.hid (KInv.start w h k)
  have hN := Lib.hid (new4 w (.cells (arrOf .u64 16 h) 30) (.cells (arrOf .u64 16 k) 30) (.cells #[.int .u64 0, .int .u64 0, .int .u64 0, .int .u64 0, .int .u64 0, .int .u64 0, .int .u64 0, .int .u64 0, .int .u64 0, .int .u64 0, .int .u64 0, .int .u64 0, .int .u64 0, .int .u64 0, .int .u64 0, .int .u64 0] 30) (.cells #[.int .u64 0, .int .u64 0, .int .u64 0, .int .u64 0, .int .u64 0, .int .u64 0, .int .u64 0, .int .u64 0, .int .u64 0, .int .u64 0, .int .u64 0, .int .u64 0, .int .u64 0, .int .u64 0, .int .u64 0, .int .u64 0] 30))
  have hZs := Lib.hid (z16_size h)
  have hL := Lib.hid (Two.start w (arrOf .u64 16 h) (arrOf .u64 16 k) #[.int .u64 0, .int .u64 0, .int .u64 0, .int .u64 0, .int .u64 0, .int .u64 0, .int .u64 0, .int .u64 0, .int .u64 0, .int .u64 0, .int .u64 0, .int .u64 0, .int .u64 0, .int .u64 0, .int .u64 0, .int .u64 0] 30 30 30 16 rfl).a
  have s30 : ∀ {f : Nat → Nat}, Hid ((Try.prog.info? 30).map (·.size) = some (arrOf .u64 16 f).size) := fun {f} => by rw [arrOf_size]; exact size30
  have ss : ∀ {f g : Nat → Nat}, Hid ((arrOf .u64 16 f).size = (arrOf .u64 16 g).size) := fun {f g} => by rw [arrOf_size, arrOf_size]; exact rfl
  go_enter Try.func12, Try.ntmps12
  go_wp2_with (first
    | (refine wpList_load_row rfl 30 _ rfl w.heap.size rfl 30 (arrOf .u64 16 h) (0, 0) _ hL.out Try.underlying30 rfl s30.out ?_)
    | (refine wpList_store_row rfl 30 _ _ rfl (w.heap.size + 1 + 1 + 1) (arrOf .u64 16 h) rfl rfl 30 _ hN.out s30.out hZs.out (arrOf_one _ _ _) ?_; rw [set4]))
  generalize ((((w.alloc (.cells (arrOf .u64 16 h) 30)).alloc (.cells (arrOf .u64 16 k) 30)).alloc (.cells #[.int .u64 0, .int .u64 0, .int .u64 0, .int .u64 0, .int .u64 0, .int .u64 0, .int .u64 0, .int .u64 0, .int .u64 0, .int .u64 0, .int .u64 0, .int .u64 0, .int .u64 0, .int .u64 0, .int .u64 0, .int .u64 0] 30)).alloc (.cells (arrOf .u64 16 h) 30)) = w1 at *
  go_loopw [6] (fun v wx => ∃ i : Nat, i ≤ 8 ∧ v = .int .i64 i ∧ Hid (KInv w h k i i wx)) (fun v _ => 8 - (intOf v).toNat)
  case atStart => exact ⟨0, by omega, rfl, HI0⟩
  case round =>
    clear HI0
    obtain ⟨i, hi, rfl, HI⟩ := hrel
    by_cases hl8 : i < 8
    · obtain ⟨x1, hx1⟩ : ∃ x1, x1 = h i := ⟨_, rfl⟩
      obtain ⟨y1, hy1⟩ : ∃ y1, y1 = k i := ⟨_, rfl⟩
      obtain ⟨x2, hx2⟩ : ∃ x2, x2 = h (8 + i) := ⟨_, rfl⟩
      obtain ⟨y2, hy2⟩ : ∃ y2, y2 = k (8 + i) := ⟨_, rfl⟩
      have HX1 := Lib.hid hx1
      have HX2 := Lib.hid hx2
      have HY1 := Lib.hid hy1
      have HY2 := Lib.hid hy2
      have c1 : wr.cell? ⟨w.heap.size, i, none⟩ = some (.int .u64 (x1 : Int)) := by rw [hx1]; exact HI.out.a.cell (i := i) (by omega)
      have c2 : wr.cell? ⟨w.heap.size + 1, i, none⟩ = some (.int .u64 (y1 : Int)) := by rw [hy1]; exact HI.out.b.cell (i := i) (by omega)
      have f1 := HI.out.out_.frozen i
      have c3 := HI.out.out_.cell (i := i) (by omega)
      have e3 : midC h k i i i = x1 := by rw [hx1, midC, if_neg (by omega)]
      rw [e3] at c3
      clear e3 hx1 hy1 hx2 hy2
      by_cases hc : x1 < y1
      · have hci : (x1 : Int) < (y1 : Int) := by omega
        have HC := Lib.hid hc
        clear hc
        go_wp2
        go_region
        go_upto_region 7 with fail
        have HK : Hid (KInv w h k (i + 1) i ((wr.setCell ⟨w.heap.size + 1 + 1 + 1, i, none⟩ (.int .u64 (y1 : Int))).drew)) := (HI.out.step (q := i) (by have := HC.out; rw [← HX1.out, ← HY1.out]; omega) (by omega)).drew
        clear c1 c2 f1 c3 hci HI
        generalize (wr.setCell ⟨w.heap.size + 1 + 1 + 1, i, none⟩ (.int .u64 (y1 : Int))).drew = wx at *
        have c1 : wx.cell? ⟨w.heap.size, 8 + i, none⟩ = some (.int .u64 (x2 : Int)) := by rw [HX2.out]; exact HK.out.a.cell (i := 8 + i) (by omega)
        have c2 : wx.cell? ⟨w.heap.size + 1, 8 + i, none⟩ = some (.int .u64 (y2 : Int)) := by rw [HY2.out]; exact HK.out.b.cell (i := 8 + i) (by omega)
        have f1 := HK.out.out_.frozen (8 + i)
        have c3 := HK.out.out_.cell (i := 8 + i) (by omega)
        have e3 : midC h k (i + 1) i (8 + i) = x2 := by rw [HX2.out, midC, if_neg (by omega)]
        rw [e3] at c3
        clear e3
        by_cases hd : x2 < y2
        · have hdi : (x2 : Int) < (y2 : Int) := by omega
          have HD := Lib.hid hd
          clear hd
          go_region
          go_wp2
          go_roundw
          case rel => exact ⟨i + 1, by omega, by go_num, HK.out.drew.step (q := 8 + i) (by have := HD.out; rw [← HX2.out, ← HY2.out]; omega) (by omega)⟩
          case measure => simp [intOf]; omega
        · have hdi : ¬ ((x2 : Int) < (y2 : Int)) := by omega
          have HD := Lib.hid hd
          clear hd
          go_region
          go_wp2
          go_roundw
          case rel => exact ⟨i + 1, by omega, by go_num, HK.out.drew.pass (q := 8 + i) (by have := HD.out; rw [← HX2.out, ← HY2.out]; omega) (by omega)⟩
          case measure => simp [intOf]; omega
      · have hci : ¬ ((x1 : Int) < (y1 : Int)) := by omega
        have HC := Lib.hid hc
        clear hc
        go_wp2
        go_region
        go_upto_region 7 with fail
        have HK : Hid (KInv w h k (i + 1) i wr.drew) := HI.out.drew.pass (q := i) (by have := HC.out; rw [← HX1.out, ← HY1.out]; omega) (by omega)
        clear c1 c2 f1 c3 hci HI
        generalize wr.drew = wx at *
        have c1 : wx.cell? ⟨w.heap.size, 8 + i, none⟩ = some (.int .u64 (x2 : Int)) := by rw [HX2.out]; exact HK.out.a.cell (i := 8 + i) (by omega)
        have c2 : wx.cell? ⟨w.heap.size + 1, 8 + i, none⟩ = some (.int .u64 (y2 : Int)) := by rw [HY2.out]; exact HK.out.b.cell (i := 8 + i) (by omega)
        have f1 := HK.out.out_.frozen (8 + i)
        have c3 := HK.out.out_.cell (i := 8 + i) (by omega)
        have e3 : midC h k (i + 1) i (8 + i) = x2 := by rw [HX2.out, midC, if_neg (by omega)]
        rw [e3] at c3
        clear e3
        by_cases hd : x2 < y2
        · have hdi : (x2 : Int) < (y2 : Int) := by omega
          have HD := Lib.hid hd
          clear hd
          go_region
          go_wp2
          go_roundw
          case rel => exact ⟨i + 1, by omega, by go_num, HK.out.drew.step (q := 8 + i) (by have := HD.out; rw [← HX2.out, ← HY2.out]; omega) (by omega)⟩
          case measure => simp [intOf]; omega
        · have hdi : ¬ ((x2 : Int) < (y2 : Int)) := by omega
          have HD := Lib.hid hd
          clear hd
          go_region
          go_wp2
          go_roundw
          case rel => exact ⟨i + 1, by omega, by go_num, HK.out.drew.pass (q := 8 + i) (by have := HD.out; rw [← HX2.out, ← HY2.out]; omega) (by omega)⟩
          case measure => simp [intOf]; omega
    · obtain rfl : i = 8 := by omega
      have e8 : ∀ i, i < 16 → midC h k 8 8 i = cmax h k i := fun i hi => by rw [midC, if_pos (by omega)]; rfl
      have ha := Lib.hid (row30 (HI.out.out_.congr fun i hi => by rw [e8 i hi]))
      have hz0 := Lib.hid (row30 (f := fun _ => 0) HI.out.zero)
      have HB := Lib.hid HI.out.below
      clear HI e8
      go_wp2_with (first
        | (refine wpList_load_row rfl 30 _ rfl (w.heap.size + 1 + 1 + 1) rfl 30 _ (0, 0) _ ha.out Try.underlying30 rfl s30.out ?_)
        | (refine wpList_store_row rfl 30 _ _ rfl (w.heap.size + 1 + 1) (arrOf .u64 16 (cmax h k)) rfl rfl 30 _ hz0.out s30.out ss.out (arrOf_one _ _ _) ?_)
        | (refine bodyPost_ret (results_cell_row Try.results12 _ _ (w.heap.size + 1 + 1) 30 _ (0, 0) _ rfl (setRow_heap _ _ _ _ _ _ hz0.out) Try.underlying30 rfl s30.out) rfl ⟨rfl, below_setRow' HB.out (by omega) _⟩))
end Go.Proofs.Ytbjndjmbbephbaa
