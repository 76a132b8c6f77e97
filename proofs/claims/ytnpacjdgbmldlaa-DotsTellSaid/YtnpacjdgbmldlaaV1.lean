/- Small functions of vec and of the reference: nodes and dots. -/
import Derived.Test.YtnpacjdgbmldlaaRows
import Derived.Test.YtnpacjdgbmldlaaBase
namespace Go.Proofs.Ytnpacjdgbmldlaa
open Go.RowKit

namespace Vec
def isNode (n : Int) : Bool := decide (1 ≤ n ∧ n ≤ 8)
def right (n : Int) (k : Nat) : Bool := decide (1 ≤ n ∧ n ≤ 8 ∧ 1 ≤ k)
def less (a : Int) (m : Nat) (b : Int) (n : Nat) : Bool := decide (a < b ∨ (a = b ∧ m < n))
def get (f : Nat → Nat) (n : Int) : Nat := if 1 ≤ n ∧ n ≤ 8 then f (n - 1).toNat else 0
end Vec
abbrev dotV (n : Int) (k : Nat) : Value := .agg #[.int .i64 n, .int .u64 (k : Int)]
theorem below1 (w : World) (o : Obj) : Below w.heap.size w (w.alloc o) := (Below.refl _ _).alloc (Nat.le_refl _) _
theorem below2 (w : World) (o p : Obj) : Below w.heap.size w ((w.alloc o).alloc p) := (below1 w o).alloc (by simp) _
theorem ret_bool {a b : Bool} (h : a = b) : Ending.returned (.bool a) = .returned (.bool b) := by rw [h]

set_option maxHeartbeats 400000 in
theorem isNode_any (n : Int) (w : World) : Calls Try.prog 80 #[.int .i64 n] w fun e w' => e = .returned (.bool (Vec.isNode n)) ∧ w' = w := by
  by_cases h1 : 1 ≤ n
  · by_cases h2 : n ≤ 8
    · go_enter Try.func80, Try.ntmps80
      go_wp2
      go_ret
      simp [Vec.isNode, h1, h2]
    · have h2' : 8 < n := by omega
      go_enter Try.func80, Try.ntmps80
      go_wp2
      go_ret
      simp [Vec.isNode, h1, h2']
  · have h1' : n < 1 := by omega
    go_enter Try.func80, Try.ntmps80
    go_wp2
    go_ret
    simp [Vec.isNode]
    omega

set_option maxHeartbeats 400000 in
theorem right_any (n : Int) (k : Nat) (w : World) : Calls Try.prog 40 #[dotV n k] w fun e w' => e = .returned (.bool (Vec.right n k)) ∧ Below w.heap.size w w' := by
  go_enter Try.func40, Try.ntmps40
  go_wp2_with (go_at_call 80; refine (isNode_any _ _).mono ?_; rintro e w' ⟨rfl, rfl⟩)
  · rename_i h
    go_ret
    refine ⟨ret_bool ?_, below1 _ _⟩
    simp only [Vec.isNode, decide_eq_true_eq] at h
    rw [Bool.eq_iff_iff]; simp only [Vec.right, decide_eq_true_eq, Bool.false_eq_true, false_iff, iff_true, true_iff]
    omega
  · rename_i h
    go_ret
    refine ⟨ret_bool ?_, below1 _ _⟩
    simp only [Vec.isNode, decide_eq_true_eq] at h
    rw [Bool.eq_iff_iff]; simp only [Vec.right, decide_eq_true_eq, Bool.false_eq_true, false_iff, iff_true, true_iff]
    omega

set_option maxHeartbeats 400000 in
theorem rightR_any (n : Int) (k : Nat) (w : World) : Calls Try.prog 67 #[dotV n k] w fun e w' => e = .returned (.bool (Vec.right n k)) ∧ Below w.heap.size w w' := by
  go_enter Try.func67, Try.ntmps67
  go_wp2
  all_goals
    go_ret
    refine ⟨ret_bool ?_, below1 _ _⟩
    rw [Bool.eq_iff_iff]; simp only [Vec.right, decide_eq_true_eq, Bool.false_eq_true, false_iff, iff_true, true_iff]
    omega

set_option maxHeartbeats 400000 in
theorem less_any (a : Int) (m : Nat) (b : Int) (n : Nat) (w : World) : Calls Try.prog 66 #[dotV a m, dotV b n] w fun e w' => e = .returned (.bool (Vec.less a m b n)) ∧ Below w.heap.size w w' := by
  by_cases hab : a = b
  · subst hab
    have hne : (a != a) = false := by simp
    go_enter Try.func66, Try.ntmps66
    go_wp2
    all_goals
      go_ret
      refine ⟨ret_bool ?_, below2 _ _ _⟩
      rw [Bool.eq_iff_iff]; simp only [Vec.less, decide_eq_true_eq, Bool.false_eq_true, false_iff, iff_true, true_iff]
      simp
  · have hne : (a != b) = true := by simpa using hab
    go_enter Try.func66, Try.ntmps66
    go_wp2
    all_goals
      go_ret
      refine ⟨ret_bool ?_, below2 _ _ _⟩
      rw [Bool.eq_iff_iff]; simp only [Vec.less, decide_eq_true_eq, Bool.false_eq_true, false_iff, iff_true, true_iff]
      omega

set_option maxHeartbeats 400000 in
theorem lessR_any (a : Int) (m : Nat) (b : Int) (n : Nat) (w : World) : Calls Try.prog 68 #[dotV a m, dotV b n] w fun e w' => e = .returned (.bool (Vec.less a m b n)) ∧ Below w.heap.size w w' := by
  go_enter Try.func68, Try.ntmps68
  go_wp2
  all_goals
    go_ret
    refine ⟨ret_bool ?_, below2 _ _ _⟩
    rw [Bool.eq_iff_iff]; simp only [Vec.less, decide_eq_true_eq, Bool.false_eq_true, false_iff, iff_true, true_iff]
    omega

/-- The vector whose numbers are f. -/
abbrev vecV (f : Nat → Nat) : Value := .agg (arrOf .u64 8 f)
theorem run_index_arr {P : Program} (t e : TypeId) (L : Nat) (hu : P.underlying t = some (.array L e)) (hs : (P.info? e).map (·.size) = some 1) (k : IntKind) (f : Nat → Nat) (i : Nat) (hi : i < L) (hag : ∀ w, (isAgg e).run P w = .ok false w) (w : World) :
    (Instr.index t (.agg (arrOf k L f)) (.int .i64 (i : Int))).run P w = .ok (.int k ((f i : Nat) : Int)) w := by
  cases hq : P.info? e with
  | none => simp [hq] at hs
  | some j =>
    have hj : j.size = 1 := by simpa [hq] using hs
    have hg := arrOf_get k f hi
    simp [Instr.index, Sem.run_bind, run_underlying hu w, Result.andThen, asIntOf, hi, sizeOf, typeInfo, hq, hj, part, hg, hag]
theorem agg23 (w : World) : (isAgg 23).run Try.prog w = .ok false w := by kernel_rfl
theorem size23 : (Try.prog.info? 23).map (·.size) = some 1 := by kernel_rfl
theorem size27 : (Try.prog.info? 27).map (·.size) = some 8 := by kernel_rfl
set_option maxHeartbeats 1000000 in
theorem get_any (f : Nat → Nat) (n : Int) (w : World) : Calls Try.prog 81 #[vecV f, .int .i64 n] w fun e w' => e = .returned (.int .u64 ((Vec.get f n : Nat) : Int)) ∧ Below w.heap.size w w' := by
  obtain ⟨A, hA⟩ : ∃ A, A = arrOf .u64 8 f := ⟨_, rfl⟩
  unfold vecV
  rw [← hA]
  have HC : Hid (∀ i, i < 8 → A[i]? = some (.int .u64 (f i))) := by rw [hA]; exact fun i hi => arrOf_get .u64 f hi
  have HA : Hid (A.size = 8) := by rw [hA]; exact arrOf_size _ _ _
  clear hA
  by_cases hn : Vec.isNode n = true
  · have h1 : 1 ≤ n ∧ n ≤ 8 := by simpa [Vec.isNode] using hn
    obtain ⟨i, rfl⟩ : ∃ i : Nat, n = (i : Int) + 1 := ⟨(n - 1).toNat, by omega⟩
    have hi : i < 8 := by omega
    have hc : (w.alloc (.cells A 27)).cell? ⟨w.heap.size, i, none⟩ = some (.int .u64 (f i)) := by
      rw [cell_of_row _ _ _ _ _ _ (heap_alloc_new _ _), HC.out i hi]
    clear h1
    go_enter Try.func81, Try.ntmps81
    go_wp2_with (go_at_call 80; refine (isNode_any _ _).mono ?_; rintro e w' ⟨rfl, rfl⟩)
    go_ret
    refine ⟨ret_int ?_, below1 _ _⟩
    rw [Vec.get, if_pos (by omega), show ((i : Int) + 1 - 1).toNat = i by omega]
  · go_enter Try.func81, Try.ntmps81
    go_wp2_with (go_at_call 80; refine (isNode_any _ _).mono ?_; rintro e w' ⟨rfl, rfl⟩)
    clear HC HA
    go_ret
    refine ⟨ret_int ?_, below1 _ _⟩
    have h1 : ¬ (1 ≤ n ∧ n ≤ 8) := by simpa [Vec.isNode] using hn
    rw [Vec.get, if_neg h1]
    rfl

theorem vec_row (w : World) (f : Nat → Nat) : (w.alloc (.cells (arrOf .u64 8 f) 27)).rowIs w.heap.size 27 8 (fun i => .int .u64 ((f i : Nat) : Int)) := arr_row (heap_alloc_new _ _)
set_option maxHeartbeats 1000000 in
theorem getR_any (f : Nat → Nat) (n : Int) (w : World) : Calls Try.prog 114 #[vecV f, .int .i64 n] w fun e w' => e = .returned (.int .u64 ((Vec.get f n : Nat) : Int)) ∧ Below w.heap.size w w' := by
  have HR := Lib.hid (vec_row w f)
  obtain ⟨A, hA⟩ : ∃ A, A = arrOf .u64 8 f := ⟨_, rfl⟩
  have HA : Hid (A.size = 8) := by rw [hA]; exact arrOf_size _ _ _
  unfold vecV
  rw [← hA] at HR ⊢
  clear hA
  have HB := Lib.hid (below1 w (.cells A 27))
  go_enter Try.func114, Try.ntmps114
  go_wp2
  obtain ⟨w1, hw1⟩ : ∃ w1, w1 = w.alloc (.cells A 27) := ⟨_, rfl⟩
  rw [← hw1] at HR HB ⊢
  clear hw1
  go_loopw [5] (fun v wr => ∃ i : Nat, i ≤ 8 ∧ v = .int .i64 i ∧ Hid (∀ j : Nat, j < i → (j : Int) + 1 ≠ n) ∧ Hid (wr = w1)) (fun v _ => 8 - (intOf v).toNat)
  case atStart => exact ⟨0, by omega, rfl, fun j h => by omega, rfl⟩
  case round =>
    obtain ⟨i, hi, rfl, HN, HW⟩ := hrel
    by_cases hlt : i < 8
    · have hc := HR.out.cell (i := i) hlt
      rw [← HW.out] at hc
      by_cases he : (i : Int) + 1 = n
      · subst he
        go_wp2
        go_ret
        refine ⟨ret_int ?_, by rw [HW.out]; exact HB.out⟩
        rw [Vec.get, if_pos (by omega), show ((i : Int) + 1 - 1).toNat = i by omega]
      · go_wp2
        go_roundw
        case rel =>
          refine ⟨i + 1, by omega, by go_num, fun j hj => ?_, HW⟩
          by_cases e : j = i
          · subst e; exact he
          · exact HN.out j (by omega)
        case measure => simp [intOf]; omega
    · obtain rfl : i = 8 := by omega
      go_wp2
      go_ret
      refine ⟨ret_int ?_, by rw [HW.out]; exact HB.out⟩
      rw [Vec.get, if_neg]
      · rfl
      · intro h
        exact HN.out (n - 1).toNat (by omega) (by omega)
theorem row27 {w : World} {b : Nat} {f : Nat → Nat} (h : w.rowIs b 27 8 (fun i => .int .u64 ((f i : Nat) : Int))) : w.heap[b]? = some (.cells (arrOf .u64 8 f) 27 (0, 0)) := row_arr h

theorem zero_row (w : World) : (w.alloc (.cells #[.int .u64 0, .int .u64 0, .int .u64 0, .int .u64 0, .int .u64 0, .int .u64 0, .int .u64 0, .int .u64 0] 27)).rowIs w.heap.size 27 8 (fun _ => .int .u64 0) := by
  refine World.rowIs_alloc w #[.int .u64 0, .int .u64 0, .int .u64 0, .int .u64 0, .int .u64 0, .int .u64 0, .int .u64 0, .int .u64 0] 27 (fun _ => .int .u64 0) fun i hi => ?_
  match i, hi with
  | 0, _ => rfl
  | 1, _ => rfl
  | 2, _ => rfl
  | 3, _ => rfl
  | 4, _ => rfl
  | 5, _ => rfl
  | 6, _ => rfl
  | 7, _ => rfl
def midOf (p f : Nat → Nat) (i j : Nat) : Nat := if j < i then p j else f j
theorem midOf_next {p f : Nat → Nat} {i j : Nat} (h : j = i → p j = f j) : midOf p f i j = midOf p f (i + 1) j := by
  unfold midOf
  by_cases e : j = i
  · rw [if_neg (by omega), if_pos (by omega), h e]
  · by_cases hl : j < i
    · rw [if_pos hl, if_pos (by omega)]
    · rw [if_neg hl, if_neg (by omega)]
end Go.Proofs.Ytnpacjdgbmldlaa
