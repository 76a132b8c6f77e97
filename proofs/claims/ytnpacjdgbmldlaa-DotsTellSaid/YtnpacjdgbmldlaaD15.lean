/- The order in which dots are sorted, and the sort of a row of dots. -/
import Derived.Test.YtnpacjdgbmldlaaD14
import Derived.Test.YtnpacjdgbmldlaaShelf
namespace Go.Proofs.Ytnpacjdgbmldlaa
open Go.RowKit Go.Shelf Go.Lib Go.Sort

set_option maxHeartbeats 400000 in
theorem less_grow (a : Int) (m : Nat) (b : Int) (n : Nat) (w : World) : Calls Try.prog 66 #[dotV a m, dotV b n] w fun e w' => e = .returned (.bool (Vec.less a m b n)) ∧ ∃ os, w' = grow w os := by
  by_cases hab : a = b
  · subst hab
    have hne : (a != a) = false := by simp
    go_enter Try.func66, Try.ntmps66
    go_wp2
    all_goals
      go_ret
      refine ⟨ret_bool ?_, _, by rw [alloc_eq_grow, alloc_eq_grow, grow_grow]⟩
      rw [Bool.eq_iff_iff]; simp only [Vec.less, decide_eq_true_eq, Bool.false_eq_true, false_iff, iff_true, true_iff]
      simp
  · have hne : (a != b) = true := by simpa using hab
    go_enter Try.func66, Try.ntmps66
    go_wp2
    all_goals
      go_ret
      refine ⟨ret_bool ?_, _, by rw [alloc_eq_grow, alloc_eq_grow, grow_grow]⟩
      rw [Bool.eq_iff_iff]; simp only [Vec.less, decide_eq_true_eq, Bool.false_eq_true, false_iff, iff_true, true_iff]
      omega

/-- The comparison. -/
def cmpD (x y : Dt) : Int := if Vec.less x.1 x.2 y.1 y.2 = true then -1 else if Vec.less y.1 y.2 x.1 x.2 = true then 1 else 0
theorem ltOf_cmpD (x y : Dt) : ltOf cmpD x y = Vec.less x.1 x.2 y.1 y.2 := by
  unfold ltOf cmpD
  by_cases h : Vec.less x.1 x.2 y.1 y.2 = true
  · simp [h]
  · rw [if_neg h]
    have h' : Vec.less x.1 x.2 y.1 y.2 = false := by simpa using h
    rw [h']
    split <;> simp
theorem swo_cmpD : SWO (ltOf cmpD) where
  irrefl x := by rw [ltOf_cmpD]; simp [Vec.less]
  trans x y z h1 h2 := by rw [ltOf_cmpD] at *; simp only [Vec.less, decide_eq_true_eq] at *; omega
  ntrans x y z h1 h2 := by rw [ltOf_cmpD] at *; simp only [Vec.less, decide_eq_false_iff_not] at *; omega
theorem total_cmpD (x y : Dt) (h : ltOf cmpD x y = false) (k : ltOf cmpD y x = false) : x = y := by
  rw [ltOf_cmpD] at h k
  simp only [Vec.less, decide_eq_false_iff_not] at h k
  exact Prod.ext (by omega) (by omega)

set_option maxHeartbeats 1000000 in
theorem sorted1_any (x y : Dt) (w : World) : Calls Try.prog 130 #[.agg (dotC x), .agg (dotC y)] w fun e w' => e = .returned (.int .i64 (cmpD x y)) ∧ ∃ q os, w' = grow (w.drewN q) os := by
  have hcd : cmpD x y = if Vec.less x.1 x.2 y.1 y.2 = true then -1 else if Vec.less y.1 y.2 x.1 x.2 = true then 1 else 0 := rfl
  have HC1 := Lib.hid fun W => less_grow x.1 x.2 y.1 y.2 W
  have HC2 := Lib.hid fun W => less_grow y.1 y.2 x.1 x.2 W
  have HE := Lib.hid hcd
  clear hcd
  go_enter Try.func130, Try.ntmps130
  go_wp2_with fail
  refine (HC1.out _).mono ?_
  rintro e w3 ⟨rfl, os, hw3⟩
  have X3 : Hid (DotAt w3 w.heap.size 25 x.1 x.2) := Lib.hid (by
    rw [hw3]
    unfold DotAt
    rw [heap_grow_old _ _ (by simp; omega)]
    exact (DotAt.new w 25 x.1 x.2).alloc _)
  have Y3 : Hid (DotAt w3 (w.heap.size + 1) 25 y.1 y.2) := Lib.hid (by
    rw [hw3]
    unfold DotAt
    rw [heap_grow_old _ _ (by simp)]
    have h := DotAt.new (w.alloc (.cells (dotC x) 25)) 25 y.1 y.2
    rwa [World.size_alloc] at h)
  have HG : Hid (∃ os, w3 = grow w os) := Lib.hid ⟨_, by rw [hw3, alloc_eq_grow, alloc_eq_grow, grow_grow, grow_grow]⟩
  have s25 := Lib.hid (dot_size25 x)
  have s25' := Lib.hid (dot_size25 y)
  clear hw3
  cases hxy : Vec.less x.1 x.2 y.1 y.2 with
  | true =>
    rw [hxy] at HE
    have HE1 : Hid (cmpD x y = -1) := Lib.hid (by rw [HE.out]; simp)
    clear HE hxy
    go_wp2_with fail
    go_ret
    obtain ⟨os, hos⟩ := HG.out
    exact ⟨by rw [HE1.out]; rfl, 0, os, hos⟩
  | false =>
    rw [hxy] at HE
    clear hxy
    go_wp2_with (first
      | (refine wpList_load_arr rfl 25 _ rfl w.heap.size 0 rfl (dotC x) _ X3.out.range Try.underlying25 rfl s25.out ?_)
      | (refine wpList_load_arr rfl 25 _ rfl (w.heap.size + 1) 0 rfl (dotC y) _ Y3.out.range Try.underlying25 rfl s25'.out ?_)
      | fail)
    refine (HC2.out _).mono ?_
    rintro e w4 ⟨rfl, os, hw4⟩
    have HG4 : Hid (∃ os, w4 = grow w os) := Lib.hid (by obtain ⟨o1, h1⟩ := HG.out; exact ⟨_, by rw [hw4, h1, grow_grow]⟩)
    clear hw4
    cases hyx : Vec.less y.1 y.2 x.1 x.2 with
    | true =>
      rw [hyx] at HE
      have HE1 : Hid (cmpD x y = 1) := Lib.hid (by rw [HE.out]; simp)
      clear HE hyx
      go_wp2_with fail
      go_ret
      obtain ⟨os, hos⟩ := HG4.out
      exact ⟨by rw [HE1.out]; rfl, 0, os, hos⟩
    | false =>
      rw [hyx] at HE
      have HE1 : Hid (cmpD x y = 0) := Lib.hid (by rw [HE.out]; simp)
      clear HE hyx
      go_wp2_with fail
      go_ret
      obtain ⟨os, hos⟩ := HG4.out
      exact ⟨by rw [HE1.out]; rfl, 0, os, hos⟩

theorem cmpLays130 (blk off size : Nat) (w : World) : CmpLays Try.prog 130 #[] dcells 2 cmpD blk off size w :=
  fun _ _ _ _ x y => sorted1_any x y _
/-- slices.SortFunc of a row of dots. -/
theorem sortFunc_any (blk off cap : Nat) (d : Array Dt) (w : World) (hH : HoldsK dcells 2 w blk off d) (hblk : blk < w.heap.size) (hsz : d.size < 4611686018427387904) :
    Calls Try.prog 129 #[.slice (some ⟨blk, off, none⟩) d.size cap, .func (.func 130) #[] #[]] w fun e w' => e = .returned (.tuple #[]) ∧ ∃ n os, w' = sortWorldK dcells 2 w blk off n (d.toList.mergeSort fun x y => !(ltOf cmpD) y x).toArray os :=
  AnyQ.slices_SortFunc_total Try.sortDot 2 Try.isAgg25 Try.sizeOf25 dcells (fun _ => rfl) (fun x v hv => by simp [dcells] at hv; rcases hv with rfl | rfl <;> rfl) cmpD swo_cmpD 130 #[] blk off cap d w
    (enters_of Try.func130 (by kernel_rfl) rfl) (cmpLays130 blk off d.size w) hH hblk hsz total_cmpD
theorem sortFunc_none (p : Option Addr) (cap : Nat) (fv : Value) (w : World) : Calls Try.prog 129 #[.slice p 0 cap, fv] w fun e w' => e = .returned (.tuple #[]) ∧ w' = w :=
  AnyF.slices_SortFunc_none Try.sortDot p cap fv w
end Go.Proofs.Ytnpacjdgbmldlaa
