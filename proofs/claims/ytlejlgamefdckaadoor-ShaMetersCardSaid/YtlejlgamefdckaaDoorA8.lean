/- The contracts of a meter's calls. -/
import Derived.Test.YtlejlgamefdckaaDoorA7
namespace Go.Proofs.YtlejlgamefdckaaDoor
open Go.RowKit

theorem absorb_count (s : Sha.St) (hf : s.f < 64) (x : Nat) : (Sha.absorb s x).f = (s.f + 1) % 64 ∧ (Sha.absorb s x).k % 18446744073709551616 = (s.k + (s.f + 1) / 64) % 18446744073709551616 := by
  unfold Sha.absorb
  by_cases h : s.f + 1 = 64
  · rw [if_pos h]; exact ⟨by rw [h], by rw [h]; simp⟩
  · rw [if_neg h]; exact ⟨by simp only; omega, by simp only; omega⟩
theorem absorbs_count : ∀ (xs : List Nat) (s : Sha.St), s.f < 64 → (xs.foldl Sha.absorb s).f = (s.f + xs.length) % 64 ∧ (xs.foldl Sha.absorb s).k % 18446744073709551616 = (s.k + (s.f + xs.length) / 64) % 18446744073709551616
  | [], s, hf => ⟨by simp only [List.foldl_nil, List.length_nil]; omega, by simp only [List.foldl_nil, List.length_nil]; omega⟩
  | x :: xs, s, hf => by
    obtain ⟨h1, h2⟩ := absorb_count s hf x
    have hlt : (Sha.absorb s x).f < 64 := by rw [h1]; omega
    obtain ⟨h3, h4⟩ := absorbs_count xs (Sha.absorb s x) hlt
    simp only [List.foldl_cons, List.length_cons]
    refine ⟨by rw [h3, h1]; omega, ?_⟩
    rw [h4, h1]
    omega
/-- How many blocks n bytes make. -/
theorem fin_count (xs : List Nat) (hl : xs.length < 18446744073709551616) : (shaFin xs).k % 18446744073709551616 = ((xs.length + 8) / 64 + 1) % 18446744073709551616 := by
  have h0 := absorbs_count xs initSt (by decide)
  have e0 : initSt.f = 0 := rfl
  have e1 : initSt.k = 0 := rfl
  rw [e0, e1, Nat.zero_add] at h0
  have hs : (shaSt xs).f < 64 := by show (xs.foldl Sha.absorb initSt).f < 64; rw [h0.1]; omega
  have h1 := absorbs_count (padTail (shaSt xs).f (xs.length % 18446744073709551616)) (shaSt xs) hs
  rw [padTail_length] at h1
  show (List.foldl Sha.absorb _ _).k % _ = _
  rw [h1.2]
  have h2 : (shaSt xs).f = xs.length % 64 := h0.1
  have h3 : (shaSt xs).k % 18446744073709551616 = (xs.length / 64) % 18446744073709551616 := by rw [show (shaSt xs).k % 18446744073709551616 = _ from h0.2]; simp
  rw [h2]
  omega

theorem add_law {w : World} {g : Nat} {x y : Int} (hc : w.cell? ⟨g, 0, none⟩ = some (.int .u64 x)) (hz : w.frozen? ⟨g, 0, none⟩ = false) :
    (callFunc 27 #[.pointer (some ⟨g, 0, none⟩), .int .u64 y]).run Tryd.prog w = .ok (.value (.int .u64 (IntKind.u64.wrap (x + y)))) (w.setCell ⟨g, 0, none⟩ (.int .u64 (IntKind.u64.wrap (x + y)))) :=
  run_call_add (P := Tryd.prog) Tryd.func27 (by kernel_rfl) (by kernel_rfl) (by kernel_rfl) .u64 (by kernel_rfl) hc hz (by simp [Op.intArith])
theorem load_law {w : World} {g : Nat} {x : Int} (hc : w.cell? ⟨g, 0, none⟩ = some (.int .u64 x)) : (callFunc 28 #[.pointer (some ⟨g, 0, none⟩)]).run Tryd.prog w = .ok (.value (.int .u64 x)) w :=
  run_call_load (P := Tryd.prog) Tryd.func28 (by kernel_rfl) (by kernel_rfl) (by kernel_rfl) .u64 (by kernel_rfl) hc
set_option maxHeartbeats 400000 in
theorem atomic_add (g : Nat) (x y : Int) (w : World) (hc : w.cell? ⟨g, 0, none⟩ = some (.int .u64 x)) (hz : w.frozen? ⟨g, 0, none⟩ = false) :
    Calls Tryd.prog 19 #[.pointer (some ⟨g, 0, none⟩), .int .u64 y] w fun e w' => e = .returned (.int .u64 (IntKind.u64.wrap (x + y))) ∧ w.setCell ⟨g, 0, none⟩ (.int .u64 (IntKind.u64.wrap (x + y))) = w' := by
  have hl := add_law (y := y) hc hz
  go_enter Tryd.func19, Tryd.ntmps19
  go_wp2
  go_ret
  exact ⟨rfl, rfl⟩
set_option maxHeartbeats 400000 in
theorem atomic_load (g : Nat) (x : Int) (w : World) (hc : w.cell? ⟨g, 0, none⟩ = some (.int .u64 x)) :
    Calls Tryd.prog 20 #[.pointer (some ⟨g, 0, none⟩)] w fun e w' => e = .returned (.int .u64 x) ∧ w = w' := by
  have hl := load_law hc
  go_enter Tryd.func20, Tryd.ntmps20
  go_wp2
  go_ret
  exact ⟨rfl, rfl⟩
set_option maxHeartbeats 400000 in
theorem count_nil (w : World) : Calls Tryd.prog 15 #[.pointer none] w fun e w' => e = .returned (.int .u64 0) ∧ w = w' := by
  go_enter Tryd.func15, Tryd.ntmps15
  go_wp2
  go_ret
  exact ⟨rfl, rfl⟩
set_option maxHeartbeats 400000 in
theorem count_at (g : Nat) (x : Int) (w : World) (hc : w.cell? ⟨g, 0, none⟩ = some (.int .u64 x)) : Calls Tryd.prog 15 #[.pointer (some ⟨g, 0, none⟩)] w fun e w' => e = .returned (.int .u64 x) ∧ w = w' := by
  have HC := Lib.hid hc
  clear hc
  go_enter Tryd.func15, Tryd.ntmps15
  go_wp2_with (go_at_call 20; refine (atomic_load g x _ HC.out).mono ?_; rintro e w1 ⟨rfl, rfl⟩)
  go_ret
  exact ⟨rfl, rfl⟩

/-- The count that lies in block g. -/
def MeterAt (w : World) (g n : Nat) : Prop := w.rowIs g 41 1 (fun _ => .int .u64 ((n : Nat) : Int))
set_option maxRecDepth 100000 in
set_option maxHeartbeats 1000000 in
theorem meter_sum_nil (ls : List Piece) (c : Nat) (A : Option Addr) (w : World) (ht : Tabs w) (hp : Pieces w (· < w.heap.size) A ls) (hm : ls.length ≤ maxLen) :
    Calls Tryd.prog 14 #[.pointer none, .slice A ls.length c] w fun e w' => e = .returned (.agg (arrOf .u8 32 (sha (allOf ls)))) ∧ Below w.heap.size w w' := by
  have HT := Lib.hid ht
  have HP := Lib.hid hp
  have HM := Lib.hid hm
  clear ht hp hm
  have hz := (zero_of_info info25).1
  obtain ⟨Z, hZ⟩ : ∃ Z, Z = arrOf .u8 32 (fun _ => 0) := ⟨_, rfl⟩
  rw [← hZ] at hz
  have HZ := Lib.hid hZ
  have ZS : Hid (Z.size = 32) := by rw [hZ]; exact arrOf_size _ _ _
  clear hZ
  have hb0 := Below.alloc (Below.refl w.heap.size w) (Nat.le_refl _) (.cells Z 25)
  have hb1 := Lib.hid hb0
  obtain ⟨S, hS⟩ : ∃ S, S = arrOf .u8 32 (sha (allOf ls)) := ⟨_, rfl⟩
  obtain ⟨q, hq⟩ : ∃ q, q = (shaFin (allOf ls)).k := ⟨_, rfl⟩
  have HC : Hid (Calls Tryd.prog 16 #[.slice A ls.length c] (w.alloc (.cells Z 25)) fun e w' => e = .returned (.tuple #[.agg S, .int .u64 ((q : Nat) : Int)]) ∧ Below (w.heap.size + 1) (w.alloc (.cells Z 25)) w') := by
    have h := digest2_any ls c A (w.alloc (.cells Z 25)) (HT.out.below hb0) ((HP.out.below hb0).weak fun b hb _ => by simp; omega) HM.out
    rw [World.size_alloc, ← hS, ← hq] at h
    exact h
  clear hb0
  rw [← hS]
  have sS : Hid ((Tryd.prog.info? 25).map (·.size) = some S.size) := by rw [hS, arrOf_size]; exact size25
  have zS : Hid (Z.size = S.size) := by rw [hS, arrOf_size]; exact ZS
  have oS : Hid (S.all (·.oneCell') = true) := by rw [hS]; exact arrOf_one _ _ _
  clear hS hq
  go_enter Tryd.func14, Tryd.ntmps14
  go_wp2_with (first
    | (go_at_call 16
       refine HC.out.mono ?_
       rintro e w1 ⟨rfl, hb2⟩
       have Z1 : Hid ((w1.alloc (.cells S 25)).heap[w.heap.size]? = some (.cells Z 25 (0, 0))) := by
         have h1 := hb2.size
         rw [World.size_alloc] at h1
         have e := Below.heap_alloc w1 (.cells S 25) w.heap.size (by omega)
         exact e.trans ((hb2.block _ (by omega)).trans (heap_alloc_new w _))
       have B1 : Hid (Below w.heap.size w ((w1.alloc (.cells S 25)).setRow w.heap.size S)) := by
         have h1 := hb2.size
         rw [World.size_alloc] at h1
         exact below_setRow' ((hb1.out.trans (hb2.mono (by omega))).alloc (by omega) _) (Nat.le_refl _) _
       clear hb2)
    | (refine wpList_store_row rfl 25 _ _ rfl w1.heap.size S rfl rfl 25 _ (heap_alloc_new w1 _) sS.out zS.out oS.out ?_
       rw [World.setRow_alloc_new])
    | (refine wpList_load_row rfl 25 _ rfl w1.heap.size rfl 25 S (0, 0) _ (heap_alloc_new w1 _) Tryd.underlying25 rfl sS.out ?_)
    | (refine wpList_store_row rfl 25 _ _ rfl w.heap.size S rfl rfl 25 _ Z1.out sS.out zS.out oS.out ?_)
    | (refine bodyPost_ret (results_row_one Tryd.results14 _ _ w.heap.size 25 S (0, 0) _ rfl (setRow_heap _ _ _ _ _ _ Z1.out) Tryd.underlying25 rfl sS.out) rfl ⟨rfl, B1.out⟩))

set_option maxRecDepth 100000 in
set_option maxHeartbeats 1000000 in
theorem meter_sum_at (ls : List Piece) (c : Nat) (A : Option Addr) (g n : Nat) (w : World) (ht : Tabs w) (hp : Pieces w (· < w.heap.size) A ls) (hm : ls.length ≤ maxLen) (hg : 2 ≤ g) (hr : MeterAt w g n) :
    Calls Tryd.prog 14 #[.pointer (some ⟨g, 0, none⟩), .slice A ls.length c] w fun e w' => e = .returned (.agg (arrOf .u8 32 (sha (allOf ls)))) ∧ MeterAt w' g ((n + (shaFin (allOf ls)).k) % 18446744073709551616) ∧ w.grownBy w' (some g) := by
  have HT := Lib.hid ht
  have HP := Lib.hid hp
  have HM := Lib.hid hm
  have HR := Lib.hid hr
  have LG := hr.lt
  clear ht hp hm hr
  have hz := (zero_of_info info25).1
  obtain ⟨Z, hZ⟩ : ∃ Z, Z = arrOf .u8 32 (fun _ => 0) := ⟨_, rfl⟩
  rw [← hZ] at hz
  have HZ := Lib.hid hZ
  have ZS : Hid (Z.size = 32) := by rw [hZ]; exact arrOf_size _ _ _
  clear hZ
  have hb0 := Below.alloc (Below.refl w.heap.size w) (Nat.le_refl _) (.cells Z 25)
  have hb1 := Lib.hid hb0
  obtain ⟨S, hS⟩ : ∃ S, S = arrOf .u8 32 (sha (allOf ls)) := ⟨_, rfl⟩
  obtain ⟨q, hq⟩ : ∃ q, q = (shaFin (allOf ls)).k := ⟨_, rfl⟩
  have HC : Hid (Calls Tryd.prog 16 #[.slice A ls.length c] (w.alloc (.cells Z 25)) fun e w' => e = .returned (.tuple #[.agg S, .int .u64 ((q : Nat) : Int)]) ∧ Below (w.heap.size + 1) (w.alloc (.cells Z 25)) w') := by
    have h := digest2_any ls c A (w.alloc (.cells Z 25)) (HT.out.below hb0) ((HP.out.below hb0).weak fun b hb _ => by simp; omega) HM.out
    rw [World.size_alloc, ← hS, ← hq] at h
    exact h
  clear hb0
  rw [← hS]
  rw [← hq]
  have sS : Hid ((Tryd.prog.info? 25).map (·.size) = some S.size) := by rw [hS, arrOf_size]; exact size25
  have zS : Hid (Z.size = S.size) := by rw [hS, arrOf_size]; exact ZS
  have oS : Hid (S.all (·.oneCell') = true) := by rw [hS]; exact arrOf_one _ _ _
  clear hS hq
  go_enter Tryd.func14, Tryd.ntmps14
  go_wp2_with (first
    | (go_at_call 16
       refine HC.out.mono ?_
       rintro e w1 ⟨rfl, hb2⟩
       have HB2 := Lib.hid hb2
       clear hb2)
    | (refine wpList_store_row rfl 25 _ _ rfl w1.heap.size S rfl rfl 25 _ (heap_alloc_new w1 _) sS.out zS.out oS.out ?_
       rw [World.setRow_alloc_new]))
  have hN : w.heap.size + 1 ≤ w1.heap.size := by have := HB2.out.size; rwa [World.size_alloc] at this
  have R1 : (w1.alloc (.cells S 25)).rowIs g 41 1 (fun _ => .int .u64 ((n : Nat) : Int)) := ((row_below (HR.out.alloc (.cells Z 25)) HB2.out (by omega)).alloc _)
  have ew : IntKind.u64.wrap ((n : Int) + (q : Int)) = (((n + q) % 18446744073709551616 : Nat) : Int) := by rw [IntKind.wrap_u64]; omega
  refine (atomic_add g ((n : Nat) : Int) (q : Int) _ (R1.cell (by decide)) (R1.frozen 0)).mono ?_
  rintro e w3 ⟨rfl, hw3⟩
  rw [ew] at hw3 ⊢
  have S3 : Hid (w3.heap[w1.heap.size]? = some (.cells S 25 (0, 0))) := by
    rw [← hw3, Below.heap_setCell _ _ _ _ (show w1.heap.size ≠ g by omega)]
    exact heap_alloc_new _ _
  have Z3 : Hid (w3.heap[w.heap.size]? = some (.cells Z 25 (0, 0))) := by
    rw [← hw3, Below.heap_setCell _ _ _ _ (show w.heap.size ≠ g by omega), Below.heap_alloc w1 _ _ (by omega)]
    exact (HB2.out.block _ (by omega)).trans (heap_alloc_new w _)
  have M3 : Hid (MeterAt w3 g ((n + q) % 18446744073709551616)) := by
    rw [← hw3]
    exact (R1.set 0 _).congr fun i hi => by rw [if_pos (by omega)]
  have G3 : Hid (w.grownBy w3 (some g)) := by
    rw [← hw3]
    exact only_setCell (only_alloc (only_trans (only_below hb1.out (some g)) (only_below (HB2.out.mono (by rw [World.size_alloc]; omega)) (some g))) _) (.inl rfl) _
  clear hw3 R1 HC ew
  have MF : Hid (MeterAt (w3.setRow w.heap.size S) g ((n + q) % 18446744073709551616)) := M3.out.of_block (setRow_other _ _ _ _ (by omega))
  have GF : Hid (w.grownBy (w3.setRow w.heap.size S) (some g)) := by
    refine ⟨G3.out.os, G3.out.tape, G3.out.output, by rw [size_setRow]; exact G3.out.size, fun i hi hne => (setRow_other w3 w.heap.size i S (by omega)).trans (G3.out.block i hi hne)⟩
  clear M3 G3
  generalize w1.heap.size = g1 at *
  go_wp2_with (first
    | (refine wpList_load_row rfl 25 _ rfl g1 rfl 25 S (0, 0) _ S3.out Tryd.underlying25 rfl sS.out ?_)
    | (refine wpList_store_row rfl 25 _ _ rfl w.heap.size S rfl rfl 25 _ Z3.out sS.out zS.out oS.out ?_)
    | (refine bodyPost_ret (results_row_one Tryd.results14 _ _ w.heap.size 25 S (0, 0) _ rfl (setRow_heap _ _ _ _ _ _ Z3.out) Tryd.underlying25 rfl sS.out) rfl ⟨rfl, MF.out, GF.out⟩))
end Go.Proofs.YtlejlgamefdckaaDoor
