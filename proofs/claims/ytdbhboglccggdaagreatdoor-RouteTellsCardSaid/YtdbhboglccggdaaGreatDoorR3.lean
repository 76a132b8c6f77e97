/- The closure that points are sorted by. -/
import Derived.Test.YtdbhboglccggdaaGreatDoorR2
import Derived.Test.YtdbhboglccggdaaGreatDoorWm
import Derived.Sort.Grow
set_option maxRecDepth 100000
set_option linter.unusedVariables false
set_option linter.unusedSimpArgs false
namespace Go.Proofs.YtdbhboglccggdaaGreatDoor
open Go.RowKit Go.Sort
/-- y is x, with draws and new blocks. -/
def Gr (x y : World) : Prop := ∃ q os, y = grow (x.drewN q) os
theorem Gr.refl (x : World) : Gr x x := ⟨0, #[], by simp [grow]; rfl⟩
theorem Gr.trans {x y z : World} (h : Gr x y) (k : Gr y z) : Gr x z := by
  obtain ⟨q, os, rfl⟩ := h
  obtain ⟨q', os', rfl⟩ := k
  refine ⟨q + q', os ++ os', ?_⟩
  rw [← grow_grow, ← World.drewN_drewN]
  rfl
theorem Gr.alloc (x : World) (o : Obj) : Gr x (x.alloc o) := ⟨0, #[o], by rw [alloc_eq_grow]; rfl⟩
theorem Gr.drew (x : World) : Gr x x.drew := ⟨1, #[], by simp [grow]; rfl⟩
theorem Gr.block {x y : World} (h : Gr x y) {k : Nat} (hk : k < x.heap.size) : y.heap[k]? = x.heap[k]? := by
  obtain ⟨q, os, rfl⟩ := h
  show (x.heap ++ os)[k]? = _
  rw [Array.getElem?_append_left hk]
theorem Gr.size {x y : World} (h : Gr x y) : x.heap.size ≤ y.heap.size := by
  obtain ⟨q, os, rfl⟩ := h
  show _ ≤ (x.heap ++ os).size
  rw [Array.size_append]
  exact Nat.le_add_right _ _
theorem Gr.below {x y : World} (h : Gr x y) : Below x.heap.size x y := by
  have h1 := h.size
  have h2 := fun k hk => h.block (k := k) hk
  obtain ⟨q, os, rfl⟩ := h
  exact ⟨rfl, rfl, rfl, h1, h2⟩
/-- A point. -/
abbrev Pt := Ring.Pt
def ptC (p : Pt) : Array Value := #[.int .u64 ((p.1 : Nat) : Int), .int .i64 ((p.2 : Nat) : Int)]
def ptL (p : Pt) : List Value := [.int .u64 ((p.1 : Nat) : Int), .int .i64 ((p.2 : Nat) : Int)]
/-- Two points in their boxes. -/
structure PB (g : Nat) (p q : Pt) (x : World) : Prop where
  p0 : x.cell? ⟨g, 0, none⟩ = some (.int .u64 ((p.1 : Nat) : Int))
  p1 : x.cell? ⟨g, 1, none⟩ = some (.int .i64 ((p.2 : Nat) : Int))
  q0 : x.cell? ⟨g + 1, 0, none⟩ = some (.int .u64 ((q.1 : Nat) : Int))
  q1 : x.cell? ⟨g + 1, 1, none⟩ = some (.int .i64 ((q.2 : Nat) : Int))
theorem PB.gr {g : Nat} {p q : Pt} {x y : World} (h : PB g p q x) (k : Gr x y) : PB g p q y :=
  have f : ∀ {b o : Nat} {v : Value}, x.cell? ⟨b, o, none⟩ = some v → y.cell? ⟨b, o, none⟩ = some v := fun {b o v} hc => (World.cell?_of_block (w := x) (a := ⟨b, o, none⟩) (k.block (World.block_lt_of_cell? x _ hc))).trans hc
  ⟨f h.p0, f h.p1, f h.q0, f h.q1⟩
def cmpP (p q : Pt) : Int := orI (cmpI ((p.1 : Nat) : Int) ((q.1 : Nat) : Int)) (cmpI ((p.2 : Nat) : Int) ((q.2 : Nat) : Int))
def OrAt (a b : Int) (v : Value) (x : World) : Prop := ∃ g : Nat, v = .slice (some ⟨g, 0, none⟩) 2 2 ∧ g < x.heap.size ∧ x.heap[g]? = some (.cells #[.int .i64 a, .int .i64 b] 3 (0, 0))
set_option maxHeartbeats 4000000 in
theorem order1_any (p q : Pt) (w : World) : Calls Tryz.prog 100 #[.agg (ptC p), .agg (ptC q)] w fun e w' => e = .returned (.int .i64 (cmpP p q)) ∧ Gr w w' := by
  obtain ⟨p1, p2⟩ := p
  obtain ⟨q1, q2⟩ := q
  have HB : Hid (PB w.heap.size (p1, p2) (q1, q2) ((w.alloc (.cells (ptC (p1, p2)) 101)).alloc (.cells (ptC (q1, q2)) 101))) := by
    have h1 := heap_alloc_new w (.cells (ptC (p1, p2)) 101)
    have h2 := heap_alloc_new (w.alloc (.cells (ptC (p1, p2)) 101)) (.cells (ptC (q1, q2)) 101)
    rw [World.size_alloc] at h2
    have h3 : ((w.alloc (.cells (ptC (p1, p2)) 101)).alloc (.cells (ptC (q1, q2)) 101)).heap[w.heap.size]? = _ := (Below.heap_alloc _ _ _ (by simp)).trans h1
    exact ⟨by rw [cell_of_row _ _ _ _ _ _ h3]; rfl, by rw [cell_of_row _ _ _ _ _ _ h3]; rfl, by rw [cell_of_row _ _ _ _ _ _ h2]; rfl, by rw [cell_of_row _ _ _ _ _ _ h2]; rfl⟩
  have HG : Hid (Gr w ((w.alloc (.cells (ptC (p1, p2)) 101)).alloc (.cells (ptC (q1, q2)) 101))) := (Gr.alloc _ _).trans (Gr.alloc _ _)
  obtain ⟨A, hA⟩ : ∃ A, A = cmpI (p1 : Int) (q1 : Int) := ⟨_, rfl⟩
  obtain ⟨B, hB⟩ : ∃ A, A = cmpI (p2 : Int) (q2 : Int) := ⟨_, rfl⟩
  have CA : Hid (∀ x, Calls Tryz.prog 102 #[.int .u64 (p1 : Int), .int .u64 (q1 : Int)] x fun e y => e = .returned (.int .i64 A) ∧ x = y) := Lib.hid (fun x => by rw [hA]; exact cmp72 _ _ x)
  have CB : Hid (∀ x, Calls Tryz.prog 103 #[.int .i64 (p2 : Int), .int .i64 (q2 : Int)] x fun e y => e = .returned (.int .i64 B) ∧ x = y) := Lib.hid (fun x => by rw [hB]; exact cmp73 _ _ x)
  have HE : Hid (cmpP (p1, p2) (q1, q2) = orI A B) := by show _ = _; rw [hA, hB]; rfl
  clear hA hB
  go_enter Tryz.func100, Tryz.ntmps100
  go_wp2_with fail
  change (Code.region _ _ true).wp _ _ _ ((w.alloc (.cells (ptC (p1, p2)) 101)).alloc (.cells (ptC (q1, q2)) 101))
  generalize (w.alloc (.cells (ptC (p1, p2)) 101)).alloc (.cells (ptC (q1, q2)) 101) = w2 at *
  generalize w.heap.size = g at *
  refine WM.wp_region_kinds (fun _ x y => Gr x y) (fun _ x => PB g (p1, p2) (q1, q2) x) (fun x => Gr w x)
    [(1, .val (.int .u64 (p1 : Int)) fun _ => True), (3, .val (.int .u64 (q1 : Int)) fun _ => True), (4, .val (.int .i64 A) fun _ => True), (6, .val (.int .i64 (p2 : Int)) fun _ => True), (8, .val (.int .i64 (q2 : Int)) fun _ => True), (9, .val (.int .i64 B) fun _ => True), (10, .mem (OrAt A B)), (11, .val (.int .i64 (orI A B)) fun _ => True)]
    (by kernel_rfl) (by kernel_rfl) (fun _ _ _ hb h => h.trans hb) (fun _ _ _ _ _ hb h => h.gr hb) ?_ (HG.out.trans (Gr.drew _)) (fun _ => HB.out.gr (Gr.drew _)) ?_
  · intro z hz
    simp only [List.mem_cons, List.mem_nil_iff, or_false] at hz
    rcases hz with rfl | rfl | rfl | rfl | rfl | rfl | rfl | rfl <;> first
      | exact fun _ _ _ _ _ _ => trivial
      | exact fun _ _ => trivial
      | exact fun _ _ _ _ => trivial
      | (rintro j v x y hj hb ⟨G, e, hl, hc⟩; exact ⟨G, e, Nat.lt_of_lt_of_le hl hb.size, (hb.block hl).trans hc⟩)
      | trace_state
  iterate 1
    refine WM.mono_pure rfl rfl ?_
    apply Exists.intro
    refine ⟨fun x => ?_, ?_⟩
    · go_simp
      rfl
    apply Exists.intro
    refine ⟨by simp only [Act.put, List.setIfInBounds_toArray, List.set_cons_succ, List.set_cons_zero]; rfl, ?_⟩
  refine WM.mono_val rfl rfl (fun x hD hF => ?_) ?_
  · have hc := hD.p0
    go_simp
    exact ⟨Gr.refl _, rfl⟩
  apply Exists.intro
  refine ⟨by simp only [Act.put, List.setIfInBounds_toArray, List.set_cons_succ, List.set_cons_zero]; rfl, ?_⟩
  iterate 1
    refine WM.mono_pure rfl rfl ?_
    apply Exists.intro
    refine ⟨fun x => ?_, ?_⟩
    · go_simp
      rfl
    apply Exists.intro
    refine ⟨by simp only [Act.put, List.setIfInBounds_toArray, List.set_cons_succ, List.set_cons_zero]; rfl, ?_⟩
  refine WM.mono_val rfl rfl (fun x hD hF => ?_) ?_
  · have hc := hD.q0
    go_simp
    exact ⟨Gr.refl _, rfl⟩
  apply Exists.intro
  refine ⟨by simp only [Act.put, List.setIfInBounds_toArray, List.set_cons_succ, List.set_cons_zero]; rfl, ?_⟩
  refine WM.mono_val rfl rfl (fun x hD hF => ?_) ?_
  · go_simp
    refine (CA.out x).mono ?_
    rintro e y ⟨rfl, rfl⟩
    exact ⟨_, rfl, Gr.refl _, rfl⟩
  apply Exists.intro
  refine ⟨by simp only [Act.put, List.setIfInBounds_toArray, List.set_cons_succ, List.set_cons_zero]; rfl, ?_⟩
  iterate 1
    refine WM.mono_pure rfl rfl ?_
    apply Exists.intro
    refine ⟨fun x => ?_, ?_⟩
    · go_simp
      rfl
    apply Exists.intro
    refine ⟨by simp only [Act.put, List.setIfInBounds_toArray, List.set_cons_succ, List.set_cons_zero]; rfl, ?_⟩
  refine WM.mono_val rfl rfl (fun x hD hF => ?_) ?_
  · have hc := hD.p1
    go_simp
    exact ⟨Gr.refl _, rfl⟩
  apply Exists.intro
  refine ⟨by simp only [Act.put, List.setIfInBounds_toArray, List.set_cons_succ, List.set_cons_zero]; rfl, ?_⟩
  iterate 1
    refine WM.mono_pure rfl rfl ?_
    apply Exists.intro
    refine ⟨fun x => ?_, ?_⟩
    · go_simp
      rfl
    apply Exists.intro
    refine ⟨by simp only [Act.put, List.setIfInBounds_toArray, List.set_cons_succ, List.set_cons_zero]; rfl, ?_⟩
  refine WM.mono_val rfl rfl (fun x hD hF => ?_) ?_
  · have hc := hD.q1
    go_simp
    exact ⟨Gr.refl _, rfl⟩
  apply Exists.intro
  refine ⟨by simp only [Act.put, List.setIfInBounds_toArray, List.set_cons_succ, List.set_cons_zero]; rfl, ?_⟩
  refine WM.mono_val rfl rfl (fun x hD hF => ?_) ?_
  · go_simp
    refine (CB.out x).mono ?_
    rintro e y ⟨rfl, rfl⟩
    exact ⟨_, rfl, Gr.refl _, rfl⟩
  apply Exists.intro
  refine ⟨by simp only [Act.put, List.setIfInBounds_toArray, List.set_cons_succ, List.set_cons_zero]; rfl, ?_⟩
  refine WM.mono_mem rfl rfl (fun x hD hF => ?_) (fun v15 => ?_)
  · go_simp
    exact ⟨Gr.alloc _ _, x.heap.size, rfl, by simp, heap_alloc_new _ _⟩
  apply Exists.intro
  refine ⟨by simp only [Act.put, List.setIfInBounds_toArray, List.set_cons_succ, List.set_cons_zero]; rfl, ?_⟩
  refine WM.mono_val rfl rfl (fun x hD hF => ?_) ?_
  · obtain ⟨G, e, hl, hc⟩ := (hF 10 _ _ rfl rfl (by decide)).1
    subst e
    go_simp
    refine (or71 G A B x (by rw [cell_of_row _ _ _ _ _ _ hc]; rfl) (by rw [cell_of_row _ _ _ _ _ _ hc]; rfl)).mono ?_
    rintro e y ⟨rfl, rfl⟩
    exact ⟨_, rfl, Gr.refl _, rfl⟩
  apply Exists.intro
  refine ⟨by simp only [Act.put, List.setIfInBounds_toArray, List.set_cons_succ, List.set_cons_zero]; rfl, ?_⟩
  iterate 1
    refine WM.mono_pure rfl rfl ?_
    apply Exists.intro
    refine ⟨fun x => ?_, ?_⟩
    · go_simp
      rfl
    apply Exists.intro
    refine ⟨by simp only [Act.put, List.setIfInBounds_toArray, List.set_cons_succ, List.set_cons_zero]; rfl, ?_⟩
  refine WM.mono_nil fun x hE hF => ?_
  go_wp2
  go_ret
  exact ⟨int_arg' HE.out.symm, hE⟩
end Go.Proofs.YtdbhboglccggdaaGreatDoor
