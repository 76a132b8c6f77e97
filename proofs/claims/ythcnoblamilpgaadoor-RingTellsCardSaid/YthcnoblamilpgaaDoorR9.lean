/- The closure that makes a ring's points. -/
import Derived.Test.YthcnoblamilpgaaDoorR8
set_option maxRecDepth 100000
set_option linter.unusedVariables false
set_option linter.unusedSimpArgs false
namespace Go.Proofs.YthcnoblamilpgaaDoor
open Go.RowKit
theorem size38 : (Tryd.prog.info? 38).map (·.size) = some 3 := by kernel_rfl
set_option maxHeartbeats 4000000 in
theorem made1_any (g N V R : Nat) (st : Int) (pl : Addr) (w : World) (hN : N ≤ 8) (hV : V ≤ 16) (hg2 : 2 ≤ g) (hpl : pl.block ≠ g) (h : AD g N V R st pl w) :
    Calls Tryd.prog 49 #[.pointer (some pl)] w fun e w' => e = .returned (.tuple #[]) ∧ AF g N V R st w.heap.size w' ∧ w.grownBy w' (some g) := by
  have HA := Lib.hid h
  have HG2 := Lib.hid hg2
  have HPL := Lib.hid hpl
  have HCP : Hid (∀ x, Tabs x → w.heap.size ≤ x.heap.size → g < x.heap.size → (∃ cs fr, x.heap[g]? = some (.cells cs 69 fr)) → Calls Tryd.prog 50 #[.agg #[.int .i64 ((N : Nat) : Int), .int .i64 ((V : Nat) : Int), .int .i64 ((R : Nat) : Int)]] x fun e w' => ∃ v, e = .returned v ∧ Below x.heap.size x w' ∧ AP g N V w.heap.size v w') := Lib.hid (fun x hx hs hgl ⟨cs, fr, ht⟩ => (pointsOf_any N V R hN hV x hx).mono (by
    rintro e w' ⟨A, c, rfl, hl, hp, hb⟩
    exact ⟨_, rfl, hb, A, c, rfl, hl, hp.weak (fun b hb _ => by omega), cs, fr, (hb.block g hgl).trans ht⟩))
  clear h hg2 hpl hN hV
  go_enter Tryd.func49, Tryd.ntmps49
  refine WM.wp_region_kinds (fun j x y => AR g N V R st j x y) (fun _ x => AD g N V R st pl x ∧ w.heap.size ≤ x.heap.size) (fun x => w.grownBy x (some g))
    [(0, .val (.pointer (some ⟨g, 0, none⟩)) fun _ => True), (1, .val (.pointer (some ⟨g, 0, none⟩)) fun _ => True), (4, .val (.agg #[.int .i64 ((N : Nat) : Int), .int .i64 ((V : Nat) : Int), .int .i64 ((R : Nat) : Int)]) fun _ => True), (5, .mem (AP g N V w.heap.size)), (8, .val undef (AF g N V R st w.heap.size))]
    (by kernel_rfl) (by kernel_rfl) (fun _ _ _ hb h => only_trans h hb.1) (fun _ _ _ _ _ hb h => ⟨h.1.then_ hb HPL.out HG2.out, Nat.le_trans h.2 hb.1.size⟩) ?_ (only_drew (only_refl _ _)) (fun _ => ⟨⟨HA.out.rb, HA.out.pl, HA.out.tabs.of_blocks rfl rfl HA.out.tabs.two⟩, Nat.le_refl _⟩) ?_
  · intro z hz
    simp only [List.mem_cons, List.mem_nil_iff, or_false] at hz
    rcases hz with rfl | rfl | rfl | rfl | rfl
    · exact fun _ _ _ _ _ _ => trivial
    · exact fun _ _ _ _ _ _ => trivial
    · exact fun _ _ _ _ _ _ => trivial
    · exact fun j v x y hj hb h => h.then_ hb
    · exact fun j x y hj hb h => h.then_ hb (fun e => hj e.symm)
  refine WM.mono_val rfl rfl (fun x hD hF => ?_) ?_
  · have hc := hD.1.pl
    go_simp
    exact ⟨AR.below (Below.refl _ _) (by obtain ⟨_, h⟩ := hD.1.rb; exact h.lt), rfl⟩
  apply Exists.intro
  refine ⟨by simp only [Act.put, List.setIfInBounds_toArray, List.set_cons_succ, List.set_cons_zero]; rfl, ?_⟩
  refine WM.mono_val rfl rfl (fun x hD hF => ?_) ?_
  · have hc := hD.1.pl
    go_simp
    exact ⟨AR.below (Below.refl _ _) (by obtain ⟨_, h⟩ := hD.1.rb; exact h.lt), rfl⟩
  apply Exists.intro
  refine ⟨by simp only [Act.put, List.setIfInBounds_toArray, List.set_cons_succ, List.set_cons_zero]; rfl, ?_⟩
  iterate 2
    refine WM.mono_pure rfl rfl ?_
    apply Exists.intro
    refine ⟨fun x => ?_, ?_⟩
    · go_simp
      rfl
    apply Exists.intro
    refine ⟨by simp only [Act.put, List.setIfInBounds_toArray, List.set_cons_succ, List.set_cons_zero]; rfl, ?_⟩
  refine WM.mono_val rfl rfl (fun x hD hF => ?_) ?_
  · obtain ⟨pv, hr⟩ := hD.1.rb
    have hl := run_loadVar_arr (P := Tryd.prog) x g 0 38 #[.int .i64 ((N : Nat) : Int), .int .i64 ((V : Nat) : Int), .int .i64 ((R : Nat) : Int)] _ (fun j v hj => by
      rw [Nat.zero_add, hr.cell]
      match j, hj with
      | 0, hj => exact hj
      | 1, hj => exact hj
      | 2, hj => exact hj) Tryd.underlying38 rfl size38
    rw [exec_load 38 (.tmp 4) rfl g 0 rfl hl]
    exact ⟨AR.below (Below.refl _ _) hr.lt, rfl, trivial⟩
  apply Exists.intro
  refine ⟨by simp only [Act.put, List.setIfInBounds_toArray, List.set_cons_succ, List.set_cons_zero]; rfl, ?_⟩
  refine WM.mono_mem rfl rfl (fun x hD hF => ?_) (fun v6 => ?_)
  · obtain ⟨pv, hr⟩ := hD.1.rb
    go_simp
    refine (HCP.out x hD.1.tabs hD.2 hr.lt ⟨_, _, hr⟩).mono ?_
    rintro e y ⟨v, rfl, hb, hap⟩
    exact ⟨v, rfl, AR.below hb hr.lt, hap⟩
  apply Exists.intro
  refine ⟨by simp only [Act.put, List.setIfInBounds_toArray, List.set_cons_succ, List.set_cons_zero]; rfl, ?_⟩
  iterate 2
    refine WM.mono_pure rfl rfl ?_
    apply Exists.intro
    refine ⟨fun x => ?_, ?_⟩
    · go_simp
      rfl
    apply Exists.intro
    refine ⟨by simp only [Act.put, List.setIfInBounds_toArray, List.set_cons_succ, List.set_cons_zero]; rfl, ?_⟩
  refine WM.mono_val rfl rfl (fun x hD hF => ?_) ?_
  · obtain ⟨A, c, e, hl, hp, cs, fr, ht⟩ := (hF 5 _ _ rfl rfl (by decide)).1
    subst e
    obtain ⟨pv, hr⟩ := hD.1.rb
    have hc : x.cell? ⟨g, 6, none⟩ = some pv := by rw [hr.cell]; rfl
    have hz := hr.frozen 6
    go_simp
    have hgr : x.grownBy (x.setCell ⟨g, 6, none⟩ (.slice A (Ring.pts ptAt V N).length c)) (some g) := only_setCell (only_refl _ _) (.inl rfl) _
    exact ⟨⟨hgr, fun h => absurd rfl h, fun pv' h' => ⟨_, h'.set6 _⟩, fun cs' fr' h' => ⟨_, set_heap h' _⟩⟩, rfl, A, c, hr.set6 _, hl, hp.only hgr ht⟩
  apply Exists.intro
  refine ⟨by simp only [Act.put, List.setIfInBounds_toArray, List.set_cons_succ, List.set_cons_zero]; rfl, ?_⟩
  refine WM.mono_nil fun x hE hF => ?_
  have hfin := (hF 8).1
  go_wp2
  go_end0
  exact ⟨rfl, hfin, hE⟩
end Go.Proofs.YthcnoblamilpgaaDoor
