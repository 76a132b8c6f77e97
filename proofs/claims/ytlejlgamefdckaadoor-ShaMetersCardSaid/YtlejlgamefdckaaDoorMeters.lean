/- The law ShaMeters of layer 1, walked. -/
import Derived.Test.YtlejlgamefdckaaDoorA8
import Derived.Test.YtlejlgamefdckaaDoorMonb
import Derived.Test.YtlejlgamefdckaaDoorBlocks
namespace Go.Proofs.YtlejlgamefdckaaDoor
open Go.RowKit

/-- A slice of slices of bytes whose blocks are not g. -/
def PM (g : Nat) (xs : List Nat) (v : Value) (w : World) : Prop := ∃ A c ls, v = .slice A ls.length c ∧ Pieces w (· ≠ g) A ls ∧ allOf ls = xs ∧ ls.length ≤ maxLen
theorem PM.only {g : Nat} {xs : List Nat} {v : Value} {x y : World} (h : x.grownBy y (some g)) : PM g xs v x → PM g xs v y := fun ⟨A, c, ls, e, hp, ha, hm⟩ => ⟨A, c, ls, e, hp.only h, ha, hm⟩
theorem PM.ps {g : Nat} {xs : List Nat} {v : Value} {x : World} (h : PM g xs v x) : PS xs v x := by
  obtain ⟨A, c, ls, e, hp, ha, hm⟩ := h
  exact ⟨A, c, ls, e, hp.weak fun b _ hb => hb, ha, hm⟩
theorem pm_one {g : Nat} {w : World} {p : Piece} (hp : Bytes w (· ≠ g) p.A p.xs ∧ p.xs.length ≤ p.c ∧ p.xs.length ≤ maxLen) (hg : g ≠ w.heap.size) (t : TypeId) : PM g p.xs (.slice (some ⟨w.heap.size, 0, none⟩) 1 1) (w.alloc (.cells #[.slice p.A p.xs.length p.c] t)) := by
  have hb := Below.alloc (Below.refl w.heap.size w) (Nat.le_refl _) (.cells #[.slice p.A p.xs.length p.c] t)
  refine ⟨_, 1, [p], rfl, ⟨fun p' hp' => ?_, fun _ => ⟨_, _, rfl, fun e => hg e.symm, fun j p' hj => ?_⟩⟩, by simp [allOf], by unfold maxLen; simp⟩
  · rw [List.mem_singleton] at hp'
    subst hp'
    exact ⟨hp.1.only (only_below hb _), hp.2⟩
  · rw [Nat.zero_add, World.cell?_alloc_at _ _ _ _ rfl]
    match j, hj with
    | 0, hj => simp only [List.getElem?_cons_zero, Option.some.injEq] at hj; subst hj; rfl
    | j + 1, hj => simp at hj

structure LInv (w : World) (W : Nat) (wr : World) : Prop where
  meter : MeterAt wr w.heap.size W
  below : Below w.heap.size w wr
theorem r_only {j : Nat} {x y : World} {g : Nat} (h : if j = 6 then x.grownBy y (some g) else Below x.heap.size x y) : x.grownBy y (some g) := by
  by_cases e : j = 6
  · rwa [if_pos e] at h
  · rw [if_neg e] at h; exact only_below h _
theorem eq_abc (f : Nat → Nat) (W : World) : (Op.equalIn 10000 25 (.agg (arrOf .u8 32 f)) (.agg (arrOf .u8 32 f))).run Tryd.prog W = .ok true W := by
  rw [run_equalIn_arr (P := Tryd.prog) 25 5 32 .u8 .u8 Tryd.underlying25 Tryd.underlying5 size5 agg5 f f W, decide_eq_true (fun i _ => rfl)]

set_option maxRecDepth 100000 in
set_option maxHeartbeats 4000000 in
theorem law_meters (ls : List Piece) (c : Nat) (A : Option Addr) (w : World) (ht : Tabs w) (hp : Pieces w (· < w.heap.size) A ls) (hm : ls.length ≤ 9223372036854775807) :
    Calls Tryd.prog 5 #[.slice A ls.length c] w fun e w' => e = .returned (.bool true) ∧ Below w.heap.size w w' := by
  have HT := Lib.hid ht
  have HP := Lib.hid hp
  have L2 := ht.two
  clear ht hp
  go_enter Tryd.func5, Tryd.ntmps5
  go_wp2_with fail
  have HI0 : Hid (LInv w 0 (w.alloc (.cells #[.int .u64 0] 41))) := ⟨World.rowIs_alloc w #[.int .u64 0] 41 (fun _ => .int .u64 ((0 : Nat) : Int)) (fun i hi => by
    match i, hi with
    | 0, _ => rfl), (Below.refl _ _).alloc (Nat.le_refl _) _⟩
  go_loopw [5, 6] (fun v5 v6 wr => ∃ k W : Nat, k ≤ 12 ∧ k ≤ ls.length ∧ W ≤ 6 * k ∧ v5 = .int .u64 W ∧ v6 = .int .i64 k ∧ Hid (LInv w W wr)) (fun _ v _ => 12 - (intOf v).toNat)
  case atStart => exact ⟨0, 0, by omega, by omega, by omega, rfl, rfl, HI0⟩
  case round =>
    clear HI0
    obtain ⟨k, W, hk, hkl, hW, rfl, rfl, HI⟩ := hrel
    by_cases hrun : k < ls.length ∧ k < 12
    · obtain ⟨ha, hb⟩ := hrun
      obtain ⟨bb, oo, hA, _, _⟩ := HP.out.at_ (by omega)
      subst hA
      obtain ⟨p, hp⟩ : ∃ p, p = ls[k] := ⟨_, rfl⟩
      have hcell : ∀ x, Below w.heap.size w x → x.cell? ⟨bb, oo + k, none⟩ = some (.slice p.A p.xs.length p.c) := fun x hx => by
        obtain ⟨bb', oo', e, hbb, hcell'⟩ := (HP.out.below hx).at_ (by omega)
        injection e with e
        injection e with e1 e2
        subst e1 e2
        exact hcell' k p (by rw [hp]; exact List.getElem?_eq_getElem ha)
      have hpc : ∀ x, Below w.heap.size w x → Bytes x (· ≠ w.heap.size) p.A p.xs ∧ p.xs.length ≤ p.c ∧ p.xs.length ≤ maxLen := fun x hx => by
        have h := (HP.out.below hx).each p (by rw [hp]; exact List.getElem_mem ha)
        exact ⟨h.1.weak fun b hb _ => Nat.ne_of_lt hb, h.2⟩
      have HCL := Lib.hid hcell
      have HPC := Lib.hid hpc
      have hlen : p.xs.length ≤ 9223372036854775807 := by have := (hpc w (Below.refl _ _)).2.2; unfold maxLen at this; omega
      have hc0 := hcell wr HI.out.below
      clear hp hcell hpc
      by_cases hbig : 300 < p.xs.length
      · have hbig' : (300 : Int) < (p.xs.length : Int) := by omega
        go_wp2_with (go_at_call 7; refine (alive_any _ (HT.out.below HI.out.below)).mono ?_; rintro e w1 ⟨rfl, hb1⟩; have HB1 := Lib.hid hb1; clear hb1)
        go_ret
        exact ⟨rfl, HI.out.below.trans (HB1.out.mono HI.out.below.size)⟩
      · have hbig' : (p.xs.length : Int) ≤ 300 := by omega
        go_wp2_with fail
        have HE : Hid (∀ V, (Op.equalIn 10000 25 (.agg (arrOf .u8 32 (sha p.xs))) (.agg (arrOf .u8 32 (sha p.xs)))).run Tryd.prog V = .ok true V) := fun V => eq_abc (sha p.xs) V
        obtain ⟨W', hW'⟩ : ∃ W', W' = (W + (shaFin p.xs).k) % 18446744073709551616 := ⟨_, rfl⟩
        refine M2.wp_region_kinds (fun i x y => if i = 6 then x.grownBy y (some w.heap.size) else Below x.heap.size x y)
          (fun i x => (Tabs x ∧ Below w.heap.size w x ∧ w.heap.size < x.heap.size) ∧ (i = 6 → MeterAt x w.heap.size W)) (fun x => Tabs x ∧ Below w.heap.size w x ∧ w.heap.size < x.heap.size)
          [(4, .val (.slice p.A p.xs.length p.c) fun _ => True), (5, .mem (PM w.heap.size p.xs)), (6, .val (.agg (arrOf .u8 32 (sha p.xs))) fun x => MeterAt x w.heap.size ((W + (shaFin p.xs).k) % 18446744073709551616)), (10, .val (.slice p.A p.xs.length p.c) fun _ => True), (11, .mem (PM w.heap.size p.xs)), (12, .val (.agg (arrOf .u8 32 (sha p.xs))) fun _ => True),
           (19, .val (.slice p.A p.xs.length p.c) fun _ => True), (20, .mem (PM w.heap.size p.xs)), (21, .val (.agg (arrOf .u8 32 (sha p.xs))) fun _ => True), (25, .val (.slice p.A p.xs.length p.c) fun _ => True), (26, .mem (PM w.heap.size p.xs)), (27, .val (.agg (arrOf .u8 32 (sha p.xs))) fun _ => True)]
          (by kernel_rfl) (by kernel_rfl) ?_ ?_ ?_ ?_ ?_ ?_
        · rintro j x y hr ⟨e1, e2, e3⟩
          have hg := r_only hr
          exact ⟨e1.only hg L2, below_only e2 hg e2.size (Nat.le_refl _), Nat.lt_of_lt_of_le e3 hg.size⟩
        · rintro i j x y hij hr ⟨⟨e1, e2, e3⟩, e4⟩
          have hg := r_only hr
          refine ⟨⟨e1.only hg L2, below_only e2 hg e2.size (Nat.le_refl _), Nat.lt_of_lt_of_le e3 hg.size⟩, fun h6 => ?_⟩
          subst h6
          rw [if_neg (fun e => hij e.symm)] at hr
          exact row_below (e4 rfl) hr e3
        · intro z hz
          simp only [List.mem_cons, List.mem_nil_iff, or_false] at hz
          rcases hz with rfl | rfl | rfl | rfl | rfl | rfl | rfl | rfl | rfl | rfl | rfl | rfl <;> first
            | exact fun _ _ _ _ _ _ => trivial
            | exact fun j v x y _ hr => PM.only (r_only hr)
            | (intro j x y hij hr hx
               rw [if_neg (fun e => hij e.symm)] at hr
               exact row_below hx hr (World.rowIs.lt hx))
        · exact ⟨(HT.out.below HI.out.below).of_blocks rfl rfl (HT.out.below HI.out.below).two, HI.out.below.drew, HI.out.meter.lt⟩
        · exact fun i => ⟨⟨(HT.out.below HI.out.below).of_blocks rfl rfl (HT.out.below HI.out.below).two, HI.out.below.drew, HI.out.meter.lt⟩, fun _ => HI.out.meter⟩
        · have hcell := HCL.out
          have hpc := HPC.out
          have HCL2 := Lib.hid hcell
          have HPC2 := Lib.hid hpc
          clear hcell hpc
          iterate 4
            refine M2.mono_pure rfl rfl ?_
            apply Exists.intro
            refine ⟨fun x => ?_, ?_⟩
            · go_simp
              rfl
            apply Exists.intro
            refine ⟨by simp only [Act.put, List.setIfInBounds_toArray, List.set_cons_succ, List.set_cons_zero]; rfl, ?_⟩
          refine M2.mono_val rfl rfl (fun x hD hF => ?_) ?_
          · have hc := HCL2.out x hD.1.2.1
            go_simp
            exact ⟨Below.refl _ _, rfl⟩
          apply Exists.intro
          refine ⟨by simp only [Act.put, List.setIfInBounds_toArray, List.set_cons_succ, List.set_cons_zero]; rfl, ?_⟩
          refine M2.mono_mem rfl rfl (fun x hD hF => ?_) (fun v31 => ?_)
          · go_simp
            exact ⟨Below.alloc (Below.refl _ _) (Nat.le_refl _) _, pm_one (HPC2.out x hD.1.2.1) (by have := hD.1.2.2; omega) 22⟩
          apply Exists.intro
          refine ⟨by simp only [Act.put, List.setIfInBounds_toArray, List.set_cons_succ, List.set_cons_zero]; rfl, ?_⟩
          refine M2.mono_val rfl rfl (fun x hD hF => ?_) ?_
          · obtain ⟨A', c', ls', rfl, hp', ha', hm'⟩ := ((hF 5 _ 31 rfl rfl (by decide)).1).ps
            go_simp
            refine (meter_sum_at ls' c' A' w.heap.size W x hD.1.1 hp' hm' L2 (hD.2 rfl)).mono ?_
            rintro e y ⟨rfl, hg1, hg2⟩
            rw [ha'] at hg1 ⊢
            exact ⟨_, rfl, hg2, rfl, hg1⟩
          apply Exists.intro
          refine ⟨by simp only [Act.put, List.setIfInBounds_toArray, List.set_cons_succ, List.set_cons_zero]; rfl, ?_⟩
          iterate 3
            refine M2.mono_pure rfl rfl ?_
            apply Exists.intro
            refine ⟨fun x => ?_, ?_⟩
            · go_simp
              rfl
            apply Exists.intro
            refine ⟨by simp only [Act.put, List.setIfInBounds_toArray, List.set_cons_succ, List.set_cons_zero]; rfl, ?_⟩
          refine M2.mono_val rfl rfl (fun x hD hF => ?_) ?_
          · have hc := HCL2.out x hD.1.2.1
            go_simp
            exact ⟨Below.refl _ _, rfl⟩
          apply Exists.intro
          refine ⟨by simp only [Act.put, List.setIfInBounds_toArray, List.set_cons_succ, List.set_cons_zero]; rfl, ?_⟩
          refine M2.mono_mem rfl rfl (fun x hD hF => ?_) (fun v37 => ?_)
          · go_simp
            exact ⟨Below.alloc (Below.refl _ _) (Nat.le_refl _) _, pm_one (HPC2.out x hD.1.2.1) (by have := hD.1.2.2; omega) 22⟩
          apply Exists.intro
          refine ⟨by simp only [Act.put, List.setIfInBounds_toArray, List.set_cons_succ, List.set_cons_zero]; rfl, ?_⟩
          refine M2.mono_val rfl rfl (fun x hD hF => ?_) ?_
          · obtain ⟨A', c', ls', rfl, hp', ha', hm'⟩ := ((hF 11 _ 37 rfl rfl (by decide)).1).ps
            go_simp
            refine (sum_any ls' c' A' x hD.1.1 hp' hm').mono ?_
            rintro e y ⟨rfl, hg⟩
            rw [ha']
            exact ⟨_, rfl, hg, rfl⟩
          apply Exists.intro
          refine ⟨by simp only [Act.put, List.setIfInBounds_toArray, List.set_cons_succ, List.set_cons_zero]; rfl, ?_⟩
          refine M2.mono_pure rfl rfl ?_
          apply Exists.intro
          refine ⟨fun x => ?_, ?_⟩
          · have h1 := HE.out x
            go_simp
            rfl
          apply Exists.intro
          refine ⟨by simp only [Act.put, List.setIfInBounds_toArray, List.set_cons_succ, List.set_cons_zero]; rfl, ?_⟩
          iterate 1
            refine M2.mono_pure rfl rfl ?_
            apply Exists.intro
            refine ⟨fun x => ?_, ?_⟩
            · go_simp
              rfl
            apply Exists.intro
            refine ⟨by simp only [Act.put, List.setIfInBounds_toArray, List.set_cons_succ, List.set_cons_zero]; rfl, ?_⟩
          iterate 4
            refine M2.mono_pure rfl rfl ?_
            apply Exists.intro
            refine ⟨fun x => ?_, ?_⟩
            · go_simp
              rfl
            apply Exists.intro
            refine ⟨by simp only [Act.put, List.setIfInBounds_toArray, List.set_cons_succ, List.set_cons_zero]; rfl, ?_⟩
          refine M2.mono_val rfl rfl (fun x hD hF => ?_) ?_
          · have hc := HCL2.out x hD.1.2.1
            go_simp
            exact ⟨Below.refl _ _, rfl⟩
          apply Exists.intro
          refine ⟨by simp only [Act.put, List.setIfInBounds_toArray, List.set_cons_succ, List.set_cons_zero]; rfl, ?_⟩
          refine M2.mono_mem rfl rfl (fun x hD hF => ?_) (fun v46 => ?_)
          · go_simp
            exact ⟨Below.alloc (Below.refl _ _) (Nat.le_refl _) _, pm_one (HPC2.out x hD.1.2.1) (by have := hD.1.2.2; omega) 22⟩
          apply Exists.intro
          refine ⟨by simp only [Act.put, List.setIfInBounds_toArray, List.set_cons_succ, List.set_cons_zero]; rfl, ?_⟩
          refine M2.mono_val rfl rfl (fun x hD hF => ?_) ?_
          · obtain ⟨A', c', ls', rfl, hp', ha', hm'⟩ := ((hF 20 _ 46 rfl rfl (by decide)).1).ps
            go_simp
            refine (meter_sum_nil ls' c' A' x hD.1.1 hp' hm').mono ?_
            rintro e y ⟨rfl, hg⟩
            rw [ha']
            exact ⟨_, rfl, hg, rfl⟩
          apply Exists.intro
          refine ⟨by simp only [Act.put, List.setIfInBounds_toArray, List.set_cons_succ, List.set_cons_zero]; rfl, ?_⟩
          iterate 3
            refine M2.mono_pure rfl rfl ?_
            apply Exists.intro
            refine ⟨fun x => ?_, ?_⟩
            · go_simp
              rfl
            apply Exists.intro
            refine ⟨by simp only [Act.put, List.setIfInBounds_toArray, List.set_cons_succ, List.set_cons_zero]; rfl, ?_⟩
          refine M2.mono_val rfl rfl (fun x hD hF => ?_) ?_
          · have hc := HCL2.out x hD.1.2.1
            go_simp
            exact ⟨Below.refl _ _, rfl⟩
          apply Exists.intro
          refine ⟨by simp only [Act.put, List.setIfInBounds_toArray, List.set_cons_succ, List.set_cons_zero]; rfl, ?_⟩
          refine M2.mono_mem rfl rfl (fun x hD hF => ?_) (fun v52 => ?_)
          · go_simp
            exact ⟨Below.alloc (Below.refl _ _) (Nat.le_refl _) _, pm_one (HPC2.out x hD.1.2.1) (by have := hD.1.2.2; omega) 22⟩
          apply Exists.intro
          refine ⟨by simp only [Act.put, List.setIfInBounds_toArray, List.set_cons_succ, List.set_cons_zero]; rfl, ?_⟩
          refine M2.mono_val rfl rfl (fun x hD hF => ?_) ?_
          · obtain ⟨A', c', ls', rfl, hp', ha', hm'⟩ := ((hF 26 _ 52 rfl rfl (by decide)).1).ps
            go_simp
            refine (sum_any ls' c' A' x hD.1.1 hp' hm').mono ?_
            rintro e y ⟨rfl, hg⟩
            rw [ha']
            exact ⟨_, rfl, hg, rfl⟩
          apply Exists.intro
          refine ⟨by simp only [Act.put, List.setIfInBounds_toArray, List.set_cons_succ, List.set_cons_zero]; rfl, ?_⟩
          refine M2.mono_pure rfl rfl ?_
          apply Exists.intro
          refine ⟨fun x => ?_, ?_⟩
          · have h1 := HE.out x
            go_simp
            rfl
          apply Exists.intro
          refine ⟨by simp only [Act.put, List.setIfInBounds_toArray, List.set_cons_succ, List.set_cons_zero]; rfl, ?_⟩
          iterate 1
            refine M2.mono_pure rfl rfl ?_
            apply Exists.intro
            refine ⟨fun x => ?_, ?_⟩
            · go_simp
              rfl
            apply Exists.intro
            refine ⟨by simp only [Act.put, List.setIfInBounds_toArray, List.set_cons_succ, List.set_cons_zero]; rfl, ?_⟩
          refine M2.mono_nil ?_
          intro w3 hD hF
          have h6 := (hF 6)
          simp only [M2.updF, Nat.reduceEqDiff, if_false, if_true] at h6
          have hm6 := h6.1
          have hq := fin_count p.xs (by omega)
          obtain ⟨b, hb⟩ : ∃ b, b = (p.xs.length + 8) / 64 + 1 := ⟨_, rfl⟩
          rw [← hb] at hq
          rw [show (W + (shaFin p.xs).k) % 18446744073709551616 = W + b by omega] at hm6
          have HM6 := Lib.hid hm6
          have HD := Lib.hid hD
          have b5 : b ≤ 5 := by omega
          have hc3 := HCL2.out w3 hD.2.1
          have HBL : Hid (Calls Tryd.prog 13 #[.int .i64 (p.xs.length : Int)] w3 fun e w' => e = .returned (.int .u64 (b : Int)) ∧ w3 = w') := by rw [hb]; exact ref_blocks_nat p.xs.length w3 hlen
          have HCN : Hid (Calls Tryd.prog 15 #[.pointer (some ⟨w.heap.size, 0, none⟩)] w3 fun e w' => e = .returned (.int .u64 ((W : Int) + (b : Int))) ∧ w3 = w') := by
            have h := count_at w.heap.size ((W + b : Nat) : Int) w3 (hm6.cell (by decide))
            rwa [Int.natCast_add] at h
          clear h6 hm6 hq hb hF hD
          go_simp
          go_wp2_with (first
            | (go_at_call 13; refine HBL.out.mono ?_; rintro e w' ⟨rfl, rfl⟩)
            | (go_at_call 15; refine HCN.out.mono ?_; rintro e w' ⟨rfl, rfl⟩))
          go_roundw
          case rel => exact ⟨k + 1, W + b, by omega, by omega, by omega, int_arg (by omega), by go_num, ⟨HM6.out, HD.out.2.1⟩⟩
          case measure => simp [intOf]; omega
    · have hcase : ((ls.length : Int) ≤ (k : Int)) ∨ ((k : Int) < (ls.length : Int) ∧ (12 : Int) ≤ (k : Int)) := by omega
      have HCN0 := fun x => count_nil x
      have HCN := Lib.hid HCN0
      clear hrun HCN0
      rcases hcase with g1 | ⟨g1, g2⟩
      all_goals
        go_wp2_with fail
        refine (alive_any _ (HT.out.below HI.out.below)).mono ?_
        rintro e w1 ⟨rfl, hb1⟩
        have HB1 := Lib.hid hb1
        have M1 : Hid (MeterAt w1 w.heap.size W) := row_below HI.out.meter hb1 HI.out.meter.lt
        clear hb1
        have hB1 : Hid (Below w.heap.size w w1) := HI.out.below.trans (HB1.out.mono HI.out.below.size)
        go_wp2_with fail
        refine (HCN.out _).mono ?_
        rintro e w' ⟨rfl, rfl⟩
        go_wp2_with fail
        refine (meter_sum_at [] 0 none w.heap.size W _ (HT.out.below hB1.out) ⟨fun _ h => (by cases h), fun h => (by cases h)⟩ (by simp [maxLen]) L2 M1.out).mono ?_
        rintro e w2 ⟨rfl, hm2, hg2⟩
        have HB2 := Lib.hid (below_only hB1.out hg2 hB1.out.size (Nat.le_refl _))
        have hq := eq_abc (sha [])
        rw [show allOf [] = [] from rfl]
        have HQ := Lib.hid hq
        clear hm2 hg2 hq
        go_wp2_with fail
        have hx : BS [] (.slice none 0 0) w2 := ⟨none, 0, rfl, Nat.le_refl _, ⟨fun _ h => (by cases h), fun h => (by cases h)⟩⟩
        have hp5 := ps_one (N := w.heap.size) w2 hx (by simp [maxLen]) 22 HB2.out.size
        refine (sum_ps (N := w.heap.size) (HT.out.below (HB2.out.trans hp5.1.below)) hp5.2 (Nat.le_trans HB2.out.size hp5.1.below.size)).mono ?_
        rintro e w6 ⟨rfl, hg6⟩
        have HB6 := Lib.hid ((HB2.out.trans hp5.1.below).trans hg6.below)
        clear hg6 hp5 hx
        have hq := HQ.out
        go_wp2_with fail
        go_ret
        exact ⟨rfl, HB6.out⟩
end Go.Proofs.YtlejlgamefdckaaDoor
