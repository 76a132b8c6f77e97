/- The contract of the law's own 'alive'. -/
import Derived.Test.YtlejlgamefdckaaDoorA6
import Derived.Test.YtlejlgamefdckaaDoorGrow
namespace Go.Proofs.YtlejlgamefdckaaDoor
open Go.RowKit

def abc : List Nat := [97, 98, 99]
theorem abc0 : sha abc 0 = 186 := by decide +kernel
theorem abc1 : sha abc 1 = 120 := by decide +kernel
theorem abc30 : sha abc 30 = 21 := by decide +kernel
theorem abc31 : sha abc 31 = 173 := by decide +kernel
theorem abcP : pt (sha abc) 8 = 13436514500253700074 := by decide +kernel

theorem exec_load {P : Program} {ev : Operand → Value} {o : Oper} {w w' : World} {v : Value} (ty : TypeId) (x : Operand) (ho : o.op = .load ty x) (b off : Nat) (hx : ev x = .pointer (some ⟨b, off, none⟩))
    (hl : (loadVar ty ⟨b, off, none⟩).run P w = .ok v w') : (execOp ev o).run P w = .ok (.value v) w' := by
  unfold execOp
  simp only [ho, hx, Instr.loadAt, Instr.sureAddr, Sem.run_bind, Sem.run_pure, Result.andThen_ok, hl]
theorem agg5 (w : World) : (isAgg 5).run Tryd.prog w = .ok false w := by kernel_rfl

set_option maxRecDepth 100000 in
set_option maxHeartbeats 2000000 in
theorem alive_any (w : World) (ht : Tabs w) : Calls Tryd.prog 7 #[] w fun e w' => e = .returned (.bool true) ∧ Below w.heap.size w w' := by
  have HT := Lib.hid ht
  clear ht
  have hz := (zero_of_info info25).1
  obtain ⟨Z, hZ⟩ : ∃ Z, Z = arrOf .u8 32 (fun _ => 0) := ⟨_, rfl⟩
  rw [← hZ] at hz
  have sS : Hid ((Tryd.prog.info? 25).map (·.size) = some (arrOf .u8 32 (sha abc)).size) := by rw [arrOf_size]; exact size25
  have zS : Hid (Z.size = (arrOf .u8 32 (sha abc)).size) := by rw [hZ, arrOf_size, arrOf_size]; exact rfl
  have oS : Hid ((arrOf .u8 32 (sha abc)).all (·.oneCell') = true) := arrOf_one _ _ _
  clear hZ
  have kc := fun (w : World) (C : Array Value) (n c : Nat) => Lib.run_convert_bytes_const (P := Tryd.prog) w 22 5 C n c Tryd.underlying22 Tryd.underlying5
  have HC : Hid (Calls Tryd.prog 8 #[.slice (some ⟨w.heap.size + 1, 0, none⟩) 1 1] ((w.alloc (.cells #[.int .u8 97, .int .u8 98, .int .u8 99] 5 (3, 4))).alloc (.cells #[.slice (some ⟨w.heap.size, 0, none⟩) 3 3] 22)) fun e w' =>
      e = .returned (.agg (arrOf .u8 32 (sha abc))) ∧ Tabs w' ∧ Below w.heap.size w w') := by
    have h1 : LB w.heap.size abc (.slice (some ⟨w.heap.size, 0, none⟩) 3 3) (w.alloc (.cells #[.int .u8 97, .int .u8 98, .int .u8 99] 5 (3, 4))) := ⟨_, _, rfl, Nat.le_refl _, heap_alloc_new _ _⟩
    have h2 := ps_one (N := w.heap.size) _ (h1.bs (by decide)) (by unfold maxLen; decide) 22 (by simp)
    rw [World.size_alloc] at h2
    have hb : Below w.heap.size w ((w.alloc (.cells #[.int .u8 97, .int .u8 98, .int .u8 99] 5 (3, 4))).alloc (.cells #[.slice (some ⟨w.heap.size, 0, none⟩) 3 3] 22)) := ((Below.refl _ _).alloc (Nat.le_refl _) _).alloc (by simp) _
    refine (sum_ps (N := w.heap.size) (HT.out.below hb) h2.2 hb.size).mono ?_
    rintro e w' ⟨rfl, hg⟩
    exact ⟨rfl, (HT.out.below (hb.trans hg.below)), hb.trans hg.below⟩
  go_enter Tryd.func7, Tryd.ntmps7
  go_wp2_with (first
    | (go_at_call 8; refine HC.out.mono ?_; rintro e w1 ⟨rfl, ht1, hb1⟩; have HT1 := Lib.hid ht1; have HB1 := Lib.hid hb1; clear ht1 hb1)
    | (refine wpList_store_row rfl 25 _ _ rfl w1.heap.size (arrOf .u8 32 (sha abc)) rfl rfl 25 _ (heap_alloc_new w1 _) sS.out zS.out oS.out ?_
       rw [World.setRow_alloc_new]))
  have R2 : Hid ((w1.alloc (.cells (arrOf .u8 32 (sha abc)) 25)).rowIs w1.heap.size 25 32 (fun i => .int .u8 ((sha abc i : Nat) : Int))) := arr_row (heap_alloc_new _ _)
  have B2 : Hid (Below w.heap.size w (w1.alloc (.cells (arrOf .u8 32 (sha abc)) 25))) := HB1.out.alloc HB1.out.size _
  have T2 : Hid (Tabs (w1.alloc (.cells (arrOf .u8 32 (sha abc)) 25))) := HT.out.below B2.out
  have N1 : w.heap.size ≤ w1.heap.size := HB1.out.size
  clear HT1 HB1 HC kc
  generalize w1.alloc (.cells (arrOf .u8 32 (sha abc)) 25) = w2 at *
  generalize w1.heap.size = g at *
  refine wp_region_kinds (Grows w.heap.size) (fun x => Tabs x ∧ Below w.heap.size w x ∧ g < x.heap.size ∧ ∀ i, i < 32 → x.cell? ⟨g, i, none⟩ = some (.int .u8 ((sha abc i : Nat) : Int)))
    [(1, .val (.int .u8 186) fun _ => True), (5, .val (.int .u8 120) fun _ => True), (10, .val (.int .u8 21) fun _ => True), (15, .val (.int .u8 173) fun _ => True),
     (19, .mem (LB w.heap.size [97])), (20, .mem (BS [97])), (21, .mem (LB w.heap.size [98, 99])), (22, .mem (BS [98, 99])), (23, .mem (PS abc)),
     (24, .val (.agg (arrOf .u8 32 (sha abc))) fun _ => True), (25, .val (.agg (arrOf .u8 32 (sha abc))) fun _ => True), (29, .mem (LB w.heap.size abc)), (30, .mem (BS abc)), (31, .val (.int .u64 13436514500253700074) fun _ => True),
     (35, .val (.int .u64 1) fun _ => True), (39, .val (.int .u64 2) fun _ => True)] (by kernel_rfl) (by kernel_rfl) ?_ ?_ ?_ ?_
  · rintro x y hg ⟨d1, d2, d3, d4⟩
    exact ⟨d1.of_blocks (hg.below.block 0 (by have := HT.out.two; omega)) (hg.below.block 1 (by have := HT.out.two; omega)) (Nat.le_trans d1.two hg.below.size), d2.trans hg.below, Nat.lt_of_lt_of_le d3 hg.below.size, fun i hi => (hg.cell d3).trans (d4 i hi)⟩
  · intro k hk
    simp only [List.mem_cons, List.mem_nil_iff, or_false] at hk
    rcases hk with rfl | rfl | rfl | rfl | rfl | rfl | rfl | rfl | rfl | rfl | rfl | rfl | rfl | rfl | rfl | rfl <;> first
      | exact fun _ _ _ _ => trivial
      | exact fun v x y h => LB.up v x y h
      | exact fun v x y h => BS.up v x y h
      | exact fun v x y h => PS.up v x y h
  · exact ⟨T2.out.of_blocks rfl rfl T2.out.two, B2.out.drew, R2.out.lt, fun i hi => R2.out.cell hi⟩
  · have he : ∀ W, (Op.equalIn 10000 25 (.agg (arrOf .u8 32 (sha abc))) (.agg (arrOf .u8 32 (sha abc)))).run Tryd.prog W = .ok true W := fun W => by
      rw [run_equalIn_arr (P := Tryd.prog) 25 5 32 .u8 .u8 Tryd.underlying25 Tryd.underlying5 size5 agg5 (sha abc) (sha abc) W, decide_eq_true (fun i _ => rfl)]
    have HE := Lib.hid he
    clear he
    iterate 1
      refine mono_pure rfl rfl ?_
      apply Exists.intro
      refine ⟨fun x => ?_, ?_⟩
      · go_simp
        rfl
      apply Exists.intro
      refine ⟨by simp only [Act.put, List.setIfInBounds_toArray, List.set_cons_succ, List.set_cons_zero]; rfl, ?_⟩
    refine mono_val rfl rfl (fun x hD hF => ?_) ?_
    · have hc := hD.2.2.2 0 (by omega)
      rw [abc0] at hc
      go_simp
      exact ⟨Grows.refl _ _, rfl⟩
    apply Exists.intro
    refine ⟨by simp only [Act.put, List.setIfInBounds_toArray, List.set_cons_succ, List.set_cons_zero]; rfl, ?_⟩
    iterate 3
      refine mono_pure rfl rfl ?_
      apply Exists.intro
      refine ⟨fun x => ?_, ?_⟩
      · go_simp
        rfl
      apply Exists.intro
      refine ⟨by simp only [Act.put, List.setIfInBounds_toArray, List.set_cons_succ, List.set_cons_zero]; rfl, ?_⟩
    refine mono_val rfl rfl (fun x hD hF => ?_) ?_
    · have hc := hD.2.2.2 1 (by omega)
      rw [abc1] at hc
      go_simp
      exact ⟨Grows.refl _ _, rfl⟩
    apply Exists.intro
    refine ⟨by simp only [Act.put, List.setIfInBounds_toArray, List.set_cons_succ, List.set_cons_zero]; rfl, ?_⟩
    iterate 4
      refine mono_pure rfl rfl ?_
      apply Exists.intro
      refine ⟨fun x => ?_, ?_⟩
      · go_simp
        rfl
      apply Exists.intro
      refine ⟨by simp only [Act.put, List.setIfInBounds_toArray, List.set_cons_succ, List.set_cons_zero]; rfl, ?_⟩
    refine mono_val rfl rfl (fun x hD hF => ?_) ?_
    · have hc := hD.2.2.2 30 (by omega)
      rw [abc30] at hc
      go_simp
      exact ⟨Grows.refl _ _, rfl⟩
    apply Exists.intro
    refine ⟨by simp only [Act.put, List.setIfInBounds_toArray, List.set_cons_succ, List.set_cons_zero]; rfl, ?_⟩
    iterate 4
      refine mono_pure rfl rfl ?_
      apply Exists.intro
      refine ⟨fun x => ?_, ?_⟩
      · go_simp
        rfl
      apply Exists.intro
      refine ⟨by simp only [Act.put, List.setIfInBounds_toArray, List.set_cons_succ, List.set_cons_zero]; rfl, ?_⟩
    refine mono_val rfl rfl (fun x hD hF => ?_) ?_
    · have hc := hD.2.2.2 31 (by omega)
      rw [abc31] at hc
      go_simp
      exact ⟨Grows.refl _ _, rfl⟩
    apply Exists.intro
    refine ⟨by simp only [Act.put, List.setIfInBounds_toArray, List.set_cons_succ, List.set_cons_zero]; rfl, ?_⟩
    iterate 3
      refine mono_pure rfl rfl ?_
      apply Exists.intro
      refine ⟨fun x => ?_, ?_⟩
      · go_simp
        rfl
      apply Exists.intro
      refine ⟨by simp only [Act.put, List.setIfInBounds_toArray, List.set_cons_succ, List.set_cons_zero]; rfl, ?_⟩
    refine mono_mem rfl rfl (fun x hD hF => ?_) (fun v25 => ?_)
    · go_simp
      exact LB.lit [97] rfl rfl hD.2.1.size
    apply Exists.intro
    refine ⟨by simp only [Act.put, List.setIfInBounds_toArray, List.set_cons_succ, List.set_cons_zero]; rfl, ?_⟩
    refine mono_mem rfl rfl (fun x hD hF => ?_) (fun v26 => ?_)
    · obtain ⟨y, hr, hg, hb⟩ := (hF 19 _ 25 rfl rfl (by decide)).1.conv (by decide)
      go_simp
      exact ⟨hg, hb⟩
    apply Exists.intro
    refine ⟨by simp only [Act.put, List.setIfInBounds_toArray, List.set_cons_succ, List.set_cons_zero]; rfl, ?_⟩
    refine mono_mem rfl rfl (fun x hD hF => ?_) (fun v27 => ?_)
    · go_simp
      exact LB.lit [98, 99] rfl rfl hD.2.1.size
    apply Exists.intro
    refine ⟨by simp only [Act.put, List.setIfInBounds_toArray, List.set_cons_succ, List.set_cons_zero]; rfl, ?_⟩
    refine mono_mem rfl rfl (fun x hD hF => ?_) (fun v28 => ?_)
    · obtain ⟨y, hr, hg, hb⟩ := (hF 21 _ 27 rfl rfl (by decide)).1.conv (by decide)
      go_simp
      exact ⟨hg, hb⟩
    apply Exists.intro
    refine ⟨by simp only [Act.put, List.setIfInBounds_toArray, List.set_cons_succ, List.set_cons_zero]; rfl, ?_⟩
    refine mono_mem rfl rfl (fun x hD hF => ?_) (fun v29 => ?_)
    · have h1 := (hF 20 _ 26 rfl rfl (by decide)).1
      have h2 := (hF 22 _ 28 rfl rfl (by decide)).1
      have h3 := ps_two x h1 h2 (by unfold maxLen; decide) (by unfold maxLen; decide) 22 hD.2.1.size
      obtain ⟨A1, c1, rfl, _⟩ := h1
      obtain ⟨A2, c2, rfl, _⟩ := h2
      go_simp
      exact h3
    apply Exists.intro
    refine ⟨by simp only [Act.put, List.setIfInBounds_toArray, List.set_cons_succ, List.set_cons_zero]; rfl, ?_⟩
    refine mono_val rfl rfl (fun x hD hF => ?_) ?_
    · have h1 := (hF 23 _ 29 rfl rfl (by decide)).1
      go_simp
      refine (sum_ps hD.1 h1 hD.2.1.size).mono ?_
      rintro e y ⟨rfl, hg⟩
      exact ⟨_, rfl, hg, rfl⟩
    apply Exists.intro
    refine ⟨by simp only [Act.put, List.setIfInBounds_toArray, List.set_cons_succ, List.set_cons_zero]; rfl, ?_⟩
    refine mono_val rfl rfl (fun x hD hF => ?_) ?_
    · have hl := run_loadVar_arr (P := Tryd.prog) x g 0 25 (arrOf .u8 32 (sha abc)) _ (rangeA_arr fun j hj => by rw [Nat.zero_add]; exact hD.2.2.2 j hj) Tryd.underlying25 rfl sS.out
      rw [exec_load 25 (.tmp 1) rfl g 0 rfl hl]
      exact ⟨Grows.refl _ _, rfl, trivial⟩
    apply Exists.intro
    refine ⟨by simp only [Act.put, List.setIfInBounds_toArray, List.set_cons_succ, List.set_cons_zero]; rfl, ?_⟩
    refine mono_pure rfl rfl ?_
    apply Exists.intro
    refine ⟨fun x => ?_, ?_⟩
    · have h1 := HE.out x
      go_simp
      rfl
    apply Exists.intro
    refine ⟨by simp only [Act.put, List.setIfInBounds_toArray, List.set_cons_succ, List.set_cons_zero]; rfl, ?_⟩
    iterate 2
      refine mono_pure rfl rfl ?_
      apply Exists.intro
      refine ⟨fun x => ?_, ?_⟩
      · go_simp
        rfl
      apply Exists.intro
      refine ⟨by simp only [Act.put, List.setIfInBounds_toArray, List.set_cons_succ, List.set_cons_zero]; rfl, ?_⟩
    refine mono_mem rfl rfl (fun x hD hF => ?_) (fun v35 => ?_)
    · go_simp
      exact LB.lit abc rfl rfl hD.2.1.size
    apply Exists.intro
    refine ⟨by simp only [Act.put, List.setIfInBounds_toArray, List.set_cons_succ, List.set_cons_zero]; rfl, ?_⟩
    refine mono_mem rfl rfl (fun x hD hF => ?_) (fun v36 => ?_)
    · obtain ⟨y, hr, hg, hb⟩ := (hF 29 _ 35 rfl rfl (by decide)).1.conv (by decide)
      go_simp
      exact ⟨hg, hb⟩
    apply Exists.intro
    refine ⟨by simp only [Act.put, List.setIfInBounds_toArray, List.set_cons_succ, List.set_cons_zero]; rfl, ?_⟩
    refine mono_val rfl rfl (fun x hD hF => ?_) ?_
    · have h1 := (hF 30 _ 36 rfl rfl (by decide)).1
      go_simp
      refine (point_bs hD.1 h1 (by unfold maxLen; decide) hD.2.1.size).mono ?_
      rintro e y ⟨rfl, hg⟩
      rw [abcP]
      exact ⟨_, rfl, hg, rfl⟩
    apply Exists.intro
    refine ⟨by simp only [Act.put, List.setIfInBounds_toArray, List.set_cons_succ, List.set_cons_zero]; rfl, ?_⟩
    iterate 3
      refine mono_pure rfl rfl ?_
      apply Exists.intro
      refine ⟨fun x => ?_, ?_⟩
      · go_simp
        rfl
      apply Exists.intro
      refine ⟨by simp only [Act.put, List.setIfInBounds_toArray, List.set_cons_succ, List.set_cons_zero]; rfl, ?_⟩
    refine mono_val rfl rfl (fun x hD hF => ?_) ?_
    · go_simp
      refine (blocks_nat 55 x (by decide)).mono ?_
      rintro e y ⟨rfl, rfl⟩
      exact ⟨_, rfl, Grows.refl _ _, rfl⟩
    apply Exists.intro
    refine ⟨by simp only [Act.put, List.setIfInBounds_toArray, List.set_cons_succ, List.set_cons_zero]; rfl, ?_⟩
    iterate 3
      refine mono_pure rfl rfl ?_
      apply Exists.intro
      refine ⟨fun x => ?_, ?_⟩
      · go_simp
        rfl
      apply Exists.intro
      refine ⟨by simp only [Act.put, List.setIfInBounds_toArray, List.set_cons_succ, List.set_cons_zero]; rfl, ?_⟩
    refine mono_val rfl rfl (fun x hD hF => ?_) ?_
    · go_simp
      refine (blocks_nat 56 x (by decide)).mono ?_
      rintro e y ⟨rfl, rfl⟩
      exact ⟨_, rfl, Grows.refl _ _, rfl⟩
    apply Exists.intro
    refine ⟨by simp only [Act.put, List.setIfInBounds_toArray, List.set_cons_succ, List.set_cons_zero]; rfl, ?_⟩
    iterate 3
      refine mono_pure rfl rfl ?_
      apply Exists.intro
      refine ⟨fun x => ?_, ?_⟩
      · go_simp
        rfl
      apply Exists.intro
      refine ⟨by simp only [Act.put, List.setIfInBounds_toArray, List.set_cons_succ, List.set_cons_zero]; rfl, ?_⟩
    refine mono_nil ?_
    intro w3 hD hF
    have HB := Lib.hid hD.2.1
    clear hD hF
    go_simp
    go_wp2_with fail
    go_ret
    exact ⟨rfl, HB.out⟩
end Go.Proofs.YtlejlgamefdckaaDoor
