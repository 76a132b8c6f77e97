/- Two rings side by side; what must come of fixed calls. -/
import Derived.Test.YthcnoblamilpgaaDoorR14
set_option maxRecDepth 100000
set_option linter.unusedVariables false
set_option linter.unusedSimpArgs false
namespace Go.Proofs.YthcnoblamilpgaaDoor
open Go.RowKit
/-- Two rings; of what there was when the law began nothing has turned. -/
structure Two (w : World) (g1 N1 V1 R1 g2 N2 V2 R2 : Nat) (x : World) : Prop where
  r1 : RingAt x g1 N1 V1 R1
  r2 : RingAt x g2 N2 V2 R2
  tabs : Tabs x
  below : Below w.heap.size w x
structure Apart (w : World) (g1 N1 V1 R1 g2 N2 V2 R2 : Nat) : Prop where
  two : 2 ≤ w.heap.size
  a1 : w.heap.size ≤ g1
  a2 : w.heap.size ≤ g2
  ne : g1 ≠ g2
  R1 : R1 ≤ 8
  N1 : N1 ≤ 8
  V1 : V1 ≤ 16
  R2 : R2 ≤ 8
  N2 : N2 ≤ 8
  V2 : V2 ≤ 16
theorem Two.soft {w : World} {g1 N1 V1 R1 g2 N2 V2 R2 : Nat} {x y : World} (h : Two w g1 N1 V1 R1 g2 N2 V2 R2 x) (hs : Soft w.heap.size x y) (h2 : 2 ≤ w.heap.size) : Two w g1 N1 V1 R1 g2 N2 V2 R2 y :=
  ⟨h.r1.soft hs, h.r2.soft hs, h.tabs.soft hs h2, Below.soft h.below hs (Nat.le_refl _) h.below.size⟩
def GG (g1 g2 : Nat) (b : Nat) : Prop := b = g1 ∨ b = g2
theorem env_two1 {w : World} {g1 N1 V1 R1 g2 N2 V2 R2 : Nat} (A : Apart w g1 N1 V1 R1 g2 N2 V2 R2) : Env w.heap.size (GG g1 g2) (.pointer (some ⟨g1, 0, none⟩)) (Ring.pts ptAt V1 N1) R1 (Two w g1 N1 V1 R1 g2 N2 V2 R2) where
  up x y hs h := h.soft hs A.two
  all x h := (all_any g1 N1 V1 R1 x h.r1 h.tabs).mono (by
    rintro e y ⟨B, c, rfl, hl, hp, hr, hg⟩
    exact ⟨B, c, rfl, hp, Only.of_grown hg (.inl rfl), hr, h.r2.only hg (fun e => A.ne e.symm) h.r1.tag, h.tabs.only hg h.r1.2.2.1, h.below.grown hg h.below.size (fun k hk => by injection hk with hk; have := A.a1; omega)⟩)
  cf x h := (config_ring g1 N1 V1 R1 x h.r1).mono (by
    rintro e y ⟨rfl, hb⟩
    exact ⟨_, _, rfl, hb⟩)
  sorted := Ring.sorted_sort _
  len := by
    rw [Ring.pts_length]
    have := Nat.mul_le_mul A.N1 A.V1
    omega
  r := A.R1
  tag x b h hb := by
    rcases hb with rfl | rfl
    · exact h.r1.tag
    · exact h.r2.tag
  nle x h := h.below.size
theorem env_two2 {w : World} {g1 N1 V1 R1 g2 N2 V2 R2 : Nat} (A : Apart w g1 N1 V1 R1 g2 N2 V2 R2) : Env w.heap.size (GG g1 g2) (.pointer (some ⟨g2, 0, none⟩)) (Ring.pts ptAt V2 N2) R2 (Two w g1 N1 V1 R1 g2 N2 V2 R2) where
  up x y hs h := h.soft hs A.two
  all x h := (all_any g2 N2 V2 R2 x h.r2 h.tabs).mono (by
    rintro e y ⟨B, c, rfl, hl, hp, hr, hg⟩
    exact ⟨B, c, rfl, hp, Only.of_grown hg (.inr rfl), h.r1.only hg A.ne h.r2.tag, hr, h.tabs.only hg h.r2.2.2.1, h.below.grown hg h.below.size (fun k hk => by injection hk with hk; have := A.a2; omega)⟩)
  cf x h := (config_ring g2 N2 V2 R2 x h.r2).mono (by
    rintro e y ⟨rfl, hb⟩
    exact ⟨_, _, rfl, hb⟩)
  sorted := Ring.sorted_sort _
  len := by
    rw [Ring.pts_length]
    have := Nat.mul_le_mul A.N2 A.V2
    omega
  r := A.R2
  tag x b h hb := by
    rcases hb with rfl | rfl
    · exact h.r1.tag
    · exact h.r2.tag
  nle x h := h.below.size
theorem exec_built {P : Program} {ev : Operand → Value} {o : Oper} {w : World} (t : TypeId) (parts : Array (Nat × Operand)) (ho : o.op = .build t parts)
    (vals : List (Nat × Value)) (hv : parts.toList.map (fun (i, x) => (i, ev x)) = vals) (R : Array Value) (hR : P.built t vals = some R) : (execOp ev o).run P w = .ok (.value (.agg R)) w := by
  have e : (parts.map fun (i, x) => (i, ev x)).toList = vals := by rw [Array.toList_map]; exact hv
  have h2 : P.built t (parts.map fun (i, x) => (i, ev x)).toList = some R := by rw [e]; exact hR
  unfold execOp
  simp only [ho, Sem.run_bind, run_build w t _ R h2, Result.andThen_ok, Sem.run_pure]
theorem built38c (a b c : Int) : Tryd.prog.built 38 [(0, .int .i64 a), (1, .int .i64 b), (2, .int .i64 c)] = some (cfg a b c) := by kernel_rfl
theorem eql38 (a b c : Int) {ev : Operand → Value} {o : Oper} {w : World} (x y : Operand) (ho : o.op = .binOp .eql 38 x y 38) (hx : ev x = .agg (cfg a b c)) (hy : ev y = .agg (cfg a b c)) : (execOp ev o).run Tryd.prog w = .ok (.value (.bool true)) w := by
  unfold execOp
  simp only [ho, hx, hy]
  have h : (Op.equalIn 10000 38 (.agg (cfg a b c)) (.agg (cfg a b c))).run Tryd.prog w = .ok true w := by
    unfold cfg
    go_simp
  have h2 : (Op.equalIn Op.maxDepth 38 (.agg (cfg a b c)) (.agg (cfg a b c))).run Tryd.prog w = .ok true w := h
  simp [eqGuard, Sem.run_bind, binOp, Op.equal, h2, Result.andThen]
def AAR (w : World) (g1 g2 : Nat) (x y : World) : Prop := Only (GG g1 g2) x y ∧ (Two w g1 1 2 1 g2 3 4 2 x → Two w g1 1 2 1 g2 3 4 2 y)
theorem AAR.refl (w : World) (g1 g2 : Nat) (x : World) : AAR w g1 g2 x x := ⟨Only.refl _ _, id⟩
/-- What the fixed calls of the law tell. -/
structure AC (w : World) (g1 g2 : Nat) : Prop where
  parts : ∀ x, Two w g1 1 2 1 g2 3 4 2 x → Calls Tryd.prog 32 #[.pointer (some ⟨g1, 0, none⟩), .int .i64 1] x fun e y => ∃ B, e = .returned (.slice B 8 8) ∧ Only (GG g1 g2) x y ∧ Two w g1 1 2 1 g2 3 4 2 y
  points : ∀ x, Two w g1 1 2 1 g2 3 4 2 x → Calls Tryd.prog 25 #[.pointer (some ⟨g1, 0, none⟩)] x fun e y => ∃ B c, e = .returned (.slice B 2 c) ∧ Only (GG g1 g2) x y ∧ Two w g1 1 2 1 g2 3 4 2 y
  holds7 : ∀ x, Two w g1 1 2 1 g2 3 4 2 x → Calls Tryd.prog 31 #[.pointer (some ⟨g1, 0, none⟩), .int .i64 1, .int .i64 7] x fun e y => e = .returned (.bool true) ∧ Only (GG g1 g2) x y ∧ Two w g1 1 2 1 g2 3 4 2 y
  holds8 : ∀ x, Two w g1 1 2 1 g2 3 4 2 x → Calls Tryd.prog 31 #[.pointer (some ⟨g1, 0, none⟩), .int .i64 1, .int .i64 8] x fun e y => e = .returned (.bool false) ∧ Only (GG g1 g2) x y ∧ Two w g1 1 2 1 g2 3 4 2 y
  list : ∀ x, Two w g1 1 2 1 g2 3 4 2 x → Calls Tryd.prog 30 #[.pointer (some ⟨g2, 0, none⟩), .int .i64 7] x fun e y => ∃ b o c l0 l1, e = .returned (.slice (some ⟨b, o, none⟩) 2 c) ∧ x.heap.size ≤ b ∧ y.cell? ⟨b, o, none⟩ = some (.int .i64 l0) ∧ y.cell? ⟨b, o + 1, none⟩ = some (.int .i64 l1) ∧ l0 ≠ l1 ∧ Only (GG g1 g2) x y ∧ Two w g1 1 2 1 g2 3 4 2 y
  owners : ∀ x, Two w g1 1 2 1 g2 3 4 2 x → Calls Tryd.prog 27 #[.pointer (some ⟨g2, 0, none⟩)] x fun e y => ∃ B c, e = .returned (.slice B 12 c) ∧ Only (GG g1 g2) x y ∧ Two w g1 1 2 1 g2 3 4 2 y
  config : ∀ x, Two w g1 1 2 1 g2 3 4 2 x → Calls Tryd.prog 28 #[.pointer (some ⟨g2, 0, none⟩)] x fun e y => e = .returned (.agg (cfg 3 4 2)) ∧ Only (GG g1 g2) x y ∧ Two w g1 1 2 1 g2 3 4 2 y
theorem one_list (k : Nat) (hk : k < 8) : LK (Ring.pts ptAt 2 1) 1 (k : Int) = [1] := by
  rw [LK_ok _ _ _ hk]
  have hl := Ring.listOf_length (f := ptAt) (V := 2) (N := 1) (m := 1) (base := baseK k) (by omega) (by omega)
  have hn := fun x (h : x ∈ Ring.listOf (Ring.pts ptAt 2 1) (baseK k) 1) => Ring.listOf_node h
  generalize Ring.listOf (Ring.pts ptAt 2 1) (baseK k) 1 = l at *
  match l, hl with
  | [y], _ =>
    have := hn y (by simp)
    have : y = 1 := by omega
    rw [this]
theorem has_one : hasI [1] 1 = true := by decide
theorem ac_any {w : World} {g1 g2 : Nat} (A : Apart w g1 1 2 1 g2 3 4 2) : AC w g1 g2 where
  parts x h := (parts_env (env_two1 A) 1 x h).mono (by
    rintro e y ⟨B, rfl, hr, ho, hf⟩
    have hp : (partsI (Ring.pts ptAt 2 1) 1 1 8).length = 8 := by
      unfold partsI
      rw [List.filter_eq_self.2 fun k hk => by
        rw [one_list k (by simpa using hk)]; exact has_one]
      rfl
    rw [hp]
    exact ⟨B, rfl, ho, hf⟩)
  points x h := (points_env (env_two1 A) x h).mono (by
    rintro e y ⟨B, c, rfl, hr, ho, hf⟩
    rw [Ring.pts_length]
    exact ⟨B, c, rfl, ho, hf⟩)
  holds7 x h := (holds_env (env_two1 A) 1 7 x h).mono (by
    rintro e y ⟨rfl, ho, hf⟩
    rw [show LK (Ring.pts ptAt 2 1) 1 7 = [1] from one_list 7 (by omega), has_one]
    exact ⟨rfl, ho, hf⟩)
  holds8 x h := (holds_env (env_two1 A) 1 8 x h).mono (by
    rintro e y ⟨rfl, ho, hf⟩
    rw [LK_bad _ _ 8 (by omega)]
    exact ⟨rfl, ho, hf⟩)
  list x h := (list_env (env_two2 A) 7 x h).mono (by
    rintro e y ⟨B, c, rfl, hr, ho, hf⟩
    have hlk : LK (Ring.pts ptAt 4 3) 2 7 = Ring.listOf (Ring.pts ptAt 4 3) (baseK 7) 2 := LK_ok _ _ 7 (by omega)
    have hl := Ring.listOf_length (f := ptAt) (V := 4) (N := 3) (m := 2) (base := baseK 7) (by omega) (by omega)
    have hn := Ring.listOf_nodup (Ring.pts ptAt 4 3) (baseK 7) 2
    rw [← hlk] at hl hn
    generalize LK (Ring.pts ptAt 4 3) 2 7 = l at *
    match l, hl with
    | [a, b'], _ =>
      obtain ⟨b, o, rfl, hb, hc⟩ := hr.at_ (by simp)
      refine ⟨b, o, c, (a : Int), (b' : Int), rfl, hb, ?_, ?_, ?_, ho, hf⟩
      · have := hc 0 (by simp); rw [Nat.add_zero] at this; exact this
      · exact hc 1 (by simp)
      · simp only [List.nodup_cons, List.mem_singleton] at hn
        have := hn.1
        omega)
  owners x h := (owners_env (env_two2 A) x h).mono (by
    rintro e y ⟨B, c, rfl, hr, ho, hf⟩
    rw [Ring.pts_length]
    exact ⟨B, c, rfl, ho, hf⟩)
  config x h := (config_ring g2 3 4 2 x h.r2).mono (by
    rintro e y ⟨rfl, hb⟩
    exact ⟨rfl, Only.of_below hb, h.soft (.of_below hb) A.two⟩)
set_option maxHeartbeats 4000000 in
theorem ralive_any (w : World) (ht : Tabs w) : Calls Tryd.prog 23 #[] w fun e w' => e = .returned (.bool true) ∧ Below w.heap.size w w' := by
  have HT := Lib.hid ht
  clear ht
  go_enter Tryd.func23, Tryd.ntmps23
  go_wp2_with (refine wpList_built rfl 38 _ rfl _ rfl _ (built38c 1 2 1) ?_)
  refine (new_ok 1 2 1 w (by decide) HT.out).mono ?_
  rintro e w1 ⟨g1, rfl, hg1, hr1, hb1⟩
  have HG1 := Lib.hid hg1
  have HR1 := Lib.hid hr1
  have HB1 := Lib.hid hb1
  clear hg1 hr1 hb1
  go_wp2_with (refine wpList_built rfl 38 _ rfl _ rfl _ (built38c 1 2 2) ?_)
  refine (new_bad 1 2 2 w1 (by decide)).mono ?_
  rintro e w2 ⟨rfl, hb2⟩
  have HR2 := Lib.hid (HR1.out.grow hb2)
  have HB2 := Lib.hid (HB1.out.trans (hb2.mono HB1.out.size))
  clear hb2 HB1 HR1
  go_wp2_with (refine wpList_built rfl 38 _ rfl _ rfl _ (built38c 3 4 2) ?_)
  refine (new_ok 3 4 2 w2 (by decide) (HT.out.below HB2.out)).mono ?_
  rintro e w3 ⟨g2, rfl, hg2, hr3, hb3⟩
  have HA : Hid (Apart w g1 1 2 1 g2 3 4 2) := Lib.hid ⟨HT.out.two, HG1.out, Nat.le_trans HB2.out.size hg2, fun e => by have := HR2.out.lt; omega, by omega, by omega, by omega, by omega, by omega, by omega⟩
  have HW : Hid (Two w g1 1 2 1 g2 3 4 2 w3) := Lib.hid ⟨HR2.out.grow hb3, hr3, (HT.out.below HB2.out).below (hb3.mono (Nat.le_refl _)), HB2.out.trans (hb3.mono HB2.out.size)⟩
  have HE1 := Lib.hid (ac_any HA.out)
  clear hg2 hr3 hb3 HR2 HB2 HG1
  go_wp2_with fail
  refine (HE1.out.list w3 HW.out).mono ?_
  rintro e w4 ⟨b, o, c, l0, l1, rfl, hb, hc0, hc1, hne, ho, hf⟩
  have HNE : Hid ((l0 != l1) = true) := Lib.hid (by rw [bne_iff_ne]; exact hne)
  have HC : Hid (Two w g1 1 2 1 g2 3 4 2 w4 ∧ w4.cell? ⟨b, o, none⟩ = some (.int .i64 l0) ∧ w4.cell? ⟨b, o + 1, none⟩ = some (.int .i64 l1)) := ⟨hf, hc0, hc1⟩
  have HNB : Hid (¬ GG g1 g2 b) := Lib.hid (fun h => by
    have h1 := HW.out.r1.lt
    have h2 := HW.out.r2.lt
    rcases h with rfl | rfl
    · omega
    · omega)
  clear hb hc0 hc1 hne ho hf HW
  go_wp2_with fail
  refine WM.wp_region_kinds (fun _ x y => AAR w g1 g2 x y) (fun _ x => Two w g1 1 2 1 g2 3 4 2 x ∧ x.cell? ⟨b, o, none⟩ = some (.int .i64 l0) ∧ x.cell? ⟨b, o + 1, none⟩ = some (.int .i64 l1)) (fun x => Two w g1 1 2 1 g2 3 4 2 x)
    [(8, .mem fun v _ => ∃ B, v = .slice B 8 8), (9, .val (.int .i64 8) fun _ => True), (14, .mem fun v _ => ∃ B c, v = .slice B 2 c), (15, .val (.int .i64 2) fun _ => True), (20, .val (.bool true) fun _ => True), (24, .val (.bool false) fun _ => True), (39, .val (.int .i64 l0) fun _ => True), (42, .val (.int .i64 l1) fun _ => True), (47, .mem fun v _ => ∃ B c, v = .slice B 12 c), (48, .val (.int .i64 12) fun _ => True), (53, .val (.agg (cfg 3 4 2)) fun _ => True)]
    (by kernel_rfl) (by kernel_rfl) (fun _ _ _ hb h => hb.2 h) (fun _ _ x y _ hr h => ⟨hr.2 h.1, ?_, ?_⟩) ?_ ?_ (fun _ => ?_) ?_
  · exact (World.cell?_of_block (w := x) (a := ⟨b, o, none⟩) (hr.1.block b (World.block_lt_of_cell? x _ h.2.1) HNB.out)).trans h.2.1
  · exact (World.cell?_of_block (w := x) (a := ⟨b, o + 1, none⟩) (hr.1.block b (World.block_lt_of_cell? x _ h.2.1) HNB.out)).trans h.2.2
  · intro z hz
    simp only [List.mem_cons, List.mem_nil_iff, or_false] at hz
    rcases hz with rfl | rfl | rfl | rfl | rfl | rfl | rfl | rfl | rfl | rfl | rfl <;> first
      | exact fun _ _ _ _ _ _ => trivial
      | exact fun _ _ _ _ _ _ h => h
  · exact HC.out.1.soft (.of_below (Below.refl _ _).drew) HA.out.two
  · exact ⟨HC.out.1.soft (.of_below (Below.refl _ _).drew) HA.out.two, HC.out.2.1, HC.out.2.2⟩
  refine WM.mono_pure rfl rfl ?_
  refine ⟨.int .i64 0, fun x => ?_, ?_⟩
  · rfl
  apply Exists.intro
  refine ⟨by simp only [Act.put, List.setIfInBounds_toArray, List.set_cons_succ, List.set_cons_zero]; rfl, ?_⟩
  refine WM.mono_pure rfl rfl ?_
  refine ⟨.bool true, fun x => ?_, ?_⟩
  · go_simp
  apply Exists.intro
  refine ⟨by simp only [Act.put, List.setIfInBounds_toArray, List.set_cons_succ, List.set_cons_zero]; rfl, ?_⟩
  refine WM.mono_pure rfl rfl ?_
  refine ⟨.bool true, fun x => ?_, ?_⟩
  · rfl
  apply Exists.intro
  refine ⟨by simp only [Act.put, List.setIfInBounds_toArray, List.set_cons_succ, List.set_cons_zero]; rfl, ?_⟩
  refine WM.mono_pure rfl rfl ?_
  refine ⟨.int .i64 1, fun x => ?_, ?_⟩
  · rfl
  apply Exists.intro
  refine ⟨by simp only [Act.put, List.setIfInBounds_toArray, List.set_cons_succ, List.set_cons_zero]; rfl, ?_⟩
  refine WM.mono_pure rfl rfl ?_
  refine ⟨.bool true, fun x => ?_, ?_⟩
  · go_simp
  apply Exists.intro
  refine ⟨by simp only [Act.put, List.setIfInBounds_toArray, List.set_cons_succ, List.set_cons_zero]; rfl, ?_⟩
  refine WM.mono_pure rfl rfl ?_
  refine ⟨.bool true, fun x => ?_, ?_⟩
  · go_simp
  apply Exists.intro
  refine ⟨by simp only [Act.put, List.setIfInBounds_toArray, List.set_cons_succ, List.set_cons_zero]; rfl, ?_⟩
  refine WM.mono_pure rfl rfl ?_
  refine ⟨.bool true, fun x => ?_, ?_⟩
  · rfl
  apply Exists.intro
  refine ⟨by simp only [Act.put, List.setIfInBounds_toArray, List.set_cons_succ, List.set_cons_zero]; rfl, ?_⟩
  refine WM.mono_pure rfl rfl ?_
  refine ⟨.pointer (some ⟨g1, 0, none⟩), fun x => ?_, ?_⟩
  · rfl
  apply Exists.intro
  refine ⟨by simp only [Act.put, List.setIfInBounds_toArray, List.set_cons_succ, List.set_cons_zero]; rfl, ?_⟩
  refine WM.mono_mem rfl rfl (fun x hD hF => ?_) (fun v33 => ?_)
  · go_simp
    refine (HE1.out.parts x hD.1).mono ?_
    rintro e y ⟨B, rfl, ho, hf⟩
    exact ⟨_, rfl, ⟨ho, fun _ => hf⟩, B, rfl⟩
  apply Exists.intro
  refine ⟨by simp only [Act.put, List.setIfInBounds_toArray, List.set_cons_succ, List.set_cons_zero]; rfl, ?_⟩
  refine WM.mono_val rfl rfl (fun x hD hF => ?_) ?_
  · obtain ⟨B, e⟩ := (hF 8 _ _ rfl rfl (by decide)).1
    subst e
    go_simp
    exact ⟨AAR.refl _ _ _ _, rfl⟩
  apply Exists.intro
  refine ⟨by simp only [Act.put, List.setIfInBounds_toArray, List.set_cons_succ, List.set_cons_zero]; rfl, ?_⟩
  refine WM.mono_pure rfl rfl ?_
  refine ⟨.bool true, fun x => ?_, ?_⟩
  · go_simp
  apply Exists.intro
  refine ⟨by simp only [Act.put, List.setIfInBounds_toArray, List.set_cons_succ, List.set_cons_zero]; rfl, ?_⟩
  refine WM.mono_pure rfl rfl ?_
  refine ⟨.bool true, fun x => ?_, ?_⟩
  · go_simp
  apply Exists.intro
  refine ⟨by simp only [Act.put, List.setIfInBounds_toArray, List.set_cons_succ, List.set_cons_zero]; rfl, ?_⟩
  refine WM.mono_pure rfl rfl ?_
  refine ⟨.bool true, fun x => ?_, ?_⟩
  · rfl
  apply Exists.intro
  refine ⟨by simp only [Act.put, List.setIfInBounds_toArray, List.set_cons_succ, List.set_cons_zero]; rfl, ?_⟩
  refine WM.mono_pure rfl rfl ?_
  refine ⟨.pointer (some ⟨g1, 0, none⟩), fun x => ?_, ?_⟩
  · rfl
  apply Exists.intro
  refine ⟨by simp only [Act.put, List.setIfInBounds_toArray, List.set_cons_succ, List.set_cons_zero]; rfl, ?_⟩
  refine WM.mono_mem rfl rfl (fun x hD hF => ?_) (fun v39 => ?_)
  · go_simp
    refine (HE1.out.points x hD.1).mono ?_
    rintro e y ⟨B, c, rfl, ho, hf⟩
    exact ⟨_, rfl, ⟨ho, fun _ => hf⟩, B, c, rfl⟩
  apply Exists.intro
  refine ⟨by simp only [Act.put, List.setIfInBounds_toArray, List.set_cons_succ, List.set_cons_zero]; rfl, ?_⟩
  refine WM.mono_val rfl rfl (fun x hD hF => ?_) ?_
  · obtain ⟨B, c, e⟩ := (hF 14 _ _ rfl rfl (by decide)).1
    subst e
    go_simp
    exact ⟨AAR.refl _ _ _ _, rfl⟩
  apply Exists.intro
  refine ⟨by simp only [Act.put, List.setIfInBounds_toArray, List.set_cons_succ, List.set_cons_zero]; rfl, ?_⟩
  refine WM.mono_pure rfl rfl ?_
  refine ⟨.bool true, fun x => ?_, ?_⟩
  · go_simp
  apply Exists.intro
  refine ⟨by simp only [Act.put, List.setIfInBounds_toArray, List.set_cons_succ, List.set_cons_zero]; rfl, ?_⟩
  refine WM.mono_pure rfl rfl ?_
  refine ⟨.bool true, fun x => ?_, ?_⟩
  · go_simp
  apply Exists.intro
  refine ⟨by simp only [Act.put, List.setIfInBounds_toArray, List.set_cons_succ, List.set_cons_zero]; rfl, ?_⟩
  refine WM.mono_pure rfl rfl ?_
  refine ⟨.bool true, fun x => ?_, ?_⟩
  · rfl
  apply Exists.intro
  refine ⟨by simp only [Act.put, List.setIfInBounds_toArray, List.set_cons_succ, List.set_cons_zero]; rfl, ?_⟩
  refine WM.mono_pure rfl rfl ?_
  refine ⟨.pointer (some ⟨g1, 0, none⟩), fun x => ?_, ?_⟩
  · rfl
  apply Exists.intro
  refine ⟨by simp only [Act.put, List.setIfInBounds_toArray, List.set_cons_succ, List.set_cons_zero]; rfl, ?_⟩
  refine WM.mono_val rfl rfl (fun x hD hF => ?_) ?_
  · go_simp
    refine (HE1.out.holds7 x hD.1).mono ?_
    rintro e y ⟨rfl, ho, hf⟩
    exact ⟨_, rfl, ⟨ho, fun _ => hf⟩, rfl⟩
  apply Exists.intro
  refine ⟨by simp only [Act.put, List.setIfInBounds_toArray, List.set_cons_succ, List.set_cons_zero]; rfl, ?_⟩
  refine WM.mono_pure rfl rfl ?_
  refine ⟨.bool true, fun x => ?_, ?_⟩
  · go_simp
  apply Exists.intro
  refine ⟨by simp only [Act.put, List.setIfInBounds_toArray, List.set_cons_succ, List.set_cons_zero]; rfl, ?_⟩
  refine WM.mono_pure rfl rfl ?_
  refine ⟨.bool true, fun x => ?_, ?_⟩
  · rfl
  apply Exists.intro
  refine ⟨by simp only [Act.put, List.setIfInBounds_toArray, List.set_cons_succ, List.set_cons_zero]; rfl, ?_⟩
  refine WM.mono_pure rfl rfl ?_
  refine ⟨.pointer (some ⟨g1, 0, none⟩), fun x => ?_, ?_⟩
  · rfl
  apply Exists.intro
  refine ⟨by simp only [Act.put, List.setIfInBounds_toArray, List.set_cons_succ, List.set_cons_zero]; rfl, ?_⟩
  refine WM.mono_val rfl rfl (fun x hD hF => ?_) ?_
  · go_simp
    refine (HE1.out.holds8 x hD.1).mono ?_
    rintro e y ⟨rfl, ho, hf⟩
    exact ⟨_, rfl, ⟨ho, fun _ => hf⟩, rfl⟩
  apply Exists.intro
  refine ⟨by simp only [Act.put, List.setIfInBounds_toArray, List.set_cons_succ, List.set_cons_zero]; rfl, ?_⟩
  refine WM.mono_pure rfl rfl ?_
  refine ⟨.bool true, fun x => ?_, ?_⟩
  · go_simp
  apply Exists.intro
  refine ⟨by simp only [Act.put, List.setIfInBounds_toArray, List.set_cons_succ, List.set_cons_zero]; rfl, ?_⟩
  refine WM.mono_pure rfl rfl ?_
  refine ⟨.bool true, fun x => ?_, ?_⟩
  · go_simp
  apply Exists.intro
  refine ⟨by simp only [Act.put, List.setIfInBounds_toArray, List.set_cons_succ, List.set_cons_zero]; rfl, ?_⟩
  refine WM.mono_pure rfl rfl ?_
  refine ⟨.bool true, fun x => ?_, ?_⟩
  · rfl
  apply Exists.intro
  refine ⟨by simp only [Act.put, List.setIfInBounds_toArray, List.set_cons_succ, List.set_cons_zero]; rfl, ?_⟩
  refine WM.mono_pure rfl rfl ?_
  refine ⟨.int .i64 0, fun x => ?_, ?_⟩
  · rfl
  apply Exists.intro
  refine ⟨by simp only [Act.put, List.setIfInBounds_toArray, List.set_cons_succ, List.set_cons_zero]; rfl, ?_⟩
  refine WM.mono_pure rfl rfl ?_
  refine ⟨.bool true, fun x => ?_, ?_⟩
  · go_simp
  apply Exists.intro
  refine ⟨by simp only [Act.put, List.setIfInBounds_toArray, List.set_cons_succ, List.set_cons_zero]; rfl, ?_⟩
  refine WM.mono_pure rfl rfl ?_
  refine ⟨.bool true, fun x => ?_, ?_⟩
  · go_simp
  apply Exists.intro
  refine ⟨by simp only [Act.put, List.setIfInBounds_toArray, List.set_cons_succ, List.set_cons_zero]; rfl, ?_⟩
  refine WM.mono_pure rfl rfl ?_
  refine ⟨.bool true, fun x => ?_, ?_⟩
  · rfl
  apply Exists.intro
  refine ⟨by simp only [Act.put, List.setIfInBounds_toArray, List.set_cons_succ, List.set_cons_zero]; rfl, ?_⟩
  refine WM.mono_pure rfl rfl ?_
  refine ⟨.slice (some ⟨b, o, none⟩) 2 c, fun x => ?_, ?_⟩
  · rfl
  apply Exists.intro
  refine ⟨by simp only [Act.put, List.setIfInBounds_toArray, List.set_cons_succ, List.set_cons_zero]; rfl, ?_⟩
  refine WM.mono_pure rfl rfl ?_
  refine ⟨.int .i64 2, fun x => ?_, ?_⟩
  · go_simp
  apply Exists.intro
  refine ⟨by simp only [Act.put, List.setIfInBounds_toArray, List.set_cons_succ, List.set_cons_zero]; rfl, ?_⟩
  refine WM.mono_pure rfl rfl ?_
  refine ⟨.bool true, fun x => ?_, ?_⟩
  · go_simp
  apply Exists.intro
  refine ⟨by simp only [Act.put, List.setIfInBounds_toArray, List.set_cons_succ, List.set_cons_zero]; rfl, ?_⟩
  refine WM.mono_pure rfl rfl ?_
  refine ⟨.bool true, fun x => ?_, ?_⟩
  · go_simp
  apply Exists.intro
  refine ⟨by simp only [Act.put, List.setIfInBounds_toArray, List.set_cons_succ, List.set_cons_zero]; rfl, ?_⟩
  refine WM.mono_pure rfl rfl ?_
  refine ⟨.bool true, fun x => ?_, ?_⟩
  · rfl
  apply Exists.intro
  refine ⟨by simp only [Act.put, List.setIfInBounds_toArray, List.set_cons_succ, List.set_cons_zero]; rfl, ?_⟩
  refine WM.mono_pure rfl rfl ?_
  refine ⟨.slice (some ⟨b, o, none⟩) 2 c, fun x => ?_, ?_⟩
  · rfl
  apply Exists.intro
  refine ⟨by simp only [Act.put, List.setIfInBounds_toArray, List.set_cons_succ, List.set_cons_zero]; rfl, ?_⟩
  refine WM.mono_pure rfl rfl ?_
  refine ⟨.pointer (some ⟨b, o, none⟩), fun x => ?_, ?_⟩
  · go_simp
  apply Exists.intro
  refine ⟨by simp only [Act.put, List.setIfInBounds_toArray, List.set_cons_succ, List.set_cons_zero]; rfl, ?_⟩
  refine WM.mono_val rfl rfl (fun x hD hF => ?_) ?_
  · have hc := hD.2.1
    go_simp
    exact ⟨AAR.refl _ _ _ _, rfl⟩
  apply Exists.intro
  refine ⟨by simp only [Act.put, List.setIfInBounds_toArray, List.set_cons_succ, List.set_cons_zero]; rfl, ?_⟩
  refine WM.mono_pure rfl rfl ?_
  refine ⟨.slice (some ⟨b, o, none⟩) 2 c, fun x => ?_, ?_⟩
  · rfl
  apply Exists.intro
  refine ⟨by simp only [Act.put, List.setIfInBounds_toArray, List.set_cons_succ, List.set_cons_zero]; rfl, ?_⟩
  refine WM.mono_pure rfl rfl ?_
  refine ⟨.pointer (some ⟨b, o + 1, none⟩), fun x => ?_, ?_⟩
  · go_simp
  apply Exists.intro
  refine ⟨by simp only [Act.put, List.setIfInBounds_toArray, List.set_cons_succ, List.set_cons_zero]; rfl, ?_⟩
  refine WM.mono_val rfl rfl (fun x hD hF => ?_) ?_
  · have hc := hD.2.2
    go_simp
    exact ⟨AAR.refl _ _ _ _, rfl⟩
  apply Exists.intro
  refine ⟨by simp only [Act.put, List.setIfInBounds_toArray, List.set_cons_succ, List.set_cons_zero]; rfl, ?_⟩
  refine WM.mono_pure rfl rfl ?_
  refine ⟨.bool true, fun x => ?_, ?_⟩
  · have hne := HNE.out; go_simp
  apply Exists.intro
  refine ⟨by simp only [Act.put, List.setIfInBounds_toArray, List.set_cons_succ, List.set_cons_zero]; rfl, ?_⟩
  refine WM.mono_pure rfl rfl ?_
  refine ⟨.bool true, fun x => ?_, ?_⟩
  · go_simp
  apply Exists.intro
  refine ⟨by simp only [Act.put, List.setIfInBounds_toArray, List.set_cons_succ, List.set_cons_zero]; rfl, ?_⟩
  refine WM.mono_pure rfl rfl ?_
  refine ⟨.bool true, fun x => ?_, ?_⟩
  · rfl
  apply Exists.intro
  refine ⟨by simp only [Act.put, List.setIfInBounds_toArray, List.set_cons_succ, List.set_cons_zero]; rfl, ?_⟩
  refine WM.mono_pure rfl rfl ?_
  refine ⟨.pointer (some ⟨g2, 0, none⟩), fun x => ?_, ?_⟩
  · rfl
  apply Exists.intro
  refine ⟨by simp only [Act.put, List.setIfInBounds_toArray, List.set_cons_succ, List.set_cons_zero]; rfl, ?_⟩
  refine WM.mono_mem rfl rfl (fun x hD hF => ?_) (fun v72 => ?_)
  · go_simp
    refine (HE1.out.owners x hD.1).mono ?_
    rintro e y ⟨B, c, rfl, ho, hf⟩
    exact ⟨_, rfl, ⟨ho, fun _ => hf⟩, B, c, rfl⟩
  apply Exists.intro
  refine ⟨by simp only [Act.put, List.setIfInBounds_toArray, List.set_cons_succ, List.set_cons_zero]; rfl, ?_⟩
  refine WM.mono_val rfl rfl (fun x hD hF => ?_) ?_
  · obtain ⟨B, c, e⟩ := (hF 47 _ _ rfl rfl (by decide)).1
    subst e
    go_simp
    exact ⟨AAR.refl _ _ _ _, rfl⟩
  apply Exists.intro
  refine ⟨by simp only [Act.put, List.setIfInBounds_toArray, List.set_cons_succ, List.set_cons_zero]; rfl, ?_⟩
  refine WM.mono_pure rfl rfl ?_
  refine ⟨.bool true, fun x => ?_, ?_⟩
  · go_simp
  apply Exists.intro
  refine ⟨by simp only [Act.put, List.setIfInBounds_toArray, List.set_cons_succ, List.set_cons_zero]; rfl, ?_⟩
  refine WM.mono_pure rfl rfl ?_
  refine ⟨.bool true, fun x => ?_, ?_⟩
  · go_simp
  apply Exists.intro
  refine ⟨by simp only [Act.put, List.setIfInBounds_toArray, List.set_cons_succ, List.set_cons_zero]; rfl, ?_⟩
  refine WM.mono_pure rfl rfl ?_
  refine ⟨.bool true, fun x => ?_, ?_⟩
  · rfl
  apply Exists.intro
  refine ⟨by simp only [Act.put, List.setIfInBounds_toArray, List.set_cons_succ, List.set_cons_zero]; rfl, ?_⟩
  refine WM.mono_pure rfl rfl ?_
  refine ⟨.pointer (some ⟨g2, 0, none⟩), fun x => ?_, ?_⟩
  · rfl
  apply Exists.intro
  refine ⟨by simp only [Act.put, List.setIfInBounds_toArray, List.set_cons_succ, List.set_cons_zero]; rfl, ?_⟩
  refine WM.mono_val rfl rfl (fun x hD hF => ?_) ?_
  · go_simp
    refine (HE1.out.config x hD.1).mono ?_
    rintro e y ⟨rfl, ho, hf⟩
    exact ⟨_, rfl, ⟨ho, fun _ => hf⟩, rfl⟩
  apply Exists.intro
  refine ⟨by simp only [Act.put, List.setIfInBounds_toArray, List.set_cons_succ, List.set_cons_zero]; rfl, ?_⟩
  refine WM.mono_pure rfl rfl ?_
  refine ⟨.agg (cfg 3 4 2), fun x => ?_, ?_⟩
  · exact exec_built 38 #[(0, .const (.int .i64 3)), (1, .const (.int .i64 4)), (2, .const (.int .i64 2))] rfl [(0, .int .i64 3), (1, .int .i64 4), (2, .int .i64 2)] rfl _ (built38c 3 4 2)
  apply Exists.intro
  refine ⟨by simp only [Act.put, List.setIfInBounds_toArray, List.set_cons_succ, List.set_cons_zero]; rfl, ?_⟩
  refine WM.mono_pure rfl rfl ?_
  refine ⟨.bool true, fun x => ?_, ?_⟩
  · exact eql38 3 4 2 _ _ rfl rfl rfl
  apply Exists.intro
  refine ⟨by simp only [Act.put, List.setIfInBounds_toArray, List.set_cons_succ, List.set_cons_zero]; rfl, ?_⟩
  refine WM.mono_pure rfl rfl ?_
  refine ⟨.bool true, fun x => ?_, ?_⟩
  · go_simp
  apply Exists.intro
  refine ⟨by simp only [Act.put, List.setIfInBounds_toArray, List.set_cons_succ, List.set_cons_zero]; rfl, ?_⟩
  refine WM.mono_pure rfl rfl ?_
  refine ⟨.bool true, fun x => ?_, ?_⟩
  · rfl
  apply Exists.intro
  refine ⟨by simp only [Act.put, List.setIfInBounds_toArray, List.set_cons_succ, List.set_cons_zero]; rfl, ?_⟩
  refine WM.mono_nil fun x hE hF => ?_
  go_wp2
  go_ret
  exact ⟨rfl, hE.below⟩
end Go.Proofs.YthcnoblamilpgaaDoor
