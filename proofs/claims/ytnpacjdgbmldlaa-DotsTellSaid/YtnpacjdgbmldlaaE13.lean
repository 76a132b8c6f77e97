/- The law DotsTell of layer 4, walked. -/
import Derived.Test.YtnpacjdgbmldlaaE10
import Derived.Test.YtnpacjdgbmldlaaI3
namespace Go.Proofs.Ytnpacjdgbmldlaa
open Go.RowKit Go.Shelf Go.Lib Go.Sort Wr

/-- The arguments, the two lists made of them, and the boxes. -/
structure TI (w : World) (N : Nat) (A B X Y : Option Addr) (xs ys : List Dt) (d : Dt) (f : Nat → Nat) (x : World) : Prop where
  da : Dots x (· < N) A xs
  db : Dots x (· < N) B ys
  dx : Dots x (· < N) X xs
  dy : Dots x (· < N) Y ys
  dot : DotAt x w.heap.size 25 d.1 d.2
  vec : x.heap[w.heap.size + 1]? = some (.cells (arrOf .u64 8 f) 27 (0, 0))
  below : Below w.heap.size w x
  le : N ≤ x.heap.size
section
variable {w x y : World} {N : Nat} {A B X Y : Option Addr} {xs ys : List Dt} {d : Dt} {f : Nat → Nat}
theorem TI.then_ (hb : Below x.heap.size x y) (h : TI w N A B X Y xs ys d f x) : TI w N A B X Y xs ys d f y :=
  ⟨h.da.below (hb.mono h.le), h.db.below (hb.mono h.le), h.dx.below (hb.mono h.le), h.dy.below (hb.mono h.le), h.dot.below hb h.dot.lt, (hb.block _ (lt_of_row h.vec)).trans h.vec, h.below.trans (hb.mono h.below.size), Nat.le_trans h.le hb.size⟩
theorem TI.drew (h : TI w N A B X Y xs ys d f x) : TI w N A B X Y xs ys d f x.drew := TI.then_ (x := x) (y := x.drew) ⟨rfl, rfl, rfl, Nat.le_refl _, fun _ _ => rfl⟩ h
theorem TI.a (h : TI w N A B X Y xs ys d f x) : Dots x (· < x.heap.size) A xs := h.da.loose fun _ k => Nat.lt_of_lt_of_le k h.le
theorem TI.b (h : TI w N A B X Y xs ys d f x) : Dots x (· < x.heap.size) B ys := h.db.loose fun _ k => Nat.lt_of_lt_of_le k h.le
theorem TI.p (h : TI w N A B X Y xs ys d f x) : Dots x (· < x.heap.size) X xs := h.dx.loose fun _ k => Nat.lt_of_lt_of_le k h.le
theorem TI.q (h : TI w N A B X Y xs ys d f x) : Dots x (· < x.heap.size) Y ys := h.dy.loose fun _ k => Nat.lt_of_lt_of_le k h.le
end
/-- A slice of these dots, wherever they stand. -/
def SlG (L : List Dt) (v : Value) (x : World) : Prop := ∃ A c, v = .slice A L.length c ∧ Dots x (· < x.heap.size) A L
theorem SlG.up {L : List Dt} {v : Value} {x y : World} (hb : Below x.heap.size x y) : SlG L v x → SlG L v y := fun ⟨A, c, e, h⟩ => ⟨A, c, e, h.grow hb⟩
theorem SlG.block {L : List Dt} {x : World} {g t : Nat} (h : x.heap[g]? = some (.cells (dots2 L).toArray t (0, 0))) : SlG L (.slice (some ⟨g, 0, none⟩) L.length L.length) x := ⟨_, _, rfl, block_dots h (lt_of_row h)⟩
theorem SlG.own {L : List Dt} {x : World} {base n : Nat} {v : Value} (h : x.ownsRow base 35 2 v n (dots2 L)) : SlG L v x := by
  obtain ⟨A, c, e, hd, _, _⟩ := own_dots h
  exact ⟨A, c, e, hd.loose fun b h => h.2⟩
theorem neq4_same (q : Bool) {ev : Operand → Value} {o : Oper} {w : World} (x y : Operand) (ho : o.op = .binOp .neq 4 x y 4) (hx : ev x = .bool q) (hy : ev y = .bool q) : (execOp ev o).run Try.prog w = .ok (.value (.bool false)) w := by
  unfold execOp
  simp only [ho, hx, hy]
  cases q <;> go_simp
theorem neq27_same (f : Nat → Nat) {ev : Operand → Value} {o : Oper} {w : World} (x y : Operand) (ho : o.op = .binOp .neq 27 x y 27) (hx : ev x = vecV f) (hy : ev y = vecV f) : (execOp ev o).run Try.prog w = .ok (.value (.bool false)) w := by
  unfold execOp
  simp only [ho, hx, hy]
  have h : (Op.equalIn Op.maxDepth 27 (vecV f) (vecV f)).run Try.prog w = .ok true w := by
    have h := run_equalIn_arr (P := Try.prog) 27 23 8 .u64 .u64 Try.underlying27 Try.underlying23 size23 (fun w => agg23 w) f f w
    simp only [implies_true, decide_true] at h
    exact h
  simp [eqGuard, Sem.run_bind, binOp, Op.equal, h, Result.andThen]
theorem of_len' (zs : List Dt) : (ofF zs).length ≤ 2000 := by
  unfold ofF
  rw [List.length_take]
  exact Nat.min_le_left _ _

set_option maxRecDepth 100000 in
set_option maxHeartbeats 16000000 in
theorem law_tell (xs ys : List Dt) (c c' : Nat) (A B : Option Addr) (d : Dt) (f : Nat → Nat) (w : World) (hx : Dots w (· < w.heap.size) A xs) (hy : Dots w (· < w.heap.size) B ys) (hk : ∀ d ∈ xs, d.2 < 18446744073709551616) :
    Calls Try.prog 3 #[.slice A xs.length c, .slice B ys.length c', dotV d.1 d.2, vecV f] w fun e w' => e = .returned (.bool true) ∧ Below w.heap.size w w' := by
  obtain ⟨w1, hw1⟩ : ∃ w1, w1 = (w.alloc (.cells (dotC d) 25)).alloc (.cells (arrOf .u64 8 f) 27) := ⟨_, rfl⟩
  have hs : (w.alloc (.cells (dotC d) 25)).heap.size = w.heap.size + 1 := by simp
  have hb1 : Below w.heap.size w w1 := by rw [hw1]; exact below2 _ _ _
  have z0 : w1.heap[w.heap.size]? = some (.cells (dotC d) 25 (0, 0)) := by rw [hw1]; exact (Below.heap_alloc _ _ _ (by simp)).trans (heap_alloc_new _ _)
  have z1 : w1.heap[w.heap.size + 1]? = some (.cells (arrOf .u64 8 f) 27 (0, 0)) := by rw [hw1, ← hs]; exact heap_alloc_new _ _
  have HX := Lib.hid (hx.below hb1)
  have HY := Lib.hid (hy.below hb1)
  have HB1 := Lib.hid hb1
  have Z0 := Lib.hid z0
  have Z1 := Lib.hid z1
  have HW1 := Lib.hid hw1
  have HK := Lib.hid hk
  clear hx hy hb1 z0 z1 hk hs hw1
  have HG := Lib.hid (great_any xs c A w1)
  by_cases h60 : 60 < xs.length
  · rw [decide_eq_true h60] at HG
    clear h60
    go_enter Try.func3, Try.ntmps3
    go_wp2_with fail
    rw [← HW1.out]
    refine HG.out.mono ?_
    rintro e x ⟨rfl, hxe⟩
    obtain rfl := hxe.symm
    go_wp2_with fail
    refine (alive4_any _).mono ?_
    rintro e w9 ⟨rfl, hb⟩
    have HB := Lib.hid (HB1.out.trans (hb.mono HB1.out.size))
    clear hb
    go_wp2
    go_ret
    exact ⟨rfl, HB.out⟩
  · rw [decide_eq_false h60] at HG
    have HL : Hid (xs.length ≤ 60) := Lib.hid (by omega)
    clear h60
    have HG2 := Lib.hid (great_any ys c' B w1)
    by_cases h61 : 60 < ys.length
    · rw [decide_eq_true h61] at HG2
      clear h61
      go_enter Try.func3, Try.ntmps3
      go_wp2_with fail
      rw [← HW1.out]
      refine HG.out.mono ?_
      rintro e x ⟨rfl, hxe⟩
      obtain rfl := hxe.symm
      go_wp2_with fail
      refine HG2.out.mono ?_
      rintro e x ⟨rfl, hxe⟩
      obtain rfl := hxe.symm
      go_wp2_with fail
      refine (alive4_any _).mono ?_
      rintro e w9 ⟨rfl, hb⟩
      have HB := Lib.hid (HB1.out.trans (hb.mono HB1.out.size))
      clear hb
      go_wp2
      go_ret
      exact ⟨rfl, HB.out⟩
    · rw [decide_eq_false h61] at HG2
      have HL2 : Hid (ys.length ≤ 60) := Lib.hid (by omega)
      clear h61
      have HA1 := Lib.hid (lawAs_any xs c A w1 (HX.out.loose fun _ h => Nat.lt_of_lt_of_le h HB1.out.size) (by have := HL.out; omega))
      go_enter Try.func3, Try.ntmps3
      go_wp2_with fail
      rw [← HW1.out]
      refine HG.out.mono ?_
      rintro e x ⟨rfl, hxe⟩
      obtain rfl := hxe.symm
      go_wp2_with fail
      refine HG2.out.mono ?_
      rintro e x ⟨rfl, hxe⟩
      obtain rfl := hxe.symm
      go_wp2_with fail
      refine HA1.out.mono ?_
      rintro e w2 ⟨u, rfl, hu, hb2⟩
      obtain ⟨X, cx, rfl, hdx, _, hnx⟩ := own_dots hu
      have HB2 := Lib.hid hb2
      have HDX := Lib.hid (hdx.loose (p := (· < w2.heap.size)) fun b h => h.2)
      have HNX := Lib.hid hnx
      clear hu hdx hb2 hnx HA1
      have HA2 := Lib.hid (lawAs_any ys c' B w2 ((HY.out.below (HB2.out.mono HB1.out.size)).loose fun _ h => Nat.lt_of_lt_of_le h (Nat.le_trans HB1.out.size HB2.out.size)) (by have := HL2.out; omega))
      go_wp2_with fail
      refine HA2.out.mono ?_
      rintro e w3 ⟨u, rfl, hu, hb3⟩
      obtain ⟨Y, cy, rfl, hdy, _, hny⟩ := own_dots hu
      have HI : Hid (TI w w3.heap.size A B X Y xs ys d f w3) := Lib.hid (by
        have hb13 : Below w1.heap.size w1 w3 := HB2.out.trans (hb3.mono HB2.out.size)
        have hs : w.heap.size ≤ w3.heap.size := Nat.le_trans HB1.out.size hb13.size
        exact ⟨(HX.out.below (hb13.mono HB1.out.size)).loose fun _ h => Nat.lt_of_lt_of_le h hs, (HY.out.below (hb13.mono HB1.out.size)).loose fun _ h => Nat.lt_of_lt_of_le h hs, (HDX.out.below hb3).loose fun _ h => Nat.lt_of_lt_of_le h hb3.size, hdy.loose fun _ h => h.2,
          (hb13.block _ (lt_of_row Z0.out)).trans Z0.out, (hb13.block _ (lt_of_row Z1.out)).trans Z1.out, HB1.out.trans (hb13.mono HB1.out.size), Nat.le_refl _⟩)
      have HNY := Lib.hid hny
      have HOF := Lib.hid (of_any insert_any)
      clear hu hdy hb3 hny HA2 HX HY HB1 HB2 HDX Z0 Z1 HG HG2 HW1
      obtain ⟨N, hN⟩ : ∃ N, N = w3.heap.size := ⟨_, rfl⟩
      rw [← hN] at HI
      clear hN
      obtain ⟨s1, hs1⟩ : ∃ q, q = isSet xs := ⟨_, rfl⟩
      obtain ⟨s2, hs2⟩ : ∃ q, q = isWhole xs := ⟨_, rfl⟩
      obtain ⟨s3, hs3⟩ : ∃ q, q = decide (d ∈ xs) := ⟨_, rfl⟩
      obtain ⟨s5, hs5⟩ : ∃ q, q = decide (xs = ys) := ⟨_, rfl⟩
      have HS1 := Lib.hid hs1
      have HS2 := Lib.hid hs2
      have HS3 := Lib.hid hs3
      have HS5 := Lib.hid hs5
      clear hs1 hs2 hs3 hs5
      go_wp2_with fail
      refine WM.wp_region_kinds (fun _ x y => Below x.heap.size x y) (fun _ x => TI w N A B X Y xs ys d f x) (fun x => TI w N A B X Y xs ys d f x)
        [(1, .val (.bool s1) fun _ => True), (3, .val (.bool s1) fun _ => True), (7, .val (.bool s2) fun _ => True), (9, .val (.bool s2) fun _ => True), (14, .val (dotV d.1 d.2) fun _ => True), (15, .val (.bool s3) fun _ => True), (17, .val (dotV d.1 d.2) fun _ => True), (18, .val (dotV d.1 d.2) fun _ => True), (19, .val (.bool s3) fun _ => True), (24, .val (vecV (spanF xs)) fun _ => True), (26, .val (vecV (spanF xs)) fun _ => True), (32, .val (.bool s5) fun _ => True), (35, .val (.bool s5) fun _ => True)] (by kernel_rfl) (by kernel_rfl) (fun _ _ _ hb h => h.then_ hb) (fun _ _ _ _ _ hb h => h.then_ hb) ?_ HI.out.drew (fun _ => HI.out.drew) ?_
      · intro z hz
        simp only [List.mem_cons, List.mem_nil_iff, or_false] at hz
        rcases hz with rfl | rfl | rfl | rfl | rfl | rfl | rfl | rfl | rfl | rfl | rfl | rfl | rfl <;> first | exact fun _ _ _ _ _ _ => trivial | exact fun _ _ _ _ _ hr => SlG.up hr
      iterate 1
        refine WM.mono_pure rfl rfl ?_
        apply Exists.intro
        refine ⟨fun x => ?_, ?_⟩
        · go_simp
          rfl
        apply Exists.intro
        refine ⟨by simp only [Act.put, List.setIfInBounds_toArray, List.set_cons_succ, List.set_cons_zero]; rfl, ?_⟩
      refine WM.mono_val rfl rfl (fun x hD hF => ?_) ?_
      · go_simp
        refine (dright_any xs c A x hD.a (by have := HL.out; omega)).mono ?_
        rintro e y ⟨rfl, hg⟩
        exact ⟨_, rfl, hg, by rw [HS1.out]⟩
      apply Exists.intro
      refine ⟨by simp only [Act.put, List.setIfInBounds_toArray, List.set_cons_succ, List.set_cons_zero]; rfl, ?_⟩
      iterate 1
        refine WM.mono_pure rfl rfl ?_
        apply Exists.intro
        refine ⟨fun x => ?_, ?_⟩
        · go_simp
          rfl
        apply Exists.intro
        refine ⟨by simp only [Act.put, List.setIfInBounds_toArray, List.set_cons_succ, List.set_cons_zero]; rfl, ?_⟩
      refine WM.mono_val rfl rfl (fun x hD hF => ?_) ?_
      · go_simp
        refine (drightR_any xs cx X x hD.p (by have := HL.out; omega)).mono ?_
        rintro e y ⟨rfl, hg⟩
        exact ⟨_, rfl, hg, by rw [HS1.out]⟩
      apply Exists.intro
      refine ⟨by simp only [Act.put, List.setIfInBounds_toArray, List.set_cons_succ, List.set_cons_zero]; rfl, ?_⟩
      refine WM.mono_pure rfl rfl ?_
      refine ⟨.bool false, fun x => ?_, ?_⟩
      · exact neq4_same s1 (.tmp 23) (.tmp 25) rfl rfl rfl
      apply Exists.intro
      refine ⟨by simp only [Act.put, List.setIfInBounds_toArray, List.set_cons_succ, List.set_cons_zero]; rfl, ?_⟩
      refine WM.mono_pure rfl rfl ?_
      refine ⟨.bool false, fun x => ?_, ?_⟩
      · go_simp
      apply Exists.intro
      refine ⟨by simp only [Act.put, List.setIfInBounds_toArray, List.set_cons_succ, List.set_cons_zero]; rfl, ?_⟩
      iterate 1
        refine WM.mono_pure rfl rfl ?_
        apply Exists.intro
        refine ⟨fun x => ?_, ?_⟩
        · go_simp
          rfl
        apply Exists.intro
        refine ⟨by simp only [Act.put, List.setIfInBounds_toArray, List.set_cons_succ, List.set_cons_zero]; rfl, ?_⟩
      refine WM.mono_val rfl rfl (fun x hD hF => ?_) ?_
      · go_simp
        refine (dwhole_any xs c A x hD.a (by have := HL.out; omega) HK.out).mono ?_
        rintro e y ⟨rfl, hg⟩
        exact ⟨_, rfl, hg, by rw [HS2.out]⟩
      apply Exists.intro
      refine ⟨by simp only [Act.put, List.setIfInBounds_toArray, List.set_cons_succ, List.set_cons_zero]; rfl, ?_⟩
      iterate 1
        refine WM.mono_pure rfl rfl ?_
        apply Exists.intro
        refine ⟨fun x => ?_, ?_⟩
        · go_simp
          rfl
        apply Exists.intro
        refine ⟨by simp only [Act.put, List.setIfInBounds_toArray, List.set_cons_succ, List.set_cons_zero]; rfl, ?_⟩
      refine WM.mono_val rfl rfl (fun x hD hF => ?_) ?_
      · go_simp
        refine (dwholeR_any xs cx X x hD.p (by have := HL.out; omega) HK.out).mono ?_
        rintro e y ⟨rfl, hg⟩
        exact ⟨_, rfl, hg, by rw [HS2.out]⟩
      apply Exists.intro
      refine ⟨by simp only [Act.put, List.setIfInBounds_toArray, List.set_cons_succ, List.set_cons_zero]; rfl, ?_⟩
      refine WM.mono_pure rfl rfl ?_
      refine ⟨.bool false, fun x => ?_, ?_⟩
      · exact neq4_same s2 (.tmp 29) (.tmp 31) rfl rfl rfl
      apply Exists.intro
      refine ⟨by simp only [Act.put, List.setIfInBounds_toArray, List.set_cons_succ, List.set_cons_zero]; rfl, ?_⟩
      refine WM.mono_pure rfl rfl ?_
      refine ⟨.bool false, fun x => ?_, ?_⟩
      · go_simp
      apply Exists.intro
      refine ⟨by simp only [Act.put, List.setIfInBounds_toArray, List.set_cons_succ, List.set_cons_zero]; rfl, ?_⟩
      refine WM.mono_pure rfl rfl ?_
      refine ⟨.bool false, fun x => ?_, ?_⟩
      · go_simp
      apply Exists.intro
      refine ⟨by simp only [Act.put, List.setIfInBounds_toArray, List.set_cons_succ, List.set_cons_zero]; rfl, ?_⟩
      iterate 1
        refine WM.mono_pure rfl rfl ?_
        apply Exists.intro
        refine ⟨fun x => ?_, ?_⟩
        · go_simp
          rfl
        apply Exists.intro
        refine ⟨by simp only [Act.put, List.setIfInBounds_toArray, List.set_cons_succ, List.set_cons_zero]; rfl, ?_⟩
      refine WM.mono_val rfl rfl (fun x hD hF => ?_) ?_
      · have hl := run_loadVar_arr (P := Try.prog) x w.heap.size 0 25 (dotC d) _ hD.dot.range Try.underlying25 rfl (dot_size25 _)
        rw [exec_load 25 (.tmp 6) rfl w.heap.size 0 rfl hl]
        exact ⟨Below.refl _ _, rfl, trivial⟩
      apply Exists.intro
      refine ⟨by simp only [Act.put, List.setIfInBounds_toArray, List.set_cons_succ, List.set_cons_zero]; rfl, ?_⟩
      refine WM.mono_val rfl rfl (fun x hD hF => ?_) ?_
      · go_simp
        refine (dhas_any xs c A d x hD.a (by have := HL.out; omega)).mono ?_
        rintro e y ⟨rfl, hg⟩
        exact ⟨_, rfl, hg, by rw [HS3.out]⟩
      apply Exists.intro
      refine ⟨by simp only [Act.put, List.setIfInBounds_toArray, List.set_cons_succ, List.set_cons_zero]; rfl, ?_⟩
      iterate 1
        refine WM.mono_pure rfl rfl ?_
        apply Exists.intro
        refine ⟨fun x => ?_, ?_⟩
        · go_simp
          rfl
        apply Exists.intro
        refine ⟨by simp only [Act.put, List.setIfInBounds_toArray, List.set_cons_succ, List.set_cons_zero]; rfl, ?_⟩
      refine WM.mono_val rfl rfl (fun x hD hF => ?_) ?_
      · have hl := run_loadVar_arr (P := Try.prog) x w.heap.size 0 25 (dotC d) _ hD.dot.range Try.underlying25 rfl (dot_size25 _)
        rw [exec_load 25 (.tmp 6) rfl w.heap.size 0 rfl hl]
        exact ⟨Below.refl _ _, rfl, trivial⟩
      apply Exists.intro
      refine ⟨by simp only [Act.put, List.setIfInBounds_toArray, List.set_cons_succ, List.set_cons_zero]; rfl, ?_⟩
      refine WM.mono_val rfl rfl (fun x hD hF => ?_) ?_
      · go_simp
        refine (as_any d.1 d.2 x).mono ?_
        rintro e y ⟨rfl, hg⟩
        exact ⟨_, rfl, hg, rfl⟩
      apply Exists.intro
      refine ⟨by simp only [Act.put, List.setIfInBounds_toArray, List.set_cons_succ, List.set_cons_zero]; rfl, ?_⟩
      refine WM.mono_val rfl rfl (fun x hD hF => ?_) ?_
      · go_simp
        refine (dhasR_any xs cx X d x hD.p (by have := HL.out; omega)).mono ?_
        rintro e y ⟨rfl, hg⟩
        exact ⟨_, rfl, hg, by rw [HS3.out]⟩
      apply Exists.intro
      refine ⟨by simp only [Act.put, List.setIfInBounds_toArray, List.set_cons_succ, List.set_cons_zero]; rfl, ?_⟩
      refine WM.mono_pure rfl rfl ?_
      refine ⟨.bool false, fun x => ?_, ?_⟩
      · exact neq4_same s3 (.tmp 37) (.tmp 41) rfl rfl rfl
      apply Exists.intro
      refine ⟨by simp only [Act.put, List.setIfInBounds_toArray, List.set_cons_succ, List.set_cons_zero]; rfl, ?_⟩
      refine WM.mono_pure rfl rfl ?_
      refine ⟨.bool false, fun x => ?_, ?_⟩
      · go_simp
      apply Exists.intro
      refine ⟨by simp only [Act.put, List.setIfInBounds_toArray, List.set_cons_succ, List.set_cons_zero]; rfl, ?_⟩
      refine WM.mono_pure rfl rfl ?_
      refine ⟨.bool false, fun x => ?_, ?_⟩
      · go_simp
      apply Exists.intro
      refine ⟨by simp only [Act.put, List.setIfInBounds_toArray, List.set_cons_succ, List.set_cons_zero]; rfl, ?_⟩
      iterate 1
        refine WM.mono_pure rfl rfl ?_
        apply Exists.intro
        refine ⟨fun x => ?_, ?_⟩
        · go_simp
          rfl
        apply Exists.intro
        refine ⟨by simp only [Act.put, List.setIfInBounds_toArray, List.set_cons_succ, List.set_cons_zero]; rfl, ?_⟩
      refine WM.mono_val rfl rfl (fun x hD hF => ?_) ?_
      · go_simp
        refine (dspan_any xs c A x hD.a (by have := HL.out; omega)).mono ?_
        rintro e y ⟨rfl, hg⟩
        exact ⟨_, rfl, hg, rfl⟩
      apply Exists.intro
      refine ⟨by simp only [Act.put, List.setIfInBounds_toArray, List.set_cons_succ, List.set_cons_zero]; rfl, ?_⟩
      iterate 1
        refine WM.mono_pure rfl rfl ?_
        apply Exists.intro
        refine ⟨fun x => ?_, ?_⟩
        · go_simp
          rfl
        apply Exists.intro
        refine ⟨by simp only [Act.put, List.setIfInBounds_toArray, List.set_cons_succ, List.set_cons_zero]; rfl, ?_⟩
      refine WM.mono_val rfl rfl (fun x hD hF => ?_) ?_
      · go_simp
        refine (dspanR_any xs cx X x hD.p (by have := HL.out; omega)).mono ?_
        rintro e y ⟨rfl, hg⟩
        exact ⟨_, rfl, hg, rfl⟩
      apply Exists.intro
      refine ⟨by simp only [Act.put, List.setIfInBounds_toArray, List.set_cons_succ, List.set_cons_zero]; rfl, ?_⟩
      refine WM.mono_pure rfl rfl ?_
      refine ⟨.bool false, fun x => ?_, ?_⟩
      · exact neq27_same (spanF xs) (.tmp 46) (.tmp 48) rfl rfl rfl
      apply Exists.intro
      refine ⟨by simp only [Act.put, List.setIfInBounds_toArray, List.set_cons_succ, List.set_cons_zero]; rfl, ?_⟩
      refine WM.mono_pure rfl rfl ?_
      refine ⟨.bool false, fun x => ?_, ?_⟩
      · go_simp
      apply Exists.intro
      refine ⟨by simp only [Act.put, List.setIfInBounds_toArray, List.set_cons_succ, List.set_cons_zero]; rfl, ?_⟩
      refine WM.mono_pure rfl rfl ?_
      refine ⟨.bool false, fun x => ?_, ?_⟩
      · go_simp
      apply Exists.intro
      refine ⟨by simp only [Act.put, List.setIfInBounds_toArray, List.set_cons_succ, List.set_cons_zero]; rfl, ?_⟩
      iterate 2
        refine WM.mono_pure rfl rfl ?_
        apply Exists.intro
        refine ⟨fun x => ?_, ?_⟩
        · go_simp
          rfl
        apply Exists.intro
        refine ⟨by simp only [Act.put, List.setIfInBounds_toArray, List.set_cons_succ, List.set_cons_zero]; rfl, ?_⟩
      refine WM.mono_val rfl rfl (fun x hD hF => ?_) ?_
      · go_simp
        refine (dsame_any xs ys c c' A B x hD.da hD.db (by have := HL.out; omega)).mono ?_
        rintro e y ⟨rfl, hg⟩
        exact ⟨_, rfl, hg, by rw [HS5.out]⟩
      apply Exists.intro
      refine ⟨by simp only [Act.put, List.setIfInBounds_toArray, List.set_cons_succ, List.set_cons_zero]; rfl, ?_⟩
      iterate 2
        refine WM.mono_pure rfl rfl ?_
        apply Exists.intro
        refine ⟨fun x => ?_, ?_⟩
        · go_simp
          rfl
        apply Exists.intro
        refine ⟨by simp only [Act.put, List.setIfInBounds_toArray, List.set_cons_succ, List.set_cons_zero]; rfl, ?_⟩
      refine WM.mono_val rfl rfl (fun x hD hF => ?_) ?_
      · go_simp
        refine (sameR_any xs ys cx cy X Y x hD.dx hD.dy (by have := HL.out; omega)).mono ?_
        rintro e y ⟨rfl, hg⟩
        exact ⟨_, rfl, hg, by rw [HS5.out]⟩
      apply Exists.intro
      refine ⟨by simp only [Act.put, List.setIfInBounds_toArray, List.set_cons_succ, List.set_cons_zero]; rfl, ?_⟩
      refine WM.mono_pure rfl rfl ?_
      refine ⟨.bool false, fun x => ?_, ?_⟩
      · exact neq4_same s5 (.tmp 54) (.tmp 57) rfl rfl rfl
      apply Exists.intro
      refine ⟨by simp only [Act.put, List.setIfInBounds_toArray, List.set_cons_succ, List.set_cons_zero]; rfl, ?_⟩
      refine WM.mono_pure rfl rfl ?_
      refine ⟨.bool false, fun x => ?_, ?_⟩
      · go_simp
      apply Exists.intro
      refine ⟨by simp only [Act.put, List.setIfInBounds_toArray, List.set_cons_succ, List.set_cons_zero]; rfl, ?_⟩
      refine WM.mono_nil ?_
      intro x hD hF
      replace HI := Lib.hid hD
      clear hD hF
      go_simp
      go_wp2_with fail
      refine WM.wp_region_kinds (fun _ x y => Below x.heap.size x y) (fun _ x => TI w N A B X Y xs ys d f x) (fun x => TI w N A B X Y xs ys d f x)
        [(0, .val (.bool true) fun _ => True), (3, .mem (SlG (ofF (xs)))), (4, .mem (SlG (ofF (xs)))), (6, .mem (SlG (ofF (xs)))), (7, .val (.bool true) fun _ => True), (12, .mem (SlG (ofF (xs ++ ys)))), (13, .mem (SlG (ofF (xs ++ ys)))), (16, .mem (SlG (ofF (xs ++ ys)))), (17, .val (.bool true) fun _ => True), (22, .mem (SlG (ofF (someF xs ys true)))), (23, .mem (SlG (ofF (someF xs ys true)))), (26, .mem (SlG (ofF (someF xs ys true)))), (27, .val (.bool true) fun _ => True), (32, .mem (SlG (ofF (someF xs ys false)))), (33, .mem (SlG (ofF (someF xs ys false)))), (36, .mem (SlG (ofF (someF xs ys false)))), (37, .val (.bool true) fun _ => True), (41, .val (vecV f) fun _ => True), (42, .mem (SlG (winF f xs))), (43, .mem (SlG (winF f xs))), (45, .val (vecV f) fun _ => True), (46, .mem (SlG (winF f xs))), (47, .val (.bool true) fun _ => True)] (by kernel_rfl) (by kernel_rfl) (fun _ _ _ hb h => h.then_ hb) (fun _ _ _ _ _ hb h => h.then_ hb) ?_ HI.out.drew (fun _ => HI.out.drew) ?_
      · intro z hz
        simp only [List.mem_cons, List.mem_nil_iff, or_false] at hz
        rcases hz with rfl | rfl | rfl | rfl | rfl | rfl | rfl | rfl | rfl | rfl | rfl | rfl | rfl | rfl | rfl | rfl | rfl | rfl | rfl | rfl | rfl | rfl | rfl <;> first | exact fun _ _ _ _ _ _ => trivial | exact fun _ _ _ _ _ hr => SlG.up hr
      refine WM.mono_val rfl rfl (fun x hD hF => ?_) ?_
      · go_simp
        refine (alive4_any x).mono ?_
        rintro e y ⟨rfl, hg⟩
        exact ⟨_, rfl, hg, rfl⟩
      apply Exists.intro
      refine ⟨by simp only [Act.put, List.setIfInBounds_toArray, List.set_cons_succ, List.set_cons_zero]; rfl, ?_⟩
      refine WM.mono_pure rfl rfl ?_
      refine ⟨.bool true, fun x => ?_, ?_⟩
      · go_simp
      apply Exists.intro
      refine ⟨by simp only [Act.put, List.setIfInBounds_toArray, List.set_cons_succ, List.set_cons_zero]; rfl, ?_⟩
      iterate 1
        refine WM.mono_pure rfl rfl ?_
        apply Exists.intro
        refine ⟨fun x => ?_, ?_⟩
        · go_simp
          rfl
        apply Exists.intro
        refine ⟨by simp only [Act.put, List.setIfInBounds_toArray, List.set_cons_succ, List.set_cons_zero]; rfl, ?_⟩
      refine WM.mono_mem rfl rfl (fun x hD hF => ?_) (fun v63 => ?_)
      · have h1 := dof_any xs c A x hD.a (by have := HL.out; omega)
        rw [setF_rt] at h1
        go_simp
        refine h1.mono ?_
        rintro e y ⟨g, rfl, _, hr, hg⟩
        exact ⟨_, rfl, hg, SlG.block hr⟩
      apply Exists.intro
      refine ⟨by simp only [Act.put, List.setIfInBounds_toArray, List.set_cons_succ, List.set_cons_zero]; rfl, ?_⟩
      refine WM.mono_mem rfl rfl (fun x hD hF => ?_) (fun v64 => ?_)
      · obtain ⟨A0, c0, e0, h0⟩ : SlG (ofF (xs)) v63 x := (hF 3 _ 63 rfl rfl (by decide)).1
        subst e0
        have h1 := lawAs_any (ofF (xs)) c0 A0 x h0 (by have := of_len' (xs); omega)
        go_simp
        refine h1.mono ?_
        rintro e y ⟨u, rfl, hr, hg⟩
        exact ⟨_, rfl, hg, SlG.own hr⟩
      apply Exists.intro
      refine ⟨by simp only [Act.put, List.setIfInBounds_toArray, List.set_cons_succ, List.set_cons_zero]; rfl, ?_⟩
      iterate 1
        refine WM.mono_pure rfl rfl ?_
        apply Exists.intro
        refine ⟨fun x => ?_, ?_⟩
        · go_simp
          rfl
        apply Exists.intro
        refine ⟨by simp only [Act.put, List.setIfInBounds_toArray, List.set_cons_succ, List.set_cons_zero]; rfl, ?_⟩
      refine WM.mono_mem rfl rfl (fun x hD hF => ?_) (fun v66 => ?_)
      · have h1 := HOF.out xs cx X x hD.p (by have := HL.out; omega)
        go_simp
        refine h1.mono ?_
        rintro e y ⟨A', k, rfl, hr, _, hg⟩
        exact ⟨_, rfl, hg, A', k, rfl, hr⟩
      apply Exists.intro
      refine ⟨by simp only [Act.put, List.setIfInBounds_toArray, List.set_cons_succ, List.set_cons_zero]; rfl, ?_⟩
      refine WM.mono_val rfl rfl (fun x hD hF => ?_) ?_
      · obtain ⟨A0, c0, e0, h0⟩ : SlG (ofF (xs)) v64 x := (hF 4 _ 64 rfl rfl (by decide)).1
        obtain ⟨A1, c1, e1, h1⟩ : SlG (ofF (xs)) v66 x := (hF 6 _ 66 rfl rfl (by decide)).1
        subst e0
        subst e1
        go_simp
        refine (sameR_any (ofF (xs)) (ofF (xs)) c0 c1 A0 A1 x h0 h1 (by have := of_len' (xs); omega)).mono ?_
        rintro e y ⟨rfl, hg⟩
        exact ⟨_, rfl, hg, by rw [decide_eq_true rfl]⟩
      apply Exists.intro
      refine ⟨by simp only [Act.put, List.setIfInBounds_toArray, List.set_cons_succ, List.set_cons_zero]; rfl, ?_⟩
      refine WM.mono_pure rfl rfl ?_
      refine ⟨.bool true, fun x => ?_, ?_⟩
      · go_simp
      apply Exists.intro
      refine ⟨by simp only [Act.put, List.setIfInBounds_toArray, List.set_cons_succ, List.set_cons_zero]; rfl, ?_⟩
      refine WM.mono_pure rfl rfl ?_
      refine ⟨.bool true, fun x => ?_, ?_⟩
      · go_simp
      apply Exists.intro
      refine ⟨by simp only [Act.put, List.setIfInBounds_toArray, List.set_cons_succ, List.set_cons_zero]; rfl, ?_⟩
      iterate 2
        refine WM.mono_pure rfl rfl ?_
        apply Exists.intro
        refine ⟨fun x => ?_, ?_⟩
        · go_simp
          rfl
        apply Exists.intro
        refine ⟨by simp only [Act.put, List.setIfInBounds_toArray, List.set_cons_succ, List.set_cons_zero]; rfl, ?_⟩
      refine WM.mono_mem rfl rfl (fun x hD hF => ?_) (fun v72 => ?_)
      · have h1 := djoin_any xs ys c c' A B x hD.a hD.b (by have := HL.out; omega) (by have := HL2.out; omega)
        go_simp
        refine h1.mono ?_
        rintro e y ⟨g, rfl, _, hr, hg⟩
        exact ⟨_, rfl, hg, SlG.block hr⟩
      apply Exists.intro
      refine ⟨by simp only [Act.put, List.setIfInBounds_toArray, List.set_cons_succ, List.set_cons_zero]; rfl, ?_⟩
      refine WM.mono_mem rfl rfl (fun x hD hF => ?_) (fun v73 => ?_)
      · obtain ⟨A0, c0, e0, h0⟩ : SlG (ofF (xs ++ ys)) v72 x := (hF 12 _ 72 rfl rfl (by decide)).1
        subst e0
        have h1 := lawAs_any (ofF (xs ++ ys)) c0 A0 x h0 (by have := of_len' (xs ++ ys); omega)
        go_simp
        refine h1.mono ?_
        rintro e y ⟨u, rfl, hr, hg⟩
        exact ⟨_, rfl, hg, SlG.own hr⟩
      apply Exists.intro
      refine ⟨by simp only [Act.put, List.setIfInBounds_toArray, List.set_cons_succ, List.set_cons_zero]; rfl, ?_⟩
      iterate 2
        refine WM.mono_pure rfl rfl ?_
        apply Exists.intro
        refine ⟨fun x => ?_, ?_⟩
        · go_simp
          rfl
        apply Exists.intro
        refine ⟨by simp only [Act.put, List.setIfInBounds_toArray, List.set_cons_succ, List.set_cons_zero]; rfl, ?_⟩
      refine WM.mono_mem rfl rfl (fun x hD hF => ?_) (fun v76 => ?_)
      · have h1 := join_any ofF HOF.out xs ys cx cy X Y x hD.p hD.q HNX.out HNY.out (by have := HL.out; have := HL2.out; omega)
        go_simp
        refine h1.mono ?_
        rintro e y ⟨A', k, rfl, hr, _, hg⟩
        exact ⟨_, rfl, hg, A', k, rfl, hr⟩
      apply Exists.intro
      refine ⟨by simp only [Act.put, List.setIfInBounds_toArray, List.set_cons_succ, List.set_cons_zero]; rfl, ?_⟩
      refine WM.mono_val rfl rfl (fun x hD hF => ?_) ?_
      · obtain ⟨A0, c0, e0, h0⟩ : SlG (ofF (xs ++ ys)) v73 x := (hF 13 _ 73 rfl rfl (by decide)).1
        obtain ⟨A1, c1, e1, h1⟩ : SlG (ofF (xs ++ ys)) v76 x := (hF 16 _ 76 rfl rfl (by decide)).1
        subst e0
        subst e1
        go_simp
        refine (sameR_any (ofF (xs ++ ys)) (ofF (xs ++ ys)) c0 c1 A0 A1 x h0 h1 (by have := of_len' (xs ++ ys); omega)).mono ?_
        rintro e y ⟨rfl, hg⟩
        exact ⟨_, rfl, hg, by rw [decide_eq_true rfl]⟩
      apply Exists.intro
      refine ⟨by simp only [Act.put, List.setIfInBounds_toArray, List.set_cons_succ, List.set_cons_zero]; rfl, ?_⟩
      refine WM.mono_pure rfl rfl ?_
      refine ⟨.bool true, fun x => ?_, ?_⟩
      · go_simp
      apply Exists.intro
      refine ⟨by simp only [Act.put, List.setIfInBounds_toArray, List.set_cons_succ, List.set_cons_zero]; rfl, ?_⟩
      refine WM.mono_pure rfl rfl ?_
      refine ⟨.bool true, fun x => ?_, ?_⟩
      · go_simp
      apply Exists.intro
      refine ⟨by simp only [Act.put, List.setIfInBounds_toArray, List.set_cons_succ, List.set_cons_zero]; rfl, ?_⟩
      iterate 2
        refine WM.mono_pure rfl rfl ?_
        apply Exists.intro
        refine ⟨fun x => ?_, ?_⟩
        · go_simp
          rfl
        apply Exists.intro
        refine ⟨by simp only [Act.put, List.setIfInBounds_toArray, List.set_cons_succ, List.set_cons_zero]; rfl, ?_⟩
      refine WM.mono_mem rfl rfl (fun x hD hF => ?_) (fun v82 => ?_)
      · have h1 := meet_any 35 true (.inl ⟨rfl, rfl⟩) xs ys c c' A B x hD.a hD.b (by have := HL.out; omega) (by have := HL2.out; omega)
        go_simp
        refine h1.mono ?_
        rintro e y ⟨g, rfl, _, hr, hg⟩
        exact ⟨_, rfl, hg, SlG.block hr⟩
      apply Exists.intro
      refine ⟨by simp only [Act.put, List.setIfInBounds_toArray, List.set_cons_succ, List.set_cons_zero]; rfl, ?_⟩
      refine WM.mono_mem rfl rfl (fun x hD hF => ?_) (fun v83 => ?_)
      · obtain ⟨A0, c0, e0, h0⟩ : SlG (ofF (someF xs ys true)) v82 x := (hF 22 _ 82 rfl rfl (by decide)).1
        subst e0
        have h1 := lawAs_any (ofF (someF xs ys true)) c0 A0 x h0 (by have := of_len' (someF xs ys true); omega)
        go_simp
        refine h1.mono ?_
        rintro e y ⟨u, rfl, hr, hg⟩
        exact ⟨_, rfl, hg, SlG.own hr⟩
      apply Exists.intro
      refine ⟨by simp only [Act.put, List.setIfInBounds_toArray, List.set_cons_succ, List.set_cons_zero]; rfl, ?_⟩
      iterate 2
        refine WM.mono_pure rfl rfl ?_
        apply Exists.intro
        refine ⟨fun x => ?_, ?_⟩
        · go_simp
          rfl
        apply Exists.intro
        refine ⟨by simp only [Act.put, List.setIfInBounds_toArray, List.set_cons_succ, List.set_cons_zero]; rfl, ?_⟩
      refine WM.mono_mem rfl rfl (fun x hD hF => ?_) (fun v86 => ?_)
      · have h1 := some_any ofF HOF.out xs ys cx cy X Y true x hD.p hD.q (by have := HL.out; omega) (by have := HL2.out; omega)
        go_simp
        refine h1.mono ?_
        rintro e y ⟨A', k, rfl, hr, _, hg⟩
        exact ⟨_, rfl, hg, A', k, rfl, hr⟩
      apply Exists.intro
      refine ⟨by simp only [Act.put, List.setIfInBounds_toArray, List.set_cons_succ, List.set_cons_zero]; rfl, ?_⟩
      refine WM.mono_val rfl rfl (fun x hD hF => ?_) ?_
      · obtain ⟨A0, c0, e0, h0⟩ : SlG (ofF (someF xs ys true)) v83 x := (hF 23 _ 83 rfl rfl (by decide)).1
        obtain ⟨A1, c1, e1, h1⟩ : SlG (ofF (someF xs ys true)) v86 x := (hF 26 _ 86 rfl rfl (by decide)).1
        subst e0
        subst e1
        go_simp
        refine (sameR_any (ofF (someF xs ys true)) (ofF (someF xs ys true)) c0 c1 A0 A1 x h0 h1 (by have := of_len' (someF xs ys true); omega)).mono ?_
        rintro e y ⟨rfl, hg⟩
        exact ⟨_, rfl, hg, by rw [decide_eq_true rfl]⟩
      apply Exists.intro
      refine ⟨by simp only [Act.put, List.setIfInBounds_toArray, List.set_cons_succ, List.set_cons_zero]; rfl, ?_⟩
      refine WM.mono_pure rfl rfl ?_
      refine ⟨.bool true, fun x => ?_, ?_⟩
      · go_simp
      apply Exists.intro
      refine ⟨by simp only [Act.put, List.setIfInBounds_toArray, List.set_cons_succ, List.set_cons_zero]; rfl, ?_⟩
      refine WM.mono_pure rfl rfl ?_
      refine ⟨.bool true, fun x => ?_, ?_⟩
      · go_simp
      apply Exists.intro
      refine ⟨by simp only [Act.put, List.setIfInBounds_toArray, List.set_cons_succ, List.set_cons_zero]; rfl, ?_⟩
      iterate 2
        refine WM.mono_pure rfl rfl ?_
        apply Exists.intro
        refine ⟨fun x => ?_, ?_⟩
        · go_simp
          rfl
        apply Exists.intro
        refine ⟨by simp only [Act.put, List.setIfInBounds_toArray, List.set_cons_succ, List.set_cons_zero]; rfl, ?_⟩
      refine WM.mono_mem rfl rfl (fun x hD hF => ?_) (fun v92 => ?_)
      · have h1 := meet_any 37 false (.inr ⟨rfl, rfl⟩) xs ys c c' A B x hD.a hD.b (by have := HL.out; omega) (by have := HL2.out; omega)
        go_simp
        refine h1.mono ?_
        rintro e y ⟨g, rfl, _, hr, hg⟩
        exact ⟨_, rfl, hg, SlG.block hr⟩
      apply Exists.intro
      refine ⟨by simp only [Act.put, List.setIfInBounds_toArray, List.set_cons_succ, List.set_cons_zero]; rfl, ?_⟩
      refine WM.mono_mem rfl rfl (fun x hD hF => ?_) (fun v93 => ?_)
      · obtain ⟨A0, c0, e0, h0⟩ : SlG (ofF (someF xs ys false)) v92 x := (hF 32 _ 92 rfl rfl (by decide)).1
        subst e0
        have h1 := lawAs_any (ofF (someF xs ys false)) c0 A0 x h0 (by have := of_len' (someF xs ys false); omega)
        go_simp
        refine h1.mono ?_
        rintro e y ⟨u, rfl, hr, hg⟩
        exact ⟨_, rfl, hg, SlG.own hr⟩
      apply Exists.intro
      refine ⟨by simp only [Act.put, List.setIfInBounds_toArray, List.set_cons_succ, List.set_cons_zero]; rfl, ?_⟩
      iterate 2
        refine WM.mono_pure rfl rfl ?_
        apply Exists.intro
        refine ⟨fun x => ?_, ?_⟩
        · go_simp
          rfl
        apply Exists.intro
        refine ⟨by simp only [Act.put, List.setIfInBounds_toArray, List.set_cons_succ, List.set_cons_zero]; rfl, ?_⟩
      refine WM.mono_mem rfl rfl (fun x hD hF => ?_) (fun v96 => ?_)
      · have h1 := some_any ofF HOF.out xs ys cx cy X Y false x hD.p hD.q (by have := HL.out; omega) (by have := HL2.out; omega)
        go_simp
        refine h1.mono ?_
        rintro e y ⟨A', k, rfl, hr, _, hg⟩
        exact ⟨_, rfl, hg, A', k, rfl, hr⟩
      apply Exists.intro
      refine ⟨by simp only [Act.put, List.setIfInBounds_toArray, List.set_cons_succ, List.set_cons_zero]; rfl, ?_⟩
      refine WM.mono_val rfl rfl (fun x hD hF => ?_) ?_
      · obtain ⟨A0, c0, e0, h0⟩ : SlG (ofF (someF xs ys false)) v93 x := (hF 33 _ 93 rfl rfl (by decide)).1
        obtain ⟨A1, c1, e1, h1⟩ : SlG (ofF (someF xs ys false)) v96 x := (hF 36 _ 96 rfl rfl (by decide)).1
        subst e0
        subst e1
        go_simp
        refine (sameR_any (ofF (someF xs ys false)) (ofF (someF xs ys false)) c0 c1 A0 A1 x h0 h1 (by have := of_len' (someF xs ys false); omega)).mono ?_
        rintro e y ⟨rfl, hg⟩
        exact ⟨_, rfl, hg, by rw [decide_eq_true rfl]⟩
      apply Exists.intro
      refine ⟨by simp only [Act.put, List.setIfInBounds_toArray, List.set_cons_succ, List.set_cons_zero]; rfl, ?_⟩
      refine WM.mono_pure rfl rfl ?_
      refine ⟨.bool true, fun x => ?_, ?_⟩
      · go_simp
      apply Exists.intro
      refine ⟨by simp only [Act.put, List.setIfInBounds_toArray, List.set_cons_succ, List.set_cons_zero]; rfl, ?_⟩
      refine WM.mono_pure rfl rfl ?_
      refine ⟨.bool true, fun x => ?_, ?_⟩
      · go_simp
      apply Exists.intro
      refine ⟨by simp only [Act.put, List.setIfInBounds_toArray, List.set_cons_succ, List.set_cons_zero]; rfl, ?_⟩
      iterate 1
        refine WM.mono_pure rfl rfl ?_
        apply Exists.intro
        refine ⟨fun x => ?_, ?_⟩
        · go_simp
          rfl
        apply Exists.intro
        refine ⟨by simp only [Act.put, List.setIfInBounds_toArray, List.set_cons_succ, List.set_cons_zero]; rfl, ?_⟩
      refine WM.mono_val rfl rfl (fun x hD hF => ?_) ?_
      · have hl := run_loadVar_arr (P := Try.prog) x (w.heap.size + 1) 0 27 (arrOf .u64 8 f) _ (row_range (arr_row hD.vec)) Try.underlying27 rfl (by rw [arrOf_size]; exact size27)
        rw [exec_load 27 (.tmp 7) rfl (w.heap.size + 1) 0 rfl hl]
        exact ⟨Below.refl _ _, rfl, trivial⟩
      apply Exists.intro
      refine ⟨by simp only [Act.put, List.setIfInBounds_toArray, List.set_cons_succ, List.set_cons_zero]; rfl, ?_⟩
      refine WM.mono_mem rfl rfl (fun x hD hF => ?_) (fun v102 => ?_)
      · have h1 := dwithin_any f xs c A x hD.a (by have := HL.out; omega)
        go_simp
        refine h1.mono ?_
        rintro e y ⟨g, rfl, _, hr, hg⟩
        exact ⟨_, rfl, hg, SlG.block hr⟩
      apply Exists.intro
      refine ⟨by simp only [Act.put, List.setIfInBounds_toArray, List.set_cons_succ, List.set_cons_zero]; rfl, ?_⟩
      refine WM.mono_mem rfl rfl (fun x hD hF => ?_) (fun v103 => ?_)
      · obtain ⟨A0, c0, e0, h0⟩ : SlG (winF f xs) v102 x := (hF 42 _ 102 rfl rfl (by decide)).1
        subst e0
        have h1 := lawAs_any (winF f xs) c0 A0 x h0 (by have := HL.out; have h := List.length_filter_le (fun d : Dt => Vec.has f d.1 d.2) xs; unfold winF; omega)
        go_simp
        refine h1.mono ?_
        rintro e y ⟨u, rfl, hr, hg⟩
        exact ⟨_, rfl, hg, SlG.own hr⟩
      apply Exists.intro
      refine ⟨by simp only [Act.put, List.setIfInBounds_toArray, List.set_cons_succ, List.set_cons_zero]; rfl, ?_⟩
      iterate 1
        refine WM.mono_pure rfl rfl ?_
        apply Exists.intro
        refine ⟨fun x => ?_, ?_⟩
        · go_simp
          rfl
        apply Exists.intro
        refine ⟨by simp only [Act.put, List.setIfInBounds_toArray, List.set_cons_succ, List.set_cons_zero]; rfl, ?_⟩
      refine WM.mono_val rfl rfl (fun x hD hF => ?_) ?_
      · have hl := run_loadVar_arr (P := Try.prog) x (w.heap.size + 1) 0 27 (arrOf .u64 8 f) _ (row_range (arr_row hD.vec)) Try.underlying27 rfl (by rw [arrOf_size]; exact size27)
        rw [exec_load 27 (.tmp 7) rfl (w.heap.size + 1) 0 rfl hl]
        exact ⟨Below.refl _ _, rfl, trivial⟩
      apply Exists.intro
      refine ⟨by simp only [Act.put, List.setIfInBounds_toArray, List.set_cons_succ, List.set_cons_zero]; rfl, ?_⟩
      refine WM.mono_mem rfl rfl (fun x hD hF => ?_) (fun v106 => ?_)
      · have h1 := dwithinR_any xs cx X f x hD.p (by have := HL.out; omega)
        go_simp
        refine h1.mono ?_
        rintro e y ⟨u, rfl, hr, hg⟩
        exact ⟨_, rfl, hg, SlG.own hr⟩
      apply Exists.intro
      refine ⟨by simp only [Act.put, List.setIfInBounds_toArray, List.set_cons_succ, List.set_cons_zero]; rfl, ?_⟩
      refine WM.mono_val rfl rfl (fun x hD hF => ?_) ?_
      · obtain ⟨A0, c0, e0, h0⟩ : SlG (winF f xs) v103 x := (hF 43 _ 103 rfl rfl (by decide)).1
        obtain ⟨A1, c1, e1, h1⟩ : SlG (winF f xs) v106 x := (hF 46 _ 106 rfl rfl (by decide)).1
        subst e0
        subst e1
        go_simp
        refine (sameR_any (winF f xs) (winF f xs) c0 c1 A0 A1 x h0 h1 (by have := HL.out; have h := List.length_filter_le (fun d : Dt => Vec.has f d.1 d.2) xs; unfold winF; omega)).mono ?_
        rintro e y ⟨rfl, hg⟩
        exact ⟨_, rfl, hg, by rw [decide_eq_true rfl]⟩
      apply Exists.intro
      refine ⟨by simp only [Act.put, List.setIfInBounds_toArray, List.set_cons_succ, List.set_cons_zero]; rfl, ?_⟩
      refine WM.mono_pure rfl rfl ?_
      refine ⟨.bool true, fun x => ?_, ?_⟩
      · go_simp
      apply Exists.intro
      refine ⟨by simp only [Act.put, List.setIfInBounds_toArray, List.set_cons_succ, List.set_cons_zero]; rfl, ?_⟩
      iterate 1
        refine WM.mono_pure rfl rfl ?_
        apply Exists.intro
        refine ⟨fun x => ?_, ?_⟩
        · go_simp
          rfl
        apply Exists.intro
        refine ⟨by simp only [Act.put, List.setIfInBounds_toArray, List.set_cons_succ, List.set_cons_zero]; rfl, ?_⟩
      refine WM.mono_nil ?_
      intro x hD hF
      replace HI := Lib.hid hD
      clear hD hF
      go_simp
      have HX := Lib.hid HI.out
      go_wp2
      go_ret
      exact ⟨rfl, HX.out.below⟩
end Go.Proofs.Ytnpacjdgbmldlaa
