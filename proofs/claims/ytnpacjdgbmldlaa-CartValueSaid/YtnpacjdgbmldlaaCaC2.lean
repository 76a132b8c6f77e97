/- Texts of one kind, joined: E6, E7, E8, E9, Open. -/
import Derived.Deep.Slices
import Derived.Lib.LaidTab
import Derived.Test.YtnpacjdgbmldlaaCaC1
set_option linter.unusedVariables false
set_option linter.unusedSimpArgs false
/- What the statements of dots ask of fixed calls: it holds. -/
namespace Go.Proofs.Ytnpacjdgbmldlaa
open Go.RowKit Go.Shelf Go.Lib Go.Sort Wr

theorem of_four : ofF [(2, 3), (1, 1), (2, 3), (0, 0)] = [(1, 1), (2, 3)] := by decide
theorem minus_two : ofF (someF [(1, 1), (2, 3)] [(2, 3)] false) = [(1, 1)] := by decide
theorem join_two : ofF ([(1, 1)] ++ [(1, 1), (2, 3)]) = [(1, 1), (2, 3)] := by decide
theorem meet_two : ofF (someF [(1, 1)] [(1, 1), (2, 3)] true) = [(1, 1)] := by decide
def fOf (l : List Nat) : Nat → Nat := fun i => l.getD i 0
theorem win_two : winF (fOf [1]) [(1, 1), (2, 3)] = [(1, 1)] := by decide
theorem set_two : isSet [(1, 1), (2, 3)] = true := by decide
theorem whole_two : isWhole [(1, 1), (2, 3)] = false := by decide
theorem whole_one : isWhole [(1, 1)] = true := by decide
theorem span_two : ∀ i, i < 8 → spanF [(1, 1), (2, 3)] i = fOf [1, 3] i := by decide

/-- The two dots, and what the call has laid of its own. -/
structure AL (w : World) (x : World) : Prop where
  a : DotAt x w.heap.size 25 1 1
  b : DotAt x (w.heap.size + 1) 25 2 3
  below : Below w.heap.size w x
theorem AL.then_ {w x y : World} (h : AL w x) (hb : Below x.heap.size x y) : AL w y := ⟨h.a.below hb h.a.lt, h.b.below hb h.b.lt, h.below.trans (hb.mono h.below.size)⟩

/-- All that the last region looks at. -/
structure S4 (w : World) (gL gM gN : Nat) (x : World) : Prop where
  al : AL w x
  l : x.heap[gL]? = some (.cells (dots2 [(1, 1), (2, 3)]).toArray 25 (0, 0))
  m : x.heap[gM]? = some (.cells (dots2 [(1, 1)]).toArray 25 (0, 0))
  n : x.heap[gN]? = some (.cells (dots2 [(1, 1)]).toArray 25 (0, 0))
theorem S4.then_ {w x y : World} {gL gM gN : Nat} (hb : Below x.heap.size x y) (h : S4 w gL gM gN x) : S4 w gL gM gN y := ⟨h.al.then_ hb, (hb.block _ (lt_of_row h.l)).trans h.l, (hb.block _ (lt_of_row h.m)).trans h.m, (hb.block _ (lt_of_row h.n)).trans h.n⟩
theorem S4.drew {w x : World} {gL gM gN : Nat} (I : S4 w gL gM gN x) : S4 w gL gM gN x.drew := S4.then_ (x := x) (y := x.drew) ⟨rfl, rfl, rfl, Nat.le_refl _, fun _ _ => rfl⟩ I
theorem S4.dl {w x : World} {gL gM gN : Nat} (I : S4 w gL gM gN x) : Dots x (· < x.heap.size) (some ⟨gL, 0, none⟩) [(1, 1), (2, 3)] := block_dots I.l (lt_of_row I.l)
theorem S4.dm {w x : World} {gL gM gN : Nat} (I : S4 w gL gM gN x) : Dots x (· < x.heap.size) (some ⟨gM, 0, none⟩) [(1, 1)] := block_dots I.m (lt_of_row I.m)
theorem S4.dn {w x : World} {gL gM gN : Nat} (I : S4 w gL gM gN x) : Dots x (· < x.heap.size) (some ⟨gN, 0, none⟩) [(1, 1)] := block_dots I.n (lt_of_row I.n)
/-- A slice of n elements. -/
def SlN (n : Nat) (v : Value) (_ : World) : Prop := ∃ g, v = .slice (some ⟨g, 0, none⟩) n n
theorem lt2 : ∀ d ∈ ([(1, 1), (2, 3)] : List Dt), d.2 < 18446744073709551616 := by decide
theorem lt1 : ∀ d ∈ ([(1, 1)] : List Dt), d.2 < 18446744073709551616 := by decide
theorem eq25 (w : World) : (Op.equalIn 10000 25 (Value.agg #[Value.int IntKind.i64 1, Value.int IntKind.u64 1]) (Value.agg #[Value.int IntKind.i64 1, Value.int IntKind.u64 1])).run Try.prog w = .ok true w := by go_simp
theorem exec_eql25 {ev : Operand → Value} {o : Oper} {w : World} (x y : Operand) (ho : o.op = .binOp .eql 25 x y 25) (hx : ev x = dotV 1 1) (hy : ev y = dotV 1 1) : (execOp ev o).run Try.prog w = .ok (.value (.bool true)) w := by
  unfold execOp
  simp only [ho, hx, hy]
  simp [eqGuard, Sem.run_bind, run_eql_struct, eq25, Result.andThen]
theorem exec_eql27 {ev : Operand → Value} {o : Oper} {w : World} (x y : Operand) (f : Nat → Nat) (ho : o.op = .binOp .eql 27 x y 27) (hx : ev x = vecV f) (hy : ev y = vecV f) : (execOp ev o).run Try.prog w = .ok (.value (.bool true)) w := by
  unfold execOp
  simp only [ho, hx, hy]
  have h := run_eql_arr (P := Try.prog) 27 23 8 .u64 .u64 Try.underlying27 Try.underlying23 size23 (fun w => agg23 w) f f w
  simp only [implies_true, decide_true] at h
  simp [eqGuard, Sem.run_bind, h, Result.andThen]
theorem head_range {x : World} {g : Nat} {d : Dt} {l : List Dt} (h : x.heap[g]? = some (.cells (dots2 (d :: l)).toArray 25 (0, 0))) : rangeA x g 0 (dotC d) := fun j v hv => by
  rw [cell_of_row _ _ _ _ _ _ h, Nat.zero_add]
  match j, hv with
  | 0, hv => exact hv
  | 1, hv => exact hv
theorem span_vec : vecV (spanF [(1, 1), (2, 3)]) = vecV (fOf [1, 3]) := by
  unfold vecV
  rw [arrOf_congr span_two]

set_option maxRecDepth 100000 in
set_option maxHeartbeats 8000000 in
theorem alive4_any (w : World) : Calls Try.prog 18 #[] w fun e w' => e = .returned (.bool true) ∧ Below w.heap.size w w' := by
  obtain ⟨y0, hy0⟩ : ∃ y0, y0 = (w.alloc (.cells #[.int .i64 0, .int .u64 0] 25)).alloc (.cells #[.int .i64 0, .int .u64 0] 25) := ⟨_, rfl⟩
  have hs1 : (w.alloc (.cells #[.int .i64 0, .int .u64 0] 25)).heap.size = w.heap.size + 1 := by simp
  have z0 : y0.heap[w.heap.size]? = some (.cells #[.int .i64 0, .int .u64 0] 25 (0, 0)) := by rw [hy0]; exact (Below.heap_alloc _ _ _ (by simp)).trans (heap_alloc_new _ _)
  have z1 : y0.heap[w.heap.size + 1]? = some (.cells #[.int .i64 0, .int .u64 0] 25 (0, 0)) := by rw [hy0, ← hs1]; exact heap_alloc_new _ _
  have zb : Below w.heap.size w y0 := by rw [hy0]; exact below2 _ _ _
  have z2 : (y0.setRow w.heap.size (dotC (1, 1))).heap[w.heap.size + 1]? = some (.cells #[.int .i64 0, .int .u64 0] 25 (0, 0)) := (setRow_other _ _ _ _ (by omega)).trans z1
  obtain ⟨x2, hx2⟩ : ∃ x2, x2 = (y0.setRow w.heap.size (dotC (1, 1))).setRow (w.heap.size + 1) (dotC (2, 3)) := ⟨_, rfl⟩
  have hA : AL w x2 := by
    rw [hx2]
    exact ⟨(setRow_other _ _ _ _ (by omega)).trans (setRow_heap _ _ _ _ _ _ z0), setRow_heap _ _ _ _ _ _ z2, below_setRow' (below_setRow' zb (Nat.le_refl _) _) (by omega) _⟩
  have HA := Lib.hid hA
  have HX := Lib.hid hx2
  have HY := Lib.hid hy0
  have Z0 := Lib.hid z0
  have Z2 := Lib.hid z2
  have s25 : ∀ d, Hid ((Try.prog.info? 25).map (·.size) = some (dotC d).size) := fun d => Lib.hid (dot_size25 d)
  have hsl : (x2.alloc (.cells (dots2 [(2, 3), (1, 1), (2, 3), (0, 0)]).toArray 25)).heap.size = x2.heap.size + 1 := by simp
  have HO := Lib.hid (dof_any [(2, 3), (1, 1), (2, 3), (0, 0)] 4 (some ⟨x2.heap.size, 0, none⟩) (x2.alloc (.cells (dots2 [(2, 3), (1, 1), (2, 3), (0, 0)]).toArray 25)) (block_dots (heap_alloc_new _ _) (by omega)) (by simp))
  rw [setF_rt, of_four] at HO
  have HAA := Lib.hid (hA.then_ (below1 x2 (.cells (dots2 [(2, 3), (1, 1), (2, 3), (0, 0)]).toArray 25)))
  clear hA hx2 hs1 hy0 z0 z1 zb z2 hsl
  go_enter Try.func18, Try.ntmps18
  go_wp2_with (first
    | (rw [← HY.out]; refine wpList_store_row rfl 25 _ _ rfl w.heap.size (dotC (1, 1)) rfl rfl 25 _ Z0.out (s25 _).out rfl (dotC_one _) ?_)
    | (refine wpList_store_row rfl 25 _ _ rfl (w.heap.size + 1) (dotC (2, 3)) rfl rfl 25 _ Z2.out (s25 _).out rfl (dotC_one _) ?_; rw [← HX.out])
    | (refine wpList_load_arr rfl 25 _ rfl w.heap.size 0 rfl (dotC (1, 1)) _ HA.out.a.range Try.underlying25 rfl (s25 _).out ?_)
    | (refine wpList_load_arr rfl 25 _ rfl (w.heap.size + 1) 0 rfl (dotC (2, 3)) _ HA.out.b.range Try.underlying25 rfl (s25 _).out ?_)
    | fail)
  refine HO.out.mono ?_
  rintro e w3 ⟨gL, rfl, hgL, hL, hb3⟩
  have HA3 := Lib.hid (HAA.out.then_ hb3)
  have HL3 := Lib.hid hL
  clear hgL hL hb3 HO HAA Z0 Z2 HY HX HA
  have hLl := lt_of_row HL3.out
  have HAA3 := Lib.hid (HA3.out.then_ (below1 w3 (.cells (dotC (2, 3)) 25)))
  have HM := Lib.hid (meet_any 37 false (.inr ⟨rfl, rfl⟩) [(1, 1), (2, 3)] [(2, 3)] 2 1 (some ⟨gL, 0, none⟩) (some ⟨w3.heap.size, 0, none⟩) (w3.alloc (.cells (dotC (2, 3)) 25))
    (block_dots ((Below.heap_alloc _ _ _ hLl).trans HL3.out) (by simp; omega)) (block_dots (ls := [(2, 3)]) (heap_alloc_new _ _) (by simp)) (by simp) (by simp))
  rw [minus_two] at HM
  have HLA : Hid ((w3.alloc (.cells (dotC (2, 3)) 25)).heap[gL]? = some (.cells (dots2 [(1, 1), (2, 3)]).toArray 25 (0, 0))) := Lib.hid ((Below.heap_alloc _ _ _ hLl).trans HL3.out)
  clear hLl
  go_wp2_with (first
    | (refine wpList_load_arr rfl 25 _ rfl (w.heap.size + 1) 0 rfl (dotC (2, 3)) _ HA3.out.b.range Try.underlying25 rfl (s25 _).out ?_)
    | fail)
  refine HM.out.mono ?_
  rintro e w4 ⟨gM, rfl, hgM, hMM, hb4⟩
  have HA4 := Lib.hid (HAA3.out.then_ hb4)
  have HL4 : Hid (w4.heap[gL]? = some (.cells (dots2 [(1, 1), (2, 3)]).toArray 25 (0, 0))) := Lib.hid ((hb4.block _ (lt_of_row HLA.out)).trans HLA.out)
  have HM4 := Lib.hid hMM
  clear hgM hMM hb4 HM HAA3 HLA HA3 HL3
  obtain ⟨x5, hx5⟩ : ∃ x5, x5 = w4.alloc (.cells #[.slice none 0 0] 96) := ⟨_, rfl⟩
  have hW5 : WAt x5 w4.heap.size w4.heap.size (.slice none 0 0) [] := by rw [hx5]; exact ⟨heap_alloc_new _ _, World.ownsRow_nil _ _ _ _, Nat.le_refl _⟩
  have hb5 : Below w4.heap.size w4 x5 := by rw [hx5]; exact below1 _ _
  have hML := lt_of_row HM4.out
  have hM5 := (hb5.block gM hML).trans HM4.out
  have HP := Lib.hid (dput1 x5 w4.heap.size w4.heap.size gM 1 (.slice none 0 0) [] hW5 (by simp) hML hM5)
  have HX5 := Lib.hid hx5
  have HW5 := Lib.hid hW5
  clear hx5 hML hM5 hb5 hW5
  go_wp2_with (rw [← HX5.out]; fail)
  rw [← HX5.out]
  refine HP.out.mono ?_
  rintro e w6 ⟨rfl, v6, hw6, ht6⟩
  have hb46 : Below w4.heap.size w4 w6 := by
    have h := ht6.below (B := w4.heap.size) (Nat.le_refl _) (fun k hk => by simp [Value.ownBlock] at hk) (by rw [HX5.out]; simp)
    exact (by rw [HX5.out]; exact below1 _ _ : Below w4.heap.size w4 x5).trans h
  have HA6 := Lib.hid (HA4.out.then_ hb46)
  have HL6 : Hid (w6.heap[gL]? = some (.cells (dots2 [(1, 1), (2, 3)]).toArray 25 (0, 0))) := Lib.hid ((hb46.block _ (lt_of_row HL4.out)).trans HL4.out)
  have HM6 : Hid (w6.heap[gM]? = some (.cells (dots2 [(1, 1)]).toArray 25 (0, 0))) := Lib.hid ((hb46.block _ (lt_of_row HM4.out)).trans HM4.out)
  obtain ⟨bs, hbs⟩ : ∃ bs, bs = [] ++ numB 1 ++ (numB 1 ++ numB 1) := ⟨_, rfl⟩
  rw [← hbs] at hw6
  have hz : ∀ z, z ∈ bs → z < 256 := by rw [hbs]; decide
  have hbl : bs.length ≤ 1000000 := by rw [hbs]; decide
  have HBS : Hid (bs.drop 0 = numB 1 ++ (numB 1 ++ (numB 1 ++ []))) := Lib.hid (by rw [hbs]; decide)
  have HB := Lib.hid (bytes_any w6 w4.heap.size w4.heap.size v6 bs hw6 hz hbl)
  have HZ := Lib.hid hz
  have HBL := Lib.hid hbl
  clear hw6 ht6 hb46 hbs hz hbl HP HX5 HW5 HA4 HL4 HM4
  go_wp2_with fail
  refine HB.out.mono ?_
  rintro e w7 ⟨u7, rfl, ho7, hb7⟩
  obtain ⟨A7, c7, rfl, hn7, hB7⟩ := own_bytes ho7 HZ.out
  have HA7 := Lib.hid (HA6.out.then_ hb7)
  have HL7 : Hid (w7.heap[gL]? = some (.cells (dots2 [(1, 1), (2, 3)]).toArray 25 (0, 0))) := Lib.hid ((hb7.block _ (lt_of_row HL6.out)).trans HL6.out)
  have HM7 : Hid (w7.heap[gM]? = some (.cells (dots2 [(1, 1)]).toArray 25 (0, 0))) := Lib.hid ((hb7.block _ (lt_of_row HM6.out)).trans HM6.out)
  have HF := Lib.hid (from_any bs c7 A7 w7 hB7 HBL.out)
  clear ho7 hb7 hn7 hB7 HB HA6 HL6 HM6
  go_wp2_with fail
  refine HF.out.mono ?_
  rintro e w8 ⟨R, A8, c8, rfl, hr8, hb8, hRl⟩
  have HA8 := Lib.hid (HA7.out.then_ hb8)
  have HL8 : Hid (w8.heap[gL]? = some (.cells (dots2 [(1, 1), (2, 3)]).toArray 25 (0, 0))) := Lib.hid ((hb8.block _ (lt_of_row HL7.out)).trans HL7.out)
  have HM8 : Hid (w8.heap[gM]? = some (.cells (dots2 [(1, 1)]).toArray 25 (0, 0))) := Lib.hid ((hb8.block _ (lt_of_row HM7.out)).trans HM7.out)
  have HRL : Hid (w7.heap.size ≤ R ∧ gL < w7.heap.size ∧ gM < w7.heap.size ∧ w.heap.size + 2 ≤ w7.heap.size) := Lib.hid ⟨hRl, lt_of_row HL7.out, lt_of_row HM7.out, by have := HA7.out.b.lt; omega⟩
  have HT := Lib.hid (dtake1 w8 R A8 c8 bs [] 0 hr8 HBL.out HBS.out)
  clear hr8 hb8 hRl HF HA7 HL7 HM7
  go_wp2_with fail
  refine HT.out.mono ?_
  rintro e w9 ⟨gN, rfl, hgN, hN9, hg9⟩
  have hk9 : ∀ k, k < w8.heap.size → k ≠ R → w9.heap[k]? = w8.heap[k]? := fun k hk hne => hg9.block k hk (fun e => hne (by injection e))
  have HA9 : Hid (AL w w9) := Lib.hid ⟨(hk9 _ HA8.out.a.lt (by have := HRL.out; omega)).trans HA8.out.a, (hk9 _ HA8.out.b.lt (by have := HRL.out; omega)).trans HA8.out.b, HA8.out.below.grown hg9 HA8.out.below.size (fun k e => by cases e; have := HRL.out; omega)⟩
  have HL9 : Hid (w9.heap[gL]? = some (.cells (dots2 [(1, 1), (2, 3)]).toArray 25 (0, 0))) := Lib.hid ((hk9 _ (lt_of_row HL8.out) (by have := HRL.out; omega)).trans HL8.out)
  have HM9 : Hid (w9.heap[gM]? = some (.cells (dots2 [(1, 1)]).toArray 25 (0, 0))) := Lib.hid ((hk9 _ (lt_of_row HM8.out) (by have := HRL.out; omega)).trans HM8.out)
  have HN9 := Lib.hid hN9
  clear hgN hN9 hg9 hk9 HT HA8 HL8 HM8 HRL
  have HI : Hid (S4 w gL gM gN w9) := Lib.hid ⟨HA9.out, HL9.out, HM9.out, HN9.out⟩
  clear HA9 HL9 HM9 HN9 s25
  go_wp2_with fail
  apply WM.relist
  · simp only [WM.app_cons, WM.app_nil]; rfl
  refine WM.wp_region_kinds (fun _ x y => Below x.heap.size x y) (fun _ x => S4 w gL gM gN x) (fun x => S4 w gL gM gN x)
    [(6, .val (dotV 1 1) fun _ => True), (7, .val (dotV 1 1) fun _ => True), (12, .val (.bool true) fun _ => True), (16, .val (.bool false) fun _ => True), (21, .val (.bool true) fun _ => True), (26, .val (.bool true) fun _ => True), (35, .val (vecV (fOf [1, 3])) fun _ => True), (41, .val (dotV 2 3) fun _ => True), (42, .val (.bool true) fun _ => True), (47, .mem (SlN 1)), (48, .val (.int .i64 1) fun _ => True), (54, .mem (SlN 2)), (55, .val (.int .i64 2) fun _ => True), (61, .mem (SlN 1)), (62, .val (.int .i64 1) fun _ => True)] (by kernel_rfl) (by kernel_rfl) (fun _ _ _ hb h => S4.then_ hb h) (fun _ _ _ _ _ hb h => S4.then_ hb h) ?_ HI.out.drew (fun _ => HI.out.drew) ?_
  · intro z hz
    simp only [List.mem_cons, List.mem_nil_iff, or_false] at hz
    rcases hz with rfl | rfl | rfl | rfl | rfl | rfl | rfl | rfl | rfl | rfl | rfl | rfl | rfl | rfl | rfl <;> first | exact fun _ _ _ _ _ _ => trivial | exact fun _ _ _ _ _ _ h => h
  iterate 3
    refine WM.mono_pure rfl rfl ?_
    apply Exists.intro
    refine ⟨fun x => ?_, ?_⟩
    · go_simp
      rfl
    apply Exists.intro
    refine ⟨by simp only [Act.put, List.setIfInBounds_toArray, List.set_cons_succ, List.set_cons_zero]; rfl, ?_⟩
  refine WM.mono_pure rfl rfl ?_
  refine ⟨.bool true, fun x => ?_, ?_⟩
  · go_simp
  apply Exists.intro
  refine ⟨by simp only [Act.put, List.setIfInBounds_toArray, List.set_cons_succ, List.set_cons_zero]; rfl, ?_⟩
  iterate 2
    refine WM.mono_pure rfl rfl ?_
    apply Exists.intro
    refine ⟨fun x => ?_, ?_⟩
    · go_simp
      rfl
    apply Exists.intro
    refine ⟨by simp only [Act.put, List.setIfInBounds_toArray, List.set_cons_succ, List.set_cons_zero]; rfl, ?_⟩
  refine WM.mono_val rfl rfl (fun x hD hF => ?_) ?_
  · have hl := run_loadVar_arr (P := Try.prog) x gL 0 25 (dotC (1, 1)) _ (head_range hD.l) Try.underlying25 rfl (dot_size25 _)
    rw [exec_load 25 (.tmp 33) rfl gL 0 rfl hl]
    exact ⟨Below.refl _ _, rfl, trivial⟩
  apply Exists.intro
  refine ⟨by simp only [Act.put, List.setIfInBounds_toArray, List.set_cons_succ, List.set_cons_zero]; rfl, ?_⟩
  refine WM.mono_val rfl rfl (fun x hD hF => ?_) ?_
  · have hl := run_loadVar_arr (P := Try.prog) x w.heap.size 0 25 (dotC (1, 1)) _ hD.al.a.range Try.underlying25 rfl (dot_size25 _)
    rw [exec_load 25 (.tmp 1) rfl w.heap.size 0 rfl hl]
    exact ⟨Below.refl _ _, rfl, trivial⟩
  apply Exists.intro
  refine ⟨by simp only [Act.put, List.setIfInBounds_toArray, List.set_cons_succ, List.set_cons_zero]; rfl, ?_⟩
  refine WM.mono_pure rfl rfl ?_
  refine ⟨.bool true, fun x => ?_, ?_⟩
  · exact exec_eql25 (.tmp 34) (.tmp 35) rfl rfl rfl
  apply Exists.intro
  refine ⟨by simp only [Act.put, List.setIfInBounds_toArray, List.set_cons_succ, List.set_cons_zero]; rfl, ?_⟩
  refine WM.mono_pure rfl rfl ?_
  refine ⟨.bool true, fun x => ?_, ?_⟩
  · go_simp
  apply Exists.intro
  refine ⟨by simp only [Act.put, List.setIfInBounds_toArray, List.set_cons_succ, List.set_cons_zero]; rfl, ?_⟩
  refine WM.mono_pure rfl rfl ?_
  refine ⟨.bool true, fun x => ?_, ?_⟩
  · go_simp
  apply Exists.intro
  refine ⟨by simp only [Act.put, List.setIfInBounds_toArray, List.set_cons_succ, List.set_cons_zero]; rfl, ?_⟩
  iterate 1
    refine WM.mono_pure rfl rfl ?_
    apply Exists.intro
    refine ⟨fun x => ?_, ?_⟩
    · go_simp
      rfl
    apply Exists.intro
    refine ⟨by simp only [Act.put, List.setIfInBounds_toArray, List.set_cons_succ, List.set_cons_zero]; rfl, ?_⟩
  refine WM.mono_val rfl rfl (fun x hD hF => ?_) ?_
  · go_simp
    refine (dright_any [(1, 1), (2, 3)] 2 (some ⟨gL, 0, none⟩) x hD.dl (by simp)).mono ?_
    rintro e y ⟨rfl, hg⟩
    exact ⟨_, rfl, hg, by rw [set_two]⟩
  apply Exists.intro
  refine ⟨by simp only [Act.put, List.setIfInBounds_toArray, List.set_cons_succ, List.set_cons_zero]; rfl, ?_⟩
  refine WM.mono_pure rfl rfl ?_
  refine ⟨.bool true, fun x => ?_, ?_⟩
  · go_simp
  apply Exists.intro
  refine ⟨by simp only [Act.put, List.setIfInBounds_toArray, List.set_cons_succ, List.set_cons_zero]; rfl, ?_⟩
  refine WM.mono_pure rfl rfl ?_
  refine ⟨.bool true, fun x => ?_, ?_⟩
  · go_simp
  apply Exists.intro
  refine ⟨by simp only [Act.put, List.setIfInBounds_toArray, List.set_cons_succ, List.set_cons_zero]; rfl, ?_⟩
  iterate 1
    refine WM.mono_pure rfl rfl ?_
    apply Exists.intro
    refine ⟨fun x => ?_, ?_⟩
    · go_simp
      rfl
    apply Exists.intro
    refine ⟨by simp only [Act.put, List.setIfInBounds_toArray, List.set_cons_succ, List.set_cons_zero]; rfl, ?_⟩
  refine WM.mono_val rfl rfl (fun x hD hF => ?_) ?_
  · go_simp
    refine (dwhole_any [(1, 1), (2, 3)] 2 (some ⟨gL, 0, none⟩) x hD.dl (by simp) lt2).mono ?_
    rintro e y ⟨rfl, hg⟩
    exact ⟨_, rfl, hg, by rw [whole_two]⟩
  apply Exists.intro
  refine ⟨by simp only [Act.put, List.setIfInBounds_toArray, List.set_cons_succ, List.set_cons_zero]; rfl, ?_⟩
  refine WM.mono_pure rfl rfl ?_
  refine ⟨.bool true, fun x => ?_, ?_⟩
  · go_simp
  apply Exists.intro
  refine ⟨by simp only [Act.put, List.setIfInBounds_toArray, List.set_cons_succ, List.set_cons_zero]; rfl, ?_⟩
  refine WM.mono_pure rfl rfl ?_
  refine ⟨.bool true, fun x => ?_, ?_⟩
  · go_simp
  apply Exists.intro
  refine ⟨by simp only [Act.put, List.setIfInBounds_toArray, List.set_cons_succ, List.set_cons_zero]; rfl, ?_⟩
  refine WM.mono_pure rfl rfl ?_
  refine ⟨.bool true, fun x => ?_, ?_⟩
  · go_simp
  apply Exists.intro
  refine ⟨by simp only [Act.put, List.setIfInBounds_toArray, List.set_cons_succ, List.set_cons_zero]; rfl, ?_⟩
  iterate 1
    refine WM.mono_pure rfl rfl ?_
    apply Exists.intro
    refine ⟨fun x => ?_, ?_⟩
    · go_simp
      rfl
    apply Exists.intro
    refine ⟨by simp only [Act.put, List.setIfInBounds_toArray, List.set_cons_succ, List.set_cons_zero]; rfl, ?_⟩
  refine WM.mono_val rfl rfl (fun x hD hF => ?_) ?_
  · go_simp
    refine (dwhole_any [(1, 1)] 1 (some ⟨gM, 0, none⟩) x hD.dm (by simp) lt1).mono ?_
    rintro e y ⟨rfl, hg⟩
    exact ⟨_, rfl, hg, by rw [whole_one]⟩
  apply Exists.intro
  refine ⟨by simp only [Act.put, List.setIfInBounds_toArray, List.set_cons_succ, List.set_cons_zero]; rfl, ?_⟩
  refine WM.mono_pure rfl rfl ?_
  refine ⟨.bool true, fun x => ?_, ?_⟩
  · go_simp
  apply Exists.intro
  refine ⟨by simp only [Act.put, List.setIfInBounds_toArray, List.set_cons_succ, List.set_cons_zero]; rfl, ?_⟩
  refine WM.mono_pure rfl rfl ?_
  refine ⟨.bool true, fun x => ?_, ?_⟩
  · go_simp
  apply Exists.intro
  refine ⟨by simp only [Act.put, List.setIfInBounds_toArray, List.set_cons_succ, List.set_cons_zero]; rfl, ?_⟩
  iterate 2
    refine WM.mono_pure rfl rfl ?_
    apply Exists.intro
    refine ⟨fun x => ?_, ?_⟩
    · go_simp
      rfl
    apply Exists.intro
    refine ⟨by simp only [Act.put, List.setIfInBounds_toArray, List.set_cons_succ, List.set_cons_zero]; rfl, ?_⟩
  refine WM.mono_val rfl rfl (fun x hD hF => ?_) ?_
  · go_simp
    refine (dsame_any [(1, 1)] [(1, 1)] 1 1 (some ⟨gM, 0, none⟩) (some ⟨gN, 0, none⟩) x hD.dm hD.dn (by simp)).mono ?_
    rintro e y ⟨rfl, hg⟩
    exact ⟨_, rfl, hg, by simp⟩
  apply Exists.intro
  refine ⟨by simp only [Act.put, List.setIfInBounds_toArray, List.set_cons_succ, List.set_cons_zero]; rfl, ?_⟩
  refine WM.mono_pure rfl rfl ?_
  refine ⟨.bool true, fun x => ?_, ?_⟩
  · go_simp
  apply Exists.intro
  refine ⟨by simp only [Act.put, List.setIfInBounds_toArray, List.set_cons_succ, List.set_cons_zero]; rfl, ?_⟩
  refine WM.mono_pure rfl rfl ?_
  refine ⟨.bool true, fun x => ?_, ?_⟩
  · go_simp
  apply Exists.intro
  refine ⟨by simp only [Act.put, List.setIfInBounds_toArray, List.set_cons_succ, List.set_cons_zero]; rfl, ?_⟩
  iterate 2
    refine WM.mono_pure rfl rfl ?_
    apply Exists.intro
    refine ⟨fun x => ?_, ?_⟩
    · go_simp
      rfl
    apply Exists.intro
    refine ⟨by simp only [Act.put, List.setIfInBounds_toArray, List.set_cons_succ, List.set_cons_zero]; rfl, ?_⟩
  refine WM.mono_pure rfl rfl ?_
  refine ⟨.bool true, fun x => ?_, ?_⟩
  · go_simp
  apply Exists.intro
  refine ⟨by simp only [Act.put, List.setIfInBounds_toArray, List.set_cons_succ, List.set_cons_zero]; rfl, ?_⟩
  refine WM.mono_pure rfl rfl ?_
  refine ⟨.bool true, fun x => ?_, ?_⟩
  · go_simp
  apply Exists.intro
  refine ⟨by simp only [Act.put, List.setIfInBounds_toArray, List.set_cons_succ, List.set_cons_zero]; rfl, ?_⟩
  refine WM.mono_pure rfl rfl ?_
  refine ⟨.bool true, fun x => ?_, ?_⟩
  · go_simp
  apply Exists.intro
  refine ⟨by simp only [Act.put, List.setIfInBounds_toArray, List.set_cons_succ, List.set_cons_zero]; rfl, ?_⟩
  iterate 1
    refine WM.mono_pure rfl rfl ?_
    apply Exists.intro
    refine ⟨fun x => ?_, ?_⟩
    · go_simp
      rfl
    apply Exists.intro
    refine ⟨by simp only [Act.put, List.setIfInBounds_toArray, List.set_cons_succ, List.set_cons_zero]; rfl, ?_⟩
  refine WM.mono_val rfl rfl (fun x hD hF => ?_) ?_
  · go_simp
    refine (dspan_any [(1, 1), (2, 3)] 2 (some ⟨gL, 0, none⟩) x hD.dl (by simp)).mono ?_
    rintro e y ⟨rfl, hg⟩
    exact ⟨_, rfl, hg, by rw [span_vec]⟩
  apply Exists.intro
  refine ⟨by simp only [Act.put, List.setIfInBounds_toArray, List.set_cons_succ, List.set_cons_zero]; rfl, ?_⟩
  refine WM.mono_pure rfl rfl ?_
  refine ⟨vecV (fOf [1, 3]), fun x => ?_, ?_⟩
  · go_simp
    rfl
  apply Exists.intro
  refine ⟨by simp only [Act.put, List.setIfInBounds_toArray, List.set_cons_succ, List.set_cons_zero]; rfl, ?_⟩
  refine WM.mono_pure rfl rfl ?_
  refine ⟨.bool true, fun x => ?_, ?_⟩
  · exact exec_eql27 (.tmp 63) (.tmp 64) (fOf [1, 3]) rfl rfl rfl
  apply Exists.intro
  refine ⟨by simp only [Act.put, List.setIfInBounds_toArray, List.set_cons_succ, List.set_cons_zero]; rfl, ?_⟩
  refine WM.mono_pure rfl rfl ?_
  refine ⟨.bool true, fun x => ?_, ?_⟩
  · go_simp
  apply Exists.intro
  refine ⟨by simp only [Act.put, List.setIfInBounds_toArray, List.set_cons_succ, List.set_cons_zero]; rfl, ?_⟩
  refine WM.mono_pure rfl rfl ?_
  refine ⟨.bool true, fun x => ?_, ?_⟩
  · go_simp
  apply Exists.intro
  refine ⟨by simp only [Act.put, List.setIfInBounds_toArray, List.set_cons_succ, List.set_cons_zero]; rfl, ?_⟩
  iterate 1
    refine WM.mono_pure rfl rfl ?_
    apply Exists.intro
    refine ⟨fun x => ?_, ?_⟩
    · go_simp
      rfl
    apply Exists.intro
    refine ⟨by simp only [Act.put, List.setIfInBounds_toArray, List.set_cons_succ, List.set_cons_zero]; rfl, ?_⟩
  refine WM.mono_val rfl rfl (fun x hD hF => ?_) ?_
  · have hl := run_loadVar_arr (P := Try.prog) x (w.heap.size + 1) 0 25 (dotC (2, 3)) _ hD.al.b.range Try.underlying25 rfl (dot_size25 _)
    rw [exec_load 25 (.tmp 2) rfl (w.heap.size + 1) 0 rfl hl]
    exact ⟨Below.refl _ _, rfl, trivial⟩
  apply Exists.intro
  refine ⟨by simp only [Act.put, List.setIfInBounds_toArray, List.set_cons_succ, List.set_cons_zero]; rfl, ?_⟩
  refine WM.mono_val rfl rfl (fun x hD hF => ?_) ?_
  · go_simp
    refine (dhas_any [(1, 1), (2, 3)] 2 (some ⟨gL, 0, none⟩) (2, 3) x hD.dl (by simp)).mono ?_
    rintro e y ⟨rfl, hg⟩
    exact ⟨_, rfl, hg, by simp⟩
  apply Exists.intro
  refine ⟨by simp only [Act.put, List.setIfInBounds_toArray, List.set_cons_succ, List.set_cons_zero]; rfl, ?_⟩
  refine WM.mono_pure rfl rfl ?_
  refine ⟨.bool true, fun x => ?_, ?_⟩
  · go_simp
  apply Exists.intro
  refine ⟨by simp only [Act.put, List.setIfInBounds_toArray, List.set_cons_succ, List.set_cons_zero]; rfl, ?_⟩
  refine WM.mono_pure rfl rfl ?_
  refine ⟨.bool true, fun x => ?_, ?_⟩
  · go_simp
  apply Exists.intro
  refine ⟨by simp only [Act.put, List.setIfInBounds_toArray, List.set_cons_succ, List.set_cons_zero]; rfl, ?_⟩
  iterate 1
    refine WM.mono_pure rfl rfl ?_
    apply Exists.intro
    refine ⟨fun x => ?_, ?_⟩
    · go_simp
      rfl
    apply Exists.intro
    refine ⟨by simp only [Act.put, List.setIfInBounds_toArray, List.set_cons_succ, List.set_cons_zero]; rfl, ?_⟩
  refine WM.mono_pure rfl rfl ?_
  refine ⟨vecV (fOf [1]), fun x => ?_, ?_⟩
  · go_simp
    rfl
  apply Exists.intro
  refine ⟨by simp only [Act.put, List.setIfInBounds_toArray, List.set_cons_succ, List.set_cons_zero]; rfl, ?_⟩
  refine WM.mono_mem rfl rfl (fun x hD hF => ?_) (fun v75 => ?_)
  · have h1 := dwithin_any (fOf [1]) [(1, 1), (2, 3)] 2 (some ⟨gL, 0, none⟩) x hD.dl (by simp)
    rw [win_two] at h1
    go_simp
    refine h1.mono ?_
    rintro e y ⟨g, rfl, _, _, hg⟩
    exact ⟨_, rfl, hg, g, rfl⟩
  apply Exists.intro
  refine ⟨by simp only [Act.put, List.setIfInBounds_toArray, List.set_cons_succ, List.set_cons_zero]; rfl, ?_⟩
  refine WM.mono_val rfl rfl (fun x hD hF => ?_) ?_
  · obtain ⟨g, e1⟩ := (hF 47 _ 75 rfl rfl (by decide)).1
    subst e1
    go_simp
    exact ⟨Below.refl _ _, rfl⟩
  apply Exists.intro
  refine ⟨by simp only [Act.put, List.setIfInBounds_toArray, List.set_cons_succ, List.set_cons_zero]; rfl, ?_⟩
  refine WM.mono_pure rfl rfl ?_
  refine ⟨.bool true, fun x => ?_, ?_⟩
  · go_simp
  apply Exists.intro
  refine ⟨by simp only [Act.put, List.setIfInBounds_toArray, List.set_cons_succ, List.set_cons_zero]; rfl, ?_⟩
  refine WM.mono_pure rfl rfl ?_
  refine ⟨.bool true, fun x => ?_, ?_⟩
  · go_simp
  apply Exists.intro
  refine ⟨by simp only [Act.put, List.setIfInBounds_toArray, List.set_cons_succ, List.set_cons_zero]; rfl, ?_⟩
  refine WM.mono_pure rfl rfl ?_
  refine ⟨.bool true, fun x => ?_, ?_⟩
  · go_simp
  apply Exists.intro
  refine ⟨by simp only [Act.put, List.setIfInBounds_toArray, List.set_cons_succ, List.set_cons_zero]; rfl, ?_⟩
  iterate 2
    refine WM.mono_pure rfl rfl ?_
    apply Exists.intro
    refine ⟨fun x => ?_, ?_⟩
    · go_simp
      rfl
    apply Exists.intro
    refine ⟨by simp only [Act.put, List.setIfInBounds_toArray, List.set_cons_succ, List.set_cons_zero]; rfl, ?_⟩
  refine WM.mono_mem rfl rfl (fun x hD hF => ?_) (fun v82 => ?_)
  · have h1 := djoin_any [(1, 1)] [(1, 1), (2, 3)] 1 2 (some ⟨gM, 0, none⟩) (some ⟨gL, 0, none⟩) x hD.dm hD.dl (by simp) (by simp)
    rw [join_two] at h1
    go_simp
    refine h1.mono ?_
    rintro e y ⟨g, rfl, _, _, hg⟩
    exact ⟨_, rfl, hg, g, rfl⟩
  apply Exists.intro
  refine ⟨by simp only [Act.put, List.setIfInBounds_toArray, List.set_cons_succ, List.set_cons_zero]; rfl, ?_⟩
  refine WM.mono_val rfl rfl (fun x hD hF => ?_) ?_
  · obtain ⟨g, e1⟩ := (hF 54 _ 82 rfl rfl (by decide)).1
    subst e1
    go_simp
    exact ⟨Below.refl _ _, rfl⟩
  apply Exists.intro
  refine ⟨by simp only [Act.put, List.setIfInBounds_toArray, List.set_cons_succ, List.set_cons_zero]; rfl, ?_⟩
  refine WM.mono_pure rfl rfl ?_
  refine ⟨.bool true, fun x => ?_, ?_⟩
  · go_simp
  apply Exists.intro
  refine ⟨by simp only [Act.put, List.setIfInBounds_toArray, List.set_cons_succ, List.set_cons_zero]; rfl, ?_⟩
  refine WM.mono_pure rfl rfl ?_
  refine ⟨.bool true, fun x => ?_, ?_⟩
  · go_simp
  apply Exists.intro
  refine ⟨by simp only [Act.put, List.setIfInBounds_toArray, List.set_cons_succ, List.set_cons_zero]; rfl, ?_⟩
  refine WM.mono_pure rfl rfl ?_
  refine ⟨.bool true, fun x => ?_, ?_⟩
  · go_simp
  apply Exists.intro
  refine ⟨by simp only [Act.put, List.setIfInBounds_toArray, List.set_cons_succ, List.set_cons_zero]; rfl, ?_⟩
  iterate 2
    refine WM.mono_pure rfl rfl ?_
    apply Exists.intro
    refine ⟨fun x => ?_, ?_⟩
    · go_simp
      rfl
    apply Exists.intro
    refine ⟨by simp only [Act.put, List.setIfInBounds_toArray, List.set_cons_succ, List.set_cons_zero]; rfl, ?_⟩
  refine WM.mono_mem rfl rfl (fun x hD hF => ?_) (fun v89 => ?_)
  · have h1 := meet_any 35 true (.inl ⟨rfl, rfl⟩) [(1, 1)] [(1, 1), (2, 3)] 1 2 (some ⟨gM, 0, none⟩) (some ⟨gL, 0, none⟩) x hD.dm hD.dl (by simp) (by simp)
    rw [meet_two] at h1
    go_simp
    refine h1.mono ?_
    rintro e y ⟨g, rfl, _, _, hg⟩
    exact ⟨_, rfl, hg, g, rfl⟩
  apply Exists.intro
  refine ⟨by simp only [Act.put, List.setIfInBounds_toArray, List.set_cons_succ, List.set_cons_zero]; rfl, ?_⟩
  refine WM.mono_val rfl rfl (fun x hD hF => ?_) ?_
  · obtain ⟨g, e1⟩ := (hF 61 _ 89 rfl rfl (by decide)).1
    subst e1
    go_simp
    exact ⟨Below.refl _ _, rfl⟩
  apply Exists.intro
  refine ⟨by simp only [Act.put, List.setIfInBounds_toArray, List.set_cons_succ, List.set_cons_zero]; rfl, ?_⟩
  refine WM.mono_pure rfl rfl ?_
  refine ⟨.bool true, fun x => ?_, ?_⟩
  · go_simp
  apply Exists.intro
  refine ⟨by simp only [Act.put, List.setIfInBounds_toArray, List.set_cons_succ, List.set_cons_zero]; rfl, ?_⟩
  refine WM.mono_pure rfl rfl ?_
  refine ⟨.bool true, fun x => ?_, ?_⟩
  · go_simp
  apply Exists.intro
  refine ⟨by simp only [Act.put, List.setIfInBounds_toArray, List.set_cons_succ, List.set_cons_zero]; rfl, ?_⟩
  refine WM.mono_pure rfl rfl ?_
  refine ⟨.bool true, fun x => ?_, ?_⟩
  · go_simp
  apply Exists.intro
  refine ⟨by simp only [Act.put, List.setIfInBounds_toArray, List.set_cons_succ, List.set_cons_zero]; rfl, ?_⟩
  refine WM.mono_nil ?_
  intro x hD hF
  have HX := Lib.hid hD
  clear hD hF HI
  go_simp
  go_wp2
  go_ret
  exact ⟨rfl, HX.out.al.below⟩
end Go.Proofs.Ytnpacjdgbmldlaa

/- The law DotsWhole of layer 4: mathematics. -/
namespace Go.Proofs.Ytnpacjdgbmldlaa
open Go.RowKit

theorem set_rightM {ls : List Dt} (h : isSet ls = true) : ∀ d ∈ ls, Vec.right d.1 d.2 = true := fun d hd => by
  obtain ⟨i, hi, rfl⟩ := List.getElem_of_mem hd
  have h1 := ((isSet_iff ls).1 h).2 i hi
  unfold dgood at h1
  rw [Bool.and_eq_true] at h1
  have h2 := h1.1
  rw [List.getD_eq_getElem?_getD, List.getElem?_eq_getElem hi] at h2
  exact h2
theorem right_iff {n : Int} {k : Nat} : Vec.right n k = true ↔ 1 ≤ n ∧ n ≤ 8 ∧ 1 ≤ k := by simp [Vec.right]
theorem has_iff {f : Nat → Nat} {n : Int} {k : Nat} : Vec.has f n k = true ↔ Vec.right n k = true ∧ k ≤ f (n - 1).toNat := by
  unfold Vec.has Vec.get
  rw [Bool.and_eq_true, decide_eq_true_eq]
  refine and_congr_right fun h => ?_
  rw [right_iff] at h
  rw [if_pos ⟨h.1, h.2.1⟩]
theorem has_with {f : Nat → Nat} {n : Int} {k : Nat} (e : Dt) : Vec.has (Vec.with_ f e.1 e.2) n k = true ↔ Vec.has f n k = true ∨ (Vec.right n k = true ∧ Vec.right e.1 e.2 = true ∧ e.1 = n ∧ k ≤ e.2) := by
  rw [has_iff, has_iff]
  unfold Vec.with_
  by_cases hr : Vec.right n k = true
  · have h1 := right_iff.1 hr
    have hn : (((n - 1).toNat : Nat) : Int) + 1 = n := by omega
    rw [hn]
    by_cases he : Vec.right e.1 e.2 = true ∧ n = e.1
    · rw [if_pos he]
      simp only [hr, true_and]
      have hmx : k ≤ max (f (n - 1).toNat) e.2 ↔ k ≤ f (n - 1).toNat ∨ k ≤ e.2 := by omega
      rw [hmx]
      constructor
      · rintro (h | h)
        · exact .inl h
        · exact .inr ⟨he.1, he.2.symm, h⟩
      · rintro (h | h)
        · exact .inl h
        · exact .inr h.2.2
    · rw [if_neg he]
      simp only [hr, true_and]
      exact ⟨.inl, fun h => h.elim id fun h => absurd ⟨h.1, h.2.1.symm⟩ he⟩
  · simp [hr]
theorem has_foldl (n : Int) (k : Nat) : ∀ (ls : List Dt) (f : Nat → Nat), Vec.has (ls.foldl (fun f d => Vec.with_ f d.1 d.2) f) n k = true ↔ Vec.has f n k = true ∨ (Vec.right n k = true ∧ ∃ e ∈ ls, Vec.right e.1 e.2 = true ∧ e.1 = n ∧ k ≤ e.2)
  | [], f => by simp
  | d :: ls, f => by
    rw [List.foldl_cons, has_foldl n k ls, has_with]
    simp only [List.mem_cons, exists_eq_or_imp]
    constructor
    · rintro ((h | ⟨h1, h2⟩) | ⟨h1, h2⟩)
      · exact .inl h
      · exact .inr ⟨h1, .inl h2⟩
      · exact .inr ⟨h1, .inr h2⟩
    · rintro (h | ⟨h1, h2 | h2⟩)
      · exact .inl (.inl h)
      · exact .inl (.inr ⟨h1, h2⟩)
      · exact .inr ⟨h1, h2⟩
theorem has_span (ls : List Dt) (n : Int) (k : Nat) : Vec.has (spanF ls) n k = true ↔ Vec.right n k = true ∧ ∃ e ∈ ls, Vec.right e.1 e.2 = true ∧ e.1 = n ∧ k ≤ e.2 := by
  unfold spanF
  rw [has_foldl]
  constructor
  · rintro (h | h)
    · obtain ⟨h1, h2⟩ := has_iff.1 h
      have := right_iff.1 h1
      omega
    · exact h
  · exact .inr
theorem whole_down {ls : List Dt} (h : isWhole ls = true) (n : Int) : ∀ (m k : Nat), (n, k + m) ∈ ls → 1 ≤ k → (n, k) ∈ ls
  | 0, _, hm, _ => hm
  | m + 1, k, hm, hk => by
    have h1 := ((isWhole_iff ls).1 h).2 _ hm
    rcases h1 with h1 | h1
    · simp only at h1; omega
    · exact whole_down h n m k h1 hk
/-- A dot that may be stands in a whole set just where the set's vector covers it. -/
theorem whole_has {ls : List Dt} (h : isWhole ls = true) {d : Dt} (hd : Vec.right d.1 d.2 = true) : Vec.has (spanF ls) d.1 d.2 = decide (d ∈ ls) := by
  rw [Bool.eq_iff_iff, has_span, decide_eq_true_eq]
  constructor
  · rintro ⟨_, e, he, _, h2, h3⟩
    have hk := (right_iff.1 hd).2.2
    refine whole_down h d.1 (e.2 - d.2) d.2 ?_ hk
    rw [Nat.add_sub_cancel' h3, ← h2]
    exact he
  · intro hm
    exact ⟨hd, d, hm, hd, rfl, Nat.le_refl _⟩
theorem set_win {ls : List Dt} (h : isSet ls = true) : winF (spanF ls) ls = ls := by
  unfold winF
  rw [List.filter_eq_self]
  intro d hd
  exact (has_span ls d.1 d.2).2 ⟨set_rightM h d hd, d, hd, set_rightM h d hd, rfl, Nat.le_refl _⟩
theorem whole_win {ls : List Dt} (h : isWhole ls = true) : winF (spanF ls) ls = ls := set_win ((isWhole_iff ls).1 h).1
end Go.Proofs.Ytnpacjdgbmldlaa

/- The law DotsWhole of layer 4, walked. -/
namespace Go.Proofs.Ytnpacjdgbmldlaa
open Go.RowKit Go.Shelf Go.Lib Go.Sort Wr

structure W4 (w : World) (A : Option Addr) (ls : List Dt) (d : Dt) (x : World) : Prop where
  dots : Dots x (· < w.heap.size) A ls
  dot : DotAt x w.heap.size 25 d.1 d.2
  below : Below w.heap.size w x
theorem W4.then_ {w x y : World} {A : Option Addr} {ls : List Dt} {d : Dt} (hb : Below x.heap.size x y) (h : W4 w A ls d x) : W4 w A ls d y := ⟨h.dots.below (hb.mono h.below.size), h.dot.below hb h.dot.lt, h.below.trans (hb.mono h.below.size)⟩
theorem W4.drew {w x : World} {A : Option Addr} {ls : List Dt} {d : Dt} (I : W4 w A ls d x) : W4 w A ls d x.drew := W4.then_ (x := x) (y := x.drew) ⟨rfl, rfl, rfl, Nat.le_refl _, fun _ _ => rfl⟩ I
theorem W4.now {w x : World} {A : Option Addr} {ls : List Dt} {d : Dt} (I : W4 w A ls d x) : Dots x (· < x.heap.size) A ls := I.dots.loose fun _ h => Nat.lt_of_lt_of_le h I.below.size
/-- A slice of these dots. -/
def SlD (ls : List Dt) (v : Value) (x : World) : Prop := ∃ g, v = .slice (some ⟨g, 0, none⟩) ls.length ls.length ∧ x.heap[g]? = some (.cells (dots2 ls).toArray 25 (0, 0))
theorem SlD.up {ls : List Dt} {v : Value} {x y : World} (h : Below x.heap.size x y) : SlD ls v x → SlD ls v y := fun ⟨g, e, hr⟩ => ⟨g, e, (h.block _ (lt_of_row hr)).trans hr⟩
theorem SlD.open_ {ls : List Dt} {v : Value} {x : World} : SlD ls v x → ∃ g, v = .slice (some ⟨g, 0, none⟩) ls.length ls.length ∧ Dots x (· < x.heap.size) (some ⟨g, 0, none⟩) ls := fun ⟨g, e, hr⟩ => ⟨g, e, block_dots hr (lt_of_row hr)⟩
theorem eq4_same (q : Bool) {ev : Operand → Value} {o : Oper} {w : World} (x y : Operand) (ho : o.op = .binOp .eql 4 x y 4) (hx : ev x = .bool q) (hy : ev y = .bool q) : (execOp ev o).run Try.prog w = .ok (.value (.bool true)) w := by
  unfold execOp
  simp only [ho, hx, hy]
  cases q <;> go_simp

set_option maxRecDepth 100000 in
set_option maxHeartbeats 8000000 in
theorem law_whole (ls : List Dt) (c : Nat) (A : Option Addr) (d : Dt) (w : World) (hv : Dots w (· < w.heap.size) A ls) (hk : ∀ d ∈ ls, d.2 < 18446744073709551616) :
    Calls Try.prog 6 #[.slice A ls.length c, dotV d.1 d.2] w fun e w' => e = .returned (.bool true) ∧ Below w.heap.size w w' := by
  have HI : Hid (W4 w A ls d (w.alloc (.cells (dotC d) 25))) := Lib.hid ⟨hv.below (below1 _ _), DotAt.new w 25 d.1 d.2, below1 _ _⟩
  have HK := Lib.hid hk
  clear hv hk
  have HG := Lib.hid (great_any ls c A (w.alloc (.cells (dotC d) 25)))
  by_cases h60 : 60 < ls.length
  · rw [decide_eq_true h60] at HG
    clear h60
    go_enter Try.func6, Try.ntmps6
    go_wp2_with fail
    refine HG.out.mono ?_
    rintro e w1 ⟨rfl, rfl⟩
    go_wp2_with fail
    refine (alive4_any _).mono ?_
    rintro e w9 ⟨rfl, hb⟩
    have HB := Lib.hid (HI.out.below.trans (hb.mono (HI.out.below.size)))
    clear hb
    go_wp2
    go_ret
    exact ⟨rfl, HB.out⟩
  · rw [decide_eq_false h60] at HG
    have HL : Hid (ls.length ≤ 60) := Lib.hid (by omega)
    clear h60
    have HW := Lib.hid (dwhole_any ls c A (w.alloc (.cells (dotC d) 25)) HI.out.now (by have := HL.out; omega) HK.out)
    cases hwh : isWhole ls with
    | false =>
      rw [hwh] at HW
      clear hwh
      go_enter Try.func6, Try.ntmps6
      go_wp2_with fail
      refine HG.out.mono ?_
      rintro e w1 ⟨rfl, rfl⟩
      go_wp2_with fail
      refine HW.out.mono ?_
      rintro e w2 ⟨rfl, hb2⟩
      have HI2 := Lib.hid (HI.out.then_ hb2)
      clear hb2 HI HW HG
      go_wp2_with fail
      refine (alive4_any _).mono ?_
      rintro e w9 ⟨rfl, hb⟩
      have HB := Lib.hid (HI2.out.below.trans (hb.mono (HI2.out.below.size)))
      clear hb
      go_wp2
      go_ret
      exact ⟨rfl, HB.out⟩
    | true =>
      rw [hwh] at HW
      have HWH := Lib.hid hwh
      clear hwh
      have s25 : Hid ((Try.prog.info? 25).map (·.size) = some (dotC d).size) := Lib.hid (dot_size25 d)
      go_enter Try.func6, Try.ntmps6
      go_wp2_with fail
      refine HG.out.mono ?_
      rintro e w1 ⟨rfl, rfl⟩
      go_wp2_with fail
      refine HW.out.mono ?_
      rintro e w2 ⟨rfl, hb2⟩
      have HI2 := Lib.hid (HI.out.then_ hb2)
      clear hb2 HI HW HG
      have HR := Lib.hid (right_any d.1 d.2 w2)
      cases hrt : Vec.right d.1 d.2 with
      | false =>
        rw [hrt] at HR
        clear hrt
        have c0 := HI2.out.dot.node
        have c1 := HI2.out.dot.num
        go_wp2_with fail
        clear c0 c1
        refine HR.out.mono ?_
        rintro e w3 ⟨rfl, hb3⟩
        have HI3 := Lib.hid (HI2.out.then_ hb3)
        clear hb3 HI2 HR
        go_wp2_with fail
        refine (alive4_any _).mono ?_
        rintro e w9 ⟨rfl, hb⟩
        have HB := Lib.hid (HI3.out.below.trans (hb.mono (HI3.out.below.size)))
        clear hb
        go_wp2
        go_ret
        exact ⟨rfl, HB.out⟩
      | true =>
        rw [hrt] at HR
        obtain ⟨q, hq⟩ : ∃ q, q = decide (d ∈ ls) := ⟨_, rfl⟩
        have HQ := Lib.hid hq
        have HH : Hid (q = Vec.has (spanF ls) d.1 d.2) := Lib.hid (hq.trans (whole_has HWH.out hrt).symm)
        have HN := Lib.hid (whole_win HWH.out)
        clear hrt hq
        have c0 := HI2.out.dot.node
        have c1 := HI2.out.dot.num
        go_wp2_with fail
        clear c0 c1
        refine HR.out.mono ?_
        rintro e w3 ⟨rfl, hb3⟩
        have HI3 := Lib.hid (HI2.out.then_ hb3)
        clear hb3 HI2 HR
        go_wp2_with fail
        refine WM.wp_region_kinds (fun _ x y => Below x.heap.size x y) (fun _ x => W4 w A ls d x) (fun x => W4 w A ls d x)
          [(0, .val (.bool true) fun _ => True), (3, .val (dotV d.1 d.2) fun _ => True), (4, .val (.bool q) fun _ => True), (6, .val (vecV (spanF ls)) fun _ => True), (7, .val (dotV d.1 d.2) fun _ => True), (8, .val (.bool q) fun _ => True), (14, .val (vecV (spanF ls)) fun _ => True), (15, .mem (SlD ls)), (17, .val (.bool true) fun _ => True)] (by kernel_rfl) (by kernel_rfl) (fun _ _ _ hb h => W4.then_ hb h) (fun _ _ _ _ _ hb h => W4.then_ hb h) ?_ HI3.out.drew (fun _ => HI3.out.drew) ?_
        · intro z hz
          simp only [List.mem_cons, List.mem_nil_iff, or_false] at hz
          rcases hz with rfl | rfl | rfl | rfl | rfl | rfl | rfl | rfl | rfl <;> first | exact fun _ _ _ _ _ _ => trivial | exact fun _ _ _ _ _ hr => SlD.up hr
        refine WM.mono_val rfl rfl (fun x hD hF => ?_) ?_
        · go_simp
          refine (alive4_any x).mono ?_
          rintro e y ⟨rfl, hg⟩
          exact ⟨_, rfl, hg, rfl⟩
        apply Exists.intro
        refine ⟨by simp only [Act.put, List.setIfInBounds_toArray, List.set_cons_succ, List.set_cons_zero]; rfl, ?_⟩
        refine WM.mono_pure rfl rfl ?_
        refine ⟨.bool true, fun x => ?_, ?_⟩
        · go_simp
        apply Exists.intro
        refine ⟨by simp only [Act.put, List.setIfInBounds_toArray, List.set_cons_succ, List.set_cons_zero]; rfl, ?_⟩
        iterate 1
          refine WM.mono_pure rfl rfl ?_
          apply Exists.intro
          refine ⟨fun x => ?_, ?_⟩
          · go_simp
            rfl
          apply Exists.intro
          refine ⟨by simp only [Act.put, List.setIfInBounds_toArray, List.set_cons_succ, List.set_cons_zero]; rfl, ?_⟩
        refine WM.mono_val rfl rfl (fun x hD hF => ?_) ?_
        · have hl := run_loadVar_arr (P := Try.prog) x w.heap.size 0 25 (dotC d) _ hD.dot.range Try.underlying25 rfl (dot_size25 _)
          rw [exec_load 25 (.tmp 3) rfl w.heap.size 0 rfl hl]
          exact ⟨Below.refl _ _, rfl, trivial⟩
        apply Exists.intro
        refine ⟨by simp only [Act.put, List.setIfInBounds_toArray, List.set_cons_succ, List.set_cons_zero]; rfl, ?_⟩
        refine WM.mono_val rfl rfl (fun x hD hF => ?_) ?_
        · go_simp
          refine (dhas_any ls c A d x hD.now (by have := HL.out; omega)).mono ?_
          rintro e y ⟨rfl, hg⟩
          exact ⟨_, rfl, hg, by rw [HQ.out]⟩
        apply Exists.intro
        refine ⟨by simp only [Act.put, List.setIfInBounds_toArray, List.set_cons_succ, List.set_cons_zero]; rfl, ?_⟩
        iterate 1
          refine WM.mono_pure rfl rfl ?_
          apply Exists.intro
          refine ⟨fun x => ?_, ?_⟩
          · go_simp
            rfl
          apply Exists.intro
          refine ⟨by simp only [Act.put, List.setIfInBounds_toArray, List.set_cons_succ, List.set_cons_zero]; rfl, ?_⟩
        refine WM.mono_val rfl rfl (fun x hD hF => ?_) ?_
        · go_simp
          refine (dspan_any ls c A x hD.now (by have := HL.out; omega)).mono ?_
          rintro e y ⟨rfl, hg⟩
          exact ⟨_, rfl, hg, rfl⟩
        apply Exists.intro
        refine ⟨by simp only [Act.put, List.setIfInBounds_toArray, List.set_cons_succ, List.set_cons_zero]; rfl, ?_⟩
        refine WM.mono_val rfl rfl (fun x hD hF => ?_) ?_
        · have hl := run_loadVar_arr (P := Try.prog) x w.heap.size 0 25 (dotC d) _ hD.dot.range Try.underlying25 rfl (dot_size25 _)
          rw [exec_load 25 (.tmp 3) rfl w.heap.size 0 rfl hl]
          exact ⟨Below.refl _ _, rfl, trivial⟩
        apply Exists.intro
        refine ⟨by simp only [Act.put, List.setIfInBounds_toArray, List.set_cons_succ, List.set_cons_zero]; rfl, ?_⟩
        refine WM.mono_val rfl rfl (fun x hD hF => ?_) ?_
        · go_simp
          refine (has_any (spanF ls) d.1 d.2 x).mono ?_
          rintro e y ⟨rfl, hg⟩
          exact ⟨_, rfl, hg, by rw [HH.out]⟩
        apply Exists.intro
        refine ⟨by simp only [Act.put, List.setIfInBounds_toArray, List.set_cons_succ, List.set_cons_zero]; rfl, ?_⟩
        refine WM.mono_pure rfl rfl ?_
        refine ⟨.bool true, fun x => ?_, ?_⟩
        · exact eq4_same q (.tmp 22) (.tmp 26) rfl rfl rfl
        apply Exists.intro
        refine ⟨by simp only [Act.put, List.setIfInBounds_toArray, List.set_cons_succ, List.set_cons_zero]; rfl, ?_⟩
        refine WM.mono_pure rfl rfl ?_
        refine ⟨.bool true, fun x => ?_, ?_⟩
        · go_simp
        apply Exists.intro
        refine ⟨by simp only [Act.put, List.setIfInBounds_toArray, List.set_cons_succ, List.set_cons_zero]; rfl, ?_⟩
        refine WM.mono_pure rfl rfl ?_
        refine ⟨.bool true, fun x => ?_, ?_⟩
        · go_simp
        apply Exists.intro
        refine ⟨by simp only [Act.put, List.setIfInBounds_toArray, List.set_cons_succ, List.set_cons_zero]; rfl, ?_⟩
        iterate 2
          refine WM.mono_pure rfl rfl ?_
          apply Exists.intro
          refine ⟨fun x => ?_, ?_⟩
          · go_simp
            rfl
          apply Exists.intro
          refine ⟨by simp only [Act.put, List.setIfInBounds_toArray, List.set_cons_succ, List.set_cons_zero]; rfl, ?_⟩
        refine WM.mono_val rfl rfl (fun x hD hF => ?_) ?_
        · go_simp
          refine (dspan_any ls c A x hD.now (by have := HL.out; omega)).mono ?_
          rintro e y ⟨rfl, hg⟩
          exact ⟨_, rfl, hg, rfl⟩
        apply Exists.intro
        refine ⟨by simp only [Act.put, List.setIfInBounds_toArray, List.set_cons_succ, List.set_cons_zero]; rfl, ?_⟩
        refine WM.mono_mem rfl rfl (fun x hD hF => ?_) (fun v33 => ?_)
        · have h1 := dwithin_any (spanF ls) ls c A x hD.now (by have := HL.out; omega)
          rw [HN.out] at h1
          go_simp
          refine h1.mono ?_
          rintro e y ⟨g, rfl, _, hr, hg⟩
          exact ⟨_, rfl, hg, g, rfl, hr⟩
        apply Exists.intro
        refine ⟨by simp only [Act.put, List.setIfInBounds_toArray, List.set_cons_succ, List.set_cons_zero]; rfl, ?_⟩
        iterate 1
          refine WM.mono_pure rfl rfl ?_
          apply Exists.intro
          refine ⟨fun x => ?_, ?_⟩
          · go_simp
            rfl
          apply Exists.intro
          refine ⟨by simp only [Act.put, List.setIfInBounds_toArray, List.set_cons_succ, List.set_cons_zero]; rfl, ?_⟩
        refine WM.mono_val rfl rfl (fun x hD hF => ?_) ?_
        · obtain ⟨g, e1, hr⟩ := SlD.open_ (hF 15 _ 33 rfl rfl (by decide)).1
          subst e1
          go_simp
          refine (dsame_any ls ls _ c _ A x hr hD.now (by have := HL.out; omega)).mono ?_
          rintro e y ⟨rfl, hg⟩
          exact ⟨_, rfl, hg, by simp⟩
        apply Exists.intro
        refine ⟨by simp only [Act.put, List.setIfInBounds_toArray, List.set_cons_succ, List.set_cons_zero]; rfl, ?_⟩
        refine WM.mono_pure rfl rfl ?_
        refine ⟨.bool true, fun x => ?_, ?_⟩
        · go_simp
        apply Exists.intro
        refine ⟨by simp only [Act.put, List.setIfInBounds_toArray, List.set_cons_succ, List.set_cons_zero]; rfl, ?_⟩
        iterate 1
          refine WM.mono_pure rfl rfl ?_
          apply Exists.intro
          refine ⟨fun x => ?_, ?_⟩
          · go_simp
            rfl
          apply Exists.intro
          refine ⟨by simp only [Act.put, List.setIfInBounds_toArray, List.set_cons_succ, List.set_cons_zero]; rfl, ?_⟩
        refine WM.mono_nil ?_
        intro x hD hF
        have HX := Lib.hid hD
        clear hD hF HI3
        go_simp
        go_wp2
        go_ret
        exact ⟨rfl, HX.out.below⟩
end Go.Proofs.Ytnpacjdgbmldlaa

/- The law DotsSets of layer 4: mathematics. -/
namespace Go.Proofs.Ytnpacjdgbmldlaa
open Go.RowKit

theorem of_small {zs : List Dt} (h : zs.length ≤ 2000) : ofF zs = sortD (rt zs) := by
  rw [← setF_rt]
  unfold setF
  rw [List.take_of_length_le]
  refine Nat.le_trans (sortD_len _) (Nat.le_trans ?_ h)
  unfold rt
  exact List.length_filter_le _ _
theorem of_rise {zs : List Dt} (h : zs.length ≤ 2000) : (ofF zs).Pairwise Lt := by rw [of_small h]; exact (sortD_spec _).1
theorem of_mem {zs : List Dt} (h : zs.length ≤ 2000) (v : Dt) : v ∈ ofF zs ↔ v ∈ zs ∧ Vec.right v.1 v.2 = true := by
  rw [of_small h, (sortD_spec _).2]
  unfold rt
  rw [List.mem_filter]
theorem of_len {zs : List Dt} (h : zs.length ≤ 2000) : (ofF zs).length ≤ zs.length := by
  rw [of_small h]
  refine Nat.le_trans (sortD_len _) ?_
  unfold rt
  exact List.length_filter_le _ _
theorem rise_set {ls : List Dt} (h1 : ls.Pairwise Lt) (h2 : ∀ d ∈ ls, Vec.right d.1 d.2 = true) (h3 : ls.length ≤ 2000) : isSet ls = true := by
  rw [isSet_iff]
  refine ⟨h3, fun i hi => ?_⟩
  unfold dgood
  rw [Bool.and_eq_true]
  constructor
  · rw [List.getD_eq_getElem?_getD, List.getElem?_eq_getElem hi]
    exact h2 _ (List.getElem_mem hi)
  · rw [Bool.or_eq_true]
    by_cases h0 : i = 0
    · exact .inl (decide_eq_true h0)
    · right
      have e1 : ls.getD i (0, 0) = ls[i] := by rw [List.getD_eq_getElem?_getD, List.getElem?_eq_getElem hi]; rfl
      have e2 : ls.getD (i - 1) (0, 0) = ls[i - 1] := by rw [List.getD_eq_getElem?_getD, List.getElem?_eq_getElem (by omega : i - 1 < ls.length)]; rfl
      rw [e1, e2]
      exact List.pairwise_iff_getElem.1 h1 (i - 1) i (by omega) hi (by omega)
theorem of_set {zs : List Dt} (h : zs.length ≤ 2000) : isSet (ofF zs) = true := rise_set (of_rise h) (fun d hd => ((of_mem h d).1 hd).2) (Nat.le_trans (of_len h) h)
theorem of_comm {xs ys : List Dt} (h : xs.length + ys.length ≤ 2000) : ofF (ys ++ xs) = ofF (xs ++ ys) := by
  have h1 : (ys ++ xs).length ≤ 2000 := by rw [List.length_append]; omega
  have h2 : (xs ++ ys).length ≤ 2000 := by rw [List.length_append]; omega
  refine rise_unique _ _ (of_rise h1) (of_rise h2) fun v => ?_
  rw [of_mem h1, of_mem h2, List.mem_append, List.mem_append, Or.comm]
theorem some_len {xs ys : List Dt} {q : Bool} : (someF xs ys q).length ≤ xs.length := List.length_filter_le _ _
theorem some_mem {xs ys : List Dt} {q : Bool} (v : Dt) : v ∈ someF xs ys q ↔ v ∈ xs ∧ decide (v ∈ ys) = q := by
  unfold someF
  rw [List.mem_filter, beq_iff_eq]
theorem of_some {xs ys : List Dt} {q : Bool} (h : xs.length ≤ 2000) : ofF (someF xs ys q) = (ofF xs).filter fun d => decide (d ∈ ys) == q := by
  have h1 : (someF xs ys q).length ≤ 2000 := Nat.le_trans some_len h
  refine rise_unique _ _ (of_rise h1) ((of_rise h).filter _) fun v => ?_
  rw [of_mem h1, some_mem, List.mem_filter, of_mem h, beq_iff_eq]
  exact ⟨fun h => ⟨⟨h.1.1, h.2⟩, h.1.2⟩, fun h => ⟨⟨h.1.1, h.2⟩, h.1.2⟩⟩
theorem of_parts {xs ys : List Dt} (h : xs.length ≤ 2000) : (ofF (someF xs ys true)).length + (ofF (someF xs ys false)).length = (ofF xs).length := by
  rw [of_some h, of_some h]
  generalize ofF xs = l
  induction l with
  | nil => rfl
  | cons x l ih =>
    by_cases hx : x ∈ ys <;> simp [List.filter_cons, hx] at ih ⊢ <;> omega
theorem join_mem {xs ys : List Dt} (h : xs.length + ys.length ≤ 2000) {d : Dt} (hd : Vec.right d.1 d.2 = true) : decide (d ∈ ofF (xs ++ ys)) = (decide (d ∈ xs) || decide (d ∈ ys)) := by
  have h2 : (xs ++ ys).length ≤ 2000 := by rw [List.length_append]; omega
  rw [Bool.eq_iff_iff, decide_eq_true_eq, of_mem h2, List.mem_append, Bool.or_eq_true, decide_eq_true_eq, decide_eq_true_eq]
  exact ⟨fun h => h.1, fun h => ⟨h, hd⟩⟩
theorem meet_mem {xs ys : List Dt} (h : xs.length ≤ 2000) {d : Dt} (hd : Vec.right d.1 d.2 = true) : decide (d ∈ ofF (someF xs ys true)) = (decide (d ∈ xs) && decide (d ∈ ys)) := by
  rw [Bool.eq_iff_iff, decide_eq_true_eq, of_mem (Nat.le_trans some_len h), some_mem, Bool.and_eq_true, decide_eq_true_eq, decide_eq_true_eq]
  exact ⟨fun h => h.1, fun h => ⟨h, hd⟩⟩
theorem minus_mem {xs ys : List Dt} (h : xs.length ≤ 2000) {d : Dt} (hd : Vec.right d.1 d.2 = true) : decide (d ∈ ofF (someF xs ys false)) = (decide (d ∈ xs) && !decide (d ∈ ys)) := by
  rw [Bool.eq_iff_iff, decide_eq_true_eq, of_mem (Nat.le_trans some_len h), some_mem, Bool.and_eq_true, decide_eq_true_eq, Bool.not_eq_true']
  exact ⟨fun h => h.1, fun h => ⟨h, hd⟩⟩
theorem eq3_same (a b : Int) (h : a = b) {ev : Operand → Value} {o : Oper} {w : World} (x y : Operand) (ho : o.op = .binOp .eql 3 x y 3) (hx : ev x = .int .i64 a) (hy : ev y = .int .i64 b) : (execOp ev o).run Try.prog w = .ok (.value (.bool true)) w := by
  subst h
  unfold execOp
  simp only [ho, hx, hy]
  go_simp
end Go.Proofs.Ytnpacjdgbmldlaa

/- A vector, a dot, a slice of vectors that came in, opened. -/
namespace Go.Proofs.Ytnpacjdgbmldlaa
open Go.RowKit Go.WideShapes Go.ChangeShapes
set_option maxRecDepth 100000
theorem cellsO23 : Try.prog.cellsOf 23 = 1 := by kernel_rfl
theorem cellsO27 : Try.prog.cellsOf 27 = 8 := by kernel_rfl
theorem cellsO25 : Try.prog.cellsOf 25 = 2 := by kernel_rfl
theorem cellsO3 : Try.prog.cellsOf 3 = 1 := by kernel_rfl
section
variable {H : Type} {enc : TypeId × Value → H}
theorem ints_of_array {P : Program} {w : World} {base : Nat} {sp : Nat → Bool} {held : Bool} {fuel : Nat} {t e : TypeId} {k : IntKind} {n : Nat} {cs : List Value} {x : DataW H × List MemPlace} (ht : P.underlying t = some (.array n e)) (he : P.underlying e = some (.int k)) (hce : P.cellsOf e = 1)
    (h : DataW.trod enc P w base sp held fuel t cs = some x) : cs.length = P.cellsOf t ∧ ∀ i, i < n → ∃ z, cs[i]? = some (.int k z) ∧ (Lit.int k z).wf = true := by
  cases fuel with
  | zero => simp [DataW.trod] at h
  | succ fuel =>
    simp only [DataW.trod, ht] at h
    split at h
    · rename_i hl
      obtain ⟨xs, hm, hx⟩ := Option.map_eq_some_iff.1 h
      refine ⟨hl, fun i hi => ?_⟩
      obtain ⟨b, hb, hf⟩ := Lib.mapM_at hm i i (by simp [hi])
      rw [hce, Nat.mul_one] at hf
      obtain ⟨z, hz, _, hw⟩ := DataW.trod_int he hf
      refine ⟨z, ?_, hw⟩
      have := congrArg (fun l : List Value => l[0]?) hz
      simpa [List.getElem?_take, List.getElem?_drop] using this
    · cases h
theorem vec_of_cells {P : Program} {w : World} {base : Nat} {sp : Nat → Bool} {held : Bool} {fuel : Nat} {t e : TypeId} {cs : List Value} {x : DataW H × List MemPlace} (ht : P.underlying t = some (.array 8 e)) (he : P.underlying e = some (.int .u64)) (hce : P.cellsOf e = 1) (hct : P.cellsOf t = 8)
    (h : DataW.trod enc P w base sp held fuel t cs = some x) : ∃ f : Nat → Nat, cs.toArray = arrOf .u64 8 f ∧ ∀ i, i < 8 → f i < 18446744073709551616 := by
  obtain ⟨hl, hz⟩ := ints_of_array ht he hce h
  rw [hct] at hl
  obtain ⟨Z, hZ⟩ := Deep.choose_lt hz
  have hb : ∀ i, i < 8 → 0 ≤ Z i ∧ Z i < 18446744073709551616 := fun i hi => by
    have := (hZ i hi).2
    simp [Lit.wf, IntKind.min, IntKind.max, IntKind.bits, IntKind.signed] at this
    omega
  refine ⟨fun i => (Z i).toNat, arr_ext (by simpa using hl) fun i hi => ?_, fun i hi => by have := hb i hi; show (Z i).toNat < _; omega⟩
  have h1 := (hZ i hi).1
  have h2 := hb i hi
  rw [List.getElem?_toArray, h1]
  congr 2
  omega
theorem open_vec {W : World} {base : Nat} {v : Value} {d : DataW H} {p : List MemPlace} (hv : Value.okWide Try.prog W .any base 27 v) (h : DataW.Trod enc Try.prog W 0 (fun _ => true) true 27 v d p) :
    ∃ f : Nat → Nat, v = vecV f ∧ ∀ i, i < 8 → f i < 18446744073709551616 := by
  obtain ⟨cs, rfl, _⟩ : ∃ cs, v = .agg cs ∧ cs.size = Try.prog.cellsOf 27 := by
    simp only [Value.okWide, Try.underlying27] at hv
    obtain ⟨cs, h1, h2, _⟩ := hv
    exact ⟨cs, h1, h2⟩
  obtain ⟨fuel, hf⟩ := h
  obtain ⟨f, h1, h2⟩ := vec_of_cells Try.underlying27 Try.underlying23 cellsO23 cellsO27 hf
  refine ⟨f, ?_, h2⟩
  show Value.agg cs = .agg _
  rw [← h1]
  rfl

theorem open_dot {W : World} {base : Nat} {v : Value} {d : DataW H} {p : List MemPlace} (hv : Value.okWide Try.prog W .any base 25 v) (h : DataW.Trod enc Try.prog W 0 (fun _ => true) true 25 v d p) :
    ∃ (n : Int) (k : Nat), v = dotV n k ∧ k < 18446744073709551616 := by
  obtain ⟨cs, rfl, hs⟩ := okWide_struct Try.underlying25 hv
  rw [cellsO25] at hs
  obtain ⟨fuel, hf⟩ := h
  obtain ⟨y0, y1, m, _, _, h0, h1⟩ := trod_struct2 Try.underlying25 hf
  obtain ⟨l⟩ := cs
  match l, hs with
  | [c0, c1], _ =>
    simp only [Value.cells, cellsO3, cellsO23, List.drop_zero, List.take_succ_cons, List.take_zero, List.drop_succ_cons] at h0 h1
    obtain ⟨z0, e0, _, _⟩ := DataW.trod_int Try.underlying3 h0
    obtain ⟨z1, e1, _, w1⟩ := DataW.trod_int Try.underlying23 h1
    simp only [List.cons.injEq, and_true] at e0 e1
    subst e0 e1
    have hb : 0 ≤ z1 ∧ z1 < 18446744073709551616 := by
      have := w1
      simp [Lit.wf, IntKind.min, IntKind.max, IntKind.bits, IntKind.signed] at this
      omega
    exact ⟨z0, z1.toNat, by show _ = Value.agg _; rw [Int.toNat_of_nonneg hb.1], by have := hb.2; omega⟩

theorem dot_of_cells {w : World} {base : Nat} {sp : Nat → Bool} {held : Bool} {fuel : Nat} {cs : List Value} {x : DataW H × List MemPlace} (hs : cs.length = 2) (h : DataW.trod enc Try.prog w base sp held fuel 25 cs = some x) :
    ∃ d : Dt, cs = [.int .i64 d.1, .int .u64 (d.2 : Int)] ∧ d.2 < 18446744073709551616 := by
  obtain ⟨y0, y1, m, _, _, h0, h1⟩ := trod_struct2 Try.underlying25 h
  match cs, hs with
  | [c0, c1], _ =>
    simp only [cellsO3, cellsO23, List.drop_zero, List.take_succ_cons, List.take_zero, List.drop_succ_cons] at h0 h1
    obtain ⟨z0, e0, _, _⟩ := DataW.trod_int Try.underlying3 h0
    obtain ⟨z1, e1, _, w1⟩ := DataW.trod_int Try.underlying23 h1
    simp only [List.cons.injEq, and_true] at e0 e1
    subst e0 e1
    have hb : 0 ≤ z1 ∧ z1 < 18446744073709551616 := by
      have := w1
      simp [Lit.wf, IntKind.min, IntKind.max, IntKind.bits, IntKind.signed] at this
      omega
    exact ⟨(z0, z1.toNat), by simp only; rw [Int.toNat_of_nonneg hb.1], by have := hb.2; simp only; omega⟩

theorem open_dots {W : World} {base : Nat} {v : Value} {d : DataW H} {p : List MemPlace} (hv : Value.okWide Try.prog W .any base 22 v) (h : DataW.Trod enc Try.prog W 0 (fun _ => true) true 22 v d p) :
    ∃ A ls c, v = .slice A ls.length c ∧ Dots W (· < W.heap.size) A ls ∧ ls.length ≤ maxLen ∧ ∀ d ∈ ls, d.2 < 18446744073709551616 := by
  obtain ⟨a0, len, cap, rfl⟩ := okWide_slice Try.underlying22 hv
  obtain ⟨fuel, hf⟩ := h
  rcases Deep.open_slice Try.underlying22 hf with ⟨hcs, _⟩ | ⟨a, len', cap', m, n, D, Pl, hcs, _, hl, hm, hmm, _, hel⟩
  · simp only [Value.cells, List.cons.injEq, and_true, Value.slice.injEq] at hcs
    obtain ⟨rfl, rfl, rfl⟩ := hcs
    exact ⟨none, [], 0, rfl, ⟨fun h => (by cases h)⟩, by simp [maxLen], fun d hd => (by cases hd)⟩
  · simp only [Value.cells, List.cons.injEq, and_true, Value.slice.injEq] at hcs
    obtain ⟨rfl, rfl, rfl⟩ := hcs
    have hlm : len ≤ m := by simp at hmm; omega
    have each : ∀ r, r < len → ∃ d : Dt, (∀ i v, (dotC d)[i]? = some v → W.cell? ((a.add (r * 2)).add i) = some v) ∧ d.2 < 18446744073709551616 := fun r hr => by
      obtain ⟨cs', h1, h2⟩ := hel r (by omega)
      rw [cellsO25] at h1
      have hc := World.cells?_some h1
      obtain ⟨d, h3, h4⟩ := dot_of_cells hc.2.1 h2
      refine ⟨d, fun i v hv => ?_, h4⟩
      have hi : i < 2 := by
        have := Array.getElem?_eq_some_iff.1 hv
        obtain ⟨hlt, _⟩ := this
        simpa using hlt
      have h5 := hc.2.2 i hi
      rw [h5, h3]
      simpa using hv
    obtain ⟨F, hF⟩ := Deep.choose_lt each
    have hlen : ((List.range len).map F).length = len := by simp
    refine ⟨some a, (List.range len).map F, cap, by rw [hlen], ⟨fun hp => ?_⟩, by rw [hlen]; omega, fun d hd => ?_⟩
    · rw [hlen] at hp ⊢
      obtain ⟨b, off, spot⟩ := a
      have hspot : spot = none := by simpa [Addr.add] using World.cell?_spot ((hF 0 hp).1 0 _ rfl)
      subst hspot
      have hc : ∀ j, j < len → ∀ i v, (dotC (F j))[i]? = some v → W.cell? ⟨b, off + j * 2 + i, none⟩ = some v := fun j hj i v hv => by
        have := (hF j hj).1 i v hv
        rwa [Go.WideShapes.add_plain, Go.WideShapes.add_plain] at this
      refine ⟨b, off, rfl, World.block_lt_of_cell? W _ (hc 0 hp 0 _ rfl), fun j hj i v hv => ?_⟩
      rw [List.getD_eq_getElem?_getD, List.getElem?_map, List.getElem?_range hj] at hv
      exact hc j hj i v hv
    · obtain ⟨j, hj, rfl⟩ := List.mem_map.1 hd
      exact (hF j (List.mem_range.1 hj)).2
end
end Go.Proofs.Ytnpacjdgbmldlaa
