/- What the statements of dots ask of fixed calls: it holds. -/
import Derived.Test.YtnpacjdgbmldlaaE5
import Derived.Test.YtnpacjdgbmldlaaD10
import Derived.Test.YtnpacjdgbmldlaaEq
namespace Go.Proofs.Ytnpacjdgbmldlaa
open Go.RowKit Go.Shelf Go.Lib Go.Sort Wr

theorem of_four : ofF [(2, 3), (1, 1), (2, 3), (0, 0)] = [(1, 1), (2, 3)] := by decide
theorem minus_two : ofF (someF [(1, 1), (2, 3)] [(2, 3)] false) = [(1, 1)] := by decide
theorem join_two : ofF ([(1, 1)] ++ [(1, 1), (2, 3)]) = [(1, 1), (2, 3)] := by decide
theorem meet_two : ofF (someF [(1, 1)] [(1, 1), (2, 3)] true) = [(1, 1)] := by decide
def fOf (l : List Nat) : Nat → Nat := fun i => l.getD i 0
theorem win_two : winF (fOf [1]) [(1, 1), (2, 3)] = [(1, 1)] := by decide
theorem set_two : isSet [(1, 1), (2, 3)] = true := by decide
theorem whole_two : isWhole [(1, 1), (2, 3)] = false := by decide
theorem whole_one : isWhole [(1, 1)] = true := by decide
theorem span_two : ∀ i, i < 8 → spanF [(1, 1), (2, 3)] i = fOf [1, 3] i := by decide

/-- The two dots, and what the call has laid of its own. -/
structure AL (w : World) (x : World) : Prop where
  a : DotAt x w.heap.size 25 1 1
  b : DotAt x (w.heap.size + 1) 25 2 3
  below : Below w.heap.size w x
theorem AL.then_ {w x y : World} (h : AL w x) (hb : Below x.heap.size x y) : AL w y := ⟨h.a.below hb h.a.lt, h.b.below hb h.b.lt, h.below.trans (hb.mono h.below.size)⟩

/-- All that the last region looks at. -/
structure S4 (w : World) (gL gM gN : Nat) (x : World) : Prop where
  al : AL w x
  l : x.heap[gL]? = some (.cells (dots2 [(1, 1), (2, 3)]).toArray 25 (0, 0))
  m : x.heap[gM]? = some (.cells (dots2 [(1, 1)]).toArray 25 (0, 0))
  n : x.heap[gN]? = some (.cells (dots2 [(1, 1)]).toArray 25 (0, 0))
theorem S4.then_ {w x y : World} {gL gM gN : Nat} (hb : Below x.heap.size x y) (h : S4 w gL gM gN x) : S4 w gL gM gN y := ⟨h.al.then_ hb, (hb.block _ (lt_of_row h.l)).trans h.l, (hb.block _ (lt_of_row h.m)).trans h.m, (hb.block _ (lt_of_row h.n)).trans h.n⟩
theorem S4.drew {w x : World} {gL gM gN : Nat} (I : S4 w gL gM gN x) : S4 w gL gM gN x.drew := S4.then_ (x := x) (y := x.drew) ⟨rfl, rfl, rfl, Nat.le_refl _, fun _ _ => rfl⟩ I
theorem S4.dl {w x : World} {gL gM gN : Nat} (I : S4 w gL gM gN x) : Dots x (· < x.heap.size) (some ⟨gL, 0, none⟩) [(1, 1), (2, 3)] := block_dots I.l (lt_of_row I.l)
theorem S4.dm {w x : World} {gL gM gN : Nat} (I : S4 w gL gM gN x) : Dots x (· < x.heap.size) (some ⟨gM, 0, none⟩) [(1, 1)] := block_dots I.m (lt_of_row I.m)
theorem S4.dn {w x : World} {gL gM gN : Nat} (I : S4 w gL gM gN x) : Dots x (· < x.heap.size) (some ⟨gN, 0, none⟩) [(1, 1)] := block_dots I.n (lt_of_row I.n)
/-- A slice of n elements. -/
def SlN (n : Nat) (v : Value) (_ : World) : Prop := ∃ g, v = .slice (some ⟨g, 0, none⟩) n n
theorem lt2 : ∀ d ∈ ([(1, 1), (2, 3)] : List Dt), d.2 < 18446744073709551616 := by decide
theorem lt1 : ∀ d ∈ ([(1, 1)] : List Dt), d.2 < 18446744073709551616 := by decide
theorem eq25 (w : World) : (Op.equalIn 10000 25 (Value.agg #[Value.int IntKind.i64 1, Value.int IntKind.u64 1]) (Value.agg #[Value.int IntKind.i64 1, Value.int IntKind.u64 1])).run Try.prog w = .ok true w := by go_simp
theorem exec_eql25 {ev : Operand → Value} {o : Oper} {w : World} (x y : Operand) (ho : o.op = .binOp .eql 25 x y 25) (hx : ev x = dotV 1 1) (hy : ev y = dotV 1 1) : (execOp ev o).run Try.prog w = .ok (.value (.bool true)) w := by
  unfold execOp
  simp only [ho, hx, hy]
  simp [eqGuard, Sem.run_bind, run_eql_struct, eq25, Result.andThen]
theorem exec_eql27 {ev : Operand → Value} {o : Oper} {w : World} (x y : Operand) (f : Nat → Nat) (ho : o.op = .binOp .eql 27 x y 27) (hx : ev x = vecV f) (hy : ev y = vecV f) : (execOp ev o).run Try.prog w = .ok (.value (.bool true)) w := by
  unfold execOp
  simp only [ho, hx, hy]
  have h := run_eql_arr (P := Try.prog) 27 23 8 .u64 .u64 Try.underlying27 Try.underlying23 size23 (fun w => agg23 w) f f w
  simp only [implies_true, decide_true] at h
  simp [eqGuard, Sem.run_bind, h, Result.andThen]
theorem head_range {x : World} {g : Nat} {d : Dt} {l : List Dt} (h : x.heap[g]? = some (.cells (dots2 (d :: l)).toArray 25 (0, 0))) : rangeA x g 0 (dotC d) := fun j v hv => by
  rw [cell_of_row _ _ _ _ _ _ h, Nat.zero_add]
  match j, hv with
  | 0, hv => exact hv
  | 1, hv => exact hv
theorem span_vec : vecV (spanF [(1, 1), (2, 3)]) = vecV (fOf [1, 3]) := by
  unfold vecV
  rw [arrOf_congr span_two]

set_option maxRecDepth 100000 in
set_option maxHeartbeats 8000000 in
theorem alive4_any (w : World) : Calls Try.prog 18 #[] w fun e w' => e = .returned (.bool true) ∧ Below w.heap.size w w' := by
  obtain ⟨y0, hy0⟩ : ∃ y0, y0 = (w.alloc (.cells #[.int .i64 0, .int .u64 0] 25)).alloc (.cells #[.int .i64 0, .int .u64 0] 25) := ⟨_, rfl⟩
  have hs1 : (w.alloc (.cells #[.int .i64 0, .int .u64 0] 25)).heap.size = w.heap.size + 1 := by simp
  have z0 : y0.heap[w.heap.size]? = some (.cells #[.int .i64 0, .int .u64 0] 25 (0, 0)) := by rw [hy0]; exact (Below.heap_alloc _ _ _ (by simp)).trans (heap_alloc_new _ _)
  have z1 : y0.heap[w.heap.size + 1]? = some (.cells #[.int .i64 0, .int .u64 0] 25 (0, 0)) := by rw [hy0, ← hs1]; exact heap_alloc_new _ _
  have zb : Below w.heap.size w y0 := by rw [hy0]; exact below2 _ _ _
  have z2 : (y0.setRow w.heap.size (dotC (1, 1))).heap[w.heap.size + 1]? = some (.cells #[.int .i64 0, .int .u64 0] 25 (0, 0)) := (setRow_other _ _ _ _ (by omega)).trans z1
  obtain ⟨x2, hx2⟩ : ∃ x2, x2 = (y0.setRow w.heap.size (dotC (1, 1))).setRow (w.heap.size + 1) (dotC (2, 3)) := ⟨_, rfl⟩
  have hA : AL w x2 := by
    rw [hx2]
    exact ⟨(setRow_other _ _ _ _ (by omega)).trans (setRow_heap _ _ _ _ _ _ z0), setRow_heap _ _ _ _ _ _ z2, below_setRow' (below_setRow' zb (Nat.le_refl _) _) (by omega) _⟩
  have HA := Lib.hid hA
  have HX := Lib.hid hx2
  have HY := Lib.hid hy0
  have Z0 := Lib.hid z0
  have Z2 := Lib.hid z2
  have s25 : ∀ d, Hid ((Try.prog.info? 25).map (·.size) = some (dotC d).size) := fun d => Lib.hid (dot_size25 d)
  have hsl : (x2.alloc (.cells (dots2 [(2, 3), (1, 1), (2, 3), (0, 0)]).toArray 25)).heap.size = x2.heap.size + 1 := by simp
  have HO := Lib.hid (dof_any [(2, 3), (1, 1), (2, 3), (0, 0)] 4 (some ⟨x2.heap.size, 0, none⟩) (x2.alloc (.cells (dots2 [(2, 3), (1, 1), (2, 3), (0, 0)]).toArray 25)) (block_dots (heap_alloc_new _ _) (by omega)) (by simp))
  rw [setF_rt, of_four] at HO
  have HAA := Lib.hid (hA.then_ (below1 x2 (.cells (dots2 [(2, 3), (1, 1), (2, 3), (0, 0)]).toArray 25)))
  clear hA hx2 hs1 hy0 z0 z1 zb z2 hsl
  go_enter Try.func18, Try.ntmps18
  go_wp2_with (first
    | (rw [← HY.out]; refine wpList_store_row rfl 25 _ _ rfl w.heap.size (dotC (1, 1)) rfl rfl 25 _ Z0.out (s25 _).out rfl (dotC_one _) ?_)
    | (refine wpList_store_row rfl 25 _ _ rfl (w.heap.size + 1) (dotC (2, 3)) rfl rfl 25 _ Z2.out (s25 _).out rfl (dotC_one _) ?_; rw [← HX.out])
    | (refine wpList_load_arr rfl 25 _ rfl w.heap.size 0 rfl (dotC (1, 1)) _ HA.out.a.range Try.underlying25 rfl (s25 _).out ?_)
    | (refine wpList_load_arr rfl 25 _ rfl (w.heap.size + 1) 0 rfl (dotC (2, 3)) _ HA.out.b.range Try.underlying25 rfl (s25 _).out ?_)
    | fail)
  refine HO.out.mono ?_
  rintro e w3 ⟨gL, rfl, hgL, hL, hb3⟩
  have HA3 := Lib.hid (HAA.out.then_ hb3)
  have HL3 := Lib.hid hL
  clear hgL hL hb3 HO HAA Z0 Z2 HY HX HA
  have hLl := lt_of_row HL3.out
  have HAA3 := Lib.hid (HA3.out.then_ (below1 w3 (.cells (dotC (2, 3)) 25)))
  have HM := Lib.hid (meet_any 37 false (.inr ⟨rfl, rfl⟩) [(1, 1), (2, 3)] [(2, 3)] 2 1 (some ⟨gL, 0, none⟩) (some ⟨w3.heap.size, 0, none⟩) (w3.alloc (.cells (dotC (2, 3)) 25))
    (block_dots ((Below.heap_alloc _ _ _ hLl).trans HL3.out) (by simp; omega)) (block_dots (ls := [(2, 3)]) (heap_alloc_new _ _) (by simp)) (by simp) (by simp))
  rw [minus_two] at HM
  have HLA : Hid ((w3.alloc (.cells (dotC (2, 3)) 25)).heap[gL]? = some (.cells (dots2 [(1, 1), (2, 3)]).toArray 25 (0, 0))) := Lib.hid ((Below.heap_alloc _ _ _ hLl).trans HL3.out)
  clear hLl
  go_wp2_with (first
    | (refine wpList_load_arr rfl 25 _ rfl (w.heap.size + 1) 0 rfl (dotC (2, 3)) _ HA3.out.b.range Try.underlying25 rfl (s25 _).out ?_)
    | fail)
  refine HM.out.mono ?_
  rintro e w4 ⟨gM, rfl, hgM, hMM, hb4⟩
  have HA4 := Lib.hid (HAA3.out.then_ hb4)
  have HL4 : Hid (w4.heap[gL]? = some (.cells (dots2 [(1, 1), (2, 3)]).toArray 25 (0, 0))) := Lib.hid ((hb4.block _ (lt_of_row HLA.out)).trans HLA.out)
  have HM4 := Lib.hid hMM
  clear hgM hMM hb4 HM HAA3 HLA HA3 HL3
  obtain ⟨x5, hx5⟩ : ∃ x5, x5 = w4.alloc (.cells #[.slice none 0 0] 96) := ⟨_, rfl⟩
  have hW5 : WAt x5 w4.heap.size w4.heap.size (.slice none 0 0) [] := by rw [hx5]; exact ⟨heap_alloc_new _ _, World.ownsRow_nil _ _ _ _, Nat.le_refl _⟩
  have hb5 : Below w4.heap.size w4 x5 := by rw [hx5]; exact below1 _ _
  have hML := lt_of_row HM4.out
  have hM5 := (hb5.block gM hML).trans HM4.out
  have HP := Lib.hid (dput1 x5 w4.heap.size w4.heap.size gM 1 (.slice none 0 0) [] hW5 (by simp) hML hM5)
  have HX5 := Lib.hid hx5
  have HW5 := Lib.hid hW5
  clear hx5 hML hM5 hb5 hW5
  go_wp2_with (rw [← HX5.out]; fail)
  rw [← HX5.out]
  refine HP.out.mono ?_
  rintro e w6 ⟨rfl, v6, hw6, ht6⟩
  have hb46 : Below w4.heap.size w4 w6 := by
    have h := ht6.below (B := w4.heap.size) (Nat.le_refl _) (fun k hk => by simp [Value.ownBlock] at hk) (by rw [HX5.out]; simp)
    exact (by rw [HX5.out]; exact below1 _ _ : Below w4.heap.size w4 x5).trans h
  have HA6 := Lib.hid (HA4.out.then_ hb46)
  have HL6 : Hid (w6.heap[gL]? = some (.cells (dots2 [(1, 1), (2, 3)]).toArray 25 (0, 0))) := Lib.hid ((hb46.block _ (lt_of_row HL4.out)).trans HL4.out)
  have HM6 : Hid (w6.heap[gM]? = some (.cells (dots2 [(1, 1)]).toArray 25 (0, 0))) := Lib.hid ((hb46.block _ (lt_of_row HM4.out)).trans HM4.out)
  obtain ⟨bs, hbs⟩ : ∃ bs, bs = [] ++ numB 1 ++ (numB 1 ++ numB 1) := ⟨_, rfl⟩
  rw [← hbs] at hw6
  have hz : ∀ z, z ∈ bs → z < 256 := by rw [hbs]; decide
  have hbl : bs.length ≤ 1000000 := by rw [hbs]; decide
  have HBS : Hid (bs.drop 0 = numB 1 ++ (numB 1 ++ (numB 1 ++ []))) := Lib.hid (by rw [hbs]; decide)
  have HB := Lib.hid (bytes_any w6 w4.heap.size w4.heap.size v6 bs hw6 hz hbl)
  have HZ := Lib.hid hz
  have HBL := Lib.hid hbl
  clear hw6 ht6 hb46 hbs hz hbl HP HX5 HW5 HA4 HL4 HM4
  go_wp2_with fail
  refine HB.out.mono ?_
  rintro e w7 ⟨u7, rfl, ho7, hb7⟩
  obtain ⟨A7, c7, rfl, hn7, hB7⟩ := own_bytes ho7 HZ.out
  have HA7 := Lib.hid (HA6.out.then_ hb7)
  have HL7 : Hid (w7.heap[gL]? = some (.cells (dots2 [(1, 1), (2, 3)]).toArray 25 (0, 0))) := Lib.hid ((hb7.block _ (lt_of_row HL6.out)).trans HL6.out)
  have HM7 : Hid (w7.heap[gM]? = some (.cells (dots2 [(1, 1)]).toArray 25 (0, 0))) := Lib.hid ((hb7.block _ (lt_of_row HM6.out)).trans HM6.out)
  have HF := Lib.hid (from_any bs c7 A7 w7 hB7 HBL.out)
  clear ho7 hb7 hn7 hB7 HB HA6 HL6 HM6
  go_wp2_with fail
  refine HF.out.mono ?_
  rintro e w8 ⟨R, A8, c8, rfl, hr8, hb8, hRl⟩
  have HA8 := Lib.hid (HA7.out.then_ hb8)
  have HL8 : Hid (w8.heap[gL]? = some (.cells (dots2 [(1, 1), (2, 3)]).toArray 25 (0, 0))) := Lib.hid ((hb8.block _ (lt_of_row HL7.out)).trans HL7.out)
  have HM8 : Hid (w8.heap[gM]? = some (.cells (dots2 [(1, 1)]).toArray 25 (0, 0))) := Lib.hid ((hb8.block _ (lt_of_row HM7.out)).trans HM7.out)
  have HRL : Hid (w7.heap.size ≤ R ∧ gL < w7.heap.size ∧ gM < w7.heap.size ∧ w.heap.size + 2 ≤ w7.heap.size) := Lib.hid ⟨hRl, lt_of_row HL7.out, lt_of_row HM7.out, by have := HA7.out.b.lt; omega⟩
  have HT := Lib.hid (dtake1 w8 R A8 c8 bs [] 0 hr8 HBL.out HBS.out)
  clear hr8 hb8 hRl HF HA7 HL7 HM7
  go_wp2_with fail
  refine HT.out.mono ?_
  rintro e w9 ⟨gN, rfl, hgN, hN9, hg9⟩
  have hk9 : ∀ k, k < w8.heap.size → k ≠ R → w9.heap[k]? = w8.heap[k]? := fun k hk hne => hg9.block k hk (fun e => hne (by injection e))
  have HA9 : Hid (AL w w9) := Lib.hid ⟨(hk9 _ HA8.out.a.lt (by have := HRL.out; omega)).trans HA8.out.a, (hk9 _ HA8.out.b.lt (by have := HRL.out; omega)).trans HA8.out.b, HA8.out.below.grown hg9 HA8.out.below.size (fun k e => by cases e; have := HRL.out; omega)⟩
  have HL9 : Hid (w9.heap[gL]? = some (.cells (dots2 [(1, 1), (2, 3)]).toArray 25 (0, 0))) := Lib.hid ((hk9 _ (lt_of_row HL8.out) (by have := HRL.out; omega)).trans HL8.out)
  have HM9 : Hid (w9.heap[gM]? = some (.cells (dots2 [(1, 1)]).toArray 25 (0, 0))) := Lib.hid ((hk9 _ (lt_of_row HM8.out) (by have := HRL.out; omega)).trans HM8.out)
  have HN9 := Lib.hid hN9
  clear hgN hN9 hg9 hk9 HT HA8 HL8 HM8 HRL
  have HI : Hid (S4 w gL gM gN w9) := Lib.hid ⟨HA9.out, HL9.out, HM9.out, HN9.out⟩
  clear HA9 HL9 HM9 HN9 s25
  go_wp2_with fail
  apply WM.relist
  · simp only [WM.app_cons, WM.app_nil]; rfl
  refine WM.wp_region_kinds (fun _ x y => Below x.heap.size x y) (fun _ x => S4 w gL gM gN x) (fun x => S4 w gL gM gN x)
    [(6, .val (dotV 1 1) fun _ => True), (7, .val (dotV 1 1) fun _ => True), (12, .val (.bool true) fun _ => True), (16, .val (.bool false) fun _ => True), (21, .val (.bool true) fun _ => True), (26, .val (.bool true) fun _ => True), (35, .val (vecV (fOf [1, 3])) fun _ => True), (41, .val (dotV 2 3) fun _ => True), (42, .val (.bool true) fun _ => True), (47, .mem (SlN 1)), (48, .val (.int .i64 1) fun _ => True), (54, .mem (SlN 2)), (55, .val (.int .i64 2) fun _ => True), (61, .mem (SlN 1)), (62, .val (.int .i64 1) fun _ => True)] (by kernel_rfl) (by kernel_rfl) (fun _ _ _ hb h => S4.then_ hb h) (fun _ _ _ _ _ hb h => S4.then_ hb h) ?_ HI.out.drew (fun _ => HI.out.drew) ?_
  · intro z hz
    simp only [List.mem_cons, List.mem_nil_iff, or_false] at hz
    rcases hz with rfl | rfl | rfl | rfl | rfl | rfl | rfl | rfl | rfl | rfl | rfl | rfl | rfl | rfl | rfl <;> first | exact fun _ _ _ _ _ _ => trivial | exact fun _ _ _ _ _ _ h => h
  iterate 3
    refine WM.mono_pure rfl rfl ?_
    apply Exists.intro
    refine ⟨fun x => ?_, ?_⟩
    · go_simp
      rfl
    apply Exists.intro
    refine ⟨by simp only [Act.put, List.setIfInBounds_toArray, List.set_cons_succ, List.set_cons_zero]; rfl, ?_⟩
  refine WM.mono_pure rfl rfl ?_
  refine ⟨.bool true, fun x => ?_, ?_⟩
  · go_simp
  apply Exists.intro
  refine ⟨by simp only [Act.put, List.setIfInBounds_toArray, List.set_cons_succ, List.set_cons_zero]; rfl, ?_⟩
  iterate 2
    refine WM.mono_pure rfl rfl ?_
    apply Exists.intro
    refine ⟨fun x => ?_, ?_⟩
    · go_simp
      rfl
    apply Exists.intro
    refine ⟨by simp only [Act.put, List.setIfInBounds_toArray, List.set_cons_succ, List.set_cons_zero]; rfl, ?_⟩
  refine WM.mono_val rfl rfl (fun x hD hF => ?_) ?_
  · have hl := run_loadVar_arr (P := Try.prog) x gL 0 25 (dotC (1, 1)) _ (head_range hD.l) Try.underlying25 rfl (dot_size25 _)
    rw [exec_load 25 (.tmp 33) rfl gL 0 rfl hl]
    exact ⟨Below.refl _ _, rfl, trivial⟩
  apply Exists.intro
  refine ⟨by simp only [Act.put, List.setIfInBounds_toArray, List.set_cons_succ, List.set_cons_zero]; rfl, ?_⟩
  refine WM.mono_val rfl rfl (fun x hD hF => ?_) ?_
  · have hl := run_loadVar_arr (P := Try.prog) x w.heap.size 0 25 (dotC (1, 1)) _ hD.al.a.range Try.underlying25 rfl (dot_size25 _)
    rw [exec_load 25 (.tmp 1) rfl w.heap.size 0 rfl hl]
    exact ⟨Below.refl _ _, rfl, trivial⟩
  apply Exists.intro
  refine ⟨by simp only [Act.put, List.setIfInBounds_toArray, List.set_cons_succ, List.set_cons_zero]; rfl, ?_⟩
  refine WM.mono_pure rfl rfl ?_
  refine ⟨.bool true, fun x => ?_, ?_⟩
  · exact exec_eql25 (.tmp 34) (.tmp 35) rfl rfl rfl
  apply Exists.intro
  refine ⟨by simp only [Act.put, List.setIfInBounds_toArray, List.set_cons_succ, List.set_cons_zero]; rfl, ?_⟩
  refine WM.mono_pure rfl rfl ?_
  refine ⟨.bool true, fun x => ?_, ?_⟩
  · go_simp
  apply Exists.intro
  refine ⟨by simp only [Act.put, List.setIfInBounds_toArray, List.set_cons_succ, List.set_cons_zero]; rfl, ?_⟩
  refine WM.mono_pure rfl rfl ?_
  refine ⟨.bool true, fun x => ?_, ?_⟩
  · go_simp
  apply Exists.intro
  refine ⟨by simp only [Act.put, List.setIfInBounds_toArray, List.set_cons_succ, List.set_cons_zero]; rfl, ?_⟩
  iterate 1
    refine WM.mono_pure rfl rfl ?_
    apply Exists.intro
    refine ⟨fun x => ?_, ?_⟩
    · go_simp
      rfl
    apply Exists.intro
    refine ⟨by simp only [Act.put, List.setIfInBounds_toArray, List.set_cons_succ, List.set_cons_zero]; rfl, ?_⟩
  refine WM.mono_val rfl rfl (fun x hD hF => ?_) ?_
  · go_simp
    refine (dright_any [(1, 1), (2, 3)] 2 (some ⟨gL, 0, none⟩) x hD.dl (by simp)).mono ?_
    rintro e y ⟨rfl, hg⟩
    exact ⟨_, rfl, hg, by rw [set_two]⟩
  apply Exists.intro
  refine ⟨by simp only [Act.put, List.setIfInBounds_toArray, List.set_cons_succ, List.set_cons_zero]; rfl, ?_⟩
  refine WM.mono_pure rfl rfl ?_
  refine ⟨.bool true, fun x => ?_, ?_⟩
  · go_simp
  apply Exists.intro
  refine ⟨by simp only [Act.put, List.setIfInBounds_toArray, List.set_cons_succ, List.set_cons_zero]; rfl, ?_⟩
  refine WM.mono_pure rfl rfl ?_
  refine ⟨.bool true, fun x => ?_, ?_⟩
  · go_simp
  apply Exists.intro
  refine ⟨by simp only [Act.put, List.setIfInBounds_toArray, List.set_cons_succ, List.set_cons_zero]; rfl, ?_⟩
  iterate 1
    refine WM.mono_pure rfl rfl ?_
    apply Exists.intro
    refine ⟨fun x => ?_, ?_⟩
    · go_simp
      rfl
    apply Exists.intro
    refine ⟨by simp only [Act.put, List.setIfInBounds_toArray, List.set_cons_succ, List.set_cons_zero]; rfl, ?_⟩
  refine WM.mono_val rfl rfl (fun x hD hF => ?_) ?_
  · go_simp
    refine (dwhole_any [(1, 1), (2, 3)] 2 (some ⟨gL, 0, none⟩) x hD.dl (by simp) lt2).mono ?_
    rintro e y ⟨rfl, hg⟩
    exact ⟨_, rfl, hg, by rw [whole_two]⟩
  apply Exists.intro
  refine ⟨by simp only [Act.put, List.setIfInBounds_toArray, List.set_cons_succ, List.set_cons_zero]; rfl, ?_⟩
  refine WM.mono_pure rfl rfl ?_
  refine ⟨.bool true, fun x => ?_, ?_⟩
  · go_simp
  apply Exists.intro
  refine ⟨by simp only [Act.put, List.setIfInBounds_toArray, List.set_cons_succ, List.set_cons_zero]; rfl, ?_⟩
  refine WM.mono_pure rfl rfl ?_
  refine ⟨.bool true, fun x => ?_, ?_⟩
  · go_simp
  apply Exists.intro
  refine ⟨by simp only [Act.put, List.setIfInBounds_toArray, List.set_cons_succ, List.set_cons_zero]; rfl, ?_⟩
  refine WM.mono_pure rfl rfl ?_
  refine ⟨.bool true, fun x => ?_, ?_⟩
  · go_simp
  apply Exists.intro
  refine ⟨by simp only [Act.put, List.setIfInBounds_toArray, List.set_cons_succ, List.set_cons_zero]; rfl, ?_⟩
  iterate 1
    refine WM.mono_pure rfl rfl ?_
    apply Exists.intro
    refine ⟨fun x => ?_, ?_⟩
    · go_simp
      rfl
    apply Exists.intro
    refine ⟨by simp only [Act.put, List.setIfInBounds_toArray, List.set_cons_succ, List.set_cons_zero]; rfl, ?_⟩
  refine WM.mono_val rfl rfl (fun x hD hF => ?_) ?_
  · go_simp
    refine (dwhole_any [(1, 1)] 1 (some ⟨gM, 0, none⟩) x hD.dm (by simp) lt1).mono ?_
    rintro e y ⟨rfl, hg⟩
    exact ⟨_, rfl, hg, by rw [whole_one]⟩
  apply Exists.intro
  refine ⟨by simp only [Act.put, List.setIfInBounds_toArray, List.set_cons_succ, List.set_cons_zero]; rfl, ?_⟩
  refine WM.mono_pure rfl rfl ?_
  refine ⟨.bool true, fun x => ?_, ?_⟩
  · go_simp
  apply Exists.intro
  refine ⟨by simp only [Act.put, List.setIfInBounds_toArray, List.set_cons_succ, List.set_cons_zero]; rfl, ?_⟩
  refine WM.mono_pure rfl rfl ?_
  refine ⟨.bool true, fun x => ?_, ?_⟩
  · go_simp
  apply Exists.intro
  refine ⟨by simp only [Act.put, List.setIfInBounds_toArray, List.set_cons_succ, List.set_cons_zero]; rfl, ?_⟩
  iterate 2
    refine WM.mono_pure rfl rfl ?_
    apply Exists.intro
    refine ⟨fun x => ?_, ?_⟩
    · go_simp
      rfl
    apply Exists.intro
    refine ⟨by simp only [Act.put, List.setIfInBounds_toArray, List.set_cons_succ, List.set_cons_zero]; rfl, ?_⟩
  refine WM.mono_val rfl rfl (fun x hD hF => ?_) ?_
  · go_simp
    refine (dsame_any [(1, 1)] [(1, 1)] 1 1 (some ⟨gM, 0, none⟩) (some ⟨gN, 0, none⟩) x hD.dm hD.dn (by simp)).mono ?_
    rintro e y ⟨rfl, hg⟩
    exact ⟨_, rfl, hg, by simp⟩
  apply Exists.intro
  refine ⟨by simp only [Act.put, List.setIfInBounds_toArray, List.set_cons_succ, List.set_cons_zero]; rfl, ?_⟩
  refine WM.mono_pure rfl rfl ?_
  refine ⟨.bool true, fun x => ?_, ?_⟩
  · go_simp
  apply Exists.intro
  refine ⟨by simp only [Act.put, List.setIfInBounds_toArray, List.set_cons_succ, List.set_cons_zero]; rfl, ?_⟩
  refine WM.mono_pure rfl rfl ?_
  refine ⟨.bool true, fun x => ?_, ?_⟩
  · go_simp
  apply Exists.intro
  refine ⟨by simp only [Act.put, List.setIfInBounds_toArray, List.set_cons_succ, List.set_cons_zero]; rfl, ?_⟩
  iterate 2
    refine WM.mono_pure rfl rfl ?_
    apply Exists.intro
    refine ⟨fun x => ?_, ?_⟩
    · go_simp
      rfl
    apply Exists.intro
    refine ⟨by simp only [Act.put, List.setIfInBounds_toArray, List.set_cons_succ, List.set_cons_zero]; rfl, ?_⟩
  refine WM.mono_pure rfl rfl ?_
  refine ⟨.bool true, fun x => ?_, ?_⟩
  · go_simp
  apply Exists.intro
  refine ⟨by simp only [Act.put, List.setIfInBounds_toArray, List.set_cons_succ, List.set_cons_zero]; rfl, ?_⟩
  refine WM.mono_pure rfl rfl ?_
  refine ⟨.bool true, fun x => ?_, ?_⟩
  · go_simp
  apply Exists.intro
  refine ⟨by simp only [Act.put, List.setIfInBounds_toArray, List.set_cons_succ, List.set_cons_zero]; rfl, ?_⟩
  refine WM.mono_pure rfl rfl ?_
  refine ⟨.bool true, fun x => ?_, ?_⟩
  · go_simp
  apply Exists.intro
  refine ⟨by simp only [Act.put, List.setIfInBounds_toArray, List.set_cons_succ, List.set_cons_zero]; rfl, ?_⟩
  iterate 1
    refine WM.mono_pure rfl rfl ?_
    apply Exists.intro
    refine ⟨fun x => ?_, ?_⟩
    · go_simp
      rfl
    apply Exists.intro
    refine ⟨by simp only [Act.put, List.setIfInBounds_toArray, List.set_cons_succ, List.set_cons_zero]; rfl, ?_⟩
  refine WM.mono_val rfl rfl (fun x hD hF => ?_) ?_
  · go_simp
    refine (dspan_any [(1, 1), (2, 3)] 2 (some ⟨gL, 0, none⟩) x hD.dl (by simp)).mono ?_
    rintro e y ⟨rfl, hg⟩
    exact ⟨_, rfl, hg, by rw [span_vec]⟩
  apply Exists.intro
  refine ⟨by simp only [Act.put, List.setIfInBounds_toArray, List.set_cons_succ, List.set_cons_zero]; rfl, ?_⟩
  refine WM.mono_pure rfl rfl ?_
  refine ⟨vecV (fOf [1, 3]), fun x => ?_, ?_⟩
  · go_simp
    rfl
  apply Exists.intro
  refine ⟨by simp only [Act.put, List.setIfInBounds_toArray, List.set_cons_succ, List.set_cons_zero]; rfl, ?_⟩
  refine WM.mono_pure rfl rfl ?_
  refine ⟨.bool true, fun x => ?_, ?_⟩
  · exact exec_eql27 (.tmp 63) (.tmp 64) (fOf [1, 3]) rfl rfl rfl
  apply Exists.intro
  refine ⟨by simp only [Act.put, List.setIfInBounds_toArray, List.set_cons_succ, List.set_cons_zero]; rfl, ?_⟩
  refine WM.mono_pure rfl rfl ?_
  refine ⟨.bool true, fun x => ?_, ?_⟩
  · go_simp
  apply Exists.intro
  refine ⟨by simp only [Act.put, List.setIfInBounds_toArray, List.set_cons_succ, List.set_cons_zero]; rfl, ?_⟩
  refine WM.mono_pure rfl rfl ?_
  refine ⟨.bool true, fun x => ?_, ?_⟩
  · go_simp
  apply Exists.intro
  refine ⟨by simp only [Act.put, List.setIfInBounds_toArray, List.set_cons_succ, List.set_cons_zero]; rfl, ?_⟩
  iterate 1
    refine WM.mono_pure rfl rfl ?_
    apply Exists.intro
    refine ⟨fun x => ?_, ?_⟩
    · go_simp
      rfl
    apply Exists.intro
    refine ⟨by simp only [Act.put, List.setIfInBounds_toArray, List.set_cons_succ, List.set_cons_zero]; rfl, ?_⟩
  refine WM.mono_val rfl rfl (fun x hD hF => ?_) ?_
  · have hl := run_loadVar_arr (P := Try.prog) x (w.heap.size + 1) 0 25 (dotC (2, 3)) _ hD.al.b.range Try.underlying25 rfl (dot_size25 _)
    rw [exec_load 25 (.tmp 2) rfl (w.heap.size + 1) 0 rfl hl]
    exact ⟨Below.refl _ _, rfl, trivial⟩
  apply Exists.intro
  refine ⟨by simp only [Act.put, List.setIfInBounds_toArray, List.set_cons_succ, List.set_cons_zero]; rfl, ?_⟩
  refine WM.mono_val rfl rfl (fun x hD hF => ?_) ?_
  · go_simp
    refine (dhas_any [(1, 1), (2, 3)] 2 (some ⟨gL, 0, none⟩) (2, 3) x hD.dl (by simp)).mono ?_
    rintro e y ⟨rfl, hg⟩
    exact ⟨_, rfl, hg, by simp⟩
  apply Exists.intro
  refine ⟨by simp only [Act.put, List.setIfInBounds_toArray, List.set_cons_succ, List.set_cons_zero]; rfl, ?_⟩
  refine WM.mono_pure rfl rfl ?_
  refine ⟨.bool true, fun x => ?_, ?_⟩
  · go_simp
  apply Exists.intro
  refine ⟨by simp only [Act.put, List.setIfInBounds_toArray, List.set_cons_succ, List.set_cons_zero]; rfl, ?_⟩
  refine WM.mono_pure rfl rfl ?_
  refine ⟨.bool true, fun x => ?_, ?_⟩
  · go_simp
  apply Exists.intro
  refine ⟨by simp only [Act.put, List.setIfInBounds_toArray, List.set_cons_succ, List.set_cons_zero]; rfl, ?_⟩
  iterate 1
    refine WM.mono_pure rfl rfl ?_
    apply Exists.intro
    refine ⟨fun x => ?_, ?_⟩
    · go_simp
      rfl
    apply Exists.intro
    refine ⟨by simp only [Act.put, List.setIfInBounds_toArray, List.set_cons_succ, List.set_cons_zero]; rfl, ?_⟩
  refine WM.mono_pure rfl rfl ?_
  refine ⟨vecV (fOf [1]), fun x => ?_, ?_⟩
  · go_simp
    rfl
  apply Exists.intro
  refine ⟨by simp only [Act.put, List.setIfInBounds_toArray, List.set_cons_succ, List.set_cons_zero]; rfl, ?_⟩
  refine WM.mono_mem rfl rfl (fun x hD hF => ?_) (fun v75 => ?_)
  · have h1 := dwithin_any (fOf [1]) [(1, 1), (2, 3)] 2 (some ⟨gL, 0, none⟩) x hD.dl (by simp)
    rw [win_two] at h1
    go_simp
    refine h1.mono ?_
    rintro e y ⟨g, rfl, _, _, hg⟩
    exact ⟨_, rfl, hg, g, rfl⟩
  apply Exists.intro
  refine ⟨by simp only [Act.put, List.setIfInBounds_toArray, List.set_cons_succ, List.set_cons_zero]; rfl, ?_⟩
  refine WM.mono_val rfl rfl (fun x hD hF => ?_) ?_
  · obtain ⟨g, e1⟩ := (hF 47 _ 75 rfl rfl (by decide)).1
    subst e1
    go_simp
    exact ⟨Below.refl _ _, rfl⟩
  apply Exists.intro
  refine ⟨by simp only [Act.put, List.setIfInBounds_toArray, List.set_cons_succ, List.set_cons_zero]; rfl, ?_⟩
  refine WM.mono_pure rfl rfl ?_
  refine ⟨.bool true, fun x => ?_, ?_⟩
  · go_simp
  apply Exists.intro
  refine ⟨by simp only [Act.put, List.setIfInBounds_toArray, List.set_cons_succ, List.set_cons_zero]; rfl, ?_⟩
  refine WM.mono_pure rfl rfl ?_
  refine ⟨.bool true, fun x => ?_, ?_⟩
  · go_simp
  apply Exists.intro
  refine ⟨by simp only [Act.put, List.setIfInBounds_toArray, List.set_cons_succ, List.set_cons_zero]; rfl, ?_⟩
  refine WM.mono_pure rfl rfl ?_
  refine ⟨.bool true, fun x => ?_, ?_⟩
  · go_simp
  apply Exists.intro
  refine ⟨by simp only [Act.put, List.setIfInBounds_toArray, List.set_cons_succ, List.set_cons_zero]; rfl, ?_⟩
  iterate 2
    refine WM.mono_pure rfl rfl ?_
    apply Exists.intro
    refine ⟨fun x => ?_, ?_⟩
    · go_simp
      rfl
    apply Exists.intro
    refine ⟨by simp only [Act.put, List.setIfInBounds_toArray, List.set_cons_succ, List.set_cons_zero]; rfl, ?_⟩
  refine WM.mono_mem rfl rfl (fun x hD hF => ?_) (fun v82 => ?_)
  · have h1 := djoin_any [(1, 1)] [(1, 1), (2, 3)] 1 2 (some ⟨gM, 0, none⟩) (some ⟨gL, 0, none⟩) x hD.dm hD.dl (by simp) (by simp)
    rw [join_two] at h1
    go_simp
    refine h1.mono ?_
    rintro e y ⟨g, rfl, _, _, hg⟩
    exact ⟨_, rfl, hg, g, rfl⟩
  apply Exists.intro
  refine ⟨by simp only [Act.put, List.setIfInBounds_toArray, List.set_cons_succ, List.set_cons_zero]; rfl, ?_⟩
  refine WM.mono_val rfl rfl (fun x hD hF => ?_) ?_
  · obtain ⟨g, e1⟩ := (hF 54 _ 82 rfl rfl (by decide)).1
    subst e1
    go_simp
    exact ⟨Below.refl _ _, rfl⟩
  apply Exists.intro
  refine ⟨by simp only [Act.put, List.setIfInBounds_toArray, List.set_cons_succ, List.set_cons_zero]; rfl, ?_⟩
  refine WM.mono_pure rfl rfl ?_
  refine ⟨.bool true, fun x => ?_, ?_⟩
  · go_simp
  apply Exists.intro
  refine ⟨by simp only [Act.put, List.setIfInBounds_toArray, List.set_cons_succ, List.set_cons_zero]; rfl, ?_⟩
  refine WM.mono_pure rfl rfl ?_
  refine ⟨.bool true, fun x => ?_, ?_⟩
  · go_simp
  apply Exists.intro
  refine ⟨by simp only [Act.put, List.setIfInBounds_toArray, List.set_cons_succ, List.set_cons_zero]; rfl, ?_⟩
  refine WM.mono_pure rfl rfl ?_
  refine ⟨.bool true, fun x => ?_, ?_⟩
  · go_simp
  apply Exists.intro
  refine ⟨by simp only [Act.put, List.setIfInBounds_toArray, List.set_cons_succ, List.set_cons_zero]; rfl, ?_⟩
  iterate 2
    refine WM.mono_pure rfl rfl ?_
    apply Exists.intro
    refine ⟨fun x => ?_, ?_⟩
    · go_simp
      rfl
    apply Exists.intro
    refine ⟨by simp only [Act.put, List.setIfInBounds_toArray, List.set_cons_succ, List.set_cons_zero]; rfl, ?_⟩
  refine WM.mono_mem rfl rfl (fun x hD hF => ?_) (fun v89 => ?_)
  · have h1 := meet_any 35 true (.inl ⟨rfl, rfl⟩) [(1, 1)] [(1, 1), (2, 3)] 1 2 (some ⟨gM, 0, none⟩) (some ⟨gL, 0, none⟩) x hD.dm hD.dl (by simp) (by simp)
    rw [meet_two] at h1
    go_simp
    refine h1.mono ?_
    rintro e y ⟨g, rfl, _, _, hg⟩
    exact ⟨_, rfl, hg, g, rfl⟩
  apply Exists.intro
  refine ⟨by simp only [Act.put, List.setIfInBounds_toArray, List.set_cons_succ, List.set_cons_zero]; rfl, ?_⟩
  refine WM.mono_val rfl rfl (fun x hD hF => ?_) ?_
  · obtain ⟨g, e1⟩ := (hF 61 _ 89 rfl rfl (by decide)).1
    subst e1
    go_simp
    exact ⟨Below.refl _ _, rfl⟩
  apply Exists.intro
  refine ⟨by simp only [Act.put, List.setIfInBounds_toArray, List.set_cons_succ, List.set_cons_zero]; rfl, ?_⟩
  refine WM.mono_pure rfl rfl ?_
  refine ⟨.bool true, fun x => ?_, ?_⟩
  · go_simp
  apply Exists.intro
  refine ⟨by simp only [Act.put, List.setIfInBounds_toArray, List.set_cons_succ, List.set_cons_zero]; rfl, ?_⟩
  refine WM.mono_pure rfl rfl ?_
  refine ⟨.bool true, fun x => ?_, ?_⟩
  · go_simp
  apply Exists.intro
  refine ⟨by simp only [Act.put, List.setIfInBounds_toArray, List.set_cons_succ, List.set_cons_zero]; rfl, ?_⟩
  refine WM.mono_pure rfl rfl ?_
  refine ⟨.bool true, fun x => ?_, ?_⟩
  · go_simp
  apply Exists.intro
  refine ⟨by simp only [Act.put, List.setIfInBounds_toArray, List.set_cons_succ, List.set_cons_zero]; rfl, ?_⟩
  refine WM.mono_nil ?_
  intro x hD hF
  have HX := Lib.hid hD
  clear hD hF HI
  go_simp
  go_wp2
  go_ret
  exact ⟨rfl, HX.out.al.below⟩
end Go.Proofs.Ytnpacjdgbmldlaa
