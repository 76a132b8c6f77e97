/- dots.Join, Span, Within. -/
import Derived.Test.YtnpacjdgbmldlaaE2
namespace Go.Proofs.Ytnpacjdgbmldlaa
open Go.RowKit Go.Shelf Go.Lib Go.Sort
attribute [local go_sem] Oper.semAt_some

set_option maxRecDepth 100000 in
set_option maxHeartbeats 1000000 in
theorem djoin_any (xs ys : List Dt) (c c' : Nat) (A B : Option Addr) (w : World) (hx : Dots w (· < w.heap.size) A xs) (hy : Dots w (· < w.heap.size) B ys) (hmx : xs.length ≤ 400000) (hmy : ys.length ≤ 400000) :
    Calls Try.prog 33 #[.slice A xs.length c, .slice B ys.length c'] w fun e w' => ∃ g, e = .returned (.slice (some ⟨g, 0, none⟩) (ofF (xs ++ ys)).length (ofF (xs ++ ys)).length) ∧ w.heap.size ≤ g ∧ w'.heap[g]? = some (.cells (dots2 (ofF (xs ++ ys))).toArray 25 (0, 0)) ∧ Below w.heap.size w w' := by
  have HX := Lib.hid hx
  have HY := Lib.hid hy
  have HMX := Lib.hid hmx
  have HMY := Lib.hid hmy
  clear hx hy hmx hmy
  obtain ⟨r, hr⟩ : ∃ r, r = ofF (xs ++ ys) := ⟨_, rfl⟩
  rw [← hr]
  have HRR := Lib.hid hr
  clear hr
  have HR := Lib.hid (fun W => rightV_any (some ⟨w.heap.size, 0, none⟩) 2 2 W)
  go_enter Try.func33, Try.ntmps33
  go_wp2_with fail
  refine (HR.out _).mono ?_
  rintro e w1 ⟨rfl, hw1⟩
  have hs1 : (w.alloc (.cells #[.slice A xs.length c, .slice B ys.length c'] 22)).heap.size = w.heap.size + 1 := by simp
  have hsz : w1.heap.size = w.heap.size + 2 := by rw [hw1]; simp
  have hB1 : Below w.heap.size w w1 := by rw [hw1]; exact below2 _ _ _
  have hrow : w1.heap[w.heap.size]? = some (.cells #[.slice A xs.length c, .slice B ys.length c'] 22 (0, 0)) := by rw [hw1, Below.heap_alloc _ _ _ (by simp)]; exact heap_alloc_new _ _
  have hY : Yields 110 #[.pointer (some ⟨w.heap.size + 1, 0, none⟩)] (rts [xs, ys]) w1.heap.size w1 :=
    right_yields _ _ w.heap.size 0 2 [xs, ys] (by simp) (fun l hl => by
        simp only [List.mem_cons, List.mem_nil_iff, or_false] at hl
        rcases hl with rfl | rfl
        · have := HMX.out; omega
        · have := HMY.out; omega) w1 (by omega) (by omega)
      (by rw [hw1, ← hs1, cell_of_row _ _ _ _ _ _ (heap_alloc_new _ _)]; rfl)
      ⟨fun i hi => by
        have hi' : i < 2 := by simpa using hi
        rcases (show i = 0 ∨ i = 1 by omega) with rfl | rfl
        · exact ⟨A, c, by rw [cell_of_row _ _ _ _ _ _ hrow]; rfl, (HX.out.below hB1).loose fun b hb => by omega⟩
        · exact ⟨B, c', by rw [cell_of_row _ _ _ _ _ _ hrow]; rfl, (HY.out.below hB1).loose fun b hb => by omega⟩⟩
  have hl : (rts [xs, ys]).length ≤ 1000000 := by
    have h1 : rts [xs, ys] = rt xs ++ rt ys := by simp [rts]
    have h2 : (rt xs).length ≤ xs.length := List.length_filter_le _ _
    have h3 : (rt ys).length ≤ ys.length := List.length_filter_le _ _
    rw [h1, List.length_append]
    have := HMX.out
    have := HMY.out
    omega
  have HC := Lib.hid (set_any 110 _ (rts [xs, ys]) w1 enters110 hY hl)
  have hof : setF (rts [xs, ys]) = ofF (xs ++ ys) := by rw [setF_rts]; simp
  rw [hof] at HC
  have HB1 := Lib.hid hB1
  rw [← HRR.out] at HC
  clear hY hw1 hsz hB1 HR hs1 hrow hl hof
  go_wp2_with fail
  refine HC.out.mono ?_
  rintro e w2 ⟨g, rfl, hg, hr, hb⟩
  have HG := Lib.hid hg
  have HR := Lib.hid hr
  have HB := Lib.hid hb
  clear hg hr hb HC
  go_wp2_with fail
  go_ret
  exact ⟨g, rfl, Nat.le_trans HB1.out.size HG.out, HR.out, HB1.out.trans (HB.out.mono HB1.out.size)⟩

/-! ### Span -/
theorem block_own {β : Type} (B : Nat) (t : TypeId) (f : β → Array Value) : Own (fun s W => W.heap[B]? = some (.cells (f s) t (0, 0))) := fun s X Y row hs hg hrow => by
  refine (hg.block B (lt_of_row hs) (fun e' => ?_)).trans hs
  obtain ⟨o, ho, hc⟩ := hrow B e'.symm
  rw [hs] at ho
  cases ho
  cases hc
theorem keeps_setRow {W : World} {g : Nat} {cs : Array Value} {t : TypeId} {fr : Nat × Nat} (h : W.heap[g]? = some (.cells cs t fr)) (cs' : Array Value) : KeepsOthers W (W.setRow g cs') where
  size := by simp
  same k o hk ho := by
    rw [setRow_other W g k cs' (fun e => by rw [e, h] at hk; cases hk; cases ho)]
    exact hk
theorem below_keeps {W Y : World} (h : Below W.heap.size W Y) : KeepsOthers W Y where
  size := h.size
  same k o hk _ := (h.block k (lt_of_row hk)).trans hk
theorem spanF_rt (ls : List Dt) : spanF (rt ls) = spanF ls := by
  have h : ∀ (ls : List Dt) (f : Nat → Nat), (rt ls).foldl (fun f d => Vec.with_ f d.1 d.2) f = ls.foldl (fun f d => Vec.with_ f d.1 d.2) f := by
    intro ls
    induction ls with
    | nil => intro f; rfl
    | cons d ls ih =>
      intro f
      cases hr : Vec.right d.1 d.2 with
      | true =>
        rw [show rt (d :: ls) = d :: rt ls by unfold rt; rw [List.filter_cons, if_pos hr]]
        exact ih _
      | false =>
        rw [show rt (d :: ls) = rt ls by unfold rt; rw [List.filter_cons, if_neg (by rw [hr]; simp)], List.foldl_cons, ih]
        congr 1
        unfold Vec.with_
        rw [hr]
        simp
  exact h ls _
theorem spanF_snoc (ls : List Dt) (d : Dt) : spanF (ls ++ [d]) = Vec.with_ (spanF ls) d.1 d.2 := by
  unfold spanF
  rw [List.foldl_append]
  rfl
theorem size27v (f : Nat → Nat) : (Try.prog.info? 27).map (·.size) = some (arrOf .u64 8 f).size := by rw [arrOf_size]; exact size27

set_option maxRecDepth 100000 in
set_option maxHeartbeats 4000000 in
theorem dspan_any (ls : List Dt) (c : Nat) (A : Option Addr) (w : World) (hv : Dots w (· < w.heap.size) A ls) (hm : ls.length ≤ 1000000) :
    Calls Try.prog 27 #[.slice A ls.length c] w fun e w' => e = .returned (vecV (spanF ls)) ∧ Below w.heap.size w w' := by
  refine (callsIn_wide (n := 9)).1 ?_
  have HV := Lib.hid hv
  have HM := Lib.hid hm
  obtain ⟨f, hf⟩ : ∃ f, f = spanF ls := ⟨_, rfl⟩
  rw [← hf]
  have HFS := Lib.hid hf
  clear hv hm hf
  refine callsIn_of_wp_marks Try.func27 rfl trivial ?_ rfl
  simp only [Try.ntmps27, List.size_toArray, List.length_cons, List.length_nil, Nat.reduceAdd, Nat.reduceSub, Array.replicate_succ, Array.replicate_zero, List.push_toArray, List.append_toArray, List.nil_append, List.cons_append]
  gi_wp2_with fail
  refine ⟨trivial, (callsIn_wide.2 (rightV_any _ 1 1 _)).mono ?_⟩
  rintro e w1 ⟨rfl, hw1⟩
  have hsz : w1.heap.size = w.heap.size + 4 := by rw [hw1]; simp
  obtain ⟨a0, ha0⟩ : ∃ a0, a0 = w.alloc (.cells #[.int .u64 0, .int .u64 0, .int .u64 0, .int .u64 0, .int .u64 0, .int .u64 0, .int .u64 0, .int .u64 0] 27) := ⟨_, rfl⟩
  obtain ⟨a1, ha1⟩ : ∃ a1, a1 = a0.alloc (.cells #[.int .u64 0, .int .u64 0, .int .u64 0, .int .u64 0, .int .u64 0, .int .u64 0, .int .u64 0, .int .u64 0] 27) := ⟨_, rfl⟩
  obtain ⟨a2, ha2⟩ : ∃ a2, a2 = a1.alloc (.cells #[.slice A ls.length c] 22) := ⟨_, rfl⟩
  rw [← ha0, ← ha1, ← ha2] at hw1
  have z0 : a0.heap.size = w.heap.size + 1 := by rw [ha0, World.size_alloc]
  have z1 : a1.heap.size = w.heap.size + 2 := by rw [ha1, World.size_alloc, z0]
  have z2 : a2.heap.size = w.heap.size + 3 := by rw [ha2, World.size_alloc, z1]
  have b0 : Below w.heap.size w a0 := by rw [ha0]; exact below1 _ _
  have b1 : Below a0.heap.size a0 a1 := by rw [ha1]; exact below1 _ _
  have b2 : Below a1.heap.size a1 a2 := by rw [ha2]; exact below1 _ _
  have b3 : Below a2.heap.size a2 w1 := by rw [hw1]; exact below1 _ _
  have hr0 : a0.heap[w.heap.size]? = some (.cells (arrOf .u64 8 fun _ => 0) 27 (0, 0)) := by rw [ha0]; exact heap_alloc_new _ _
  have hr1 : a1.heap[w.heap.size + 1]? = some (.cells (arrOf .u64 8 fun _ => 0) 27 (0, 0)) := by rw [ha1, ← z0]; exact heap_alloc_new _ _
  have hr2 : a2.heap[w.heap.size + 2]? = some (.cells #[.slice A ls.length c] 22 (0, 0)) := by rw [ha2, ← z1]; exact heap_alloc_new _ _
  have hr3 : w1.heap[w.heap.size + 3]? = some (.cells #[.slice (some ⟨w.heap.size + 2, 0, none⟩) 1 1] 149 (0, 0)) := by rw [hw1, ← z2]; exact heap_alloc_new _ _
  replace hr2 := (b3.block _ (by omega)).trans hr2
  replace hr1 := (b3.block _ (by omega)).trans ((b2.block _ (by omega)).trans hr1)
  replace hr0 := (b3.block _ (by omega)).trans ((b2.block _ (by omega)).trans ((b1.block _ (by omega)).trans hr0))
  have hB : Below w.heap.size w w1 := b0.trans ((b1.mono (by omega)).trans ((b2.mono (by omega)).trans (b3.mono (by omega))))
  have hD : Dots w1 (· < w.heap.size) A ls := HV.out.below hB
  have hrts : rts [ls] = rt ls := by simp [rts]
  have hrg := right_gives (fun _ X Y => Below (w.heap.size + 1) X Y ∧ ∀ k, w.heap.size + 1 < k → k < w1.heap.size → Y.heap[k]? = X.heap[k]?) (fun _ => True) (w.heap.size + 3) w.heap.size (w.heap.size + 2) 0 1 [ls] (by simp) (fun l hl => by rw [List.mem_singleton.1 hl]; exact HM.out) w1 (by omega)
    (fun _ X Y hk hL => hL.kept (hk.1.mono (by omega)) fun _ => hk.2 _ (by omega) (by omega)) (fun _ X Y hk => hk.1.mono (by omega))
    (by rw [cell_of_row _ _ _ _ _ _ hr3]; rfl)
    ⟨fun i hi => by
      obtain rfl : i = 0 := by simpa using hi
      exact ⟨A, c, by rw [cell_of_row _ _ _ _ _ _ hr2]; rfl, hD⟩⟩
  rw [hrts] at hrg
  have HRG := Lib.hid hrg
  have HSZ := Lib.hid hsz
  have HR0 := Lib.hid hr0
  have HR1 := Lib.hid hr1
  have HB := Lib.hid hB
  have HSP := Lib.hid (spanF_rt ls)
  have s25 : ∀ d, Hid ((Try.prog.info? 25).map (·.size) = some (dotC d).size) := fun d => Lib.hid (dot_size25 d)
  clear hw1 hsz ha0 ha1 ha2 z0 z1 z2 b0 b1 b2 b3 hr0 hr1 hr2 hr3 hB hD hrts hrg
  gi_wp2_with fail
  refine wpIn_range_gives (n := 9) (by decide) (gf := 110) (lb := #[.pointer (some ⟨w.heap.size + 3, 0, none⟩)]) rfl enters110 HRG.out (fun _ _ => trivial)
    (fun h k => ⟨h.1.trans k.1, fun j a b => (k.2 j a b).trans (h.2 j a b)⟩)
    (fun X l o o' hl _ ho hc => ⟨below_putObj (by have := HSZ.out; omega) _, fun k h1 h2 => World.putObj_heap_other (by omega)⟩)
    (Below.refl _ _) (fun _ => rfl)
    (fun pre X => (X.heap[w.heap.size + 1]? = some (.cells (arrOf .u64 8 (spanF pre)) 27 (0, 0)) ∧ X.heap[w.heap.size]? = some (.cells (arrOf .u64 8 fun _ => 0) 27 (0, 0))) ∧ Below w.heap.size w1 X)
    (OwnFrom.and (OwnFrom.and (Own.from (block_own _ _ _) _) (Own.from (block_own (w.heap.size) 27 (fun (_ : List Dt) => arrOf .u64 8 fun _ => 0)) _)) (ownFrom_below (by have := HSZ.out; omega) (by have := HSZ.out; omega)))
    ⟨⟨HR1.out, HR0.out⟩, Below.refl _ _⟩
    (fun x a' X => ∃ Bx, w1.heap.size ≤ Bx ∧ DotAt X Bx 25 x.1 x.2 ∧ a' = { tmps := #[.slice A ls.length c, undef, .pointer (some ⟨w.heap.size, 0, none⟩), .pointer (some ⟨w.heap.size + 1, 0, none⟩), .pointer (some ⟨Bx, 0, none⟩), .slice A ls.length c, .slice (some ⟨w.heap.size + 1 + 1, 0, none⟩) 1 1, .func (.func 110) #[] #[.pointer (some ⟨w.heap.size + 1 + 1 + 1, 0, none⟩)], .agg (dotC x), undef, undef, undef, undef], defers := [] })
    (fun x a' _ X Y row hs hg hr => by obtain ⟨Bx, h1, h2, h3⟩ := hs; exact ⟨Bx, h1, dotAt_own Bx 25 (fun (_ : Unit) => x.1) (fun _ => x.2) () X Y row h2 hg (fun r e => (hr r e).2), h3⟩)
    ?assign ?body ?done
  case assign =>
    rintro l' pre x X K ⟨⟨h1, h0⟩, hb⟩ hK
    gi_wp2_with (first
      | (refine wpListIn_store_row rfl 25 _ _ rfl X.heap.size (dotC x) rfl rfl 25 _ (heap_alloc_new _ _) (s25 x).out rfl rfl ?_; rw [World.setRow_alloc_new])
      | fail)
    have hsX := hb.size
    have hsW := HSZ.out
    exact hK _ _ ((KeepsOthers.alloc _ _).from _) ⟨(below1 X _).mono (by omega), fun k _ hk => Below.heap_alloc _ _ _ (by omega)⟩
      ⟨⟨(Below.heap_alloc _ _ _ (by omega)).trans h1, (Below.heap_alloc _ _ _ (by omega)).trans h0⟩, hb.trans ((below1 X _).mono (by omega))⟩ ⟨X.heap.size, hsX, DotAt.new X 25 x.1 x.2, rfl⟩
  case body =>
    rintro l' pre x a' X ⟨⟨h1, h0⟩, hb⟩ ⟨Bx, hBx, bX, rfl⟩ hpre
    have H1 := Lib.hid h1
    have H0 := Lib.hid h0
    have HB2 := Lib.hid hb
    have HBX := Lib.hid bX
    have HS := Lib.hid (spanF_snoc pre x)
    obtain ⟨f, hf⟩ : ∃ f, f = spanF pre := ⟨_, rfl⟩
    rw [← hf] at H1 HS
    have hr27 : Hid (rangeA X (w.heap.size + 1) 0 (arrOf .u64 8 f)) := Lib.hid (fun j v hv => by rw [cell_of_row _ _ _ _ _ _ H1.out, Nat.zero_add]; exact hv)
    clear h1 h0 hb bX hpre hf
    gi_wp2_with (first
      | (refine wpListIn_load_arr rfl 25 _ rfl Bx 0 rfl (dotC x) _ HBX.out.range Try.underlying25 rfl (s25 x).out ?_)
      | (refine wpListIn_load_arr rfl 27 _ rfl (w.heap.size + 1) 0 rfl (arrOf .u64 8 f) _ hr27.out Try.underlying27 rfl (size27v f) ?_)
      | fail)
    refine ⟨trivial, (CallsIn.inRound l' (callsIn_wide.2 (with_any f x.1 x.2 X))).mono ?_⟩
    rintro e w9 ⟨rfl, hb9⟩
    have H19 : Hid (w9.heap[w.heap.size + 1]? = some (.cells (arrOf .u64 8 f) 27 (0, 0))) := Lib.hid ((hb9.block _ (lt_of_row H1.out)).trans H1.out)
    have H09 : Hid (w9.heap[w.heap.size]? = some (.cells (arrOf .u64 8 fun _ => 0) 27 (0, 0))) := Lib.hid ((hb9.block _ (lt_of_row H0.out)).trans H0.out)
    have HB9 := Lib.hid hb9
    obtain ⟨g, hg⟩ : ∃ g, g = Vec.with_ f x.1 x.2 := ⟨_, rfl⟩
    rw [← hg] at HS ⊢
    clear hb9 hg
    gi_wp2_with (first
      | (refine wpListIn_store_row rfl 27 _ _ rfl (w.heap.size + 1) (arrOf .u64 8 g) rfl rfl 27 _ H19.out (size27v g) (by rw [arrOf_size, arrOf_size]) (arrOf_one _ _ _) ?_)
      | fail)
    have hsX := HB2.out.size
    have hsW := HSZ.out
    have hs9 := HB9.out.size
    have hbr : Below (w.heap.size + 1) X (w9.setRow (w.heap.size + 1) (arrOf .u64 8 g)) := below_setRow' (HB9.out.mono (by omega)) (Nat.le_refl _) _
    refine ⟨((below_keeps HB9.out).trans (keeps_setRow H19.out _)).from _, ⟨hbr, fun k h1 h2 => ?_⟩, ⟨?_, ?_⟩, HB2.out.trans (hbr.mono (by omega))⟩
    · rw [setRow_other _ _ _ _ (by omega)]
      exact HB9.out.block k (by omega)
    · rw [HS.out]
      exact setRow_heap _ _ _ _ _ _ H19.out
    · rw [setRow_other _ _ _ _ (by omega)]
      exact H09.out
  case done =>
    rintro D X hD ⟨⟨h1, h0⟩, hb⟩ hK
    rw [HSP.out, ← HFS.out] at h1
    have H1 := Lib.hid h1
    have H0 := Lib.hid h0
    have HB2 := Lib.hid (HB.out.trans hb)
    have HK := Lib.hid hK
    have HDD : Hid (w.heap.size + 4 ≤ D) := Lib.hid (by have := HSZ.out; omega)
    have hr27 : Hid (rangeA X (w.heap.size + 1) 0 (arrOf .u64 8 f)) := Lib.hid (fun j v hv => by rw [cell_of_row _ _ _ _ _ _ H1.out, Nat.zero_add]; exact hv)
    clear h1 h0 hb hK HSP HFS
    gi_wp2_with (first
      | (refine wpListIn_load_arr rfl 27 _ rfl (w.heap.size + 1) 0 rfl (arrOf .u64 8 f) _ hr27.out Try.underlying27 rfl (size27v f) ?_)
      | (refine wpListIn_store_row rfl 27 _ _ rfl w.heap.size (arrOf .u64 8 f) rfl rfl 27 _ H0.out (size27v f) (by rw [arrOf_size, arrOf_size]) (arrOf_one _ _ _) ?_)
      | fail)
    have hKD : (X.setRow w.heap.size (arrOf .u64 8 f)).heap[D]? = some (.deferred (some [])) := by
      rw [setRow_other _ _ _ _ (by have := HDD.out; omega)]
      exact HK.out
    refine ⟨by simp, .inl ⟨_, _, rfl, run_takeDeferred hKD, ?_⟩⟩
    refine ⟨_, results_cell_row Try.results27 _ _ w.heap.size 27 (arrOf .u64 8 f) (0, 0) _ rfl ?_ Try.underlying27 rfl (size27v f), rfl, ?_⟩
    · rw [World.putObj_heap_other (by have := HDD.out; omega)]
      exact setRow_heap _ _ _ _ _ _ H0.out
    · exact (below_setRow' HB2.out (Nat.le_refl _) _).trans (below_putObj (by have := HDD.out; omega) _)
end Go.Proofs.Ytnpacjdgbmldlaa
