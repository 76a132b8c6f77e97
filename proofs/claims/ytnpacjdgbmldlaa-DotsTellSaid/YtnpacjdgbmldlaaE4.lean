/- dots.Within. -/
import Derived.Test.YtnpacjdgbmldlaaE3
namespace Go.Proofs.Ytnpacjdgbmldlaa
open Go.RowKit Go.Shelf Go.Lib Go.Sort
attribute [local go_sem] Oper.semAt_some

def winF (f : Nat → Nat) (ls : List Dt) : List Dt := ls.filter fun d => Vec.has f d.1 d.2
theorem winF_rt (f : Nat → Nat) (ls : List Dt) : winF f (rt ls) = winF f ls := by
  unfold winF rt
  rw [List.filter_filter]
  refine List.filter_congr fun d _ => ?_
  unfold Vec.has
  cases Vec.right d.1 d.2 <;> simp
theorem winF_snoc (f : Nat → Nat) (pre : List Dt) (d : Dt) : winF f (pre ++ [d]) = winF f pre ++ if Vec.has f d.1 d.2 = true then [d] else [] := by
  unfold winF
  rw [List.filter_append, List.filter_cons]
  simp

set_option maxRecDepth 100000 in
set_option maxHeartbeats 4000000 in
theorem dwithin_any (f : Nat → Nat) (ls : List Dt) (c : Nat) (A : Option Addr) (w : World) (hv : Dots w (· < w.heap.size) A ls) (hm : ls.length ≤ 1000000) :
    Calls Try.prog 38 #[.slice A ls.length c, vecV f] w fun e w' => ∃ g, e = .returned (.slice (some ⟨g, 0, none⟩) (winF f ls).length (winF f ls).length) ∧ w.heap.size ≤ g ∧ w'.heap[g]? = some (.cells (dots2 (winF f ls)).toArray 25 (0, 0)) ∧ Below w.heap.size w w' := by
  refine (callsIn_wide (n := 9)).1 ?_
  have HV := Lib.hid hv
  have HM := Lib.hid hm
  obtain ⟨r, hr⟩ : ∃ r, r = winF f ls := ⟨_, rfl⟩
  rw [← hr]
  have HRS := Lib.hid hr
  clear hv hm hr
  refine callsIn_of_wp_marks Try.func38 rfl trivial ?_ rfl
  simp only [Try.ntmps38, List.size_toArray, List.length_cons, List.length_nil, Nat.reduceAdd, Nat.reduceSub, Array.replicate_succ, Array.replicate_zero, List.push_toArray, List.append_toArray, List.nil_append, List.cons_append]
  gi_wp2_with fail
  refine ⟨trivial, (callsIn_wide.2 (rightV_any _ 1 1 _)).mono ?_⟩
  rintro e w1 ⟨rfl, hw1⟩
  have hsz : w1.heap.size = w.heap.size + 4 := by rw [hw1]; simp
  obtain ⟨a0, ha0⟩ : ∃ a0, a0 = w.alloc (.cells (arrOf .u64 8 f) 27) := ⟨_, rfl⟩
  obtain ⟨a1, ha1⟩ : ∃ a1, a1 = a0.alloc (.cells #[.slice none 0 0] 22) := ⟨_, rfl⟩
  obtain ⟨a2, ha2⟩ : ∃ a2, a2 = a1.alloc (.cells #[.slice A ls.length c] 22) := ⟨_, rfl⟩
  rw [← ha0, ← ha1, ← ha2] at hw1
  have z0 : a0.heap.size = w.heap.size + 1 := by rw [ha0, World.size_alloc]
  have z1 : a1.heap.size = w.heap.size + 2 := by rw [ha1, World.size_alloc, z0]
  have z2 : a2.heap.size = w.heap.size + 3 := by rw [ha2, World.size_alloc, z1]
  have b0 : Below w.heap.size w a0 := by rw [ha0]; exact below1 _ _
  have b1 : Below a0.heap.size a0 a1 := by rw [ha1]; exact below1 _ _
  have b2 : Below a1.heap.size a1 a2 := by rw [ha2]; exact below1 _ _
  have b3 : Below a2.heap.size a2 w1 := by rw [hw1]; exact below1 _ _
  have hr0 : a0.heap[w.heap.size]? = some (.cells (arrOf .u64 8 f) 27 (0, 0)) := by rw [ha0]; exact heap_alloc_new _ _
  have hr1 : Boxed a1 (w.heap.size + 1) 22 (.slice none 0 0) := by rw [ha1, ← z0]; exact Boxed.new _ _ _
  have hr2 : a2.heap[w.heap.size + 2]? = some (.cells #[.slice A ls.length c] 22 (0, 0)) := by rw [ha2, ← z1]; exact heap_alloc_new _ _
  have hr3 : w1.heap[w.heap.size + 3]? = some (.cells #[.slice (some ⟨w.heap.size + 2, 0, none⟩) 1 1] 149 (0, 0)) := by rw [hw1, ← z2]; exact heap_alloc_new _ _
  replace hr2 := (b3.block _ (by omega)).trans hr2
  replace hr1 : Boxed w1 (w.heap.size + 1) 22 (.slice none 0 0) := (b3.block _ (by omega)).trans ((b2.block _ (by omega)).trans hr1)
  replace hr0 := (b3.block _ (by omega)).trans ((b2.block _ (by omega)).trans ((b1.block _ (by omega)).trans hr0))
  have hB : Below w.heap.size w w1 := b0.trans ((b1.mono (by omega)).trans ((b2.mono (by omega)).trans (b3.mono (by omega))))
  have hD : Dots w1 (· < w.heap.size) A ls := HV.out.below hB
  have hrts : rts [ls] = rt ls := by simp [rts]
  have hrg := right_gives (fun _ X Y => Below w.heap.size X Y ∧ Y.heap[w.heap.size + 2]? = X.heap[w.heap.size + 2]?) (fun _ => True) (w.heap.size + 3) w.heap.size (w.heap.size + 2) 0 1 [ls] (by simp) (fun l hl => by rw [List.mem_singleton.1 hl]; exact HM.out) w1 (by omega)
    (fun _ X Y hk hL => hL.kept hk.1 fun _ => hk.2) (fun _ X Y hk => hk.1)
    (by rw [cell_of_row _ _ _ _ _ _ hr3]; rfl)
    ⟨fun i hi => by
      obtain rfl : i = 0 := by simpa using hi
      exact ⟨A, c, by rw [cell_of_row _ _ _ _ _ _ hr2]; rfl, hD⟩⟩
  rw [hrts] at hrg
  have HRG := Lib.hid hrg
  have HSZ := Lib.hid hsz
  have HR0 := Lib.hid hr0
  have HR1 := Lib.hid hr1
  have HR2 := Lib.hid hr2
  have HB := Lib.hid hB
  have HSP := Lib.hid (winF_rt f ls)
  have s25 : ∀ d, Hid ((Try.prog.info? 25).map (·.size) = some (dotC d).size) := fun d => Lib.hid (dot_size25 d)
  clear hw1 hsz ha0 ha1 ha2 z0 z1 z2 b0 b1 b2 b3 hr0 hr1 hr2 hr3 hB hD hrts hrg
  gi_wp2_with fail
  refine wpIn_range_gives (n := 9) (by decide) (gf := 110) (lb := #[.pointer (some ⟨w.heap.size + 3, 0, none⟩)]) rfl enters110 HRG.out (fun _ _ => trivial)
    (fun h k => ⟨h.1.trans k.1, k.2.trans h.2⟩)
    (fun X l o o' hl _ ho hc => ⟨below_putObj (by have := HSZ.out; omega) _, World.putObj_heap_other (by have := HSZ.out; omega)⟩)
    (Below.refl _ _) (fun _ => rfl)
    (fun pre X => ((∃ v, Boxed X (w.heap.size + 1) 22 v ∧ X.ownsRow w.heap.size 25 2 v (winF f pre).length (dots2 (winF f pre)) ∧ True) ∧ (X.heap[w.heap.size]? = some (.cells (arrOf .u64 8 f) 27 (0, 0)) ∧ X.heap[w.heap.size + 2]? = some (.cells #[.slice A ls.length c] 22 (0, 0)))) ∧ Below w.heap.size w1 X)
    (OwnFrom.and (OwnFrom.and (Own.from (holdsRow_own w.heap.size (w.heap.size + 1) 22 25 2 (fun pre => (winF f pre).length) (fun pre => dots2 (winF f pre)) (fun _ _ => True)) _) (OwnFrom.and (Own.from (block_own w.heap.size 27 (fun (_ : List Dt) => arrOf .u64 8 f)) _) (Own.from (block_own (w.heap.size + 2) 22 (fun (_ : List Dt) => #[.slice A ls.length c])) _))) (ownFrom_below (by have := HSZ.out; omega) (by have := HSZ.out; omega)))
    ⟨⟨⟨_, HR1.out, World.ownsRow_nil _ _ _ _, trivial⟩, HR0.out, HR2.out⟩, Below.refl _ _⟩
    (fun x a' X => ∃ Bx, w1.heap.size ≤ Bx ∧ DotAt X Bx 25 x.1 x.2 ∧ a' = { tmps := #[.slice A ls.length c, vecV f, undef, .pointer (some ⟨w.heap.size, 0, none⟩), .slice none 0 0, .pointer (some ⟨w.heap.size + 1, 0, none⟩), .pointer (some ⟨Bx, 0, none⟩), .slice A ls.length c, .slice (some ⟨w.heap.size + 1 + 1, 0, none⟩) 1 1, .func (.func 110) #[] #[.pointer (some ⟨w.heap.size + 1 + 1 + 1, 0, none⟩)], .agg (dotC x), undef, undef, undef, undef, undef, undef, undef, undef, undef], defers := [] })
    (fun x a' _ X Y row hs hg hr => by obtain ⟨Bx, h1, h2, h3⟩ := hs; exact ⟨Bx, h1, dotAt_own Bx 25 (fun (_ : Unit) => x.1) (fun _ => x.2) () X Y row h2 hg (fun r e => (hr r e).2), h3⟩)
    ?assign ?body ?done
  case assign =>
    rintro l' pre x X K ⟨⟨⟨v, bv, hv, _⟩, h0, h2⟩, hb⟩ hK
    gi_wp2_with (first
      | (refine wpListIn_store_row rfl 25 _ _ rfl X.heap.size (dotC x) rfl rfl 25 _ (heap_alloc_new _ _) (s25 x).out rfl rfl ?_; rw [World.setRow_alloc_new])
      | fail)
    have hsX := hb.size
    have hsW := HSZ.out
    exact hK _ _ ((KeepsOthers.alloc _ _).from _) ⟨(below1 X _).mono (by omega), Below.heap_alloc _ _ _ (by omega)⟩
      ⟨⟨⟨v, bv.alloc _, hv.alloc _, trivial⟩, (Below.heap_alloc _ _ _ (by omega)).trans h0, (Below.heap_alloc _ _ _ (by omega)).trans h2⟩, hb.trans ((below1 X _).mono (by omega))⟩ ⟨X.heap.size, hsX, DotAt.new X 25 x.1 x.2, rfl⟩
  case body =>
    rintro l' pre x a' X ⟨⟨⟨v, bv, hv, _⟩, h0, h2⟩, hb⟩ ⟨Bx, hBx, bX, rfl⟩ hpre
    have H0 := Lib.hid h0
    have H2 := Lib.hid h2
    have HB2 := Lib.hid hb
    have HBX := Lib.hid bX
    have HBV := Lib.hid bv
    have HV1 := Lib.hid hv
    have HS := Lib.hid (winF_snoc f pre x)
    have HLEN : Hid ((winF f pre).length ≤ 1000000) := Lib.hid (by
      have h1 := hpre.length_le
      have h2 : (winF f pre).length ≤ pre.length := List.length_filter_le _ _
      have h3 : (rt ls).length ≤ ls.length := List.length_filter_le _ _
      have := HM.out
      simp at h1
      omega)
    obtain ⟨acc, hacc⟩ : ∃ acc, acc = winF f pre := ⟨_, rfl⟩
    rw [← hacc] at HV1 HS HLEN
    have hr27 : Hid (rangeA X w.heap.size 0 (arrOf .u64 8 f)) := Lib.hid (fun j v hv => by rw [cell_of_row _ _ _ _ _ _ H0.out, Nat.zero_add]; exact hv)
    clear h0 h2 hb bX bv hv hpre hacc
    gi_wp2_with (first
      | (refine wpListIn_load_arr rfl 25 _ rfl Bx 0 rfl (dotC x) _ HBX.out.range Try.underlying25 rfl (s25 x).out ?_)
      | (refine wpListIn_load_arr rfl 27 _ rfl w.heap.size 0 rfl (arrOf .u64 8 f) _ hr27.out Try.underlying27 rfl (size27v f) ?_)
      | fail)
    refine ⟨trivial, (CallsIn.inRound l' (callsIn_wide.2 (has_any f x.1 x.2 X))).mono ?_⟩
    rintro e w9 ⟨rfl, hb9⟩
    have hsX := HB2.out.size
    have hsW := HSZ.out
    have HB9 := Lib.hid hb9
    have H09 : Hid (w9.heap[w.heap.size]? = some (.cells (arrOf .u64 8 f) 27 (0, 0))) := Lib.hid ((hb9.block _ (lt_of_row H0.out)).trans H0.out)
    have H29 : Hid (w9.heap[w.heap.size + 2]? = some (.cells #[.slice A ls.length c] 22 (0, 0))) := Lib.hid ((hb9.block _ (lt_of_row H2.out)).trans H2.out)
    have HBV9 : Hid (Boxed w9 (w.heap.size + 1) 22 v) := Lib.hid ((hb9.block _ HBV.out.lt).trans HBV.out)
    have HV9 : Hid (w9.ownsRow w.heap.size 25 2 v acc.length (dots2 acc)) := Lib.hid (own_keep HV1.out fun k _ hk => hb9.block k hk)
    have HBX9 : Hid (DotAt w9 Bx 25 x.1 x.2) := Lib.hid (HBX.out.below hb9 HBX.out.lt)
    have hc9 := HBV9.out.cell
    have hs9 := hb9.size
    clear hb9
    cases hh : Vec.has f x.1 x.2 with
    | false =>
      rw [hh, if_neg (by simp), List.append_nil] at HS
      clear hc9
      gi_wp2_with fail
      refine ⟨(below_keeps HB9.out).from _, ⟨HB9.out.mono (by omega), HB9.out.block _ (by omega)⟩, ⟨⟨v, HBV9.out, ?_, trivial⟩, H09.out, H29.out⟩, HB2.out.trans (HB9.out.mono (by omega))⟩
      rw [HS.out]
      exact HV9.out
    | true =>
      rw [hh, if_pos rfl] at HS
      clear hh
      have HSW : Hid (w.heap.size ≤ w9.heap.size ∧ w.heap.size + 4 ≤ X.heap.size ∧ X.heap.size ≤ w9.heap.size) := Lib.hid ⟨by omega, by omega, hs9⟩
      clear hsX hsW hs9
      gi_wp2_with (first
        | (refine wpListIn_load_arr rfl 25 _ rfl Bx 0 rfl (dotC x) _ HBX9.out.range Try.underlying25 rfl (s25 x).out ?_)
        | (refine wpListIn_append_dot rfl (.tmp 14) (.tmp 16) 22 rfl w.heap.size 25 (.agg #[.int .i64 0, .int .u64 0]) 16 Try.underlying22 info25 rfl _ acc.length _ rfl HV9.out x 25 rfl (by have := HLEN.out; omega) (by omega) HSW.out.1 ?_; intro v1 w3 H1 G1 S1; obtain ⟨g', cap', rfl⟩ := ownsRow_succ H1.out; obtain ⟨hv1, hv2, hr2, hk2, hb2⟩ := HBV9.out.appended (by decide) HV9.out HSW.out.1 (Nat.le_succ _) H1.out G1.out; have hc1 := hv1.cell; have hf1 := hv1.frozen)
        | fail)
      have hlrow : ∀ k o t, w9.heap[k]? = some (.cells o t (0, 0)) → t ≠ 25 → k ≠ w.heap.size + 1 → (w3.setCell ⟨w.heap.size + 1, 0, none⟩ (.slice (some ⟨g', 0, none⟩) (acc.length + 1) cap')).heap[k]? = some (.cells o t (0, 0)) := fun k o t hk ht hne => by
        have hno : some k ≠ v.ownBlock := fun e => by
          rcases HV9.out.2 with ⟨rfl, _⟩ | ⟨g, cap, cur, rfl, _, hg, _⟩
          · simp [Value.ownBlock] at e
          · obtain rfl : k = g := by simpa [Value.ownBlock] using e
            rw [hk] at hg
            injection hg with hg
            injection hg with _ hg
            exact ht hg
        rw [Below.heap_setCell _ _ _ k (fun e => hne e), G1.out.block k (by rw [World.size_alloc]; have := lt_of_row hk; omega) hno, Below.heap_alloc _ _ _ (lt_of_row hk)]
        exact hk
      have hX2 := hlrow _ _ _ H29.out (by decide) (by omega)
      have hX0 := hlrow _ _ _ H09.out (by decide) (by omega)
      have hq := HSW.out
      have hkb : Below w.heap.size X (w3.setCell ⟨w.heap.size + 1, 0, none⟩ (.slice (some ⟨g', 0, none⟩) (acc.length + 1) cap')) := (HB9.out.mono (by omega)).trans hb2
      refine ⟨((below_keeps HB9.out).trans hk2).from _, ⟨hkb, hX2.trans H2.out.symm⟩, ⟨⟨_, hv2, ?_, trivial⟩, hX0, hX2⟩, HB2.out.trans hkb⟩
      rw [HS.out, List.length_append, List.length_singleton, dots2_append, dots2_one]
      exact hr2
  case done =>
    rintro D X hD ⟨⟨⟨v, bv, hv, _⟩, h0, h2⟩, hb⟩ hK
    rw [HSP.out, ← HRS.out] at hv
    obtain ⟨A1, c1, rfl, hd1, hc1, hn1⟩ := own_dots hv
    have HD1 := Lib.hid hd1
    have HB2 := Lib.hid (HB.out.trans hb)
    have HK := Lib.hid hK
    have HDD : Hid (w.heap.size + 4 ≤ D) := Lib.hid (by have := HSZ.out; omega)
    have hcell := bv.cell
    have HF := Lib.hid (fresh_any r c1 A1 X (hd1.loose fun b h => h.2) (by rw [HRS.out]; exact Nat.le_trans (List.length_filter_le _ _) HM.out))
    clear h0 h2 hb hK hd1 hc1 hn1 hv bv
    gi_wp2_with fail
    refine ⟨trivial, (callsIn_wide.2 HF.out).mono ?_⟩
    rintro e w8 ⟨rfl, hw8⟩
    have HX8 : Hid (w8.heap[X.heap.size]? = some (.cells (dots2 r).toArray 25 (0, 0))) := Lib.hid (by rw [hw8]; exact heap_alloc_new _ _)
    have HB8 : Hid (Below X.heap.size X w8) := Lib.hid (by rw [hw8]; exact below1 _ _)
    have HK8 : Hid (w8.heap[D]? = some (.deferred (some []))) := Lib.hid ((HB8.out.block D (lt_of_row HK.out)).trans HK.out)
    clear hw8 hcell HF
    gi_wp2_with fail
    refine ⟨by simp, .inl ⟨_, _, rfl, run_takeDeferred HK8.out, ?_⟩⟩
    have hDX := lt_of_row HK.out
    refine ⟨_, results_tmp rfl _ _ _, X.heap.size, rfl, HB2.out.size, ?_, (HB2.out.trans (HB8.out.mono HB2.out.size)).trans (below_putObj (by have := HDD.out; omega) _)⟩
    rw [World.putObj_heap_other (by omega)]
    exact HX8.out
end Go.Proofs.Ytnpacjdgbmldlaa
