/- The law RingGrows, where there may be one node more. -/
import Derived.Test.YthcnoblamilpgaaDoorR16
set_option maxRecDepth 100000
set_option linter.unusedVariables false
set_option linter.unusedSimpArgs false
namespace Go.Proofs.YthcnoblamilpgaaDoor
open Go.RowKit
theorem new_some (N V R : Int) (w : World) (ht : Tabs w) : Calls Tryd.prog 20 #[.agg (cfg N V R)] w fun e w' => ∃ p k, e = .returned (.tuple #[p, .int .i64 k]) ∧ Below w.heap.size w w' := by
  cases h : rightC N V R with
  | false =>
    refine (new_bad N V R w h).mono ?_
    rintro e w' ⟨rfl, hb⟩
    exact ⟨_, _, rfl, hb⟩
  | true =>
    have h' := h
    unfold rightC withinB at h'
    simp only [Bool.and_eq_true, decide_eq_true_eq] at h'
    obtain ⟨n, rfl⟩ : ∃ n : Nat, N = (n : Int) := ⟨N.toNat, by omega⟩
    obtain ⟨v, rfl⟩ : ∃ n : Nat, V = (n : Int) := ⟨V.toNat, by omega⟩
    obtain ⟨r, rfl⟩ : ∃ n : Nat, R = (n : Int) := ⟨R.toNat, by omega⟩
    refine (new_ok n v r w h ht).mono ?_
    rintro e w' ⟨g, rfl, _, _, hb⟩
    exact ⟨_, _, rfl, hb⟩
/-- How many of the first i are not the new one. -/
def cntG (M : Nat) (l2 : List Nat) (i : Nat) : Nat := ((l2.take i).filter fun n => decide (n ≠ M)).length
theorem cntG_same {M : Nat} {l2 : List Nat} {i : Nat} (hi : i < l2.length) (h : l2.getD i 0 = M) : cntG M l2 (i + 1) = cntG M l2 i := by
  unfold cntG
  rw [List.getD_eq_getElem?_getD, List.getElem?_eq_getElem hi] at h
  rw [List.take_succ_eq_append_getElem hi, List.filter_append, List.length_append, List.filter_cons, if_neg (by simpa using h)]
  rfl
theorem cntG_next {M : Nat} {l1 l2 : List Nat} {i : Nat} (hi : i < l2.length) (h : l2.getD i 0 ≠ M) (hp : (l2.filter fun n => decide (n ≠ M)) <+: l1) : cntG M l2 (i + 1) = cntG M l2 i + 1 ∧ cntG M l2 i < l1.length ∧ l1.getD (cntG M l2 i) 0 = l2.getD i 0 := by
  have h0 := h
  rw [List.getD_eq_getElem?_getD, List.getElem?_eq_getElem hi] at h
  have e : (l2.take (i + 1)).filter (fun n => decide (n ≠ M)) = (l2.take i).filter (fun n => decide (n ≠ M)) ++ [l2.getD i 0] := by
    rw [List.take_succ_eq_append_getElem hi, List.filter_append, List.filter_cons, if_pos (by simpa using h), List.filter_nil, List.getD_eq_getElem?_getD, List.getElem?_eq_getElem hi]
    rfl
  have hp2 : (l2.take (i + 1)).filter (fun n => decide (n ≠ M)) <+: l1 := List.IsPrefix.trans ((List.take_prefix (i + 1) l2).filter _) hp
  rw [e] at hp2
  obtain ⟨r, hr⟩ := hp2
  refine ⟨?_, ?_, ?_⟩
  · unfold cntG
    rw [e, List.length_append]
    rfl
  · rw [← hr]
    simp [cntG]
  · rw [← hr]
    unfold cntG
    simp
set_option maxHeartbeats 4000000 in
theorem rgrows_in (N : Nat) (V R : Int) (w : World) (ht : Tabs w) (h1 : 1 ≤ N) (h8 : N ≤ 7) : Calls Tryd.prog 7 #[.agg (cfg N V R)] w fun e w' => e = .returned (.bool true) ∧ Below w.heap.size w w' := by
  have HX := Lib.hid (heap_alloc_new w (.cells (cfg N V R) 38))
  have HB := Lib.hid (((Below.refl w.heap.size w).alloc (Nat.le_refl _) (.cells (cfg N V R) 38)).alloc (by simp) (.cells (cfg N V R) 38))
  have HT := Lib.hid ht
  have HS := Lib.hid (cfg_size N V R)
  have HO := Lib.hid (cfg_one N V R)
  have hz := (zero_of_info info38).1
  obtain ⟨Z, hZ⟩ : ∃ Z, Z = cfg 0 0 0 := ⟨_, rfl⟩
  have HZS : Hid (Z.size = (cfg N V R).size) := by rw [hZ]; exact rfl
  rw [← hZ] at hz
  clear hZ ht
  have c0 : ((w.alloc (.cells (cfg N V R) 38)).alloc (.cells (cfg N V R) 38)).cell? ⟨w.heap.size, 0, none⟩ = some (.int .i64 (N : Int)) := by
    rw [cell_of_row _ _ _ _ _ _ ((Below.heap_alloc _ _ _ (by simp)).trans HX.out)]
    rfl
  have hn := heap_alloc_new (w.alloc (.cells (cfg N V R) 38)) (.cells Z 38)
  have hsr := World.setRow_alloc_new (w.alloc (.cells (cfg N V R) 38)) Z (cfg N V R) 38
  rw [World.size_alloc] at hn hsr
  have HN := Lib.hid hn
  have HSR := Lib.hid hsr
  clear hn hsr
  have hx2 := heap_alloc_new (w.alloc (.cells (cfg N V R) 38)) (.cells (cfg N V R) 38)
  rw [World.size_alloc] at hx2
  have c1 : ((w.alloc (.cells (cfg N V R) 38)).alloc (.cells (cfg N V R) 38)).cell? ⟨w.heap.size + 1, 0, none⟩ = some (.int .i64 (N : Int)) := by
    rw [cell_of_row _ _ _ _ _ _ hx2]
    rfl
  have z1 : ((w.alloc (.cells (cfg N V R) 38)).alloc (.cells (cfg N V R) 38)).frozen? ⟨w.heap.size + 1, 0, none⟩ = false := by
    unfold World.frozen?
    dsimp only
    rw [hx2]
    rfl
  have HX2 := Lib.hid hx2
  clear hx2
  have g1 : ¬ (N : Int) < 1 := by omega
  have g2 : ¬ (8 : Int) ≤ (N : Int) := by omega
  have EN : IntKind.i64.wrap ((N : Int) + 1) = ((N + 1 : Nat) : Int) := by rw [IntWalk.i64_in _ (by omega)]; omega
  obtain ⟨M, hM⟩ : ∃ M, M = N + 1 := ⟨_, rfl⟩
  rw [← hM] at EN
  have HM := Lib.hid hM
  have H1 := Lib.hid h1
  have H8 := Lib.hid h8
  have HX0 : Hid (((w.alloc (.cells (cfg N V R) 38)).alloc (.cells (cfg N V R) 38)).heap[w.heap.size]? = some (.cells (cfg N V R) 38)) := Lib.hid ((Below.heap_alloc _ _ _ (by simp)).trans HX.out)
  clear h1 h8 hM
  go_enter Tryd.func7, Tryd.ntmps7
  go_upto_region 5 with (first
      | (refine wpList_load_row rfl 38 _ rfl w.heap.size rfl 38 (cfg N V R) (0, 0) _ HX.out Tryd.underlying38 rfl HS.out ?_)
      | (refine wpList_store_row rfl 38 _ _ rfl (w.heap.size + 1) (cfg N V R) rfl rfl 38 _ HN.out HS.out HZS.out HO.out ?_
         rw [HSR.out]))
  have hw0 : ((w.alloc (.cells (cfg N V R) 38)).alloc (.cells ((cfg N V R).setIfInBounds 0 (.int .i64 (M : Int))) 38)).heap[w.heap.size]? = some (.cells (cfg N V R) 38) := (Below.heap_alloc _ _ _ (by simp)).trans HX.out
  have hw1 := heap_alloc_new (w.alloc (.cells (cfg N V R) 38)) (.cells ((cfg N V R).setIfInBounds 0 (.int .i64 (M : Int))) 38)
  rw [World.size_alloc] at hw1
  have hwb := ((Below.refl w.heap.size w).alloc (Nat.le_refl _) (.cells (cfg N V R) 38)).alloc (by simp) (.cells ((cfg N V R).setIfInBounds 0 (.int .i64 (M : Int))) 38)
  have hws : w.heap.size + 2 ≤ ((w.alloc (.cells (cfg N V R) 38)).alloc (.cells ((cfg N V R).setIfInBounds 0 (.int .i64 (M : Int))) 38)).heap.size := by simp
  clear c0 c1 z1 HN HSR HX HX2 HB HX0 HZS hz HO g1 g2 EN
  generalize (w.alloc (.cells (cfg N V R) 38)).alloc (.cells ((cfg N V R).setIfInBounds 0 (.int .i64 (M : Int))) 38) = x0 at *
  have HW0 : Hid (x0.heap[w.heap.size]? = some (.cells (cfg N V R) 38)) := hw0
  have HW1 : Hid (x0.heap[w.heap.size + 1]? = some (.cells (cfg M V R) 38)) := hw1
  have HWB := Lib.hid hwb
  have HWS := Lib.hid hws
  have HS2 := Lib.hid (cfg_size M V R)
  have HTX := Lib.hid (HT.out.below hwb)
  clear hw0 hw1 hwb hws
  cases hr : rightC N V R with
  | false =>
    have HNB := Lib.hid (new_bad N V R x0 hr)
    have HRC := Lib.hid (fun x => right_cfg N V R x)
    rw [hr] at HRC
    clear hr
    go_wp2_with (refine wpList_load_w (by go_simp) 38 _ rfl w.heap.size 0 rfl (cfg N V R) _ (cfg_range HW0.out) Tryd.underlying38 rfl HS.out ?_)
    refine HNB.out.mono ?_
    rintro e y1 ⟨rfl, hb⟩
    have HY0 := Lib.hid ((hb.block w.heap.size (by have := HWS.out; omega)).trans HW0.out)
    have HY1 := Lib.hid ((hb.block (w.heap.size + 1) (by have := HWS.out; omega)).trans HW1.out)
    have HYB := Lib.hid (HWB.out.trans (hb.mono HWB.out.size))
    have HYS := Lib.hid (Nat.le_trans HWS.out hb.size)
    clear hb HW0 HW1 HWB HWS HNB
    go_wp2_with (refine wpList_load_w (by go_simp) 38 _ rfl (w.heap.size + 1) 0 rfl (cfg M V R) _ (cfg_range HY1.out) Tryd.underlying38 rfl HS2.out ?_)
    refine (new_some M V R y1 (HT.out.below HYB.out)).mono ?_
    rintro e y2 ⟨p, k, rfl, hb⟩
    have HZ0 := Lib.hid ((hb.block w.heap.size (by have := HYS.out; omega)).trans HY0.out)
    have HZB := Lib.hid (HYB.out.trans (hb.mono HYB.out.size))
    have HZS := Lib.hid (Nat.le_trans HYS.out hb.size)
    clear hb HY0 HY1 HYB HYS
    go_wp2_with fail
    refine (ralive_any y2 (HT.out.below HZB.out)).mono ?_
    rintro e y3 ⟨rfl, hb⟩
    have HA0 := Lib.hid ((hb.block w.heap.size (by have := HZS.out; omega)).trans HZ0.out)
    have HAB := Lib.hid (HZB.out.trans (hb.mono HZB.out.size))
    clear hb HZ0 HZS HZB
    go_wp2_with (refine wpList_load_w (by go_simp) 38 _ rfl w.heap.size 0 rfl (cfg N V R) _ (cfg_range HA0.out) Tryd.underlying38 rfl HS.out ?_)
    refine (HRC.out y3).mono ?_
    rintro e y4 ⟨rfl, hb⟩
    have HFB := Lib.hid (HAB.out.trans (hb.mono HAB.out.size))
    clear hb
    go_wp2_with fail
    go_ret
    exact ⟨rfl, HFB.out⟩
  | true =>
    have h' := hr
    unfold rightC withinB at h'
    simp only [Bool.and_eq_true, decide_eq_true_eq] at h'
    obtain ⟨v, rfl⟩ : ∃ n : Nat, V = (n : Int) := ⟨V.toNat, by omega⟩
    obtain ⟨r, rfl⟩ : ∃ n : Nat, R = (n : Int) := ⟨R.toNat, by omega⟩
    have hr2 : rightC (M : Int) (v : Int) (r : Int) = true := by
      have := HM.out
      have := H8.out
      unfold rightC withinB
      simp only [Bool.and_eq_true, decide_eq_true_eq]
      omega
    have HLIM : Hid (1 ≤ v ∧ v ≤ 16 ∧ r ≤ N) := Lib.hid (by omega)
    have HN1 := Lib.hid (new_ok N v r x0 hr HTX.out)
    have HN2 := Lib.hid (fun x (hx : Tabs x) => new_ok M v r x hr2 hx)
    clear hr hr2 h'
    go_wp2_with (refine wpList_load_w (by go_simp) 38 _ rfl w.heap.size 0 rfl (cfg N v r) _ (cfg_range HW0.out) Tryd.underlying38 rfl HS.out ?_)
    refine HN1.out.mono ?_
    rintro e y1 ⟨g1, rfl, hg1, hr1, hb⟩
    have HY1 := Lib.hid ((hb.block (w.heap.size + 1) (by have := HWS.out; omega)).trans HW1.out)
    have HYB := Lib.hid (HWB.out.trans (hb.mono HWB.out.size))
    have HYS := Lib.hid (Nat.le_trans HWS.out hb.size)
    have HG1 := Lib.hid (Nat.le_trans HWS.out hg1)
    have HR1 := Lib.hid hr1
    clear hb HW0 HW1 HWB HWS hg1 hr1 HN1
    go_wp2_with (refine wpList_load_w (by go_simp) 38 _ rfl (w.heap.size + 1) 0 rfl (cfg M v r) _ (cfg_range HY1.out) Tryd.underlying38 rfl HS2.out ?_)
    refine (HN2.out y1 (HT.out.below HYB.out)).mono ?_
    rintro e y2 ⟨g2, rfl, hg2, hr2, hb⟩
    have HZ1 : Hid (y2.cell? ⟨w.heap.size + 1, 0, none⟩ = some (.int .i64 (M : Int))) := Lib.hid (by rw [cell_of_row _ _ _ _ _ _ ((hb.block (w.heap.size + 1) (by have := HYS.out; omega)).trans HY1.out)]; rfl)
    have HTW : Hid (Two w g1 N v r g2 M v r y2) := Lib.hid ⟨HR1.out.grow hb, hr2, HT.out.below (HYB.out.trans (hb.mono HYB.out.size)), HYB.out.trans (hb.mono HYB.out.size)⟩
    have HAP : Hid (Apart w g1 N v r g2 M v r) := Lib.hid ⟨HT.out.two, by have := HG1.out; omega, by have := HYS.out; omega, (fun e => by have := HR1.out.lt; omega), by have := H8.out; have := HLIM.out; omega, by have := H8.out; omega, HLIM.out.2.1, by have := H8.out; have := HLIM.out; omega, by have := H8.out; have := HM.out; omega, HLIM.out.2.1⟩
    have HNG : Hid (¬ GG g1 g2 (w.heap.size + 1)) := Lib.hid (fun h => by
      have h1 := HG1.out
      have h2 := HYS.out
      rcases h with h | h
      · omega
      · omega)
    clear hb hg2 hr2 HY1 HYB HYS HG1 HR1 HN2 HS HS2
    go_wp2_with fail
    go_loopw [8] (fun kv x => ∃ k : Nat, k ≤ 8 ∧ kv = .int .i64 k ∧ Hid (Two w g1 N v r g2 M v r x ∧ x.cell? ⟨w.heap.size + 1, 0, none⟩ = some (.int .i64 (M : Int)))) (fun kv _ => 8 - (intOf kv).toNat)
    case atStart => exact ⟨0, by omega, rfl, HTW.out, HZ1.out⟩
    case round =>
      clear HTW HZ1
      obtain ⟨k, hk, rfl, HI⟩ := hrel
      by_cases hlt : k < 8
      · have hlt' : (k : Int) < 8 := by omega
        obtain ⟨l1, hl1⟩ : ∃ l, l = LK (Ring.pts ptAt v N) r (k : Int) := ⟨_, rfl⟩
        obtain ⟨l2, hl2⟩ : ∃ l, l = LK (Ring.pts ptAt v M) r (k : Int) := ⟨_, rfl⟩
        have HP : Hid ((l2.filter fun n => decide (n ≠ M)) <+: l1) := Lib.hid (by
          rw [hl1, hl2, LK_ok _ _ _ hlt, LK_ok _ _ _ hlt, HM.out]
          exact Ring.listOf_grow ptAt v N r (baseK k))
        have HL : Hid (l1.length ≤ 8 ∧ l2.length ≤ 8) := Lib.hid (by
          have h1 := LK_len (Ring.pts ptAt v N) r (k : Int)
          have h2 := LK_len (Ring.pts ptAt v M) r (k : Int)
          rw [← hl1] at h1
          rw [← hl2] at h2
          have := HAP.out.R1
          omega)
        have HC1 := Lib.hid (list_env (env_two1 HAP.out) (k : Int) wr HI.out.1)
        have HC2 := Lib.hid (fun x hx => list_env (env_two2 HAP.out) (k : Int) x hx)
        rw [← hl1] at HC1
        rw [← hl2] at HC2
        clear hl1 hl2
        go_wp2_with fail
        refine HC1.out.mono ?_
        rintro e y3 ⟨B1, c1, rfl, hr1, ho1, hf1⟩
        have HR1 : Hid (Row .i64 y3 (fun b => ¬ GG g1 g2 b) B1 l1) := Lib.hid (hr1.weak fun b hb _ h => by
          have h1 := HI.out.1.r1.lt
          have h2 := HI.out.1.r2.lt
          rcases h with h | h
          · omega
          · omega)
        have HI1 : Hid (Two w g1 N v r g2 M v r y3 ∧ y3.cell? ⟨w.heap.size + 1, 0, none⟩ = some (.int .i64 (M : Int))) := Lib.hid ⟨hf1, (World.cell?_of_block (w := wr) (a := ⟨w.heap.size + 1, 0, none⟩) (ho1.block _ (World.block_lt_of_cell? wr _ HI.out.2) HNG.out)).trans HI.out.2⟩
        clear hr1 ho1 hf1 HC1 HI
        go_wp2_with fail
        refine (HC2.out y3 HI1.out.1).mono ?_
        rintro e y4 ⟨B2, c2, rfl, hr2, ho2, hf2⟩
        have HR2 : Hid (Row .i64 y4 (fun _ => True) B2 l2) := Lib.hid (hr2.weak fun _ _ _ => trivial)
        have HR1b : Hid (Row .i64 y4 (fun b => ¬ GG g1 g2 b) B1 l1) := Lib.hid (HR1.out.kept ho2 (fun b hb => hb))
        have HI2 : Hid (Two w g1 N v r g2 M v r y4 ∧ y4.cell? ⟨w.heap.size + 1, 0, none⟩ = some (.int .i64 (M : Int))) := Lib.hid ⟨hf2, (World.cell?_of_block (w := y3) (a := ⟨w.heap.size + 1, 0, none⟩) (ho2.block _ (World.block_lt_of_cell? y3 _ HI1.out.2) HNG.out)).trans HI1.out.2⟩
        clear hr2 ho2 hf2 HC2 HI1 HR1
        go_wp2_with fail
        go_loopw [11, 12] (fun av iv x => ∃ i : Nat, i ≤ l2.length ∧ iv = .int .i64 i ∧ av = .int .i64 ((cntG M l2 i : Nat) : Int) ∧ Hid (Row .i64 x (fun _ => True) B2 l2) ∧ Hid (Row .i64 x (fun b => ¬ GG g1 g2 b) B1 l1) ∧ Hid (Two w g1 N v r g2 M v r x ∧ x.cell? ⟨w.heap.size + 1, 0, none⟩ = some (.int .i64 (M : Int)))) (fun _ iv _ => l2.length - (intOf iv).toNat)
        case atStart => exact ⟨0, by omega, rfl, rfl, HR2, HR1b, HI2⟩
        case round =>
          clear HR2 HR1b HI2
          obtain ⟨i, hi, rfl, rfl, HR2, HR1, HI⟩ := hrel
          by_cases hlt2 : i < l2.length
          · have hlt2' : (i : Int) < (l2.length : Int) := by omega
            have EI : IntKind.i64.wrap ((i : Int) + 1) = (i : Int) + 1 := by have := HL.out; exact IntWalk.i64_in _ (by omega)
            obtain ⟨b2, o2, hB2, _, hcs2⟩ := HR2.out.at_ (by omega)
            subst hB2
            have hc2 := hcs2 i hlt2
            clear hcs2
            have hdn := HI.out.2
            have HRd2 : Hid (Row .i64 wr.drew (fun _ => True) (some ⟨b2, o2, none⟩) l2) := Lib.hid HR2.out.drew
            have HRd1 : Hid (Row .i64 wr.drew (fun b => ¬ GG g1 g2 b) B1 l1) := Lib.hid HR1.out.drew
            have HId : Hid (Two w g1 N v r g2 M v r wr.drew ∧ wr.drew.cell? ⟨w.heap.size + 1, 0, none⟩ = some (.int .i64 (M : Int))) := Lib.hid ⟨HI.out.1.soft (.of_below (Below.refl _ _).drew) HAP.out.two, HI.out.2⟩
            clear HR2 HR1 HI
            by_cases hq : l2.getD i 0 = M
            · have HS := Lib.hid (cntG_same hlt2 hq)
              rw [hq] at hc2
              clear hq
              go_wp2_with fail
              go_region
              go_wp2
              go_roundw
              all_goals clear EI
              case rel => exact ⟨i + 1, by omega, by go_num, by rw [HS.out], HRd2, HRd1, HId⟩
              case measure => simp [intOf]; omega
            · obtain ⟨hs1, hs2, hs3⟩ := cntG_next hlt2 hq HP.out
              obtain ⟨q, hqq⟩ : ∃ q, q = l2.getD i 0 := ⟨_, rfl⟩
              rw [← hqq] at hc2 hq hs3
              clear hqq
              obtain ⟨n, hn⟩ : ∃ n, n = cntG M l2 i := ⟨_, rfl⟩
              rw [← hn] at hs1 hs2 hs3
              rw [← hn]
              have HS := Lib.hid hs1
              have hne : ((q : Int) == (M : Int)) = false := by rw [beq_eq_false_iff_ne]; omega
              obtain ⟨b1, o1, hB1, _, hcs1⟩ := HRd1.out.at_ (by omega)
              subst hB1
              have hc1 := hcs1 n hs2
              rw [hs3] at hc1
              have hc1d : wr.cell? ⟨b1, o1 + n, none⟩ = some (.int .i64 (q : Int)) := hc1
              have hge : decide (l1.length ≤ n) = false := by rw [decide_eq_false_iff_not]; omega
              have hge2 : decide ((l1.length : Int) ≤ (n : Int)) = false := by rw [decide_eq_false_iff_not]; omega
              have hltn : (n : Int) < (l1.length : Int) := by omega
              have EN2 : IntKind.i64.wrap ((n : Int) + 1) = (n : Int) + 1 := by have := HL.out; exact IntWalk.i64_in _ (by omega)
              clear hcs1 hs1 hs3 hn hq
              go_wp2_with fail
              go_region
              go_wp2_with fail
              go_region
              go_wp2
              go_roundw
              all_goals clear EN2 EI
              case rel => exact ⟨i + 1, by omega, by go_num, by rw [HS.out]; go_num, HRd2.out.drew, HRd1.out.drew, HId.out.1.soft (.of_below (Below.refl _ _).drew) HAP.out.two, HId.out.2⟩
              case measure => simp [intOf]; omega
          · obtain rfl : i = l2.length := by omega
            go_wp2_with fail
            go_roundw
            case rel => exact ⟨k + 1, by omega, by go_num, HI⟩
            case measure => simp [intOf]; omega
      · obtain rfl : k = 8 := by omega
        have HAL := Lib.hid (ralive_any wr HI.out.1.tabs)
        go_wp2_with (go_at_call 23; refine HAL.out.mono ?_; rintro e y9 ⟨rfl, hb⟩; have HB9 := Lib.hid (HI.out.1.below.trans (hb.mono HI.out.1.below.size)); clear hb)
        go_ret
        exact ⟨rfl, HB9.out⟩
end Go.Proofs.YthcnoblamilpgaaDoor
