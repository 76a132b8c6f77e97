/- The law RingHolds. -/
import Derived.Test.YthcnoblamilpgaaDoorR17
set_option maxRecDepth 100000
set_option linter.unusedVariables false
set_option linter.unusedSimpArgs false
namespace Go.Proofs.YthcnoblamilpgaaDoor
open Go.RowKit
/-- What holds while the law RingHolds asks its ring. -/
structure RH (w : World) (g N V R : Nat) (x : World) : Prop where
  ring : RingAt x g N V R
  tabs : Tabs x
  size : w.heap.size + 1 ≤ x.heap.size
  below : Below w.heap.size w x
  box : x.heap[w.heap.size]? = some (.cells (cfg N V R) 38)
theorem RH.box0 {w x : World} {g N V R : Nat} (h : RH w g N V R x) : x.cell? ⟨w.heap.size, 0, none⟩ = some (.int .i64 (N : Int)) := by rw [cell_of_row _ _ _ _ _ _ h.box]; rfl
theorem RH.box2 {w x : World} {g N V R : Nat} (h : RH w g N V R x) : x.cell? ⟨w.heap.size, 2, none⟩ = some (.int .i64 (R : Int)) := by rw [cell_of_row _ _ _ _ _ _ h.box]; rfl
theorem RH.soft {w x y : World} {g N V R : Nat} (h : RH w g N V R x) (hs : Soft (w.heap.size + 1) x y) (h2 : 2 ≤ w.heap.size) : RH w g N V R y :=
  ⟨h.ring.soft hs, h.tabs.soft hs (by omega), Nat.le_trans h.size hs.size, Below.soft h.below hs (by omega) h.below.size, (hs.block _ (by have := h.size; omega) (.inl (by omega))).trans h.box⟩
theorem RH.drew {w x : World} {g N V R : Nat} (h : RH w g N V R x) (h2 : 2 ≤ w.heap.size) : RH w g N V R x.drew := h.soft (.of_below (Below.refl _ _).drew) h2
theorem env_holds {w : World} {g N V R : Nat} (h2 : 2 ≤ w.heap.size) (hg : w.heap.size + 1 ≤ g) (hN : N ≤ 8) (hV : V ≤ 16) (hR : R ≤ 8) : Env (w.heap.size + 1) (fun b => b = g) (.pointer (some ⟨g, 0, none⟩)) (Ring.pts ptAt V N) R (RH w g N V R) where
  up x y hs h := h.soft hs h2
  all x h := (all_any g N V R x h.ring h.tabs).mono (by
    rintro e y ⟨A, c, rfl, hl, hp, hr, hgr⟩
    exact ⟨A, c, rfl, hp, Only.of_grown hgr rfl, hr, h.tabs.only hgr h.ring.2.2.1, Nat.le_trans h.size hgr.size, h.below.grown hgr h.below.size (fun k hk => by injection hk with hk; omega), (hgr.block _ (by have := h.size; omega) (fun e => by injection e with e; omega)).trans h.box⟩)
  cf x h := (config_ring g N V R x h.ring).mono (by
    rintro e y ⟨rfl, hb⟩
    exact ⟨_, _, rfl, hb⟩)
  sorted := Ring.sorted_sort _
  len := by
    rw [Ring.pts_length]
    have := Nat.mul_le_mul hN hV
    omega
  r := hR
  tag x b h hb := by subst hb; exact h.ring.tag
  nle x h := h.size
theorem Row.cell {k : IntKind} {x : World} {ok : Nat → Prop} {A : Option Addr} {l : List Nat} (h : Row k x ok A l) (b o : Nat) (hA : A = some ⟨b, o, none⟩) (i : Nat) (hi : i < l.length) : x.cell? ⟨b, o + i, none⟩ = some (.int k ((l.getD i 0 : Nat) : Int)) := by
  obtain ⟨b', o', e, _, hc⟩ := h.at_ (by omega)
  rw [hA] at e
  cases e
  exact hc i hi
theorem getD_mem {l : List Nat} {i : Nat} (hi : i < l.length) : l.getD i 0 ∈ l := by
  rw [List.getD_eq_getElem?_getD, List.getElem?_eq_getElem hi]
  exact List.getElem_mem _
theorem nodup_get {l : List Nat} (h : l.Nodup) {i j : Nat} (hi : i < l.length) (hj : j < i) : l.getD i 0 ≠ l.getD j 0 := by
  intro e
  rw [List.getD_eq_getElem?_getD, List.getD_eq_getElem?_getD, List.getElem?_eq_getElem hi, List.getElem?_eq_getElem (by omega)] at e
  have e : l[i] = l[j] := e
  have := (List.getElem_inj h).1 e
  omega
theorem partsI_mem {ls : List Pt} {R : Nat} {m : Int} {p : Nat} (h : p ∈ partsI ls R m 8) : p < 8 ∧ hasI (LK ls R (p : Int)) m = true := by
  unfold partsI at h
  rw [List.mem_filter, List.mem_range] at h
  exact h
theorem partsI_rise {ls : List Pt} {R : Nat} {m : Int} {i j : Nat} (hi : i < (partsI ls R m 8).length) (hj : j < i) : (partsI ls R m 8).getD j 0 < (partsI ls R m 8).getD i 0 := by
  have h : (partsI ls R m 8).Pairwise (· < ·) := List.pairwise_lt_range.sublist List.filter_sublist
  rw [List.getD_eq_getElem?_getD, List.getD_eq_getElem?_getD, List.getElem?_eq_getElem hi, List.getElem?_eq_getElem (by omega)]
  exact List.pairwise_iff_getElem.1 h j i (by omega) hi hj
/-- How many parts the first m nodes hold. -/
def sumP (ls : List Pt) (R : Nat) (m : Nat) : Nat := ((List.range m).map fun n => (partsI ls R ((n + 1 : Nat) : Int) 8).length).sum
theorem sumP_succ (ls : List Pt) (R m : Nat) : sumP ls R (m + 1) = sumP ls R m + (partsI ls R ((m + 1 : Nat) : Int) 8).length := by
  unfold sumP
  rw [List.range_succ, List.map_append, List.sum_append]
  simp
theorem sumP_le (ls : List Pt) (R : Nat) : ∀ m, sumP ls R m ≤ m * 8
  | 0 => by simp [sumP]
  | m + 1 => by
    have h1 := sumP_le ls R m
    have h2 := partsI_len ls R ((m + 1 : Nat) : Int) 8
    rw [sumP_succ]
    omega
theorem sumP_all {N V R : Nat} (hV : 0 < V) (hR : R ≤ N) : sumP (Ring.pts ptAt V N) R N = 8 * R := by
  have h := Ring.sum_parts N (fun k => Ring.listOf (Ring.pts ptAt V N) (baseK k) R) R (fun k _ => Ring.listOf_nodup _ _ _) (fun k _ x hx => Ring.listOf_node hx) (fun k _ => Ring.listOf_length hV hR)
  rw [← h]
  unfold sumP
  congr 1
  apply List.map_congr_left
  intro n _
  unfold partsI Ring.partsOf
  congr 1
  apply List.filter_congr
  intro k hk
  rw [LK_ok _ _ _ (by simpa using hk), hasI_nat]
set_option maxHeartbeats 4000000 in
theorem rholds_bad (N V R : Int) (w : World) (ht : Tabs w) (hr : rightC N V R = false) : Calls Tryd.prog 6 #[.agg (cfg N V R)] w fun e w' => e = .returned (.bool true) ∧ Below w.heap.size w w' := by
  have HX := Lib.hid (heap_alloc_new w (.cells (cfg N V R) 38))
  have HB := Lib.hid ((Below.refl w.heap.size w).alloc (Nat.le_refl _) (.cells (cfg N V R) 38))
  have HT := Lib.hid ht
  have HS := Lib.hid (cfg_size N V R)
  have HNB := Lib.hid (new_bad N V R (w.alloc (.cells (cfg N V R) 38)) hr)
  have HRC := Lib.hid (fun x => right_cfg N V R x)
  rw [hr] at HRC
  clear ht hr
  go_enter Tryd.func6, Tryd.ntmps6
  go_wp2_with (refine wpList_load_w (by go_simp) 38 _ rfl w.heap.size 0 rfl (cfg N V R) _ (cfg_range HX.out) Tryd.underlying38 rfl HS.out ?_)
  refine HNB.out.mono ?_
  rintro e y1 ⟨rfl, hb⟩
  have HY0 := Lib.hid ((hb.block w.heap.size (by simp)).trans HX.out)
  have HYB := Lib.hid (HB.out.trans (hb.mono HB.out.size))
  have HYS : Hid (w.heap.size + 1 ≤ y1.heap.size) := Lib.hid (by have := hb.size; simpa using this)
  clear hb HX HB HNB
  go_wp2_with fail
  refine (ralive_any y1 (HT.out.below HYB.out)).mono ?_
  rintro e y3 ⟨rfl, hb⟩
  have HA0 := Lib.hid ((hb.block w.heap.size (by have := HYS.out; omega)).trans HY0.out)
  have HAB := Lib.hid (HYB.out.trans (hb.mono HYB.out.size))
  clear hb HY0 HYS HYB
  go_wp2_with (refine wpList_load_w (by go_simp) 38 _ rfl w.heap.size 0 rfl (cfg N V R) _ (cfg_range HA0.out) Tryd.underlying38 rfl HS.out ?_)
  refine (HRC.out y3).mono ?_
  rintro e y4 ⟨rfl, hb⟩
  have HFB := Lib.hid (HAB.out.trans (hb.mono HAB.out.size))
  clear hb
  go_wp2_with fail
  go_ret
  exact ⟨rfl, HFB.out⟩
set_option maxHeartbeats 8000000 in
theorem rholds_ok (N V R : Nat) (w : World) (ht : Tabs w) (hr : rightC N V R = true) : Calls Tryd.prog 6 #[.agg (cfg N V R)] w fun e w' => e = .returned (.bool true) ∧ Below w.heap.size w w' := by
  have h' := hr
  unfold rightC withinB at h'
  simp only [Bool.and_eq_true, decide_eq_true_eq] at h'
  have HLIM : Hid (1 ≤ N ∧ N ≤ 8 ∧ 1 ≤ V ∧ V ≤ 16 ∧ 1 ≤ R ∧ R ≤ N) := Lib.hid (by omega)
  have HX := Lib.hid (heap_alloc_new w (.cells (cfg N V R) 38))
  have HB := Lib.hid ((Below.refl w.heap.size w).alloc (Nat.le_refl _) (.cells (cfg N V R) 38))
  have H2 := Lib.hid ht.two
  have HS := Lib.hid (cfg_size N V R)
  have HN1 := Lib.hid (new_ok N V R (w.alloc (.cells (cfg N V R) 38)) hr (ht.below HB.out))
  have HTB := Lib.hid (fun x (hx : Below w.heap.size w x) => ht.below hx)
  clear ht hr h'
  go_enter Tryd.func6, Tryd.ntmps6
  go_wp2_with (refine wpList_load_w (by go_simp) 38 _ rfl w.heap.size 0 rfl (cfg N V R) _ (cfg_range HX.out) Tryd.underlying38 rfl HS.out ?_)
  refine HN1.out.mono ?_
  rintro e y1 ⟨g, rfl, hg, hrg, hb⟩
  have hyb := HB.out.trans (hb.mono HB.out.size)
  rw [World.size_alloc] at hg
  have HG := Lib.hid hg
  have HR0 : Hid (RH w g N V R y1) := Lib.hid ⟨hrg, HTB.out _ hyb, by have := hb.size; simpa using this, hyb, (hb.block w.heap.size (by simp)).trans HX.out⟩
  have HE := Lib.hid (env_holds H2.out hg HLIM.out.2.1 HLIM.out.2.2.2.1 (by have := HLIM.out; omega) (N := N) (V := V) (R := R))
  clear hg hrg hb hyb HX HB HN1 HTB HS
  go_wp2_with fail
  go_loopw [6] (fun kv x => ∃ k : Nat, k ≤ 8 ∧ kv = .int .i64 k ∧ Hid (RH w g N V R x)) (fun kv _ => 8 - (intOf kv).toNat)
  case atStart => exact ⟨0, by omega, rfl, HR0⟩
  case round =>
    clear HR0
    obtain ⟨k, hk, rfl, HI⟩ := hrel
    by_cases hlt : k < 8
    · have hlt' : (k : Int) < 8 := by omega
      obtain ⟨l, hl⟩ : ∃ l, l = LK (Ring.pts ptAt V N) R (k : Int) := ⟨_, rfl⟩
      have hlk : l = Ring.listOf (Ring.pts ptAt V N) (baseK k) R := by rw [hl, LK_ok _ _ _ hlt]
      have HLL : Hid (l.length = R) := Lib.hid (by rw [hlk]; exact Ring.listOf_length (by have := HLIM.out; omega) HLIM.out.2.2.2.2.2)
      have HLN : Hid (∀ y, y ∈ l → 1 ≤ y ∧ y ≤ N) := Lib.hid (fun y hy => by rw [hlk] at hy; exact Ring.listOf_node hy)
      have HLD : Hid l.Nodup := Lib.hid (by rw [hlk]; exact Ring.listOf_nodup _ _ _)
      have HL := Lib.hid (list_env HE.out (k : Int) wr HI.out)
      have HHA := Lib.hid (fun (q : Nat) x hx => holds_env HE.out (q : Int) (k : Int) x hx)
      rw [← hl] at HL HHA
      clear hl hlk
      go_wp2_with fail
      refine HL.out.mono ?_
      rintro e y2 ⟨B, c, rfl, hr2, ho2, hf2⟩
      have HR2 : Hid (Row .i64 y2 (fun b => b ≠ g) B l) := Lib.hid (hr2.weak fun b hb _ e => by have := HI.out.ring.lt; omega)
      have HI2 := Lib.hid hf2
      have hc2 := hf2.box2
      have hne : ((l.length : Int) != (R : Int)) = false := by rw [bne_eq_false_iff_eq, HLL.out]
      clear hr2 ho2 hf2 HI HL
      go_wp2_with fail
      clear hc2 hne
      go_loopw [8] (fun iv x => ∃ i : Nat, i ≤ l.length ∧ iv = .int .i64 i ∧ Hid (Row .i64 x (fun b => b ≠ g) B l) ∧ Hid (RH w g N V R x)) (fun iv _ => l.length - (intOf iv).toNat)
      case atStart => exact ⟨0, by omega, rfl, HR2, HI2⟩
      case round =>
        clear HR2 HI2
        obtain ⟨i, hi, rfl, HR2, HI2⟩ := hrel
        by_cases hlt2 : i < l.length
        · have hlt2' : (i : Int) < (l.length : Int) := by omega
          have EI : IntKind.i64.wrap ((i : Int) + 1) = (i : Int) + 1 := by have := HLL.out; have := HLIM.out; exact IntWalk.i64_in _ (by omega)
          obtain ⟨b, o, hB, hb1, hb2⟩ := HR2.out.at_ (by omega)
          subst hB
          clear hb1 hb2
          obtain ⟨q, hq⟩ : ∃ q, q = l.getD i 0 := ⟨_, rfl⟩
          have hqm : q ∈ l := by rw [hq]; exact getD_mem hlt2
          have HH := Lib.hid (fun x hx => HHA.out q x hx)
          rw [show hasI l (q : Int) = true by rw [hasI_nat]; exact decide_eq_true hqm] at HH
          have hq1 : ¬ (q : Int) < 1 := by have := HLN.out q hqm; omega
          have hq2 : ¬ (N : Int) < (q : Int) := by have := HLN.out q hqm; omega
          have HD0 : Hid (RH w g N V R wr.drew ∧ Row .i64 wr.drew (fun b => b ≠ g) (some ⟨b, o, none⟩) l) := Lib.hid ⟨HI2.out.drew H2.out, HR2.out.drew⟩
          have HQ := Lib.hid hq
          clear hqm HR2 HI2 hq
          go_wp2_with fail
          refine WM.wp_region_kinds (fun _ x y => Only (fun b => b = g) x y ∧ (RH w g N V R x → RH w g N V R y)) (fun _ x => RH w g N V R x ∧ Row .i64 x (fun b => b ≠ g) (some ⟨b, o, none⟩) l) (fun x => RH w g N V R x ∧ Row .i64 x (fun b => b ≠ g) (some ⟨b, o, none⟩) l)
            [(3, .val (.int .i64 (q : Int)) fun _ => True), (9, .val (.int .i64 (q : Int)) fun _ => True), (11, .val (.int .i64 (N : Int)) fun _ => True), (19, .val (.int .i64 (q : Int)) fun _ => True), (21, .val (.bool true) fun _ => True)]
            (by kernel_rfl) (by kernel_rfl) (fun _ x y hb h => ⟨hb.2 h.1, h.2.kept hb.1 (fun _ h e => h e)⟩) (fun _ _ x y _ hb h => ⟨hb.2 h.1, h.2.kept hb.1 (fun _ h e => h e)⟩) ?_ HD0.out (fun _ => HD0.out) ?_
          · intro z hz
            simp only [List.mem_cons, List.mem_nil_iff, or_false] at hz
            rcases hz with rfl | rfl | rfl | rfl | rfl <;> exact fun _ _ _ _ _ _ => trivial
          refine WM.mono_pure rfl rfl ?_
          refine ⟨.slice (some ⟨b, o, none⟩) l.length c, fun x => ?_, ?_⟩
          · rfl
          apply Exists.intro
          refine ⟨by simp only [Act.put, List.setIfInBounds_toArray, List.set_cons_succ, List.set_cons_zero]; rfl, ?_⟩
          refine WM.mono_pure rfl rfl ?_
          refine ⟨.int .i64 (i : Int), fun x => ?_, ?_⟩
          · rfl
          apply Exists.intro
          refine ⟨by simp only [Act.put, List.setIfInBounds_toArray, List.set_cons_succ, List.set_cons_zero]; rfl, ?_⟩
          refine WM.mono_pure rfl rfl ?_
          refine ⟨.pointer (some ⟨b, o + i, none⟩), fun x => ?_, ?_⟩
          · go_simp
          apply Exists.intro
          refine ⟨by simp only [Act.put, List.setIfInBounds_toArray, List.set_cons_succ, List.set_cons_zero]; rfl, ?_⟩
          refine WM.mono_val rfl rfl (fun x hD hF => ?_) ?_
          · have hc := (hD.2.cell b o rfl i hlt2)
            rw [← HQ.out] at hc
            go_simp
            exact ⟨⟨Only.refl _ _, id⟩, rfl⟩
          apply Exists.intro
          refine ⟨by simp only [Act.put, List.setIfInBounds_toArray, List.set_cons_succ, List.set_cons_zero]; rfl, ?_⟩
          refine WM.mono_pure rfl rfl ?_
          refine ⟨.bool false, fun x => ?_, ?_⟩
          · go_simp
          apply Exists.intro
          refine ⟨by simp only [Act.put, List.setIfInBounds_toArray, List.set_cons_succ, List.set_cons_zero]; rfl, ?_⟩
          refine WM.mono_pure rfl rfl ?_
          refine ⟨.bool false, fun x => ?_, ?_⟩
          · rfl
          apply Exists.intro
          refine ⟨by simp only [Act.put, List.setIfInBounds_toArray, List.set_cons_succ, List.set_cons_zero]; rfl, ?_⟩
          refine WM.mono_pure rfl rfl ?_
          refine ⟨.slice (some ⟨b, o, none⟩) l.length c, fun x => ?_, ?_⟩
          · rfl
          apply Exists.intro
          refine ⟨by simp only [Act.put, List.setIfInBounds_toArray, List.set_cons_succ, List.set_cons_zero]; rfl, ?_⟩
          refine WM.mono_pure rfl rfl ?_
          refine ⟨.int .i64 (i : Int), fun x => ?_, ?_⟩
          · rfl
          apply Exists.intro
          refine ⟨by simp only [Act.put, List.setIfInBounds_toArray, List.set_cons_succ, List.set_cons_zero]; rfl, ?_⟩
          refine WM.mono_pure rfl rfl ?_
          refine ⟨.pointer (some ⟨b, o + i, none⟩), fun x => ?_, ?_⟩
          · go_simp
          apply Exists.intro
          refine ⟨by simp only [Act.put, List.setIfInBounds_toArray, List.set_cons_succ, List.set_cons_zero]; rfl, ?_⟩
          refine WM.mono_val rfl rfl (fun x hD hF => ?_) ?_
          · have hc := (hD.2.cell b o rfl i hlt2)
            rw [← HQ.out] at hc
            go_simp
            exact ⟨⟨Only.refl _ _, id⟩, rfl⟩
          apply Exists.intro
          refine ⟨by simp only [Act.put, List.setIfInBounds_toArray, List.set_cons_succ, List.set_cons_zero]; rfl, ?_⟩
          refine WM.mono_pure rfl rfl ?_
          refine ⟨.pointer (some ⟨w.heap.size, 0, none⟩), fun x => ?_, ?_⟩
          · go_simp
          apply Exists.intro
          refine ⟨by simp only [Act.put, List.setIfInBounds_toArray, List.set_cons_succ, List.set_cons_zero]; rfl, ?_⟩
          refine WM.mono_val rfl rfl (fun x hD hF => ?_) ?_
          · have hc := hD.1.box0
            go_simp
            exact ⟨⟨Only.refl _ _, id⟩, rfl⟩
          apply Exists.intro
          refine ⟨by simp only [Act.put, List.setIfInBounds_toArray, List.set_cons_succ, List.set_cons_zero]; rfl, ?_⟩
          refine WM.mono_pure rfl rfl ?_
          refine ⟨.bool false, fun x => ?_, ?_⟩
          · go_simp; omega
          apply Exists.intro
          refine ⟨by simp only [Act.put, List.setIfInBounds_toArray, List.set_cons_succ, List.set_cons_zero]; rfl, ?_⟩
          refine WM.mono_pure rfl rfl ?_
          refine ⟨.bool false, fun x => ?_, ?_⟩
          · go_simp
          apply Exists.intro
          refine ⟨by simp only [Act.put, List.setIfInBounds_toArray, List.set_cons_succ, List.set_cons_zero]; rfl, ?_⟩
          refine WM.mono_pure rfl rfl ?_
          refine ⟨.bool false, fun x => ?_, ?_⟩
          · rfl
          apply Exists.intro
          refine ⟨by simp only [Act.put, List.setIfInBounds_toArray, List.set_cons_succ, List.set_cons_zero]; rfl, ?_⟩
          refine WM.mono_pure rfl rfl ?_
          refine ⟨.pointer (some ⟨g, 0, none⟩), fun x => ?_, ?_⟩
          · rfl
          apply Exists.intro
          refine ⟨by simp only [Act.put, List.setIfInBounds_toArray, List.set_cons_succ, List.set_cons_zero]; rfl, ?_⟩
          refine WM.mono_pure rfl rfl ?_
          refine ⟨.slice (some ⟨b, o, none⟩) l.length c, fun x => ?_, ?_⟩
          · rfl
          apply Exists.intro
          refine ⟨by simp only [Act.put, List.setIfInBounds_toArray, List.set_cons_succ, List.set_cons_zero]; rfl, ?_⟩
          refine WM.mono_pure rfl rfl ?_
          refine ⟨.int .i64 (i : Int), fun x => ?_, ?_⟩
          · rfl
          apply Exists.intro
          refine ⟨by simp only [Act.put, List.setIfInBounds_toArray, List.set_cons_succ, List.set_cons_zero]; rfl, ?_⟩
          refine WM.mono_pure rfl rfl ?_
          refine ⟨.pointer (some ⟨b, o + i, none⟩), fun x => ?_, ?_⟩
          · go_simp
          apply Exists.intro
          refine ⟨by simp only [Act.put, List.setIfInBounds_toArray, List.set_cons_succ, List.set_cons_zero]; rfl, ?_⟩
          refine WM.mono_val rfl rfl (fun x hD hF => ?_) ?_
          · have hc := (hD.2.cell b o rfl i hlt2)
            rw [← HQ.out] at hc
            go_simp
            exact ⟨⟨Only.refl _ _, id⟩, rfl⟩
          apply Exists.intro
          refine ⟨by simp only [Act.put, List.setIfInBounds_toArray, List.set_cons_succ, List.set_cons_zero]; rfl, ?_⟩
          refine WM.mono_pure rfl rfl ?_
          refine ⟨.int .i64 (k : Int), fun x => ?_, ?_⟩
          · rfl
          apply Exists.intro
          refine ⟨by simp only [Act.put, List.setIfInBounds_toArray, List.set_cons_succ, List.set_cons_zero]; rfl, ?_⟩
          refine WM.mono_val rfl rfl (fun x hD hF => ?_) ?_
          · go_simp
            refine (HH.out x hD.1).mono ?_
            rintro e y ⟨rfl, ho, hf⟩
            exact ⟨_, rfl, ⟨ho, fun _ => hf⟩, rfl⟩
          apply Exists.intro
          refine ⟨by simp only [Act.put, List.setIfInBounds_toArray, List.set_cons_succ, List.set_cons_zero]; rfl, ?_⟩
          refine WM.mono_pure rfl rfl ?_
          refine ⟨.bool false, fun x => ?_, ?_⟩
          · go_simp
          apply Exists.intro
          refine ⟨by simp only [Act.put, List.setIfInBounds_toArray, List.set_cons_succ, List.set_cons_zero]; rfl, ?_⟩
          refine WM.mono_pure rfl rfl ?_
          refine ⟨.bool false, fun x => ?_, ?_⟩
          · go_simp
          apply Exists.intro
          refine ⟨by simp only [Act.put, List.setIfInBounds_toArray, List.set_cons_succ, List.set_cons_zero]; rfl, ?_⟩
          refine WM.mono_nil fun x hE hF => ?_
          have HEX := Lib.hid hE
          clear hE hF HD0 HH hq1 hq2
          go_wp2_with fail
          go_loopw [9] (fun jv x => ∃ j : Nat, j ≤ i ∧ jv = .int .i64 j ∧ Hid (RH w g N V R x ∧ Row .i64 x (fun b => b ≠ g) (some ⟨b, o, none⟩) l)) (fun jv _ => i - (intOf jv).toNat)
          case atStart => exact ⟨0, by omega, rfl, HEX⟩
          case round =>
            clear HEX
            obtain ⟨j, hj, rfl, HX2⟩ := hrel
            by_cases hlt3 : j < i
            · have hlt3' : (j : Int) < (i : Int) := by omega
              have hjl : (j : Int) < (l.length : Int) := by omega
              have EJ : IntKind.i64.wrap ((j : Int) + 1) = (j : Int) + 1 := by have := HLL.out; have := HLIM.out; exact IntWalk.i64_in _ (by omega)
              have hca := HX2.out.2.cell b o rfl i hlt2
              have hcb := HX2.out.2.cell b o rfl j (by omega)
              have hnq : (((l.getD i 0 : Nat) : Int) == ((l.getD j 0 : Nat) : Int)) = false := by
                have := nodup_get HLD.out hlt2 hlt3
                rw [beq_eq_false_iff_ne]
                omega
              obtain ⟨u, hu⟩ : ∃ u, u = l.getD i 0 := ⟨_, rfl⟩
              obtain ⟨v, hv⟩ : ∃ v, v = l.getD j 0 := ⟨_, rfl⟩
              rw [← hu] at hca hnq
              rw [← hv] at hcb hnq
              have HX3 : Hid (RH w g N V R wr.drew ∧ Row .i64 wr.drew (fun b => b ≠ g) (some ⟨b, o, none⟩) l) := Lib.hid ⟨HX2.out.1.drew H2.out, HX2.out.2.drew⟩
              clear HX2 hu hv
              go_wp2_with fail
              go_region
              go_wp2
              go_roundw
              all_goals clear EI EJ
              case rel => exact ⟨j + 1, by omega, by go_num, HX3⟩
              case measure => simp [intOf]; omega
            · obtain rfl : j = i := by omega
              go_wp2_with fail
              go_roundw
              all_goals clear EI
              case rel => exact ⟨j + 1, by omega, by go_num, HX2.out.2, HX2.out.1⟩
              case measure => simp [intOf]; omega
        · obtain rfl : i = l.length := by omega
          go_wp2_with fail
          go_roundw
          case rel => exact ⟨k + 1, by omega, by go_num, HI2⟩
          case measure => simp [intOf]; omega
    · have hlt' : ¬ (k : Int) < 8 := by omega
      have hbx := HI.out.box0
      go_wp2_with fail
      clear hbx
      go_loopw [5, 10] (fun sv mv x => ∃ m s : Nat, 1 ≤ m ∧ m ≤ N + 1 ∧ mv = .int .i64 m ∧ sv = .int .i64 s ∧ Hid (s = sumP (Ring.pts ptAt V N) R (m - 1)) ∧ Hid (RH w g N V R x)) (fun _ mv _ => N + 1 - (intOf mv).toNat)
      case atStart => exact ⟨1, 0, by omega, by omega, rfl, rfl, rfl, HI⟩
      case round =>
        clear HI
        obtain ⟨m, s, hm1, hm2, rfl, rfl, HSUM, HI⟩ := hrel
        have hc0 := HI.out.box0
        by_cases hlt : m ≤ N
        · have hlt' : (m : Int) ≤ (N : Int) := by omega
          have EM : IntKind.i64.wrap ((m : Int) + 1) = (m : Int) + 1 := by have := HLIM.out; exact IntWalk.i64_in _ (by omega)
          obtain ⟨l, hl⟩ : ∃ l, l = partsI (Ring.pts ptAt V N) R (m : Int) 8 := ⟨_, rfl⟩
          have HLL : Hid (l.length ≤ 8) := Lib.hid (by rw [hl]; exact partsI_len _ _ _ _)
          have HLM : Hid (∀ q, q ∈ l → hasI (LK (Ring.pts ptAt V N) R (q : Int)) (m : Int) = true) := Lib.hid (fun q hq => by rw [hl] at hq; exact (partsI_mem hq).2)
          have HLR : Hid (∀ i j, i < l.length → j < i → l.getD j 0 < l.getD i 0) := Lib.hid (fun i j hi hj => by rw [hl] at hi ⊢; exact partsI_rise hi hj)
          have HNX : Hid (s + l.length = sumP (Ring.pts ptAt V N) R m ∧ s ≤ 1000) := Lib.hid (by
            have h1 := sumP_succ (Ring.pts ptAt V N) R (m - 1)
            have h2 := sumP_le (Ring.pts ptAt V N) R (m - 1)
            rw [show m - 1 + 1 = m by omega, ← hl] at h1
            have := HLIM.out
            have := HSUM.out
            omega)
          have HL := Lib.hid (parts_env HE.out (m : Int) wr HI.out)
          have HHA := Lib.hid (fun (q : Nat) x hx => holds_env HE.out (m : Int) (q : Int) x hx)
          rw [← hl] at HL
          clear hl HSUM
          go_wp2_with fail
          refine HL.out.mono ?_
          rintro e y2 ⟨B, rfl, hr2, ho2, hf2⟩
          have HR2 : Hid (Row .i64 y2 (fun b => b ≠ g) B l) := Lib.hid (hr2.weak fun b hb _ e => by have := HI.out.ring.lt; omega)
          have HI2 := Lib.hid hf2
          clear hr2 ho2 hf2 HI HL hc0
          go_wp2_with fail
          go_loopw [12] (fun iv x => ∃ i : Nat, i ≤ l.length ∧ iv = .int .i64 i ∧ Hid (Row .i64 x (fun b => b ≠ g) B l) ∧ Hid (RH w g N V R x)) (fun iv _ => l.length - (intOf iv).toNat)
          case atStart => exact ⟨0, by omega, rfl, HR2, HI2⟩
          case round =>
            clear HR2 HI2
            obtain ⟨i, hi, rfl, HR2, HI2⟩ := hrel
            by_cases hlt2 : i < l.length
            · have hlt2' : (i : Int) < (l.length : Int) := by omega
              have EI : IntKind.i64.wrap ((i : Int) + 1) = (i : Int) + 1 := by have := HLL.out; exact IntWalk.i64_in _ (by omega)
              obtain ⟨b, o, hB, hb1, hb2⟩ := HR2.out.at_ (by omega)
              subst hB
              clear hb1 hb2
              obtain ⟨q, hq⟩ : ∃ q, q = l.getD i 0 := ⟨_, rfl⟩
              have hqm : q ∈ l := by rw [hq]; exact getD_mem hlt2
              have HH := Lib.hid (fun x hx => HHA.out q x hx)
              rw [HLM.out q hqm] at HH
              have HD0 : Hid (RH w g N V R wr.drew ∧ Row .i64 wr.drew (fun b => b ≠ g) (some ⟨b, o, none⟩) l) := Lib.hid ⟨HI2.out.drew H2.out, HR2.out.drew⟩
              have HQ := Lib.hid hq
              clear hqm HR2 HI2 hq
              by_cases hpos : 0 < i
              · obtain ⟨j, hj⟩ : ∃ j, j = i - 1 := ⟨_, rfl⟩
                have hjl : j < l.length := by omega
                have hjl' : (j : Int) < (l.length : Int) := by omega
                have EJ : IntKind.i64.wrap ((i : Int) - 1) = (j : Int) := by rw [IntWalk.i64_in _ (by have := HLL.out; omega)]; omega
                obtain ⟨q2, hq2⟩ : ∃ q, q = l.getD j 0 := ⟨_, rfl⟩
                have hlq : q2 < q := by rw [hq2, HQ.out]; exact HLR.out i j hlt2 (by omega)
                have HQ2 := Lib.hid hq2
                have HLQ := Lib.hid hlq
                have hpos' : (0 : Int) < (i : Int) := by omega
                clear hq2 hlq hj
                go_wp2_with fail
                refine WM.wp_region_kinds (fun _ x y => Only (fun b => b = g) x y ∧ (RH w g N V R x → RH w g N V R y)) (fun _ x => RH w g N V R x ∧ Row .i64 x (fun b => b ≠ g) (some ⟨b, o, none⟩) l) (fun x => RH w g N V R x ∧ Row .i64 x (fun b => b ≠ g) (some ⟨b, o, none⟩) l)
                  [(5, .val (.int .i64 (q : Int)) fun _ => True), (6, .val (.bool true) fun _ => True), (16, .val (.int .i64 (q2 : Int)) fun _ => True), (20, .val (.int .i64 (q : Int)) fun _ => True)]
                  (by kernel_rfl) (by kernel_rfl) (fun _ x y hb h => ⟨hb.2 h.1, h.2.kept hb.1 (fun _ h e => h e)⟩) (fun _ _ x y _ hb h => ⟨hb.2 h.1, h.2.kept hb.1 (fun _ h e => h e)⟩) ?_ HD0.out (fun _ => HD0.out) ?_
                · intro z hz
                  simp only [List.mem_cons, List.mem_nil_iff, or_false] at hz
                  rcases hz with rfl | rfl | rfl | rfl <;> exact fun _ _ _ _ _ _ => trivial
                refine WM.mono_pure rfl rfl ?_
                refine ⟨.pointer (some ⟨g, 0, none⟩), fun x => ?_, ?_⟩
                · rfl
                apply Exists.intro
                refine ⟨by simp only [Act.put, List.setIfInBounds_toArray, List.set_cons_succ, List.set_cons_zero]; rfl, ?_⟩
                refine WM.mono_pure rfl rfl ?_
                refine ⟨.int .i64 (m : Int), fun x => ?_, ?_⟩
                · rfl
                apply Exists.intro
                refine ⟨by simp only [Act.put, List.setIfInBounds_toArray, List.set_cons_succ, List.set_cons_zero]; rfl, ?_⟩
                refine WM.mono_pure rfl rfl ?_
                refine ⟨.slice (some ⟨b, o, none⟩) l.length l.length, fun x => ?_, ?_⟩
                · rfl
                apply Exists.intro
                refine ⟨by simp only [Act.put, List.setIfInBounds_toArray, List.set_cons_succ, List.set_cons_zero]; rfl, ?_⟩
                refine WM.mono_pure rfl rfl ?_
                refine ⟨.int .i64 (i : Int), fun x => ?_, ?_⟩
                · rfl
                apply Exists.intro
                refine ⟨by simp only [Act.put, List.setIfInBounds_toArray, List.set_cons_succ, List.set_cons_zero]; rfl, ?_⟩
                refine WM.mono_pure rfl rfl ?_
                refine ⟨.pointer (some ⟨b, o + i, none⟩), fun x => ?_, ?_⟩
                · go_simp
                apply Exists.intro
                refine ⟨by simp only [Act.put, List.setIfInBounds_toArray, List.set_cons_succ, List.set_cons_zero]; rfl, ?_⟩
                refine WM.mono_val rfl rfl (fun x hD hF => ?_) ?_
                · have hc := (hD.2.cell b o rfl i hlt2)
                  rw [← HQ.out] at hc
                  go_simp
                  exact ⟨⟨Only.refl _ _, id⟩, rfl⟩
                apply Exists.intro
                refine ⟨by simp only [Act.put, List.setIfInBounds_toArray, List.set_cons_succ, List.set_cons_zero]; rfl, ?_⟩
                refine WM.mono_val rfl rfl (fun x hD hF => ?_) ?_
                · go_simp
                  refine (HH.out x hD.1).mono ?_
                  rintro e y ⟨rfl, ho, hf⟩
                  exact ⟨_, rfl, ⟨ho, fun _ => hf⟩, rfl⟩
                apply Exists.intro
                refine ⟨by simp only [Act.put, List.setIfInBounds_toArray, List.set_cons_succ, List.set_cons_zero]; rfl, ?_⟩
                refine WM.mono_pure rfl rfl ?_
                refine ⟨.bool false, fun x => ?_, ?_⟩
                · go_simp
                apply Exists.intro
                refine ⟨by simp only [Act.put, List.setIfInBounds_toArray, List.set_cons_succ, List.set_cons_zero]; rfl, ?_⟩
                refine WM.mono_pure rfl rfl ?_
                refine ⟨.bool false, fun x => ?_, ?_⟩
                · rfl
                apply Exists.intro
                refine ⟨by simp only [Act.put, List.setIfInBounds_toArray, List.set_cons_succ, List.set_cons_zero]; rfl, ?_⟩
                refine WM.mono_pure rfl rfl ?_
                refine ⟨.int .i64 (i : Int), fun x => ?_, ?_⟩
                · rfl
                apply Exists.intro
                refine ⟨by simp only [Act.put, List.setIfInBounds_toArray, List.set_cons_succ, List.set_cons_zero]; rfl, ?_⟩
                refine WM.mono_pure rfl rfl ?_
                refine ⟨.bool true, fun x => ?_, ?_⟩
                · go_simp
                apply Exists.intro
                refine ⟨by simp only [Act.put, List.setIfInBounds_toArray, List.set_cons_succ, List.set_cons_zero]; rfl, ?_⟩
                refine WM.mono_pure rfl rfl ?_
                refine ⟨.bool true, fun x => ?_, ?_⟩
                · rfl
                apply Exists.intro
                refine ⟨by simp only [Act.put, List.setIfInBounds_toArray, List.set_cons_succ, List.set_cons_zero]; rfl, ?_⟩
                refine WM.mono_pure rfl rfl ?_
                refine ⟨.slice (some ⟨b, o, none⟩) l.length l.length, fun x => ?_, ?_⟩
                · rfl
                apply Exists.intro
                refine ⟨by simp only [Act.put, List.setIfInBounds_toArray, List.set_cons_succ, List.set_cons_zero]; rfl, ?_⟩
                refine WM.mono_pure rfl rfl ?_
                refine ⟨.int .i64 (i : Int), fun x => ?_, ?_⟩
                · rfl
                apply Exists.intro
                refine ⟨by simp only [Act.put, List.setIfInBounds_toArray, List.set_cons_succ, List.set_cons_zero]; rfl, ?_⟩
                refine WM.mono_pure rfl rfl ?_
                refine ⟨.int .i64 (j : Int), fun x => ?_, ?_⟩
                · go_simp
                apply Exists.intro
                refine ⟨by simp only [Act.put, List.setIfInBounds_toArray, List.set_cons_succ, List.set_cons_zero]; rfl, ?_⟩
                refine WM.mono_pure rfl rfl ?_
                refine ⟨.pointer (some ⟨b, o + j, none⟩), fun x => ?_, ?_⟩
                · go_simp
                apply Exists.intro
                refine ⟨by simp only [Act.put, List.setIfInBounds_toArray, List.set_cons_succ, List.set_cons_zero]; rfl, ?_⟩
                refine WM.mono_val rfl rfl (fun x hD hF => ?_) ?_
                · have hc := (hD.2.cell b o rfl j hjl)
                  rw [← HQ2.out] at hc
                  go_simp
                  exact ⟨⟨Only.refl _ _, id⟩, rfl⟩
                apply Exists.intro
                refine ⟨by simp only [Act.put, List.setIfInBounds_toArray, List.set_cons_succ, List.set_cons_zero]; rfl, ?_⟩
                refine WM.mono_pure rfl rfl ?_
                refine ⟨.slice (some ⟨b, o, none⟩) l.length l.length, fun x => ?_, ?_⟩
                · rfl
                apply Exists.intro
                refine ⟨by simp only [Act.put, List.setIfInBounds_toArray, List.set_cons_succ, List.set_cons_zero]; rfl, ?_⟩
                refine WM.mono_pure rfl rfl ?_
                refine ⟨.int .i64 (i : Int), fun x => ?_, ?_⟩
                · rfl
                apply Exists.intro
                refine ⟨by simp only [Act.put, List.setIfInBounds_toArray, List.set_cons_succ, List.set_cons_zero]; rfl, ?_⟩
                refine WM.mono_pure rfl rfl ?_
                refine ⟨.pointer (some ⟨b, o + i, none⟩), fun x => ?_, ?_⟩
                · go_simp
                apply Exists.intro
                refine ⟨by simp only [Act.put, List.setIfInBounds_toArray, List.set_cons_succ, List.set_cons_zero]; rfl, ?_⟩
                refine WM.mono_val rfl rfl (fun x hD hF => ?_) ?_
                · have hc := (hD.2.cell b o rfl i hlt2)
                  rw [← HQ.out] at hc
                  go_simp
                  exact ⟨⟨Only.refl _ _, id⟩, rfl⟩
                apply Exists.intro
                refine ⟨by simp only [Act.put, List.setIfInBounds_toArray, List.set_cons_succ, List.set_cons_zero]; rfl, ?_⟩
                refine WM.mono_pure rfl rfl ?_
                refine ⟨.bool false, fun x => ?_, ?_⟩
                · go_simp; exact HLQ.out
                apply Exists.intro
                refine ⟨by simp only [Act.put, List.setIfInBounds_toArray, List.set_cons_succ, List.set_cons_zero]; rfl, ?_⟩
                refine WM.mono_pure rfl rfl ?_
                refine ⟨.bool false, fun x => ?_, ?_⟩
                · go_simp
                apply Exists.intro
                refine ⟨by simp only [Act.put, List.setIfInBounds_toArray, List.set_cons_succ, List.set_cons_zero]; rfl, ?_⟩
                refine WM.mono_pure rfl rfl ?_
                refine ⟨.bool false, fun x => ?_, ?_⟩
                · go_simp
                apply Exists.intro
                refine ⟨by simp only [Act.put, List.setIfInBounds_toArray, List.set_cons_succ, List.set_cons_zero]; rfl, ?_⟩
                refine WM.mono_nil fun x hE hF => ?_
                have HEX := Lib.hid hE
                clear hE hF HD0 HH EJ
                go_wp2_with fail
                go_roundw
                all_goals clear EI EM
                case rel => exact ⟨i + 1, by omega, by go_num, HEX.out.2, HEX.out.1⟩
                case measure => simp [intOf]; omega
              · go_wp2_with fail
                refine WM.wp_region_kinds (fun _ x y => Only (fun b => b = g) x y ∧ (RH w g N V R x → RH w g N V R y)) (fun _ x => RH w g N V R x ∧ Row .i64 x (fun b => b ≠ g) (some ⟨b, o, none⟩) l) (fun x => RH w g N V R x ∧ Row .i64 x (fun b => b ≠ g) (some ⟨b, o, none⟩) l)
                  [(5, .val (.int .i64 (q : Int)) fun _ => True), (6, .val (.bool true) fun _ => True)]
                  (by kernel_rfl) (by kernel_rfl) (fun _ x y hb h => ⟨hb.2 h.1, h.2.kept hb.1 (fun _ h e => h e)⟩) (fun _ _ x y _ hb h => ⟨hb.2 h.1, h.2.kept hb.1 (fun _ h e => h e)⟩) ?_ HD0.out (fun _ => HD0.out) ?_
                · intro z hz
                  simp only [List.mem_cons, List.mem_nil_iff, or_false] at hz
                  rcases hz with rfl | rfl <;> exact fun _ _ _ _ _ _ => trivial
                refine WM.mono_pure rfl rfl ?_
                refine ⟨.pointer (some ⟨g, 0, none⟩), fun x => ?_, ?_⟩
                · rfl
                apply Exists.intro
                refine ⟨by simp only [Act.put, List.setIfInBounds_toArray, List.set_cons_succ, List.set_cons_zero]; rfl, ?_⟩
                refine WM.mono_pure rfl rfl ?_
                refine ⟨.int .i64 (m : Int), fun x => ?_, ?_⟩
                · rfl
                apply Exists.intro
                refine ⟨by simp only [Act.put, List.setIfInBounds_toArray, List.set_cons_succ, List.set_cons_zero]; rfl, ?_⟩
                refine WM.mono_pure rfl rfl ?_
                refine ⟨.slice (some ⟨b, o, none⟩) l.length l.length, fun x => ?_, ?_⟩
                · rfl
                apply Exists.intro
                refine ⟨by simp only [Act.put, List.setIfInBounds_toArray, List.set_cons_succ, List.set_cons_zero]; rfl, ?_⟩
                refine WM.mono_pure rfl rfl ?_
                refine ⟨.int .i64 (i : Int), fun x => ?_, ?_⟩
                · rfl
                apply Exists.intro
                refine ⟨by simp only [Act.put, List.setIfInBounds_toArray, List.set_cons_succ, List.set_cons_zero]; rfl, ?_⟩
                refine WM.mono_pure rfl rfl ?_
                refine ⟨.pointer (some ⟨b, o + i, none⟩), fun x => ?_, ?_⟩
                · go_simp
                apply Exists.intro
                refine ⟨by simp only [Act.put, List.setIfInBounds_toArray, List.set_cons_succ, List.set_cons_zero]; rfl, ?_⟩
                refine WM.mono_val rfl rfl (fun x hD hF => ?_) ?_
                · have hc := (hD.2.cell b o rfl i hlt2)
                  rw [← HQ.out] at hc
                  go_simp
                  exact ⟨⟨Only.refl _ _, id⟩, rfl⟩
                apply Exists.intro
                refine ⟨by simp only [Act.put, List.setIfInBounds_toArray, List.set_cons_succ, List.set_cons_zero]; rfl, ?_⟩
                refine WM.mono_val rfl rfl (fun x hD hF => ?_) ?_
                · go_simp
                  refine (HH.out x hD.1).mono ?_
                  rintro e y ⟨rfl, ho, hf⟩
                  exact ⟨_, rfl, ⟨ho, fun _ => hf⟩, rfl⟩
                apply Exists.intro
                refine ⟨by simp only [Act.put, List.setIfInBounds_toArray, List.set_cons_succ, List.set_cons_zero]; rfl, ?_⟩
                refine WM.mono_pure rfl rfl ?_
                refine ⟨.bool false, fun x => ?_, ?_⟩
                · go_simp
                apply Exists.intro
                refine ⟨by simp only [Act.put, List.setIfInBounds_toArray, List.set_cons_succ, List.set_cons_zero]; rfl, ?_⟩
                refine WM.mono_pure rfl rfl ?_
                refine ⟨.bool false, fun x => ?_, ?_⟩
                · rfl
                apply Exists.intro
                refine ⟨by simp only [Act.put, List.setIfInBounds_toArray, List.set_cons_succ, List.set_cons_zero]; rfl, ?_⟩
                refine WM.mono_pure rfl rfl ?_
                refine ⟨.int .i64 (i : Int), fun x => ?_, ?_⟩
                · rfl
                apply Exists.intro
                refine ⟨by simp only [Act.put, List.setIfInBounds_toArray, List.set_cons_succ, List.set_cons_zero]; rfl, ?_⟩
                refine WM.mono_pure rfl rfl ?_
                refine ⟨.bool false, fun x => ?_, ?_⟩
                · go_simp
                apply Exists.intro
                refine ⟨by simp only [Act.put, List.setIfInBounds_toArray, List.set_cons_succ, List.set_cons_zero]; rfl, ?_⟩
                refine WM.mono_pure rfl rfl ?_
                refine ⟨.bool false, fun x => ?_, ?_⟩
                · rfl
                apply Exists.intro
                refine ⟨by simp only [Act.put, List.setIfInBounds_toArray, List.set_cons_succ, List.set_cons_zero]; rfl, ?_⟩
                refine WM.mono_skip rfl ?_
                apply Exists.intro
                refine ⟨by simp only [Act.put, List.setIfInBounds_toArray, List.set_cons_succ, List.set_cons_zero]; rfl, ?_⟩
                refine WM.mono_skip rfl ?_
                apply Exists.intro
                refine ⟨by simp only [Act.put, List.setIfInBounds_toArray, List.set_cons_succ, List.set_cons_zero]; rfl, ?_⟩
                refine WM.mono_skip rfl ?_
                apply Exists.intro
                refine ⟨by simp only [Act.put, List.setIfInBounds_toArray, List.set_cons_succ, List.set_cons_zero]; rfl, ?_⟩
                refine WM.mono_skip rfl ?_
                apply Exists.intro
                refine ⟨by simp only [Act.put, List.setIfInBounds_toArray, List.set_cons_succ, List.set_cons_zero]; rfl, ?_⟩
                refine WM.mono_skip rfl ?_
                apply Exists.intro
                refine ⟨by simp only [Act.put, List.setIfInBounds_toArray, List.set_cons_succ, List.set_cons_zero]; rfl, ?_⟩
                refine WM.mono_skip rfl ?_
                apply Exists.intro
                refine ⟨by simp only [Act.put, List.setIfInBounds_toArray, List.set_cons_succ, List.set_cons_zero]; rfl, ?_⟩
                refine WM.mono_skip rfl ?_
                apply Exists.intro
                refine ⟨by simp only [Act.put, List.setIfInBounds_toArray, List.set_cons_succ, List.set_cons_zero]; rfl, ?_⟩
                refine WM.mono_skip rfl ?_
                apply Exists.intro
                refine ⟨by simp only [Act.put, List.setIfInBounds_toArray, List.set_cons_succ, List.set_cons_zero]; rfl, ?_⟩
                refine WM.mono_skip rfl ?_
                apply Exists.intro
                refine ⟨by simp only [Act.put, List.setIfInBounds_toArray, List.set_cons_succ, List.set_cons_zero]; rfl, ?_⟩
                refine WM.mono_skip rfl ?_
                apply Exists.intro
                refine ⟨by simp only [Act.put, List.setIfInBounds_toArray, List.set_cons_succ, List.set_cons_zero]; rfl, ?_⟩
                refine WM.mono_pure rfl rfl ?_
                refine ⟨.bool false, fun x => ?_, ?_⟩
                · go_simp
                apply Exists.intro
                refine ⟨by simp only [Act.put, List.setIfInBounds_toArray, List.set_cons_succ, List.set_cons_zero]; rfl, ?_⟩
                refine WM.mono_pure rfl rfl ?_
                refine ⟨.bool false, fun x => ?_, ?_⟩
                · go_simp
                apply Exists.intro
                refine ⟨by simp only [Act.put, List.setIfInBounds_toArray, List.set_cons_succ, List.set_cons_zero]; rfl, ?_⟩
                refine WM.mono_nil fun x hE hF => ?_
                have HEX := Lib.hid hE
                clear hE hF HD0 HH
                go_wp2_with fail
                go_roundw
                all_goals clear EI EM
                case rel => exact ⟨i + 1, by omega, by go_num, HEX.out.2, HEX.out.1⟩
                case measure => simp [intOf]; omega
            · obtain rfl : i = l.length := by omega
              have ES : IntKind.i64.wrap ((s : Int) + (l.length : Int)) = (s : Int) + (l.length : Int) := by have := HNX.out; have := HLL.out; exact IntWalk.i64_in _ (by omega)
              go_wp2_with fail
              go_roundw
              all_goals clear ES EM
              case rel => exact ⟨m + 1, s + l.length, by omega, by omega, by go_num, by go_num, HNX.out.1, HI2⟩
              case measure => simp [intOf]; omega
        · obtain rfl : m = N + 1 := by omega
          have HT8 : Hid (s = 8 * R) := Lib.hid (by rw [HSUM.out]; exact sumP_all (by have := HLIM.out; omega) HLIM.out.2.2.2.2.2)
          have EW : IntKind.i64.wrap (8 * (R : Int)) = 8 * (R : Int) := by have := HLIM.out; exact IntWalk.i64_in _ (by omega)
          have hlt' : ¬ ((N + 1 : Nat) : Int) ≤ (N : Int) := by omega
          have heq : ((s : Int) == 8 * (R : Int)) = true := by rw [beq_iff_eq]; have := HT8.out; omega
          have HAL := Lib.hid (ralive_any wr HI.out.tabs)
          clear HSUM hm1 hm2
          go_wp2_with fail
          refine HAL.out.mono ?_
          rintro e y9 ⟨rfl, hb⟩
          have HB9 := Lib.hid (HI.out.below.trans (hb.mono HI.out.below.size))
          have hc2 := RH.box2 (HI.out.soft (.of_below hb) H2.out)
          clear hb hc0
          go_wp2_with fail
          go_ret
          exact ⟨rfl, HB9.out⟩
end Go.Proofs.YthcnoblamilpgaaDoor
