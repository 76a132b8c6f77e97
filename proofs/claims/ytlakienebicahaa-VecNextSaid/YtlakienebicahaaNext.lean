/- The law VecNext of layer 3, walked. -/
import Derived.Test.YtlakienebicahaaA8
namespace Go.Proofs.Ytlakienebicahaa
open Go.RowKit

theorem then2 {w x y : World} (h : Below w.heap.size w x) (hb : Below x.heap.size x y) : Below w.heap.size w y := h.trans (hb.mono h.size)
theorem get_node (f : Nat → Nat) (i : Nat) (h : i < 8) : Vec.get f ((i : Int) + 1) = f i := by
  rw [Vec.get, if_pos (by omega), show ((i : Int) + 1 - 1).toNat = i by omega]
theorem right_node (i k : Nat) (h : i < 8) (hk : 1 ≤ k) : Vec.right ((i : Int) + 1) k = true := by
  simp only [Vec.right, decide_eq_true_eq]; omega
theorem with_at (f : Nat → Nat) (i k j : Nat) (h : i < 8) (hk : 1 ≤ k) : Vec.with_ f ((i : Int) + 1) k j = if j = i then max (f i) k else f j := by
  unfold Vec.with_
  by_cases e : j = i
  · subst e
    rw [if_pos ⟨right_node j k h hk, rfl⟩, if_pos rfl]
  · rw [if_neg (fun hh => e (by omega)), if_neg e]
/-- The input's block, the next dot's, the vector with it. -/
structure NInv (w : World) (d b : Nat) (f F : Nat → Nat) (n : Int) (k : Nat) (x : World) : Prop where
  a : x.rowIs w.heap.size 24 8 (fun i => .int .u64 ((f i : Nat) : Int))
  d : DotAt x d 26 n k
  b : x.rowIs b 24 8 (fun i => .int .u64 ((F i : Nat) : Int))
  below : Below w.heap.size w x
theorem NInv.then_ {w x y : World} {d b : Nat} {f F : Nat → Nat} {n : Int} {k : Nat} (hb : Below x.heap.size x y) (h : NInv w d b f F n k x) : NInv w d b f F n k y :=
  ⟨row_below h.a hb h.a.lt, h.d.below hb h.d.lt, row_below h.b hb h.b.lt, h.below.trans (hb.mono h.below.size)⟩
theorem NInv.drew {w x : World} {d b : Nat} {f F : Nat → Nat} {n : Int} {k : Nat} (I : NInv w d b f F n k x) : NInv w d b f F n k x.drew := ⟨I.a, I.d, I.b, ⟨I.below.os, I.below.tape, I.below.output, I.below.size, I.below.block⟩⟩

set_option maxRecDepth 100000 in
set_option maxHeartbeats 4000000 in
theorem law_next (f : Nat → Nat) (n : Int) (w : World) (hf : ∀ i, i < 8 → f i < 18446744073709551616) : Calls Try.prog 6 #[vecV f, .int .i64 n] w fun e w' => e = .returned (.bool true) ∧ Below w.heap.size w w' := by
  have s24 : ∀ {f : Nat → Nat}, Hid ((Try.prog.info? 24).map (·.size) = some (arrOf .u64 8 f).size) := fun {f} => by rw [arrOf_size]; exact size24
  have hl := Lib.hid (row24 (vec_row w f))
  by_cases hn : Vec.isNode n = true
  · have h1 : 1 ≤ n ∧ n ≤ 8 := by simpa [Vec.isNode] using hn
    obtain ⟨i0, hi0⟩ : ∃ i : Nat, n = (i : Int) + 1 := ⟨(n - 1).toNat, by omega⟩
    have hi8 : i0 < 8 := by omega
    have hG0 : Vec.get f n = f i0 := by rw [hi0]; exact get_node f i0 hi8
    have HF := Lib.hid hf
    have hlt := hf i0 hi8
    clear hf
    by_cases hm : f i0 = 18446744073709551615
    · have HN : Vec.next f n = (0, 0, 13) := by rw [Vec.next, if_pos hn, hG0, if_pos hm]
      have HX : Hid (Vec.get f n < 18446744073709551616) := by rw [hG0]; exact hlt
      have HM := Lib.hid hm
      have hNN := Lib.hid HN
      clear hG0 hlt hm HF HN
      subst hi0
      go_enter Try.func6, Try.ntmps6
      go_wp2_with (refine wpList_load_row rfl 24 _ rfl w.heap.size rfl 24 (arrOf .u64 8 f) (0, 0) _ hl.out Try.underlying24 rfl s24.out ?_)
      refine (next_any f _ _ HX.out).mono ?_
      rintro e w1 ⟨rfl, hb⟩
      rw [hNN.out]
      have HB1 := Lib.hid hb
      clear hb
      go_wp2_with fail
      refine (alive_any _).mono ?_
      rintro e w2 ⟨rfl, hb⟩
      have hx := Lib.hid (then2 (then2 HB1.out (below1 _ _)) hb)
      have hq : w2.cell? ⟨w.heap.size, i0, none⟩ = some (.int .u64 18446744073709551615) := by
        rw [(row_below (vec_row w f) hx.out (vec_row w f).lt).cell hi8, HM.out]; rfl
      have hd1 : w2.cell? ⟨w1.heap.size, 0, none⟩ = some (.int .i64 0) := ((DotAt.new w1 26 0 0).below hb (DotAt.new w1 26 0 0).lt).node
      have hd2 : w2.cell? ⟨w1.heap.size, 1, none⟩ = some (.int .u64 ((0 : Nat) : Int)) := ((DotAt.new w1 26 0 0).below hb (DotAt.new w1 26 0 0).lt).num
      have HB2 : Hid (Below w.heap.size w w2) := then2 (below1 w _) hx.out
      clear hb HB1 hx
      go_wp2_with fail
      go_ret
      exact ⟨rfl, HB2.out⟩
    · have HN : Vec.next f n = (n, f i0 + 1, 0) := by rw [Vec.next, if_pos hn, hG0, if_neg hm]
      have HX : Hid (Vec.get f n < 18446744073709551616) := by rw [hG0]; exact hlt
      obtain ⟨G, hG⟩ : ∃ G, G = f i0 := ⟨_, rfl⟩
      rw [← hG] at HN hG0 hm
      obtain ⟨F, hF⟩ : ∃ F, F = Vec.with_ f n (G + 1) := ⟨_, rfl⟩
      have hFj : ∀ j, F j = if j = i0 then G + 1 else f j := fun j => by
        rw [hF, hi0, with_at f i0 _ j hi8 (by omega)]
        by_cases e : j = i0
        · rw [if_pos e, if_pos e]; omega
        · rw [if_neg e, if_neg e]
      have hgF : Vec.get F n = G + 1 := by rw [hi0, get_node F i0 hi8, hFj, if_pos rfl]
      have hrt : Vec.right n (G + 1) = true := by rw [hi0]; exact right_node i0 _ hi8 (by omega)
      have H1 : Hid (Vec.has f n (G + 1) = false) := by
        show Vec.has f n (G + 1) = false
        rw [Vec.has, hrt, hG0]; simp
      have H2 : Hid (Vec.has F n (G + 1) = true) := by
        show Vec.has F n (G + 1) = true
        rw [Vec.has, hrt, hgF]; simp
      have H3 : Hid (Vec.order F f = 1) := by
        show Vec.order F f = 1
        rw [Vec.order, if_neg (fun h => by have := (Vec.same_iff F f).1 h i0 hi8; rw [hFj, if_pos rfl] at this; omega), if_pos]
        rw [Vec.covers_iff]
        intro j hj
        rw [hFj]
        by_cases e : j = i0
        · subst e; rw [if_pos rfl]; omega
        · rw [if_neg e]; exact Nat.le_refl _
      have H4 : Hid (Vec.get F n = G + 1) := hgF
      have H5 : Hid (Vec.get f n = G) := hG0
      have HFJ : Hid (∀ j : Nat, j < 8 → (j : Int) + 1 ≠ n → F j = f j) := fun j _ hne => by rw [hFj, if_neg (fun e => hne (by rw [e, hi0]))]
      have hNN := Lib.hid HN
      have hFF := Lib.hid hF
      have HGl : Hid (G < 18446744073709551615) := by show G < 18446744073709551615; omega
      have gw : IntKind.u64.wrap ((G : Int) + 1) = (G : Int) + 1 := by have := HGl.out; rw [IntKind.wrap_u64]; omega
      have gw' : ((G + 1 : Nat) : Int) = (G : Int) + 1 := by omega
      clear hG0 hlt hm HF HN hgF hrt hF hG hFj h1
      have GW := Lib.hid gw'
      have HI0 := Lib.hid hi0
      clear gw' hi0 hn
      go_enter Try.func6, Try.ntmps6
      go_wp2_with (refine wpList_load_row rfl 24 _ rfl w.heap.size rfl 24 (arrOf .u64 8 f) (0, 0) _ hl.out Try.underlying24 rfl s24.out ?_)
      refine (next_any f _ _ HX.out).mono ?_
      rintro e w1 ⟨rfl, hb⟩
      rw [hNN.out]
      have ha1 := Lib.hid (row_below (row_below (vec_row w f) hb (vec_row w f).lt) (below1 w1 (.cells #[.int .i64 n, .int .u64 ((G + 1 : Nat) : Int)] 26)) (row_below (vec_row w f) hb (vec_row w f).lt).lt)
      have hd1 : Hid (DotAt (w1.alloc (.cells #[.int .i64 n, .int .u64 ((G + 1 : Nat) : Int)] 26)) w1.heap.size 26 n (G + 1)) := DotAt.new w1 26 n (G + 1)
      have HB1 := Lib.hid (then2 (then2 (below1 w _) hb) (below1 w1 (.cells #[.int .i64 n, .int .u64 ((G + 1 : Nat) : Int)] 26)))
      have hr1 := Lib.hid (row24 ha1.out)
      rw [GW.out] at hd1 ha1 HB1 hr1
      clear hb hl
      have s26 : Hid ((Try.prog.info? 26).map (·.size) = some (#[.int .i64 n, .int .u64 ((G + 1 : Nat) : Int)] : Array Value).size) := size26
      have hd1' : Hid ((w1.alloc (.cells #[.int .i64 n, .int .u64 ((G : Int) + 1)] 26)).heap[w1.heap.size]? = some (.cells #[.int .i64 n, .int .u64 ((G + 1 : Nat) : Int)] 26 (0, 0))) := hd1.out
      go_wp2_with (first
        | (refine wpList_load_row rfl 24 _ rfl w.heap.size rfl 24 (arrOf .u64 8 f) (0, 0) _ hr1.out Try.underlying24 rfl s24.out ?_)
        | (refine wpList_load_row rfl 26 _ rfl w1.heap.size rfl 26 #[.int .i64 n, .int .u64 ((G + 1 : Nat) : Int)] (0, 0) _ hd1'.out Try.underlying26 rfl s26.out ?_))
      have hw := with_any f n (G + 1) (w1.alloc (.cells #[.int .i64 n, .int .u64 ((G : Int) + 1)] 26))
      unfold dotV at hw
      rw [GW.out, ← hFF.out] at hw
      refine hw.mono ?_
      clear hw
      rintro e w2 ⟨rfl, hb⟩
      have HI : Hid (NInv w w1.heap.size w2.heap.size f F n (G + 1) (w2.alloc (.cells (arrOf .u64 8 F) 24))) :=
        ⟨(row_below ha1.out hb ha1.out.lt).alloc _, (hd1.out.below hb hd1.out.lt).alloc _, vec_row w2 F, then2 (then2 HB1.out hb) (below1 _ _)⟩
      clear hb ha1 hd1 HB1 hr1 hd1'
      go_wp2_with (refine wpList_store_row rfl 24 _ _ rfl w2.heap.size (arrOf .u64 8 F) rfl rfl 24 _ (heap_alloc_new _ _) s24.out (by rw [arrOf_size]; rfl) (arrOf_one _ _ _) ?_; rw [World.setRow_alloc_new])
      generalize hw3 : w2.alloc (.cells (arrOf .u64 8 F) 24) = w3 at *
      generalize w2.heap.size = b at *
      generalize w1.heap.size = d at *
      clear hw3
      go_wp2_with fail
      go_loopw [8] (fun v wx => ∃ i : Nat, i ≤ 8 ∧ v = .int .i64 i ∧ Hid (NInv w d b f F n (G + 1) wx)) (fun v _ => 8 - (intOf v).toNat)
      case atStart => exact ⟨0, by omega, rfl, HI⟩
      case round =>
        clear HI
        obtain ⟨i, hi, rfl, HI⟩ := hrel
        by_cases hlt : i < 8
        · have c1 := HI.out.a.cell hlt
          have c2 := HI.out.b.cell hlt
          have wi : IntKind.i64.wrap ((i : Int) + 1) = (i : Int) + 1 := IntWalk.i64_in _ (by omega)
          by_cases hin : (i : Int) + 1 = n
          · have hq : ((i : Int) + 1 != n) = false := by simpa using hin
            clear hin
            go_wp2
            go_region
            go_wp2
            go_roundw
            case rel => exact ⟨i + 1, by omega, by go_num, HI.out.drew⟩
            case measure => simp [intOf]; omega
          · have hq : ((i : Int) + 1 != n) = true := by simpa using hin
            have hfi := HFJ.out i hlt hin
            rw [hfi] at c2
            clear hin hfi
            go_wp2
            go_region
            go_wp2
            go_roundw
            case rel => exact ⟨i + 1, by omega, by go_num, HI.out.drew⟩
            case measure => simp [intOf]; omega
        · obtain rfl : i = 8 := by omega
          clear hi hlt
          go_wp2_with fail
          refine M2.wp_region_kinds (fun _ x y => Below x.heap.size x y) (fun _ x => NInv w d b f F n (G + 1) x) (fun x => NInv w d b f F n (G + 1) x)
            [(0, .val (.bool true) fun _ => True), (2, .val (vecV f) fun _ => True), (3, .val (dotV n (G + 1)) fun _ => True), (4, .val (.bool false) fun _ => True), (8, .val (vecV F) fun _ => True), (9, .val (dotV n (G + 1)) fun _ => True), (10, .val (.bool true) fun _ => True), (13, .val (vecV F) fun _ => True), (14, .val (vecV f) fun _ => True), (15, .val (.int .i64 1) fun _ => True), (19, .val (vecV F) fun _ => True), (21, .val (.int .u64 ((G + 1 : Nat) : Int)) fun _ => True), (22, .val (vecV f) fun _ => True), (24, .val (.int .u64 ((G : Nat) : Int)) fun _ => True)] (by kernel_rfl) (by kernel_rfl) (fun _ _ _ hb h => NInv.then_ hb h) (fun _ _ _ _ _ hb h => NInv.then_ hb h) ?_ HI.out.drew (fun _ => HI.out.drew) ?_
          · intro z hz
            simp only [List.mem_cons, List.mem_nil_iff, or_false] at hz
            rcases hz with rfl | rfl | rfl | rfl | rfl | rfl | rfl | rfl | rfl | rfl | rfl | rfl | rfl | rfl <;> exact fun _ _ _ _ _ _ => trivial
          refine M2.mono_val rfl rfl (fun x hD hF => ?_) ?_
          · go_simp
            refine (alive_any x).mono ?_
            rintro e y ⟨rfl, hg⟩
            exact ⟨_, rfl, hg, rfl⟩
          apply Exists.intro
          refine ⟨by simp only [Act.put, List.setIfInBounds_toArray, List.set_cons_succ, List.set_cons_zero]; rfl, ?_⟩
          iterate 1
            refine M2.mono_pure rfl rfl ?_
            apply Exists.intro
            refine ⟨fun x => ?_, ?_⟩
            · go_simp
              rfl
            apply Exists.intro
            refine ⟨by simp only [Act.put, List.setIfInBounds_toArray, List.set_cons_succ, List.set_cons_zero]; rfl, ?_⟩
          refine M2.mono_val rfl rfl (fun x hD hF => ?_) ?_
          · have hl := run_loadVar_arr (P := Try.prog) x w.heap.size 0 24 (arrOf .u64 8 f) _ (row_range hD.a) Try.underlying24 rfl (by rw [arrOf_size]; exact size24)
            rw [exec_load 24 (.tmp 2) rfl w.heap.size 0 rfl hl]
            exact ⟨Below.refl _ _, rfl, trivial⟩
          apply Exists.intro
          refine ⟨by simp only [Act.put, List.setIfInBounds_toArray, List.set_cons_succ, List.set_cons_zero]; rfl, ?_⟩
          refine M2.mono_val rfl rfl (fun x hD hF => ?_) ?_
          · have hl := run_loadVar_arr (P := Try.prog) x d 0 26 #[.int .i64 n, .int .u64 ((G + 1 : Nat) : Int)] _ hD.d.range Try.underlying26 rfl size26
            rw [exec_load 26 (.tmp 5) rfl d 0 rfl hl]
            exact ⟨Below.refl _ _, rfl, trivial⟩
          apply Exists.intro
          refine ⟨by simp only [Act.put, List.setIfInBounds_toArray, List.set_cons_succ, List.set_cons_zero]; rfl, ?_⟩
          refine M2.mono_val rfl rfl (fun x hD hF => ?_) ?_
          · go_simp
            refine (has_any f n (G + 1) x).mono ?_
            rintro e y ⟨rfl, hg⟩
            exact ⟨_, rfl, hg, by rw [H1.out]⟩
          apply Exists.intro
          refine ⟨by simp only [Act.put, List.setIfInBounds_toArray, List.set_cons_succ, List.set_cons_zero]; rfl, ?_⟩
          iterate 3
            refine M2.mono_pure rfl rfl ?_
            apply Exists.intro
            refine ⟨fun x => ?_, ?_⟩
            · go_simp
              rfl
            apply Exists.intro
            refine ⟨by simp only [Act.put, List.setIfInBounds_toArray, List.set_cons_succ, List.set_cons_zero]; rfl, ?_⟩
          refine M2.mono_val rfl rfl (fun x hD hF => ?_) ?_
          · have hl := run_loadVar_arr (P := Try.prog) x b 0 24 (arrOf .u64 8 F) _ (row_range hD.b) Try.underlying24 rfl (by rw [arrOf_size]; exact size24)
            rw [exec_load 24 (.tmp 7) rfl b 0 rfl hl]
            exact ⟨Below.refl _ _, rfl, trivial⟩
          apply Exists.intro
          refine ⟨by simp only [Act.put, List.setIfInBounds_toArray, List.set_cons_succ, List.set_cons_zero]; rfl, ?_⟩
          refine M2.mono_val rfl rfl (fun x hD hF => ?_) ?_
          · have hl := run_loadVar_arr (P := Try.prog) x d 0 26 #[.int .i64 n, .int .u64 ((G + 1 : Nat) : Int)] _ hD.d.range Try.underlying26 rfl size26
            rw [exec_load 26 (.tmp 5) rfl d 0 rfl hl]
            exact ⟨Below.refl _ _, rfl, trivial⟩
          apply Exists.intro
          refine ⟨by simp only [Act.put, List.setIfInBounds_toArray, List.set_cons_succ, List.set_cons_zero]; rfl, ?_⟩
          refine M2.mono_val rfl rfl (fun x hD hF => ?_) ?_
          · go_simp
            refine (has_any F n (G + 1) x).mono ?_
            rintro e y ⟨rfl, hg⟩
            exact ⟨_, rfl, hg, by rw [H2.out]⟩
          apply Exists.intro
          refine ⟨by simp only [Act.put, List.setIfInBounds_toArray, List.set_cons_succ, List.set_cons_zero]; rfl, ?_⟩
          iterate 2
            refine M2.mono_pure rfl rfl ?_
            apply Exists.intro
            refine ⟨fun x => ?_, ?_⟩
            · go_simp
              rfl
            apply Exists.intro
            refine ⟨by simp only [Act.put, List.setIfInBounds_toArray, List.set_cons_succ, List.set_cons_zero]; rfl, ?_⟩
          refine M2.mono_val rfl rfl (fun x hD hF => ?_) ?_
          · have hl := run_loadVar_arr (P := Try.prog) x b 0 24 (arrOf .u64 8 F) _ (row_range hD.b) Try.underlying24 rfl (by rw [arrOf_size]; exact size24)
            rw [exec_load 24 (.tmp 7) rfl b 0 rfl hl]
            exact ⟨Below.refl _ _, rfl, trivial⟩
          apply Exists.intro
          refine ⟨by simp only [Act.put, List.setIfInBounds_toArray, List.set_cons_succ, List.set_cons_zero]; rfl, ?_⟩
          refine M2.mono_val rfl rfl (fun x hD hF => ?_) ?_
          · have hl := run_loadVar_arr (P := Try.prog) x w.heap.size 0 24 (arrOf .u64 8 f) _ (row_range hD.a) Try.underlying24 rfl (by rw [arrOf_size]; exact size24)
            rw [exec_load 24 (.tmp 2) rfl w.heap.size 0 rfl hl]
            exact ⟨Below.refl _ _, rfl, trivial⟩
          apply Exists.intro
          refine ⟨by simp only [Act.put, List.setIfInBounds_toArray, List.set_cons_succ, List.set_cons_zero]; rfl, ?_⟩
          refine M2.mono_val rfl rfl (fun x hD hF => ?_) ?_
          · go_simp
            refine (order_any F f x).mono ?_
            rintro e y ⟨rfl, hg⟩
            exact ⟨_, rfl, hg, by rw [H3.out]⟩
          apply Exists.intro
          refine ⟨by simp only [Act.put, List.setIfInBounds_toArray, List.set_cons_succ, List.set_cons_zero]; rfl, ?_⟩
          iterate 3
            refine M2.mono_pure rfl rfl ?_
            apply Exists.intro
            refine ⟨fun x => ?_, ?_⟩
            · go_simp
              rfl
            apply Exists.intro
            refine ⟨by simp only [Act.put, List.setIfInBounds_toArray, List.set_cons_succ, List.set_cons_zero]; rfl, ?_⟩
          refine M2.mono_val rfl rfl (fun x hD hF => ?_) ?_
          · have hl := run_loadVar_arr (P := Try.prog) x b 0 24 (arrOf .u64 8 F) _ (row_range hD.b) Try.underlying24 rfl (by rw [arrOf_size]; exact size24)
            rw [exec_load 24 (.tmp 7) rfl b 0 rfl hl]
            exact ⟨Below.refl _ _, rfl, trivial⟩
          apply Exists.intro
          refine ⟨by simp only [Act.put, List.setIfInBounds_toArray, List.set_cons_succ, List.set_cons_zero]; rfl, ?_⟩
          iterate 1
            refine M2.mono_pure rfl rfl ?_
            apply Exists.intro
            refine ⟨fun x => ?_, ?_⟩
            · go_simp
              rfl
            apply Exists.intro
            refine ⟨by simp only [Act.put, List.setIfInBounds_toArray, List.set_cons_succ, List.set_cons_zero]; rfl, ?_⟩
          refine M2.mono_val rfl rfl (fun x hD hF => ?_) ?_
          · go_simp
            refine (get_any F n x).mono ?_
            rintro e y ⟨rfl, hg⟩
            exact ⟨_, rfl, hg, by rw [H4.out, GW.out]⟩
          apply Exists.intro
          refine ⟨by simp only [Act.put, List.setIfInBounds_toArray, List.set_cons_succ, List.set_cons_zero]; rfl, ?_⟩
          refine M2.mono_val rfl rfl (fun x hD hF => ?_) ?_
          · have hl := run_loadVar_arr (P := Try.prog) x w.heap.size 0 24 (arrOf .u64 8 f) _ (row_range hD.a) Try.underlying24 rfl (by rw [arrOf_size]; exact size24)
            rw [exec_load 24 (.tmp 2) rfl w.heap.size 0 rfl hl]
            exact ⟨Below.refl _ _, rfl, trivial⟩
          apply Exists.intro
          refine ⟨by simp only [Act.put, List.setIfInBounds_toArray, List.set_cons_succ, List.set_cons_zero]; rfl, ?_⟩
          iterate 1
            refine M2.mono_pure rfl rfl ?_
            apply Exists.intro
            refine ⟨fun x => ?_, ?_⟩
            · go_simp
              rfl
            apply Exists.intro
            refine ⟨by simp only [Act.put, List.setIfInBounds_toArray, List.set_cons_succ, List.set_cons_zero]; rfl, ?_⟩
          refine M2.mono_val rfl rfl (fun x hD hF => ?_) ?_
          · go_simp
            refine (get_any f n x).mono ?_
            rintro e y ⟨rfl, hg⟩
            exact ⟨_, rfl, hg, by rw [H5.out]⟩
          apply Exists.intro
          refine ⟨by simp only [Act.put, List.setIfInBounds_toArray, List.set_cons_succ, List.set_cons_zero]; rfl, ?_⟩
          iterate 4
            refine M2.mono_pure rfl rfl ?_
            apply Exists.intro
            refine ⟨fun x => ?_, ?_⟩
            · go_simp
              rfl
            apply Exists.intro
            refine ⟨by simp only [Act.put, List.setIfInBounds_toArray, List.set_cons_succ, List.set_cons_zero]; rfl, ?_⟩
          refine M2.mono_nil ?_
          intro w4 hD hF
          have HB := Lib.hid hD.below
          clear hD hF
          go_simp
          go_wp2_with fail
          go_ret
          exact ⟨rfl, HB.out⟩
  · have HN : Vec.next f n = (0, 0, 11) := by rw [Vec.next, if_neg hn]
    have hNN := Lib.hid HN
    have HX : Hid (Vec.get f n < 18446744073709551616) := by
      show Vec.get f n < 18446744073709551616
      rw [Vec.get, if_neg (by simpa [Vec.isNode] using hn)]
      omega
    clear hn HN hf
    go_enter Try.func6, Try.ntmps6
    go_wp2_with (refine wpList_load_row rfl 24 _ rfl w.heap.size rfl 24 (arrOf .u64 8 f) (0, 0) _ hl.out Try.underlying24 rfl s24.out ?_)
    refine (next_any f _ _ HX.out).mono ?_
    rintro e w1 ⟨rfl, hb⟩
    rw [hNN.out]
    have HB1 := Lib.hid hb
    clear hb
    go_wp2_with fail
    refine (alive_any _).mono ?_
    rintro e w2 ⟨rfl, hb⟩
    have hd1 : w2.cell? ⟨w1.heap.size, 0, none⟩ = some (.int .i64 0) := ((DotAt.new w1 26 0 0).below hb (DotAt.new w1 26 0 0).lt).node
    have hd2 : w2.cell? ⟨w1.heap.size, 1, none⟩ = some (.int .u64 ((0 : Nat) : Int)) := ((DotAt.new w1 26 0 0).below hb (DotAt.new w1 26 0 0).lt).num
    have HB2 : Hid (Below w.heap.size w w2) := then2 (below1 w _) (then2 (then2 HB1.out (below1 _ _)) hb)
    clear hb HB1
    go_wp2_with fail
    go_ret
    exact ⟨rfl, HB2.out⟩
end Go.Proofs.Ytlakienebicahaa
