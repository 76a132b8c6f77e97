/- The reference's With. -/
import Derived.Test.YtnpacjdgbmldlaaV6
namespace Go.Proofs.Ytnpacjdgbmldlaa
open Go.RowKit
theorem lit_size (f : Nat → Nat) : (#[.int .u64 0, .int .u64 0, .int .u64 0, .int .u64 0, .int .u64 0, .int .u64 0, .int .u64 0, .int .u64 0] : Array Value).size = (arrOf .u64 8 f).size := by rw [arrOf_size]; rfl
theorem size3 (w : World) (o1 o2 o3 : Obj) : (((w.alloc o1).alloc o2).alloc o3).heap.size = w.heap.size + 1 + 1 + 1 := by simp
theorem new3 (w : World) (o1 o2 o3 o4 : Obj) : ((((w.alloc o1).alloc o2).alloc o3).alloc o4).heap[w.heap.size + 1 + 1 + 1]? = some o4 := by
  rw [← size3 w o1 o2 o3]; exact heap_alloc_new _ _
theorem set3 (w : World) (o1 o2 o3 : Obj) (c c' : Array Value) (t : TypeId) : ((((w.alloc o1).alloc o2).alloc o3).alloc (.cells c t)).setRow (w.heap.size + 1 + 1 + 1) c' = (((w.alloc o1).alloc o2).alloc o3).alloc (.cells c' t) := by
  rw [← size3 w o1 o2 o3]; exact World.setRow_alloc_new _ _ _ _


/-- A boxed vector, a boxed dot, a result of noughts, and out. -/
structure XInv (w : World) (f : Nat → Nat) (n : Int) (k : Nat) (h : Nat → Nat) (wr : World) : Prop where
  a : wr.rowIs w.heap.size 27 8 (fun i => .int .u64 ((f i : Nat) : Int))
  d : DotAt wr (w.heap.size + 1) 35 n k
  zero : wr.rowIs (w.heap.size + 1 + 1) 27 8 (fun _ => .int .u64 0)
  out_ : wr.rowIs (w.heap.size + 1 + 1 + 1) 27 8 (fun i => .int .u64 ((h i : Nat) : Int))
  below : Below w.heap.size w wr
theorem XInv.start (w : World) (f : Nat → Nat) (n : Int) (k : Nat) : XInv w f n k f ((((w.alloc (.cells (arrOf .u64 8 f) 27)).alloc (.cells #[.int .i64 n, .int .u64 (k : Int)] 35)).alloc (.cells #[.int .u64 0, .int .u64 0, .int .u64 0, .int .u64 0, .int .u64 0, .int .u64 0, .int .u64 0, .int .u64 0] 27)).alloc (.cells (arrOf .u64 8 f) 27)) := by
  have h := WInv.start w 35 f n k
  refine ⟨h.a.alloc _, h.d.alloc _, h.zero.alloc _, ?_, h.below.alloc h.below.size _⟩
  simpa using vec_row (((w.alloc (.cells (arrOf .u64 8 f) 27)).alloc (.cells #[.int .i64 n, .int .u64 (k : Int)] 35)).alloc (.cells #[.int .u64 0, .int .u64 0, .int .u64 0, .int .u64 0, .int .u64 0, .int .u64 0, .int .u64 0, .int .u64 0] 27)) f
theorem XInv.congr {w wr : World} {f h h' : Nat → Nat} {n : Int} {k : Nat} (I : XInv w f n k h wr) (e : ∀ i, i < 8 → h i = h' i) : XInv w f n k h' wr := ⟨I.a, I.d, I.zero, I.out_.congr fun i hi => by rw [e i hi], I.below⟩
theorem XInv.then_ {w w1 w2 : World} {f h : Nat → Nat} {n : Int} {k : Nat} (hb : Below w1.heap.size w1 w2) (I : XInv w f n k h w1) : XInv w f n k h w2 :=
  ⟨row_below I.a hb I.a.lt, I.d.below hb I.d.lt, row_below I.zero hb I.zero.lt, row_below I.out_ hb I.out_.lt, I.below.trans (hb.mono I.below.size)⟩
theorem XInv.drew {w wr : World} {f h : Nat → Nat} {n : Int} {k : Nat} (I : XInv w f n k h wr) : XInv w f n k h wr.drew := ⟨I.a, I.d, I.zero, I.out_, ⟨I.below.os, I.below.tape, I.below.output, I.below.size, I.below.block⟩⟩
theorem XInv.step {w wr : World} {f p q : Nat → Nat} {n : Int} {k i : Nat} (I : XInv w f n k (midOf p q i) wr) {x : Int} (hx : x = ((p i : Nat) : Int)) :
    XInv w f n k (midOf p q (i + 1)) (wr.setCell ⟨w.heap.size + 1 + 1 + 1, i, none⟩ (.int .u64 x)) := by
  subst hx
  refine ⟨I.a.setOther (by simp; omega) _, I.d.keep (Below.heap_setCell _ _ _ _ (by simp)), I.zero.setOther (by simp) _, (I.out_.set i _).congr fun j hj => ?_, I.below.setCell (by simp; omega) _⟩
  by_cases e : j = i
  · subst e
    simp [midOf]
  · rw [if_neg e, midOf_next (fun h => absurd h e)]

set_option maxRecDepth 100000 in
set_option maxHeartbeats 2000000 in
theorem withR_any (f : Nat → Nat) (n : Int) (k : Nat) (w : World) : Calls Try.prog 73 #[vecV f, dotV n k] w fun e w' => e = .returned (vecV (Vec.with_ f n k)) ∧ Below w.heap.size w w' := by
  have HI0 := Lib.hid (XInv.start w f n k)
  have s27 : ∀ {f : Nat → Nat}, Hid ((Try.prog.info? 27).map (·.size) = some (arrOf .u64 8 f).size) := fun {f} => by rw [arrOf_size]; exact size27
  have ss : ∀ {f g : Nat → Nat}, Hid ((arrOf .u64 8 f).size = (arrOf .u64 8 g).size) := fun {f g} => by rw [arrOf_size, arrOf_size]; exact rfl
  have hN := Lib.hid (new3 w (.cells (arrOf .u64 8 f) 27) (.cells #[.int .i64 n, .int .u64 (k : Int)] 35) (.cells #[.int .u64 0, .int .u64 0, .int .u64 0, .int .u64 0, .int .u64 0, .int .u64 0, .int .u64 0, .int .u64 0] 27) (.cells #[.int .u64 0, .int .u64 0, .int .u64 0, .int .u64 0, .int .u64 0, .int .u64 0, .int .u64 0, .int .u64 0] 27))
  have hZs := Lib.hid (lit_size f)
  have hL := Lib.hid (row27 (WInv.start w 35 f n k).a)
  go_enter Try.func73, Try.ntmps73
  go_wp2_with (first
    | (refine wpList_load_row rfl 27 _ rfl w.heap.size rfl 27 (arrOf .u64 8 f) (0, 0) _ hL.out Try.underlying27 rfl s27.out ?_)
    | (refine wpList_store_row rfl 27 _ _ rfl (w.heap.size + 1 + 1 + 1) (arrOf .u64 8 f) rfl rfl 27 _ hN.out s27.out hZs.out (arrOf_one _ _ _) ?_; rw [set3]))
  generalize ((((w.alloc (.cells (arrOf .u64 8 f) 27)).alloc (.cells #[.int .i64 n, .int .u64 (k : Int)] 35)).alloc (.cells #[.int .u64 0, .int .u64 0, .int .u64 0, .int .u64 0, .int .u64 0, .int .u64 0, .int .u64 0, .int .u64 0] 27)).alloc (.cells (arrOf .u64 8 f) 27)) = w1 at *
  clear hN hZs hL
  go_loopw [6] (fun v wx => ∃ i : Nat, i ≤ 8 ∧ v = .int .i64 i ∧ Hid (XInv w f n k (midOf (Vec.with_ f n k) f i) wx)) (fun v _ => 8 - (intOf v).toNat)
  case atStart => exact ⟨0, by omega, rfl, HI0.out.congr fun i _ => by simp [midOf]⟩
  case round =>
    clear HI0
    obtain ⟨i, hi, rfl, HI⟩ := hrel
    by_cases hlt : i < 8
    · have wi : IntKind.i64.wrap ((i : Int) + 1) = (i : Int) + 1 := IntWalk.i64_in _ (by omega)
      by_cases hr0 : Vec.right n k = true
      · have hr := Lib.hid hr0
        by_cases hn : (i : Int) + 1 = n
        · subst hn
          by_cases hk : f i < k
          · have hkk : (f i : Int) < (k : Int) := by omega
            go_wp2_with fail
            refine M2.wp_region_kinds (fun _ x y => Below x.heap.size x y) (fun _ x => XInv w f (i + 1) k (midOf (Vec.with_ f (i + 1) k) f i) x) (fun x => XInv w f (i + 1) k (midOf (Vec.with_ f (i + 1) k) f i) x)
              [(0, .val (dotV (i + 1) k) fun _ => True), (1, .val (.bool true) fun _ => True), (6, .val (.int .i64 (i + 1)) fun _ => True), (11, .val (.int .u64 (k : Int)) fun _ => True), (14, .val (.int .u64 ((f i : Nat) : Int)) fun _ => True)] (by kernel_rfl) (by kernel_rfl) (fun _ _ _ hb h => XInv.then_ hb h) (fun _ _ _ _ _ hb h => XInv.then_ hb h) ?_ HI.out.drew (fun _ => HI.out.drew) ?_
            · intro z hz
              simp only [List.mem_cons, List.mem_nil_iff, or_false] at hz
              rcases hz with rfl | rfl | rfl | rfl | rfl <;> exact fun _ _ _ _ _ _ => trivial
            refine M2.mono_val rfl rfl (fun x hD hF => ?_) ?_
            · have hl := run_loadVar_arr (P := Try.prog) x (w.heap.size + 1) 0 35 #[.int .i64 (i + 1), .int .u64 (k : Int)] _ hD.d.range Try.underlying35 rfl size35
              rw [exec_load 35 (.tmp 3) rfl (w.heap.size + 1) 0 rfl hl]
              exact ⟨Below.refl _ _, rfl, trivial⟩
            apply Exists.intro
            refine ⟨by simp only [Act.put, List.setIfInBounds_toArray, List.set_cons_succ, List.set_cons_zero]; rfl, ?_⟩
            refine M2.mono_val rfl rfl (fun x hD hF => ?_) ?_
            · go_simp
              refine (rightR_any _ k x).mono ?_
              rintro e y ⟨rfl, hg⟩
              exact ⟨_, rfl, hg, by rw [hr.out]⟩
            apply Exists.intro
            refine ⟨by simp only [Act.put, List.setIfInBounds_toArray, List.set_cons_succ, List.set_cons_zero]; rfl, ?_⟩
            iterate 4
              refine M2.mono_pure rfl rfl ?_
              apply Exists.intro
              refine ⟨fun x => ?_, ?_⟩
              · go_simp
                rfl
              apply Exists.intro
              refine ⟨by simp only [Act.put, List.setIfInBounds_toArray, List.set_cons_succ, List.set_cons_zero]; rfl, ?_⟩
            refine M2.mono_val rfl rfl (fun x hD hF => ?_) ?_
            · have hc := hD.d.node
              go_simp
              exact ⟨Below.refl _ _, rfl⟩
            apply Exists.intro
            refine ⟨by simp only [Act.put, List.setIfInBounds_toArray, List.set_cons_succ, List.set_cons_zero]; rfl, ?_⟩
            iterate 4
              refine M2.mono_pure rfl rfl ?_
              apply Exists.intro
              refine ⟨fun x => ?_, ?_⟩
              · go_simp
                rfl
              apply Exists.intro
              refine ⟨by simp only [Act.put, List.setIfInBounds_toArray, List.set_cons_succ, List.set_cons_zero]; rfl, ?_⟩
            refine M2.mono_val rfl rfl (fun x hD hF => ?_) ?_
            · have hc := hD.d.num
              go_simp
              exact ⟨Below.refl _ _, rfl⟩
            apply Exists.intro
            refine ⟨by simp only [Act.put, List.setIfInBounds_toArray, List.set_cons_succ, List.set_cons_zero]; rfl, ?_⟩
            iterate 2
              refine M2.mono_pure rfl rfl ?_
              apply Exists.intro
              refine ⟨fun x => ?_, ?_⟩
              · go_simp
                rfl
              apply Exists.intro
              refine ⟨by simp only [Act.put, List.setIfInBounds_toArray, List.set_cons_succ, List.set_cons_zero]; rfl, ?_⟩
            refine M2.mono_val rfl rfl (fun x hD hF => ?_) ?_
            · have hc := hD.a.cell hlt
              go_simp
              exact ⟨Below.refl _ _, rfl⟩
            apply Exists.intro
            refine ⟨by simp only [Act.put, List.setIfInBounds_toArray, List.set_cons_succ, List.set_cons_zero]; rfl, ?_⟩
            iterate 2
              refine M2.mono_pure rfl rfl ?_
              apply Exists.intro
              refine ⟨fun x => ?_, ?_⟩
              · go_simp
                rfl
              apply Exists.intro
              refine ⟨by simp only [Act.put, List.setIfInBounds_toArray, List.set_cons_succ, List.set_cons_zero]; rfl, ?_⟩
            refine M2.mono_nil ?_
            intro w3 hD hF
            have HI3 := Lib.hid hD
            clear hD hF HI
            go_simp
            have c1 := HI3.out.d.num
            have c2 := HI3.out.out_.cell hlt
            have f1 := HI3.out.out_.frozen i
            go_wp2_with fail
            go_roundw
            case rel => exact ⟨i + 1, by omega, by go_num, HI3.out.step (by rw [Vec.with_, if_pos ⟨hr0, rfl⟩]; omega)⟩
            case measure => simp [intOf]; omega
          · have hkk : ¬ (f i : Int) < (k : Int) := by omega
            go_wp2_with fail
            refine M2.wp_region_kinds (fun _ x y => Below x.heap.size x y) (fun _ x => XInv w f (i + 1) k (midOf (Vec.with_ f (i + 1) k) f i) x) (fun x => XInv w f (i + 1) k (midOf (Vec.with_ f (i + 1) k) f i) x)
              [(0, .val (dotV (i + 1) k) fun _ => True), (1, .val (.bool true) fun _ => True), (6, .val (.int .i64 (i + 1)) fun _ => True), (11, .val (.int .u64 (k : Int)) fun _ => True), (14, .val (.int .u64 ((f i : Nat) : Int)) fun _ => True)] (by kernel_rfl) (by kernel_rfl) (fun _ _ _ hb h => XInv.then_ hb h) (fun _ _ _ _ _ hb h => XInv.then_ hb h) ?_ HI.out.drew (fun _ => HI.out.drew) ?_
            · intro z hz
              simp only [List.mem_cons, List.mem_nil_iff, or_false] at hz
              rcases hz with rfl | rfl | rfl | rfl | rfl <;> exact fun _ _ _ _ _ _ => trivial
            refine M2.mono_val rfl rfl (fun x hD hF => ?_) ?_
            · have hl := run_loadVar_arr (P := Try.prog) x (w.heap.size + 1) 0 35 #[.int .i64 (i + 1), .int .u64 (k : Int)] _ hD.d.range Try.underlying35 rfl size35
              rw [exec_load 35 (.tmp 3) rfl (w.heap.size + 1) 0 rfl hl]
              exact ⟨Below.refl _ _, rfl, trivial⟩
            apply Exists.intro
            refine ⟨by simp only [Act.put, List.setIfInBounds_toArray, List.set_cons_succ, List.set_cons_zero]; rfl, ?_⟩
            refine M2.mono_val rfl rfl (fun x hD hF => ?_) ?_
            · go_simp
              refine (rightR_any _ k x).mono ?_
              rintro e y ⟨rfl, hg⟩
              exact ⟨_, rfl, hg, by rw [hr.out]⟩
            apply Exists.intro
            refine ⟨by simp only [Act.put, List.setIfInBounds_toArray, List.set_cons_succ, List.set_cons_zero]; rfl, ?_⟩
            iterate 4
              refine M2.mono_pure rfl rfl ?_
              apply Exists.intro
              refine ⟨fun x => ?_, ?_⟩
              · go_simp
                rfl
              apply Exists.intro
              refine ⟨by simp only [Act.put, List.setIfInBounds_toArray, List.set_cons_succ, List.set_cons_zero]; rfl, ?_⟩
            refine M2.mono_val rfl rfl (fun x hD hF => ?_) ?_
            · have hc := hD.d.node
              go_simp
              exact ⟨Below.refl _ _, rfl⟩
            apply Exists.intro
            refine ⟨by simp only [Act.put, List.setIfInBounds_toArray, List.set_cons_succ, List.set_cons_zero]; rfl, ?_⟩
            iterate 4
              refine M2.mono_pure rfl rfl ?_
              apply Exists.intro
              refine ⟨fun x => ?_, ?_⟩
              · go_simp
                rfl
              apply Exists.intro
              refine ⟨by simp only [Act.put, List.setIfInBounds_toArray, List.set_cons_succ, List.set_cons_zero]; rfl, ?_⟩
            refine M2.mono_val rfl rfl (fun x hD hF => ?_) ?_
            · have hc := hD.d.num
              go_simp
              exact ⟨Below.refl _ _, rfl⟩
            apply Exists.intro
            refine ⟨by simp only [Act.put, List.setIfInBounds_toArray, List.set_cons_succ, List.set_cons_zero]; rfl, ?_⟩
            iterate 2
              refine M2.mono_pure rfl rfl ?_
              apply Exists.intro
              refine ⟨fun x => ?_, ?_⟩
              · go_simp
                rfl
              apply Exists.intro
              refine ⟨by simp only [Act.put, List.setIfInBounds_toArray, List.set_cons_succ, List.set_cons_zero]; rfl, ?_⟩
            refine M2.mono_val rfl rfl (fun x hD hF => ?_) ?_
            · have hc := hD.a.cell hlt
              go_simp
              exact ⟨Below.refl _ _, rfl⟩
            apply Exists.intro
            refine ⟨by simp only [Act.put, List.setIfInBounds_toArray, List.set_cons_succ, List.set_cons_zero]; rfl, ?_⟩
            iterate 2
              refine M2.mono_pure rfl rfl ?_
              apply Exists.intro
              refine ⟨fun x => ?_, ?_⟩
              · go_simp
                rfl
              apply Exists.intro
              refine ⟨by simp only [Act.put, List.setIfInBounds_toArray, List.set_cons_succ, List.set_cons_zero]; rfl, ?_⟩
            refine M2.mono_nil ?_
            intro w3 hD hF
            have HI3 := Lib.hid hD
            clear hD hF HI
            go_simp
            go_wp2_with fail
            go_roundw
            case rel => exact ⟨i + 1, by omega, by go_num, HI3.out.congr fun j _ => midOf_next (by rintro rfl; rw [Vec.with_, if_pos ⟨hr0, rfl⟩]; omega)⟩
            case measure => simp [intOf]; omega
        · have hq : ((i : Int) + 1 == n) = false := by simpa using hn
          go_wp2_with fail
          refine M2.wp_region_kinds (fun _ x y => Below x.heap.size x y) (fun _ x => XInv w f n k (midOf (Vec.with_ f n k) f i) x) (fun x => XInv w f n k (midOf (Vec.with_ f n k) f i) x)
            [(0, .val (dotV n k) fun _ => True), (1, .val (.bool true) fun _ => True), (6, .val (.int .i64 n) fun _ => True)] (by kernel_rfl) (by kernel_rfl) (fun _ _ _ hb h => XInv.then_ hb h) (fun _ _ _ _ _ hb h => XInv.then_ hb h) ?_ HI.out.drew (fun _ => HI.out.drew) ?_
          · intro z hz
            simp only [List.mem_cons, List.mem_nil_iff, or_false] at hz
            rcases hz with rfl | rfl | rfl <;> exact fun _ _ _ _ _ _ => trivial
          refine M2.mono_val rfl rfl (fun x hD hF => ?_) ?_
          · have hl := run_loadVar_arr (P := Try.prog) x (w.heap.size + 1) 0 35 #[.int .i64 n, .int .u64 (k : Int)] _ hD.d.range Try.underlying35 rfl size35
            rw [exec_load 35 (.tmp 3) rfl (w.heap.size + 1) 0 rfl hl]
            exact ⟨Below.refl _ _, rfl, trivial⟩
          apply Exists.intro
          refine ⟨by simp only [Act.put, List.setIfInBounds_toArray, List.set_cons_succ, List.set_cons_zero]; rfl, ?_⟩
          refine M2.mono_val rfl rfl (fun x hD hF => ?_) ?_
          · go_simp
            refine (rightR_any n k x).mono ?_
            rintro e y ⟨rfl, hg⟩
            exact ⟨_, rfl, hg, by rw [hr.out]⟩
          apply Exists.intro
          refine ⟨by simp only [Act.put, List.setIfInBounds_toArray, List.set_cons_succ, List.set_cons_zero]; rfl, ?_⟩
          iterate 4
            refine M2.mono_pure rfl rfl ?_
            apply Exists.intro
            refine ⟨fun x => ?_, ?_⟩
            · go_simp
              rfl
            apply Exists.intro
            refine ⟨by simp only [Act.put, List.setIfInBounds_toArray, List.set_cons_succ, List.set_cons_zero]; rfl, ?_⟩
          refine M2.mono_val rfl rfl (fun x hD hF => ?_) ?_
          · have hc := hD.d.node
            go_simp
            exact ⟨Below.refl _ _, rfl⟩
          apply Exists.intro
          refine ⟨by simp only [Act.put, List.setIfInBounds_toArray, List.set_cons_succ, List.set_cons_zero]; rfl, ?_⟩
          iterate 3
            refine M2.mono_pure rfl rfl ?_
            apply Exists.intro
            refine ⟨fun x => ?_, ?_⟩
            · go_simp
              rfl
            apply Exists.intro
            refine ⟨by simp only [Act.put, List.setIfInBounds_toArray, List.set_cons_succ, List.set_cons_zero]; rfl, ?_⟩
          refine M2.mono_skip rfl ?_
          apply Exists.intro
          refine ⟨by simp only [Act.put, List.setIfInBounds_toArray, List.set_cons_succ, List.set_cons_zero]; rfl, ?_⟩
          refine M2.mono_skip rfl ?_
          apply Exists.intro
          refine ⟨by simp only [Act.put, List.setIfInBounds_toArray, List.set_cons_succ, List.set_cons_zero]; rfl, ?_⟩
          refine M2.mono_skip rfl ?_
          apply Exists.intro
          refine ⟨by simp only [Act.put, List.setIfInBounds_toArray, List.set_cons_succ, List.set_cons_zero]; rfl, ?_⟩
          refine M2.mono_skip rfl ?_
          apply Exists.intro
          refine ⟨by simp only [Act.put, List.setIfInBounds_toArray, List.set_cons_succ, List.set_cons_zero]; rfl, ?_⟩
          refine M2.mono_skip rfl ?_
          apply Exists.intro
          refine ⟨by simp only [Act.put, List.setIfInBounds_toArray, List.set_cons_succ, List.set_cons_zero]; rfl, ?_⟩
          refine M2.mono_skip rfl ?_
          apply Exists.intro
          refine ⟨by simp only [Act.put, List.setIfInBounds_toArray, List.set_cons_succ, List.set_cons_zero]; rfl, ?_⟩
          iterate 1
            refine M2.mono_pure rfl rfl ?_
            apply Exists.intro
            refine ⟨fun x => ?_, ?_⟩
            · go_simp
              rfl
            apply Exists.intro
            refine ⟨by simp only [Act.put, List.setIfInBounds_toArray, List.set_cons_succ, List.set_cons_zero]; rfl, ?_⟩
          refine M2.mono_nil ?_
          intro w3 hD hF
          have HI3 := Lib.hid hD
          clear hD hF HI
          go_simp
          go_wp2_with fail
          go_roundw
          case rel => exact ⟨i + 1, by omega, by go_num, HI3.out.congr fun j _ => midOf_next (by rintro rfl; rw [Vec.with_, if_neg (fun h => hn h.2)])⟩
          case measure => simp [intOf]; omega
      · have hr1 : Vec.right n k = false := by simpa using hr0
        have hr := Lib.hid hr1
        clear hr1
        go_wp2_with fail
        refine M2.wp_region_kinds (fun _ x y => Below x.heap.size x y) (fun _ x => XInv w f n k (midOf (Vec.with_ f n k) f i) x) (fun x => XInv w f n k (midOf (Vec.with_ f n k) f i) x)
          [(0, .val (dotV n k) fun _ => True), (1, .val (.bool false) fun _ => True)] (by kernel_rfl) (by kernel_rfl) (fun _ _ _ hb h => XInv.then_ hb h) (fun _ _ _ _ _ hb h => XInv.then_ hb h) ?_ HI.out.drew (fun _ => HI.out.drew) ?_
        · intro z hz
          simp only [List.mem_cons, List.mem_nil_iff, or_false] at hz
          rcases hz with rfl | rfl <;> exact fun _ _ _ _ _ _ => trivial
        refine M2.mono_val rfl rfl (fun x hD hF => ?_) ?_
        · have hl := run_loadVar_arr (P := Try.prog) x (w.heap.size + 1) 0 35 #[.int .i64 n, .int .u64 (k : Int)] _ hD.d.range Try.underlying35 rfl size35
          rw [exec_load 35 (.tmp 3) rfl (w.heap.size + 1) 0 rfl hl]
          exact ⟨Below.refl _ _, rfl, trivial⟩
        apply Exists.intro
        refine ⟨by simp only [Act.put, List.setIfInBounds_toArray, List.set_cons_succ, List.set_cons_zero]; rfl, ?_⟩
        refine M2.mono_val rfl rfl (fun x hD hF => ?_) ?_
        · go_simp
          refine (rightR_any n k x).mono ?_
          rintro e y ⟨rfl, hg⟩
          exact ⟨_, rfl, hg, by rw [hr.out]⟩
        apply Exists.intro
        refine ⟨by simp only [Act.put, List.setIfInBounds_toArray, List.set_cons_succ, List.set_cons_zero]; rfl, ?_⟩
        iterate 1
          refine M2.mono_pure rfl rfl ?_
          apply Exists.intro
          refine ⟨fun x => ?_, ?_⟩
          · go_simp
            rfl
          apply Exists.intro
          refine ⟨by simp only [Act.put, List.setIfInBounds_toArray, List.set_cons_succ, List.set_cons_zero]; rfl, ?_⟩
        refine M2.mono_skip rfl ?_
        apply Exists.intro
        refine ⟨by simp only [Act.put, List.setIfInBounds_toArray, List.set_cons_succ, List.set_cons_zero]; rfl, ?_⟩
        refine M2.mono_skip rfl ?_
        apply Exists.intro
        refine ⟨by simp only [Act.put, List.setIfInBounds_toArray, List.set_cons_succ, List.set_cons_zero]; rfl, ?_⟩
        refine M2.mono_skip rfl ?_
        apply Exists.intro
        refine ⟨by simp only [Act.put, List.setIfInBounds_toArray, List.set_cons_succ, List.set_cons_zero]; rfl, ?_⟩
        refine M2.mono_skip rfl ?_
        apply Exists.intro
        refine ⟨by simp only [Act.put, List.setIfInBounds_toArray, List.set_cons_succ, List.set_cons_zero]; rfl, ?_⟩
        refine M2.mono_skip rfl ?_
        apply Exists.intro
        refine ⟨by simp only [Act.put, List.setIfInBounds_toArray, List.set_cons_succ, List.set_cons_zero]; rfl, ?_⟩
        iterate 2
          refine M2.mono_pure rfl rfl ?_
          apply Exists.intro
          refine ⟨fun x => ?_, ?_⟩
          · go_simp
            rfl
          apply Exists.intro
          refine ⟨by simp only [Act.put, List.setIfInBounds_toArray, List.set_cons_succ, List.set_cons_zero]; rfl, ?_⟩
        refine M2.mono_skip rfl ?_
        apply Exists.intro
        refine ⟨by simp only [Act.put, List.setIfInBounds_toArray, List.set_cons_succ, List.set_cons_zero]; rfl, ?_⟩
        refine M2.mono_skip rfl ?_
        apply Exists.intro
        refine ⟨by simp only [Act.put, List.setIfInBounds_toArray, List.set_cons_succ, List.set_cons_zero]; rfl, ?_⟩
        refine M2.mono_skip rfl ?_
        apply Exists.intro
        refine ⟨by simp only [Act.put, List.setIfInBounds_toArray, List.set_cons_succ, List.set_cons_zero]; rfl, ?_⟩
        refine M2.mono_skip rfl ?_
        apply Exists.intro
        refine ⟨by simp only [Act.put, List.setIfInBounds_toArray, List.set_cons_succ, List.set_cons_zero]; rfl, ?_⟩
        refine M2.mono_skip rfl ?_
        apply Exists.intro
        refine ⟨by simp only [Act.put, List.setIfInBounds_toArray, List.set_cons_succ, List.set_cons_zero]; rfl, ?_⟩
        refine M2.mono_skip rfl ?_
        apply Exists.intro
        refine ⟨by simp only [Act.put, List.setIfInBounds_toArray, List.set_cons_succ, List.set_cons_zero]; rfl, ?_⟩
        iterate 1
          refine M2.mono_pure rfl rfl ?_
          apply Exists.intro
          refine ⟨fun x => ?_, ?_⟩
          · go_simp
            rfl
          apply Exists.intro
          refine ⟨by simp only [Act.put, List.setIfInBounds_toArray, List.set_cons_succ, List.set_cons_zero]; rfl, ?_⟩
        refine M2.mono_nil ?_
        intro w3 hD hF
        have HI3 := Lib.hid hD
        clear hD hF HI
        go_simp
        go_wp2_with fail
        go_roundw
        case rel => exact ⟨i + 1, by omega, by go_num, HI3.out.congr fun j _ => midOf_next (by rintro rfl; rw [Vec.with_, if_neg (fun h => hr0 h.1)])⟩
        case measure => simp [intOf]; omega
    · obtain rfl : i = 8 := by omega
      have e8 : ∀ i, i < 8 → midOf (Vec.with_ f n k) f 8 i = Vec.with_ f n k i := fun i hi => by simp [midOf, hi]
      have ha := Lib.hid (row27 (HI.out.congr e8).out_)
      have hz0 := Lib.hid (row27 (f := fun _ => 0) HI.out.zero)
      have HB := Lib.hid HI.out.below
      clear HI
      go_wp2_with (first
        | (refine wpList_load_row rfl 27 _ rfl (w.heap.size + 1 + 1 + 1) rfl 27 _ (0, 0) _ ha.out Try.underlying27 rfl s27.out ?_)
        | (refine wpList_store_row rfl 27 _ _ rfl (w.heap.size + 1 + 1) (arrOf .u64 8 (Vec.with_ f n k)) rfl rfl 27 _ hz0.out s27.out ss.out (arrOf_one _ _ _) ?_)
        | (refine bodyPost_ret (results_cell_row Try.results73 _ _ (w.heap.size + 1 + 1) 27 _ (0, 0) _ rfl (setRow_heap _ _ _ _ _ _ hz0.out) Try.underlying27 rfl s27.out) rfl ⟨rfl, below_setRow' HB.out (by omega) _⟩))
end Go.Proofs.Ytnpacjdgbmldlaa
