/- Right of dots and of the reference. -/
import Derived.Test.YtnpacjdgbmldlaaD3
namespace Go.Proofs.Ytnpacjdgbmldlaa
open Go.RowKit
def dgood (ls : List Dt) (i : Nat) : Bool := Vec.right (ls.getD i (0, 0)).1 (ls.getD i (0, 0)).2 && (decide (i = 0) || Vec.less (ls.getD (i - 1) (0, 0)).1 (ls.getD (i - 1) (0, 0)).2 (ls.getD i (0, 0)).1 (ls.getD i (0, 0)).2)
/-- Are they a set? -/
def isSet (ls : List Dt) : Bool := decide (ls.length ≤ 2000) && (List.range ls.length).all (dgood ls)
theorem isSet_iff (ls : List Dt) : isSet ls = true ↔ ls.length ≤ 2000 ∧ ∀ i, i < ls.length → dgood ls i = true := by
  simp only [isSet, Bool.and_eq_true, decide_eq_true_eq, List.all_eq_true, List.mem_range]
theorem isSet_bad {ls : List Dt} {i : Nat} (hi : i < ls.length) (h : dgood ls i = false) : isSet ls = false := by
  rw [Bool.eq_false_iff]
  intro h2
  rw [((isSet_iff ls).1 h2).2 i hi] at h
  cases h
theorem dgood_right {ls : List Dt} {i : Nat} (h : Vec.right (ls.getD i (0, 0)).1 (ls.getD i (0, 0)).2 = false) : dgood ls i = false := by unfold dgood; rw [h]; rfl
theorem dgood_zero {ls : List Dt} (h : Vec.right (ls.getD 0 (0, 0)).1 (ls.getD 0 (0, 0)).2 = true) : dgood ls 0 = true := by unfold dgood; rw [h]; rfl
theorem dgood_succ {ls : List Dt} {p : Nat} (h : Vec.right (ls.getD (p + 1) (0, 0)).1 (ls.getD (p + 1) (0, 0)).2 = true) : dgood ls (p + 1) = Vec.less (ls.getD p (0, 0)).1 (ls.getD p (0, 0)).2 (ls.getD (p + 1) (0, 0)).1 (ls.getD (p + 1) (0, 0)).2 := by
  unfold dgood
  rw [h, show decide (p + 1 = 0) = false by simp]
  simp
/-- A list, and a dot in a box. -/
structure DI (w : World) (A : Option Addr) (ls : List Dt) (b : Nat) (t : TypeId) (d : Dt) (x : World) : Prop where
  l : Dots x (· < w.heap.size) A ls
  d : DotAt x b t d.1 d.2
  below : Below w.heap.size w x
theorem DI.then_ {w x y : World} {A : Option Addr} {ls : List Dt} {b : Nat} {t : TypeId} {d : Dt} (hb : Below x.heap.size x y) (I : DI w A ls b t d x) : DI w A ls b t d y :=
  ⟨I.l.below (hb.mono I.below.size), I.d.below hb I.d.lt, I.below.trans (hb.mono I.below.size)⟩
theorem DI.drew {w x : World} {A : Option Addr} {ls : List Dt} {b : Nat} {t : TypeId} {d : Dt} (I : DI w A ls b t d x) : DI w A ls b t d x.drew := DI.then_ (x := x) (y := x.drew) ⟨rfl, rfl, rfl, Nat.le_refl _, fun _ _ => rfl⟩ I
theorem Dots.at_j {w : World} {ok : Nat → Prop} {b o : Nat} {ls : List Dt} (h : Dots w ok (some ⟨b, o, none⟩) ls) {j : Nat} (hj : j < ls.length) : rangeA w b (o + j * 2) (dotC (ls.getD j (0, 0))) := by
  obtain ⟨b', o', e, _, hc⟩ := h.at_ (by omega)
  injection e with e
  injection e with e1 e2
  subst e1 e2
  exact hc j hj

set_option maxRecDepth 100000 in
set_option maxHeartbeats 4000000 in
theorem dright_any (ls : List Dt) (c : Nat) (A : Option Addr) (w : World) (hv : Dots w (· < w.heap.size) A ls) (hm : ls.length ≤ 9223372036854775807) :
    Calls Try.prog 20 #[.slice A ls.length c] w fun e w' => e = .returned (.bool (isSet ls)) ∧ Below w.heap.size w w' := by
  have HV := Lib.hid hv
  have HM := Lib.hid hm
  clear hv hm
  by_cases hb : 2000 < ls.length
  · have hbi : (2000 : Int) < (ls.length : Int) := by omega
    have HE : Hid (isSet ls = false) := Lib.hid (by
      rw [Bool.eq_false_iff]
      intro h
      have := ((isSet_iff ls).1 h).1
      omega)
    clear hb
    go_enter Try.func20, Try.ntmps20
    go_wp2
    go_ret
    exact ⟨ret_bool HE.out.symm, Below.refl _ _⟩
  have HBL : Hid (ls.length ≤ 2000) := Lib.hid (by omega)
  have hbi : ¬ (2000 : Int) < (ls.length : Int) := by omega
  clear hb
  go_enter Try.func20, Try.ntmps20
  go_wp2
  clear hbi
  go_loopw [10] (fun v wr => ∃ j : Nat, j ≤ ls.length ∧ v = .int .i64 j ∧ Hid (∀ i, i < j → dgood ls i = true) ∧ Hid (Dots wr (· < w.heap.size) A ls) ∧ Hid (Below w.heap.size w wr)) (fun v _ => ls.length - (intOf v).toNat)
  case atStart => exact ⟨0, by omega, rfl, fun i hi => by omega, HV, Below.refl _ _⟩
  case round =>
    clear HV
    obtain ⟨j, hj, rfl, HN, HV, HB⟩ := hrel
    by_cases hlt : j < ls.length
    · obtain ⟨b, o, hA⟩ := HV.out.some_ (by omega)
      subst hA
      obtain ⟨d, hd⟩ : ∃ d, d = ls.getD j (0, 0) := ⟨_, rfl⟩
      have HD := Lib.hid hd
      have hr : Hid (rangeA wr b (o + j * 2) (dotC d)) := Lib.hid (by rw [hd]; exact HV.out.at_j hlt)
      have HI : Hid (DI w (some ⟨b, o, none⟩) ls wr.heap.size 25 d (wr.alloc (.cells (dotC d) 25))) := Lib.hid ⟨HV.out.below ((below1 wr _).mono HB.out.size), DotAt.new wr 25 d.1 d.2, HB.out.trans ((below1 wr _).mono HB.out.size)⟩
      have hN := Lib.hid (heap_alloc_new wr (.cells #[.int .i64 0, .int .u64 0] 25))
      have s25 := Lib.hid (dot_size25 d)
      have o2 : Hid ((dotC d).all (·.oneCell') = true) := two_one _ _ rfl rfl
      have z2 : Hid ((#[.int .i64 0, .int .u64 0] : Array Value).size = (dotC d).size) := rfl
      clear hd HV HB
      go_wp2_with (first
        | (refine wpList_load_arr rfl 25 _ rfl b (o + j * 2) rfl (dotC d) _ hr.out Try.underlying25 rfl s25.out ?_)
        | (refine wpList_store_row rfl 25 _ _ rfl wr.heap.size (dotC d) rfl rfl 25 _ hN.out s25.out z2.out o2.out ?_; rw [World.setRow_alloc_new]))
      generalize wr.alloc (.cells (dotC d) 25) = w2 at *
      generalize wr.heap.size = b4 at *
      clear hr hN s25 o2 z2
      cases hrt : Vec.right d.1 d.2 with
      | false =>
        have HR := Lib.hid hrt
        have HG : Hid (dgood ls j = false) := Lib.hid (dgood_right (by rw [← HD.out]; exact hrt))
        clear hrt
        refine WM.wp_region_kinds (fun _ x y => Below x.heap.size x y) (fun _ x => DI w (some ⟨b, o, none⟩) ls b4 25 d x) (fun x => DI w (some ⟨b, o, none⟩) ls b4 25 d x)
          [(0, .val (dotV d.1 d.2) fun _ => True), (1, .val (.bool false) fun _ => True)] (by kernel_rfl) (by kernel_rfl) (fun _ _ _ hb h => DI.then_ hb h) (fun _ _ _ _ _ hb h => DI.then_ hb h) ?_ HI.out.drew (fun _ => HI.out.drew) ?_
        · intro z hz
          simp only [List.mem_cons, List.mem_nil_iff, or_false] at hz
          rcases hz with rfl | rfl <;> exact fun _ _ _ _ _ _ => trivial
        refine WM.mono_val rfl rfl (fun x hD hF => ?_) ?_
        · have hl := run_loadVar_arr (P := Try.prog) x b4 0 25 _ _ hD.d.range Try.underlying25 rfl size25
          rw [exec_load 25 (.tmp 4) rfl b4 0 rfl hl]
          exact ⟨Below.refl _ _, rfl, trivial⟩
        apply Exists.intro
        refine ⟨by simp only [Act.put, List.setIfInBounds_toArray, List.set_cons_succ, List.set_cons_zero]; rfl, ?_⟩
        refine WM.mono_val rfl rfl (fun x hD hF => ?_) ?_
        · go_simp
          refine (right_any d.1 d.2 x).mono ?_
          rintro e y ⟨rfl, hg⟩
          exact ⟨_, rfl, hg, by rw [HR.out]⟩
        apply Exists.intro
        refine ⟨by simp only [Act.put, List.setIfInBounds_toArray, List.set_cons_succ, List.set_cons_zero]; rfl, ?_⟩
        refine WM.mono_pure rfl rfl ?_
        refine ⟨.bool true, fun x => ?_, ?_⟩
        · go_simp
        apply Exists.intro
        refine ⟨by simp only [Act.put, List.setIfInBounds_toArray, List.set_cons_succ, List.set_cons_zero]; rfl, ?_⟩
        refine WM.mono_pure rfl rfl ?_
        refine ⟨.bool true, fun x => ?_, ?_⟩
        · go_simp
        apply Exists.intro
        refine ⟨by simp only [Act.put, List.setIfInBounds_toArray, List.set_cons_succ, List.set_cons_zero]; rfl, ?_⟩
        refine WM.mono_skip rfl ?_
        apply Exists.intro
        refine ⟨by simp only [Act.put, List.setIfInBounds_toArray, List.set_cons_succ, List.set_cons_zero]; rfl, ?_⟩
        refine WM.mono_skip rfl ?_
        apply Exists.intro
        refine ⟨by simp only [Act.put, List.setIfInBounds_toArray, List.set_cons_succ, List.set_cons_zero]; rfl, ?_⟩
        refine WM.mono_skip rfl ?_
        apply Exists.intro
        refine ⟨by simp only [Act.put, List.setIfInBounds_toArray, List.set_cons_succ, List.set_cons_zero]; rfl, ?_⟩
        refine WM.mono_skip rfl ?_
        apply Exists.intro
        refine ⟨by simp only [Act.put, List.setIfInBounds_toArray, List.set_cons_succ, List.set_cons_zero]; rfl, ?_⟩
        refine WM.mono_skip rfl ?_
        apply Exists.intro
        refine ⟨by simp only [Act.put, List.setIfInBounds_toArray, List.set_cons_succ, List.set_cons_zero]; rfl, ?_⟩
        refine WM.mono_skip rfl ?_
        apply Exists.intro
        refine ⟨by simp only [Act.put, List.setIfInBounds_toArray, List.set_cons_succ, List.set_cons_zero]; rfl, ?_⟩
        refine WM.mono_skip rfl ?_
        apply Exists.intro
        refine ⟨by simp only [Act.put, List.setIfInBounds_toArray, List.set_cons_succ, List.set_cons_zero]; rfl, ?_⟩
        refine WM.mono_skip rfl ?_
        apply Exists.intro
        refine ⟨by simp only [Act.put, List.setIfInBounds_toArray, List.set_cons_succ, List.set_cons_zero]; rfl, ?_⟩
        refine WM.mono_skip rfl ?_
        apply Exists.intro
        refine ⟨by simp only [Act.put, List.setIfInBounds_toArray, List.set_cons_succ, List.set_cons_zero]; rfl, ?_⟩
        refine WM.mono_skip rfl ?_
        apply Exists.intro
        refine ⟨by simp only [Act.put, List.setIfInBounds_toArray, List.set_cons_succ, List.set_cons_zero]; rfl, ?_⟩
        refine WM.mono_skip rfl ?_
        apply Exists.intro
        refine ⟨by simp only [Act.put, List.setIfInBounds_toArray, List.set_cons_succ, List.set_cons_zero]; rfl, ?_⟩
        refine WM.mono_skip rfl ?_
        apply Exists.intro
        refine ⟨by simp only [Act.put, List.setIfInBounds_toArray, List.set_cons_succ, List.set_cons_zero]; rfl, ?_⟩
        refine WM.mono_pure rfl rfl ?_
        refine ⟨.bool true, fun x => ?_, ?_⟩
        · go_simp
        apply Exists.intro
        refine ⟨by simp only [Act.put, List.setIfInBounds_toArray, List.set_cons_succ, List.set_cons_zero]; rfl, ?_⟩
        refine WM.mono_nil ?_
        intro x hD hF
        have HX := Lib.hid hD
        clear hD hF HI
        go_simp
        go_wp2
        go_ret
        exact ⟨ret_bool (isSet_bad hlt HG.out).symm, HX.out.below⟩
      | true =>
        have HR := Lib.hid hrt
        clear hrt
        by_cases h0 : j = 0
        · subst h0
          have HG : Hid (dgood ls 0 = true) := Lib.hid (dgood_zero (by rw [← HD.out]; exact HR.out))
          refine WM.wp_region_kinds (fun _ x y => Below x.heap.size x y) (fun _ x => DI w (some ⟨b, o, none⟩) ls b4 25 d x) (fun x => DI w (some ⟨b, o, none⟩) ls b4 25 d x)
            [(0, .val (dotV d.1 d.2) fun _ => True), (1, .val (.bool true) fun _ => True)] (by kernel_rfl) (by kernel_rfl) (fun _ _ _ hb h => DI.then_ hb h) (fun _ _ _ _ _ hb h => DI.then_ hb h) ?_ HI.out.drew (fun _ => HI.out.drew) ?_
          · intro z hz
            simp only [List.mem_cons, List.mem_nil_iff, or_false] at hz
            rcases hz with rfl | rfl <;> exact fun _ _ _ _ _ _ => trivial
          refine WM.mono_val rfl rfl (fun x hD hF => ?_) ?_
          · have hl := run_loadVar_arr (P := Try.prog) x b4 0 25 _ _ hD.d.range Try.underlying25 rfl size25
            rw [exec_load 25 (.tmp 4) rfl b4 0 rfl hl]
            exact ⟨Below.refl _ _, rfl, trivial⟩
          apply Exists.intro
          refine ⟨by simp only [Act.put, List.setIfInBounds_toArray, List.set_cons_succ, List.set_cons_zero]; rfl, ?_⟩
          refine WM.mono_val rfl rfl (fun x hD hF => ?_) ?_
          · go_simp
            refine (right_any d.1 d.2 x).mono ?_
            rintro e y ⟨rfl, hg⟩
            exact ⟨_, rfl, hg, by rw [HR.out]⟩
          apply Exists.intro
          refine ⟨by simp only [Act.put, List.setIfInBounds_toArray, List.set_cons_succ, List.set_cons_zero]; rfl, ?_⟩
          refine WM.mono_pure rfl rfl ?_
          refine ⟨.bool false, fun x => ?_, ?_⟩
          · go_simp
          apply Exists.intro
          refine ⟨by simp only [Act.put, List.setIfInBounds_toArray, List.set_cons_succ, List.set_cons_zero]; rfl, ?_⟩
          refine WM.mono_pure rfl rfl ?_
          refine ⟨.bool false, fun x => ?_, ?_⟩
          · go_simp
          apply Exists.intro
          refine ⟨by simp only [Act.put, List.setIfInBounds_toArray, List.set_cons_succ, List.set_cons_zero]; rfl, ?_⟩
          iterate 1
            refine WM.mono_pure rfl rfl ?_
            apply Exists.intro
            refine ⟨fun x => ?_, ?_⟩
            · go_simp
              rfl
            apply Exists.intro
            refine ⟨by simp only [Act.put, List.setIfInBounds_toArray, List.set_cons_succ, List.set_cons_zero]; rfl, ?_⟩
          refine WM.mono_pure rfl rfl ?_
          refine ⟨.bool false, fun x => ?_, ?_⟩
          · go_simp
          apply Exists.intro
          refine ⟨by simp only [Act.put, List.setIfInBounds_toArray, List.set_cons_succ, List.set_cons_zero]; rfl, ?_⟩
          refine WM.mono_pure rfl rfl ?_
          refine ⟨.bool false, fun x => ?_, ?_⟩
          · go_simp
          apply Exists.intro
          refine ⟨by simp only [Act.put, List.setIfInBounds_toArray, List.set_cons_succ, List.set_cons_zero]; rfl, ?_⟩
          refine WM.mono_skip rfl ?_
          apply Exists.intro
          refine ⟨by simp only [Act.put, List.setIfInBounds_toArray, List.set_cons_succ, List.set_cons_zero]; rfl, ?_⟩
          refine WM.mono_skip rfl ?_
          apply Exists.intro
          refine ⟨by simp only [Act.put, List.setIfInBounds_toArray, List.set_cons_succ, List.set_cons_zero]; rfl, ?_⟩
          refine WM.mono_skip rfl ?_
          apply Exists.intro
          refine ⟨by simp only [Act.put, List.setIfInBounds_toArray, List.set_cons_succ, List.set_cons_zero]; rfl, ?_⟩
          refine WM.mono_skip rfl ?_
          apply Exists.intro
          refine ⟨by simp only [Act.put, List.setIfInBounds_toArray, List.set_cons_succ, List.set_cons_zero]; rfl, ?_⟩
          refine WM.mono_skip rfl ?_
          apply Exists.intro
          refine ⟨by simp only [Act.put, List.setIfInBounds_toArray, List.set_cons_succ, List.set_cons_zero]; rfl, ?_⟩
          refine WM.mono_skip rfl ?_
          apply Exists.intro
          refine ⟨by simp only [Act.put, List.setIfInBounds_toArray, List.set_cons_succ, List.set_cons_zero]; rfl, ?_⟩
          refine WM.mono_skip rfl ?_
          apply Exists.intro
          refine ⟨by simp only [Act.put, List.setIfInBounds_toArray, List.set_cons_succ, List.set_cons_zero]; rfl, ?_⟩
          refine WM.mono_skip rfl ?_
          apply Exists.intro
          refine ⟨by simp only [Act.put, List.setIfInBounds_toArray, List.set_cons_succ, List.set_cons_zero]; rfl, ?_⟩
          refine WM.mono_pure rfl rfl ?_
          refine ⟨.bool false, fun x => ?_, ?_⟩
          · go_simp
          apply Exists.intro
          refine ⟨by simp only [Act.put, List.setIfInBounds_toArray, List.set_cons_succ, List.set_cons_zero]; rfl, ?_⟩
          refine WM.mono_pure rfl rfl ?_
          refine ⟨.bool false, fun x => ?_, ?_⟩
          · go_simp
          apply Exists.intro
          refine ⟨by simp only [Act.put, List.setIfInBounds_toArray, List.set_cons_succ, List.set_cons_zero]; rfl, ?_⟩
          refine WM.mono_nil ?_
          intro x hD hF
          have HX := Lib.hid hD
          clear hD hF HI
          go_simp
          have HN2 : Hid (∀ i, i < 0 + 1 → dgood ls i = true) := Lib.hid (fun i hi => by
            by_cases e : i = 0
            · rw [e]; exact HG.out
            · exact HN.out i (by omega))
          go_wp2
          go_roundw
          case rel => exact ⟨0 + 1, by omega, by go_num, HN2, HX.out.l, HX.out.below⟩
          case measure => simp [intOf]; omega
        · obtain ⟨p, rfl⟩ : ∃ p, j = p + 1 := ⟨j - 1, by omega⟩
          clear h0
          obtain ⟨d0, hd0⟩ : ∃ d0, d0 = ls.getD p (0, 0) := ⟨_, rfl⟩
          have HD0 := Lib.hid hd0
          have HPL : Hid (p < ls.length) := Lib.hid (by omega)
          have hpi : (p : Int) < (ls.length : Int) := by omega
          have eW : IntKind.i64.wrap (p : Int) = (p : Int) := by have := HBL.out; rw [IntKind.wrap_i64]; omega
          have eW2 : IntKind.i64.wrap ((p : Int) + 1 + 1) = (p : Int) + 1 + 1 := by have := HBL.out; rw [IntKind.wrap_i64]; omega
          have hgt : (0 : Int) < (p : Int) + 1 := by omega
          have hgs := dgood_succ (ls := ls) (p := p) (by rw [← HD.out]; exact HR.out)
          rw [← HD.out, ← hd0] at hgs
          have HGS := Lib.hid hgs
          clear hd0 hgs
          cases hls : Vec.less d0.1 d0.2 d.1 d.2 with
          | true =>
            have HLS := Lib.hid hls
            have HG : Hid (dgood ls (p + 1) = true) := Lib.hid (by rw [HGS.out]; exact hls)
            clear hls
            refine WM.wp_region_kinds (fun _ x y => Below x.heap.size x y) (fun _ x => DI w (some ⟨b, o, none⟩) ls b4 25 d x) (fun x => DI w (some ⟨b, o, none⟩) ls b4 25 d x)
              [(0, .val (dotV d.1 d.2) fun _ => True), (1, .val (.bool true) fun _ => True), (11, .val (dotV d0.1 d0.2) fun _ => True), (12, .val (dotV d.1 d.2) fun _ => True), (13, .val (.bool true) fun _ => True)] (by kernel_rfl) (by kernel_rfl) (fun _ _ _ hb h => DI.then_ hb h) (fun _ _ _ _ _ hb h => DI.then_ hb h) ?_ HI.out.drew (fun _ => HI.out.drew) ?_
            · intro z hz
              simp only [List.mem_cons, List.mem_nil_iff, or_false] at hz
              rcases hz with rfl | rfl | rfl | rfl | rfl <;> exact fun _ _ _ _ _ _ => trivial
            refine WM.mono_val rfl rfl (fun x hD hF => ?_) ?_
            · have hl := run_loadVar_arr (P := Try.prog) x b4 0 25 _ _ hD.d.range Try.underlying25 rfl size25
              rw [exec_load 25 (.tmp 4) rfl b4 0 rfl hl]
              exact ⟨Below.refl _ _, rfl, trivial⟩
            apply Exists.intro
            refine ⟨by simp only [Act.put, List.setIfInBounds_toArray, List.set_cons_succ, List.set_cons_zero]; rfl, ?_⟩
            refine WM.mono_val rfl rfl (fun x hD hF => ?_) ?_
            · go_simp
              refine (right_any d.1 d.2 x).mono ?_
              rintro e y ⟨rfl, hg⟩
              exact ⟨_, rfl, hg, by rw [HR.out]⟩
            apply Exists.intro
            refine ⟨by simp only [Act.put, List.setIfInBounds_toArray, List.set_cons_succ, List.set_cons_zero]; rfl, ?_⟩
            refine WM.mono_pure rfl rfl ?_
            refine ⟨.bool false, fun x => ?_, ?_⟩
            · go_simp
            apply Exists.intro
            refine ⟨by simp only [Act.put, List.setIfInBounds_toArray, List.set_cons_succ, List.set_cons_zero]; rfl, ?_⟩
            refine WM.mono_pure rfl rfl ?_
            refine ⟨.bool false, fun x => ?_, ?_⟩
            · go_simp
            apply Exists.intro
            refine ⟨by simp only [Act.put, List.setIfInBounds_toArray, List.set_cons_succ, List.set_cons_zero]; rfl, ?_⟩
            iterate 1
              refine WM.mono_pure rfl rfl ?_
              apply Exists.intro
              refine ⟨fun x => ?_, ?_⟩
              · go_simp
                rfl
              apply Exists.intro
              refine ⟨by simp only [Act.put, List.setIfInBounds_toArray, List.set_cons_succ, List.set_cons_zero]; rfl, ?_⟩
            refine WM.mono_pure rfl rfl ?_
            refine ⟨.bool true, fun x => ?_, ?_⟩
            · go_simp
            apply Exists.intro
            refine ⟨by simp only [Act.put, List.setIfInBounds_toArray, List.set_cons_succ, List.set_cons_zero]; rfl, ?_⟩
            refine WM.mono_pure rfl rfl ?_
            refine ⟨.bool true, fun x => ?_, ?_⟩
            · go_simp
            apply Exists.intro
            refine ⟨by simp only [Act.put, List.setIfInBounds_toArray, List.set_cons_succ, List.set_cons_zero]; rfl, ?_⟩
            iterate 2
              refine WM.mono_pure rfl rfl ?_
              apply Exists.intro
              refine ⟨fun x => ?_, ?_⟩
              · go_simp
                rfl
              apply Exists.intro
              refine ⟨by simp only [Act.put, List.setIfInBounds_toArray, List.set_cons_succ, List.set_cons_zero]; rfl, ?_⟩
            refine WM.mono_pure rfl rfl ?_
            refine ⟨.int .i64 (p : Int), fun x => ?_, ?_⟩
            · go_simp
            apply Exists.intro
            refine ⟨by simp only [Act.put, List.setIfInBounds_toArray, List.set_cons_succ, List.set_cons_zero]; rfl, ?_⟩
            refine WM.mono_pure rfl rfl ?_
            refine ⟨.pointer (some ⟨b, o + p * 2, none⟩), fun x => ?_, ?_⟩
            · go_simp
            apply Exists.intro
            refine ⟨by simp only [Act.put, List.setIfInBounds_toArray, List.set_cons_succ, List.set_cons_zero]; rfl, ?_⟩
            refine WM.mono_val rfl rfl (fun x hD hF => ?_) ?_
            · have hl := run_loadVar_arr (P := Try.prog) x b (o + p * 2) 25 (dotC d0) _ (by rw [HD0.out]; exact hD.l.at_j HPL.out) Try.underlying25 rfl size25
              rw [exec_load 25 (.tmp 25) rfl b (o + p * 2) rfl hl]
              exact ⟨Below.refl _ _, rfl, trivial⟩
            apply Exists.intro
            refine ⟨by simp only [Act.put, List.setIfInBounds_toArray, List.set_cons_succ, List.set_cons_zero]; rfl, ?_⟩
            refine WM.mono_val rfl rfl (fun x hD hF => ?_) ?_
            · have hl := run_loadVar_arr (P := Try.prog) x b4 0 25 _ _ hD.d.range Try.underlying25 rfl size25
              rw [exec_load 25 (.tmp 4) rfl b4 0 rfl hl]
              exact ⟨Below.refl _ _, rfl, trivial⟩
            apply Exists.intro
            refine ⟨by simp only [Act.put, List.setIfInBounds_toArray, List.set_cons_succ, List.set_cons_zero]; rfl, ?_⟩
            refine WM.mono_val rfl rfl (fun x hD hF => ?_) ?_
            · go_simp
              refine (less_any d0.1 d0.2 d.1 d.2 x).mono ?_
              rintro e y ⟨rfl, hg⟩
              exact ⟨_, rfl, hg, by rw [HLS.out]⟩
            apply Exists.intro
            refine ⟨by simp only [Act.put, List.setIfInBounds_toArray, List.set_cons_succ, List.set_cons_zero]; rfl, ?_⟩
            refine WM.mono_pure rfl rfl ?_
            refine ⟨.bool false, fun x => ?_, ?_⟩
            · go_simp
            apply Exists.intro
            refine ⟨by simp only [Act.put, List.setIfInBounds_toArray, List.set_cons_succ, List.set_cons_zero]; rfl, ?_⟩
            refine WM.mono_pure rfl rfl ?_
            refine ⟨.bool false, fun x => ?_, ?_⟩
            · go_simp
            apply Exists.intro
            refine ⟨by simp only [Act.put, List.setIfInBounds_toArray, List.set_cons_succ, List.set_cons_zero]; rfl, ?_⟩
            refine WM.mono_pure rfl rfl ?_
            refine ⟨.bool false, fun x => ?_, ?_⟩
            · go_simp
            apply Exists.intro
            refine ⟨by simp only [Act.put, List.setIfInBounds_toArray, List.set_cons_succ, List.set_cons_zero]; rfl, ?_⟩
            refine WM.mono_nil ?_
            intro x hD hF
            have HX := Lib.hid hD
            clear hD hF HI
            go_simp
            have HN2 : Hid (∀ i, i < (p + 1) + 1 → dgood ls i = true) := Lib.hid (fun i hi => by
              by_cases e : i = (p + 1)
              · rw [e]; exact HG.out
              · exact HN.out i (by omega))
            go_wp2
            go_roundw
            all_goals clear eW eW2
            case rel => exact ⟨(p + 1) + 1, by omega, by go_num, HN2, HX.out.l, HX.out.below⟩
            case measure => simp [intOf]; omega
          | false =>
            have HLS := Lib.hid hls
            have HG : Hid (dgood ls (p + 1) = false) := Lib.hid (by rw [HGS.out]; exact hls)
            clear hls
            refine WM.wp_region_kinds (fun _ x y => Below x.heap.size x y) (fun _ x => DI w (some ⟨b, o, none⟩) ls b4 25 d x) (fun x => DI w (some ⟨b, o, none⟩) ls b4 25 d x)
              [(0, .val (dotV d.1 d.2) fun _ => True), (1, .val (.bool true) fun _ => True), (11, .val (dotV d0.1 d0.2) fun _ => True), (12, .val (dotV d.1 d.2) fun _ => True), (13, .val (.bool false) fun _ => True)] (by kernel_rfl) (by kernel_rfl) (fun _ _ _ hb h => DI.then_ hb h) (fun _ _ _ _ _ hb h => DI.then_ hb h) ?_ HI.out.drew (fun _ => HI.out.drew) ?_
            · intro z hz
              simp only [List.mem_cons, List.mem_nil_iff, or_false] at hz
              rcases hz with rfl | rfl | rfl | rfl | rfl <;> exact fun _ _ _ _ _ _ => trivial
            refine WM.mono_val rfl rfl (fun x hD hF => ?_) ?_
            · have hl := run_loadVar_arr (P := Try.prog) x b4 0 25 _ _ hD.d.range Try.underlying25 rfl size25
              rw [exec_load 25 (.tmp 4) rfl b4 0 rfl hl]
              exact ⟨Below.refl _ _, rfl, trivial⟩
            apply Exists.intro
            refine ⟨by simp only [Act.put, List.setIfInBounds_toArray, List.set_cons_succ, List.set_cons_zero]; rfl, ?_⟩
            refine WM.mono_val rfl rfl (fun x hD hF => ?_) ?_
            · go_simp
              refine (right_any d.1 d.2 x).mono ?_
              rintro e y ⟨rfl, hg⟩
              exact ⟨_, rfl, hg, by rw [HR.out]⟩
            apply Exists.intro
            refine ⟨by simp only [Act.put, List.setIfInBounds_toArray, List.set_cons_succ, List.set_cons_zero]; rfl, ?_⟩
            refine WM.mono_pure rfl rfl ?_
            refine ⟨.bool false, fun x => ?_, ?_⟩
            · go_simp
            apply Exists.intro
            refine ⟨by simp only [Act.put, List.setIfInBounds_toArray, List.set_cons_succ, List.set_cons_zero]; rfl, ?_⟩
            refine WM.mono_pure rfl rfl ?_
            refine ⟨.bool false, fun x => ?_, ?_⟩
            · go_simp
            apply Exists.intro
            refine ⟨by simp only [Act.put, List.setIfInBounds_toArray, List.set_cons_succ, List.set_cons_zero]; rfl, ?_⟩
            iterate 1
              refine WM.mono_pure rfl rfl ?_
              apply Exists.intro
              refine ⟨fun x => ?_, ?_⟩
              · go_simp
                rfl
              apply Exists.intro
              refine ⟨by simp only [Act.put, List.setIfInBounds_toArray, List.set_cons_succ, List.set_cons_zero]; rfl, ?_⟩
            refine WM.mono_pure rfl rfl ?_
            refine ⟨.bool true, fun x => ?_, ?_⟩
            · go_simp
            apply Exists.intro
            refine ⟨by simp only [Act.put, List.setIfInBounds_toArray, List.set_cons_succ, List.set_cons_zero]; rfl, ?_⟩
            refine WM.mono_pure rfl rfl ?_
            refine ⟨.bool true, fun x => ?_, ?_⟩
            · go_simp
            apply Exists.intro
            refine ⟨by simp only [Act.put, List.setIfInBounds_toArray, List.set_cons_succ, List.set_cons_zero]; rfl, ?_⟩
            iterate 2
              refine WM.mono_pure rfl rfl ?_
              apply Exists.intro
              refine ⟨fun x => ?_, ?_⟩
              · go_simp
                rfl
              apply Exists.intro
              refine ⟨by simp only [Act.put, List.setIfInBounds_toArray, List.set_cons_succ, List.set_cons_zero]; rfl, ?_⟩
            refine WM.mono_pure rfl rfl ?_
            refine ⟨.int .i64 (p : Int), fun x => ?_, ?_⟩
            · go_simp
            apply Exists.intro
            refine ⟨by simp only [Act.put, List.setIfInBounds_toArray, List.set_cons_succ, List.set_cons_zero]; rfl, ?_⟩
            refine WM.mono_pure rfl rfl ?_
            refine ⟨.pointer (some ⟨b, o + p * 2, none⟩), fun x => ?_, ?_⟩
            · go_simp
            apply Exists.intro
            refine ⟨by simp only [Act.put, List.setIfInBounds_toArray, List.set_cons_succ, List.set_cons_zero]; rfl, ?_⟩
            refine WM.mono_val rfl rfl (fun x hD hF => ?_) ?_
            · have hl := run_loadVar_arr (P := Try.prog) x b (o + p * 2) 25 (dotC d0) _ (by rw [HD0.out]; exact hD.l.at_j HPL.out) Try.underlying25 rfl size25
              rw [exec_load 25 (.tmp 25) rfl b (o + p * 2) rfl hl]
              exact ⟨Below.refl _ _, rfl, trivial⟩
            apply Exists.intro
            refine ⟨by simp only [Act.put, List.setIfInBounds_toArray, List.set_cons_succ, List.set_cons_zero]; rfl, ?_⟩
            refine WM.mono_val rfl rfl (fun x hD hF => ?_) ?_
            · have hl := run_loadVar_arr (P := Try.prog) x b4 0 25 _ _ hD.d.range Try.underlying25 rfl size25
              rw [exec_load 25 (.tmp 4) rfl b4 0 rfl hl]
              exact ⟨Below.refl _ _, rfl, trivial⟩
            apply Exists.intro
            refine ⟨by simp only [Act.put, List.setIfInBounds_toArray, List.set_cons_succ, List.set_cons_zero]; rfl, ?_⟩
            refine WM.mono_val rfl rfl (fun x hD hF => ?_) ?_
            · go_simp
              refine (less_any d0.1 d0.2 d.1 d.2 x).mono ?_
              rintro e y ⟨rfl, hg⟩
              exact ⟨_, rfl, hg, by rw [HLS.out]⟩
            apply Exists.intro
            refine ⟨by simp only [Act.put, List.setIfInBounds_toArray, List.set_cons_succ, List.set_cons_zero]; rfl, ?_⟩
            refine WM.mono_pure rfl rfl ?_
            refine ⟨.bool true, fun x => ?_, ?_⟩
            · go_simp
            apply Exists.intro
            refine ⟨by simp only [Act.put, List.setIfInBounds_toArray, List.set_cons_succ, List.set_cons_zero]; rfl, ?_⟩
            refine WM.mono_pure rfl rfl ?_
            refine ⟨.bool true, fun x => ?_, ?_⟩
            · go_simp
            apply Exists.intro
            refine ⟨by simp only [Act.put, List.setIfInBounds_toArray, List.set_cons_succ, List.set_cons_zero]; rfl, ?_⟩
            refine WM.mono_pure rfl rfl ?_
            refine ⟨.bool true, fun x => ?_, ?_⟩
            · go_simp
            apply Exists.intro
            refine ⟨by simp only [Act.put, List.setIfInBounds_toArray, List.set_cons_succ, List.set_cons_zero]; rfl, ?_⟩
            refine WM.mono_nil ?_
            intro x hD hF
            have HX := Lib.hid hD
            clear hD hF HI
            go_simp
            go_wp2
            go_ret
            exact ⟨ret_bool (isSet_bad hlt HG.out).symm, HX.out.below⟩
    · obtain rfl : j = ls.length := by omega
      have HE : Hid (isSet ls = true) := Lib.hid ((isSet_iff ls).2 ⟨HBL.out, HN.out⟩)
      go_wp2
      go_ret
      exact ⟨ret_bool HE.out.symm, HB.out⟩
end Go.Proofs.Ytnpacjdgbmldlaa
