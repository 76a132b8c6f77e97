/- The law DotsWhole of layer 4, walked. -/
import Derived.Test.YtnpacjdgbmldlaaE7
namespace Go.Proofs.Ytnpacjdgbmldlaa
open Go.RowKit Go.Shelf Go.Lib Go.Sort Wr

structure W4 (w : World) (A : Option Addr) (ls : List Dt) (d : Dt) (x : World) : Prop where
  dots : Dots x (· < w.heap.size) A ls
  dot : DotAt x w.heap.size 25 d.1 d.2
  below : Below w.heap.size w x
theorem W4.then_ {w x y : World} {A : Option Addr} {ls : List Dt} {d : Dt} (hb : Below x.heap.size x y) (h : W4 w A ls d x) : W4 w A ls d y := ⟨h.dots.below (hb.mono h.below.size), h.dot.below hb h.dot.lt, h.below.trans (hb.mono h.below.size)⟩
theorem W4.drew {w x : World} {A : Option Addr} {ls : List Dt} {d : Dt} (I : W4 w A ls d x) : W4 w A ls d x.drew := W4.then_ (x := x) (y := x.drew) ⟨rfl, rfl, rfl, Nat.le_refl _, fun _ _ => rfl⟩ I
theorem W4.now {w x : World} {A : Option Addr} {ls : List Dt} {d : Dt} (I : W4 w A ls d x) : Dots x (· < x.heap.size) A ls := I.dots.loose fun _ h => Nat.lt_of_lt_of_le h I.below.size
/-- A slice of these dots. -/
def SlD (ls : List Dt) (v : Value) (x : World) : Prop := ∃ g, v = .slice (some ⟨g, 0, none⟩) ls.length ls.length ∧ x.heap[g]? = some (.cells (dots2 ls).toArray 25 (0, 0))
theorem SlD.up {ls : List Dt} {v : Value} {x y : World} (h : Below x.heap.size x y) : SlD ls v x → SlD ls v y := fun ⟨g, e, hr⟩ => ⟨g, e, (h.block _ (lt_of_row hr)).trans hr⟩
theorem SlD.open_ {ls : List Dt} {v : Value} {x : World} : SlD ls v x → ∃ g, v = .slice (some ⟨g, 0, none⟩) ls.length ls.length ∧ Dots x (· < x.heap.size) (some ⟨g, 0, none⟩) ls := fun ⟨g, e, hr⟩ => ⟨g, e, block_dots hr (lt_of_row hr)⟩
theorem eq4_same (q : Bool) {ev : Operand → Value} {o : Oper} {w : World} (x y : Operand) (ho : o.op = .binOp .eql 4 x y 4) (hx : ev x = .bool q) (hy : ev y = .bool q) : (execOp ev o).run Try.prog w = .ok (.value (.bool true)) w := by
  unfold execOp
  simp only [ho, hx, hy]
  cases q <;> go_simp

set_option maxRecDepth 100000 in
set_option maxHeartbeats 8000000 in
theorem law_whole (ls : List Dt) (c : Nat) (A : Option Addr) (d : Dt) (w : World) (hv : Dots w (· < w.heap.size) A ls) (hk : ∀ d ∈ ls, d.2 < 18446744073709551616) :
    Calls Try.prog 6 #[.slice A ls.length c, dotV d.1 d.2] w fun e w' => e = .returned (.bool true) ∧ Below w.heap.size w w' := by
  have HI : Hid (W4 w A ls d (w.alloc (.cells (dotC d) 25))) := Lib.hid ⟨hv.below (below1 _ _), DotAt.new w 25 d.1 d.2, below1 _ _⟩
  have HK := Lib.hid hk
  clear hv hk
  have HG := Lib.hid (great_any ls c A (w.alloc (.cells (dotC d) 25)))
  by_cases h60 : 60 < ls.length
  · rw [decide_eq_true h60] at HG
    clear h60
    go_enter Try.func6, Try.ntmps6
    go_wp2_with fail
    refine HG.out.mono ?_
    rintro e w1 ⟨rfl, rfl⟩
    go_wp2_with fail
    refine (alive4_any _).mono ?_
    rintro e w9 ⟨rfl, hb⟩
    have HB := Lib.hid (HI.out.below.trans (hb.mono (HI.out.below.size)))
    clear hb
    go_wp2
    go_ret
    exact ⟨rfl, HB.out⟩
  · rw [decide_eq_false h60] at HG
    have HL : Hid (ls.length ≤ 60) := Lib.hid (by omega)
    clear h60
    have HW := Lib.hid (dwhole_any ls c A (w.alloc (.cells (dotC d) 25)) HI.out.now (by have := HL.out; omega) HK.out)
    cases hwh : isWhole ls with
    | false =>
      rw [hwh] at HW
      clear hwh
      go_enter Try.func6, Try.ntmps6
      go_wp2_with fail
      refine HG.out.mono ?_
      rintro e w1 ⟨rfl, rfl⟩
      go_wp2_with fail
      refine HW.out.mono ?_
      rintro e w2 ⟨rfl, hb2⟩
      have HI2 := Lib.hid (HI.out.then_ hb2)
      clear hb2 HI HW HG
      go_wp2_with fail
      refine (alive4_any _).mono ?_
      rintro e w9 ⟨rfl, hb⟩
      have HB := Lib.hid (HI2.out.below.trans (hb.mono (HI2.out.below.size)))
      clear hb
      go_wp2
      go_ret
      exact ⟨rfl, HB.out⟩
    | true =>
      rw [hwh] at HW
      have HWH := Lib.hid hwh
      clear hwh
      have s25 : Hid ((Try.prog.info? 25).map (·.size) = some (dotC d).size) := Lib.hid (dot_size25 d)
      go_enter Try.func6, Try.ntmps6
      go_wp2_with fail
      refine HG.out.mono ?_
      rintro e w1 ⟨rfl, rfl⟩
      go_wp2_with fail
      refine HW.out.mono ?_
      rintro e w2 ⟨rfl, hb2⟩
      have HI2 := Lib.hid (HI.out.then_ hb2)
      clear hb2 HI HW HG
      have HR := Lib.hid (right_any d.1 d.2 w2)
      cases hrt : Vec.right d.1 d.2 with
      | false =>
        rw [hrt] at HR
        clear hrt
        have c0 := HI2.out.dot.node
        have c1 := HI2.out.dot.num
        go_wp2_with fail
        clear c0 c1
        refine HR.out.mono ?_
        rintro e w3 ⟨rfl, hb3⟩
        have HI3 := Lib.hid (HI2.out.then_ hb3)
        clear hb3 HI2 HR
        go_wp2_with fail
        refine (alive4_any _).mono ?_
        rintro e w9 ⟨rfl, hb⟩
        have HB := Lib.hid (HI3.out.below.trans (hb.mono (HI3.out.below.size)))
        clear hb
        go_wp2
        go_ret
        exact ⟨rfl, HB.out⟩
      | true =>
        rw [hrt] at HR
        obtain ⟨q, hq⟩ : ∃ q, q = decide (d ∈ ls) := ⟨_, rfl⟩
        have HQ := Lib.hid hq
        have HH : Hid (q = Vec.has (spanF ls) d.1 d.2) := Lib.hid (hq.trans (whole_has HWH.out hrt).symm)
        have HN := Lib.hid (whole_win HWH.out)
        clear hrt hq
        have c0 := HI2.out.dot.node
        have c1 := HI2.out.dot.num
        go_wp2_with fail
        clear c0 c1
        refine HR.out.mono ?_
        rintro e w3 ⟨rfl, hb3⟩
        have HI3 := Lib.hid (HI2.out.then_ hb3)
        clear hb3 HI2 HR
        go_wp2_with fail
        refine WM.wp_region_kinds (fun _ x y => Below x.heap.size x y) (fun _ x => W4 w A ls d x) (fun x => W4 w A ls d x)
          [(0, .val (.bool true) fun _ => True), (3, .val (dotV d.1 d.2) fun _ => True), (4, .val (.bool q) fun _ => True), (6, .val (vecV (spanF ls)) fun _ => True), (7, .val (dotV d.1 d.2) fun _ => True), (8, .val (.bool q) fun _ => True), (14, .val (vecV (spanF ls)) fun _ => True), (15, .mem (SlD ls)), (17, .val (.bool true) fun _ => True)] (by kernel_rfl) (by kernel_rfl) (fun _ _ _ hb h => W4.then_ hb h) (fun _ _ _ _ _ hb h => W4.then_ hb h) ?_ HI3.out.drew (fun _ => HI3.out.drew) ?_
        · intro z hz
          simp only [List.mem_cons, List.mem_nil_iff, or_false] at hz
          rcases hz with rfl | rfl | rfl | rfl | rfl | rfl | rfl | rfl | rfl <;> first | exact fun _ _ _ _ _ _ => trivial | exact fun _ _ _ _ _ hr => SlD.up hr
        refine WM.mono_val rfl rfl (fun x hD hF => ?_) ?_
        · go_simp
          refine (alive4_any x).mono ?_
          rintro e y ⟨rfl, hg⟩
          exact ⟨_, rfl, hg, rfl⟩
        apply Exists.intro
        refine ⟨by simp only [Act.put, List.setIfInBounds_toArray, List.set_cons_succ, List.set_cons_zero]; rfl, ?_⟩
        refine WM.mono_pure rfl rfl ?_
        refine ⟨.bool true, fun x => ?_, ?_⟩
        · go_simp
        apply Exists.intro
        refine ⟨by simp only [Act.put, List.setIfInBounds_toArray, List.set_cons_succ, List.set_cons_zero]; rfl, ?_⟩
        iterate 1
          refine WM.mono_pure rfl rfl ?_
          apply Exists.intro
          refine ⟨fun x => ?_, ?_⟩
          · go_simp
            rfl
          apply Exists.intro
          refine ⟨by simp only [Act.put, List.setIfInBounds_toArray, List.set_cons_succ, List.set_cons_zero]; rfl, ?_⟩
        refine WM.mono_val rfl rfl (fun x hD hF => ?_) ?_
        · have hl := run_loadVar_arr (P := Try.prog) x w.heap.size 0 25 (dotC d) _ hD.dot.range Try.underlying25 rfl (dot_size25 _)
          rw [exec_load 25 (.tmp 3) rfl w.heap.size 0 rfl hl]
          exact ⟨Below.refl _ _, rfl, trivial⟩
        apply Exists.intro
        refine ⟨by simp only [Act.put, List.setIfInBounds_toArray, List.set_cons_succ, List.set_cons_zero]; rfl, ?_⟩
        refine WM.mono_val rfl rfl (fun x hD hF => ?_) ?_
        · go_simp
          refine (dhas_any ls c A d x hD.now (by have := HL.out; omega)).mono ?_
          rintro e y ⟨rfl, hg⟩
          exact ⟨_, rfl, hg, by rw [HQ.out]⟩
        apply Exists.intro
        refine ⟨by simp only [Act.put, List.setIfInBounds_toArray, List.set_cons_succ, List.set_cons_zero]; rfl, ?_⟩
        iterate 1
          refine WM.mono_pure rfl rfl ?_
          apply Exists.intro
          refine ⟨fun x => ?_, ?_⟩
          · go_simp
            rfl
          apply Exists.intro
          refine ⟨by simp only [Act.put, List.setIfInBounds_toArray, List.set_cons_succ, List.set_cons_zero]; rfl, ?_⟩
        refine WM.mono_val rfl rfl (fun x hD hF => ?_) ?_
        · go_simp
          refine (dspan_any ls c A x hD.now (by have := HL.out; omega)).mono ?_
          rintro e y ⟨rfl, hg⟩
          exact ⟨_, rfl, hg, rfl⟩
        apply Exists.intro
        refine ⟨by simp only [Act.put, List.setIfInBounds_toArray, List.set_cons_succ, List.set_cons_zero]; rfl, ?_⟩
        refine WM.mono_val rfl rfl (fun x hD hF => ?_) ?_
        · have hl := run_loadVar_arr (P := Try.prog) x w.heap.size 0 25 (dotC d) _ hD.dot.range Try.underlying25 rfl (dot_size25 _)
          rw [exec_load 25 (.tmp 3) rfl w.heap.size 0 rfl hl]
          exact ⟨Below.refl _ _, rfl, trivial⟩
        apply Exists.intro
        refine ⟨by simp only [Act.put, List.setIfInBounds_toArray, List.set_cons_succ, List.set_cons_zero]; rfl, ?_⟩
        refine WM.mono_val rfl rfl (fun x hD hF => ?_) ?_
        · go_simp
          refine (has_any (spanF ls) d.1 d.2 x).mono ?_
          rintro e y ⟨rfl, hg⟩
          exact ⟨_, rfl, hg, by rw [HH.out]⟩
        apply Exists.intro
        refine ⟨by simp only [Act.put, List.setIfInBounds_toArray, List.set_cons_succ, List.set_cons_zero]; rfl, ?_⟩
        refine WM.mono_pure rfl rfl ?_
        refine ⟨.bool true, fun x => ?_, ?_⟩
        · exact eq4_same q (.tmp 22) (.tmp 26) rfl rfl rfl
        apply Exists.intro
        refine ⟨by simp only [Act.put, List.setIfInBounds_toArray, List.set_cons_succ, List.set_cons_zero]; rfl, ?_⟩
        refine WM.mono_pure rfl rfl ?_
        refine ⟨.bool true, fun x => ?_, ?_⟩
        · go_simp
        apply Exists.intro
        refine ⟨by simp only [Act.put, List.setIfInBounds_toArray, List.set_cons_succ, List.set_cons_zero]; rfl, ?_⟩
        refine WM.mono_pure rfl rfl ?_
        refine ⟨.bool true, fun x => ?_, ?_⟩
        · go_simp
        apply Exists.intro
        refine ⟨by simp only [Act.put, List.setIfInBounds_toArray, List.set_cons_succ, List.set_cons_zero]; rfl, ?_⟩
        iterate 2
          refine WM.mono_pure rfl rfl ?_
          apply Exists.intro
          refine ⟨fun x => ?_, ?_⟩
          · go_simp
            rfl
          apply Exists.intro
          refine ⟨by simp only [Act.put, List.setIfInBounds_toArray, List.set_cons_succ, List.set_cons_zero]; rfl, ?_⟩
        refine WM.mono_val rfl rfl (fun x hD hF => ?_) ?_
        · go_simp
          refine (dspan_any ls c A x hD.now (by have := HL.out; omega)).mono ?_
          rintro e y ⟨rfl, hg⟩
          exact ⟨_, rfl, hg, rfl⟩
        apply Exists.intro
        refine ⟨by simp only [Act.put, List.setIfInBounds_toArray, List.set_cons_succ, List.set_cons_zero]; rfl, ?_⟩
        refine WM.mono_mem rfl rfl (fun x hD hF => ?_) (fun v33 => ?_)
        · have h1 := dwithin_any (spanF ls) ls c A x hD.now (by have := HL.out; omega)
          rw [HN.out] at h1
          go_simp
          refine h1.mono ?_
          rintro e y ⟨g, rfl, _, hr, hg⟩
          exact ⟨_, rfl, hg, g, rfl, hr⟩
        apply Exists.intro
        refine ⟨by simp only [Act.put, List.setIfInBounds_toArray, List.set_cons_succ, List.set_cons_zero]; rfl, ?_⟩
        iterate 1
          refine WM.mono_pure rfl rfl ?_
          apply Exists.intro
          refine ⟨fun x => ?_, ?_⟩
          · go_simp
            rfl
          apply Exists.intro
          refine ⟨by simp only [Act.put, List.setIfInBounds_toArray, List.set_cons_succ, List.set_cons_zero]; rfl, ?_⟩
        refine WM.mono_val rfl rfl (fun x hD hF => ?_) ?_
        · obtain ⟨g, e1, hr⟩ := SlD.open_ (hF 15 _ 33 rfl rfl (by decide)).1
          subst e1
          go_simp
          refine (dsame_any ls ls _ c _ A x hr hD.now (by have := HL.out; omega)).mono ?_
          rintro e y ⟨rfl, hg⟩
          exact ⟨_, rfl, hg, by simp⟩
        apply Exists.intro
        refine ⟨by simp only [Act.put, List.setIfInBounds_toArray, List.set_cons_succ, List.set_cons_zero]; rfl, ?_⟩
        refine WM.mono_pure rfl rfl ?_
        refine ⟨.bool true, fun x => ?_, ?_⟩
        · go_simp
        apply Exists.intro
        refine ⟨by simp only [Act.put, List.setIfInBounds_toArray, List.set_cons_succ, List.set_cons_zero]; rfl, ?_⟩
        iterate 1
          refine WM.mono_pure rfl rfl ?_
          apply Exists.intro
          refine ⟨fun x => ?_, ?_⟩
          · go_simp
            rfl
          apply Exists.intro
          refine ⟨by simp only [Act.put, List.setIfInBounds_toArray, List.set_cons_succ, List.set_cons_zero]; rfl, ?_⟩
        refine WM.mono_nil ?_
        intro x hD hF
        have HX := Lib.hid hD
        clear hD hF HI3
        go_simp
        go_wp2
        go_ret
        exact ⟨rfl, HX.out.below⟩
end Go.Proofs.Ytnpacjdgbmldlaa
