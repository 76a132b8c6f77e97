/- The law CartDots of layer 6, walked. -/
import Derived.Test.YtnpacjdgbmldlaaCaD1
set_option linter.unusedVariables false
set_option linter.unusedSimpArgs false
namespace Go.Proofs.Ytnpacjdgbmldlaa
open Go.RowKit Go.Lib

set_option maxRecDepth 100000 in
set_option maxHeartbeats 1000000 in
theorem cgreat_any (f : Nat → Nat) (n c : Nat) (A : Option Addr) (w : World) : Calls Try.prog 46 #[cartV f A n c] w fun e w' => e = .returned (.bool (decide (60 < n))) ∧ RowKit.Below w.heap.size w w' := by
  have c8 := (CartAt.new w f A n c).c8
  have HB := Lib.hid (below1 w (.cells (cartC f A n c) 56))
  go_enter Try.func46, Try.ntmps46
  go_wp2
  go_ret
  refine ⟨ret_bool ?_, HB.out⟩
  rw [Bool.eq_iff_iff, decide_eq_true_eq, decide_eq_true_eq]
  omega
theorem rightC_all {f : Nat → Nat} {ls : List Ent} (h : rightC f ls = true) : ∀ e ∈ ls, e.right f = true := fun e he => by
  obtain ⟨i, hi, rfl⟩ := List.getElem_of_mem he
  unfold rightC at h
  simp only [Bool.and_eq_true] at h
  have h1 := List.all_eq_true.1 h.1.2 i (List.mem_range.2 hi)
  unfold stepR at h1
  simp only [Bool.and_eq_true] at h1
  have h2 := h1.1
  rw [List.getD_eq_getElem?_getD, List.getElem?_eq_getElem hi] at h2
  exact h2
theorem any_dot (ls : List Ent) (d : Dt) : ls.any (·.isDot d) = decide (d ∈ ls.map Ent.dot) := by
  rw [Bool.eq_iff_iff, List.any_eq_true, decide_eq_true_eq, List.mem_map]
  constructor
  · rintro ⟨e, he, h⟩
    simp only [Ent.isDot, decide_eq_true_eq] at h
    exact ⟨e, he, Prod.ext h.1 h.2⟩
  · rintro ⟨e, he, rfl⟩
    exact ⟨e, he, by simp [Ent.isDot, Ent.dot]⟩
theorem live_mem {ls : List Ent} (h : ls.length ≤ 2000) (d : Dt) : d ∈ liveE ls ↔ d ∈ ls.map Ent.dot ∧ Vec.right d.1 d.2 = true := by
  rw [liveE_of]
  exact of_mem (by rw [List.length_map]; exact h) d
theorem live_len (ls : List Ent) : (liveE ls).length ≤ ls.length := by
  unfold liveE
  refine Nat.le_trans ?_ (Nat.le_trans (List.length_filter_le (fun d : Dt => Vec.right d.1 d.2) (ls.map Ent.dot)) (by simp))
  unfold setF
  exact Nat.le_trans (List.length_take_le' _ _) (sortD_len _)
theorem cart_dots {f : Nat → Nat} {ls : List Ent} (hr : rightC f ls = true) (hl : ls.length ≤ 2000) (d : Dt) :
    (decide (d ∈ liveE ls) || offE f ls d) = Vec.has f d.1 d.2 ∧ (decide (d ∈ liveE ls) && offE f ls d) = false := by
  unfold offE
  rw [any_dot]
  by_cases hm : d ∈ ls.map Ent.dot
  · obtain ⟨e, he, rfl⟩ := List.mem_map.1 hm
    have h1 := rightC_all hr e he
    have h2 : Vec.has f e.dot.1 e.dot.2 = true := by
      unfold Ent.right at h1
      simp only [Bool.and_eq_true] at h1
      exact h1.2
    have h3 : Vec.right e.dot.1 e.dot.2 = true := by
      have h := h2
      unfold Vec.has at h
      simp only [Bool.and_eq_true] at h
      exact h.1
    rw [decide_eq_true ((live_mem hl e.dot).2 ⟨hm, h3⟩), decide_eq_true hm, h2]
    exact ⟨rfl, rfl⟩
  · rw [decide_eq_false (fun h => hm ((live_mem hl d).1 h).1), decide_eq_false hm]
    cases Vec.has f d.1 d.2 <;> exact ⟨rfl, rfl⟩
/-- The cart and the dot in their boxes. -/
structure CD (w : World) (f : Nat → Nat) (A : Option Addr) (c : Nat) (ls : List Ent) (d : Dt) (x : World) : Prop where
  c : CartAt x w.heap.size f A ls.length c
  d : DotAt x (w.heap.size + 1) 25 d.1 d.2
  v : Ents x (· < w.heap.size) A ls
  below : RowKit.Below w.heap.size w x
theorem CD.then_ {w x y : World} {f : Nat → Nat} {A : Option Addr} {c : Nat} {ls : List Ent} {d : Dt} (hb : RowKit.Below x.heap.size x y) (h : CD w f A c ls d x) : CD w f A c ls d y :=
  ⟨h.c.then_ hb, (hb.block _ (lt_of_row h.d)).trans h.d, h.v.below (hb.mono h.below.size), h.below.trans (hb.mono h.below.size)⟩
theorem CD.drew {w x : World} {f : Nat → Nat} {A : Option Addr} {c : Nat} {ls : List Ent} {d : Dt} (h : CD w f A c ls d x) : CD w f A c ls d x.drew := CD.then_ (x := x) (y := x.drew) ⟨rfl, rfl, rfl, Nat.le_refl _, fun _ _ => rfl⟩ h
theorem CD.start (w : World) {f : Nat → Nat} {A : Option Addr} {c : Nat} {ls : List Ent} (d : Dt) (hv : Ents w (· < w.heap.size) A ls) : CD w f A c ls d ((w.alloc (.cells (cartC f A ls.length c) 56)).alloc (.cells #[.int .i64 d.1, .int .u64 (d.2 : Int)] 25)) := by
  have h1 := CartAt.new w f A ls.length c
  have h := DotAt.new (w.alloc (.cells (cartC f A ls.length c) 56)) 25 d.1 d.2
  rw [World.size_alloc] at h
  exact ⟨h1.then_ (below1 _ _), h, hv.below (below2 _ _ _), below2 _ _ _⟩
def LvD (ls : List Ent) (v : Value) (x : World) : Prop := ∃ g, v = .slice (some ⟨g, 0, none⟩) (liveE ls).length (liveE ls).length ∧ x.heap[g]? = some (.cells (dots2 (liveE ls)).toArray 25 (0, 0))

set_option maxRecDepth 100000 in
set_option maxHeartbeats 8000000 in
theorem law_cdots (f : Nat → Nat) (ls : List Ent) (c : Nat) (A : Option Addr) (d : Dt) (w : World) (hv : Ents w (· < w.heap.size) A ls) :
    Calls Try.prog 8 #[cartV f A ls.length c, dotV d.1 d.2] w fun e w' => e = .returned (.bool true) ∧ RowKit.Below w.heap.size w w' := by
  obtain ⟨w1, hw1⟩ : ∃ w1, w1 = (w.alloc (.cells (cartC f A ls.length c) 56)).alloc (.cells #[.int .i64 d.1, .int .u64 (d.2 : Int)] 25) := ⟨_, rfl⟩
  have HX : Hid (CD w f A c ls d w1) := Lib.hid (by rw [hw1]; exact CD.start w d hv)
  have HW := Lib.hid hw1
  have HR := Lib.hid HX.out.c.range
  have HG := Lib.hid (cgreat_any f ls.length c A w1)
  have s56 := Lib.hid (cart_size56 f A ls.length c)
  have s27 := Lib.hid (size27f f)
  have s25 := Lib.hid (dot_size25 d)
  clear hv hw1
  go_enter Try.func8, Try.ntmps8
  by_cases hbig : 60 < ls.length
  · rw [decide_eq_true hbig] at HG
    go_wp2_with (first
      | (rw [← HW.out]; refine wpList_load_arr rfl 56 _ rfl w.heap.size 0 rfl (cartC f A ls.length c) _ HR.out Try.underlying56 rfl s56.out ?_)
      | fail)
    refine HG.out.mono ?_
    rintro e w2 ⟨rfl, hb⟩
    replace HX := Lib.hid (HX.out.then_ hb)
    clear hb HG HR HW
    have HA := Lib.hid (alive6_any w2)
    go_wp2_with fail
    refine HA.out.mono ?_
    rintro e y ⟨rfl, hb⟩
    replace HX := Lib.hid (HX.out.then_ hb)
    clear hb HA
    go_wp2_with fail
    go_ret
    exact ⟨rfl, HX.out.below⟩
  rw [decide_eq_false hbig] at HG
  have HM : Hid (ls.length ≤ 100000) := Lib.hid (by omega)
  have HM2 : Hid (ls.length ≤ 2000) := Lib.hid (by omega)
  go_wp2_with (first
    | (rw [← HW.out]; refine wpList_load_arr rfl 56 _ rfl w.heap.size 0 rfl (cartC f A ls.length c) _ HR.out Try.underlying56 rfl s56.out ?_)
    | fail)
  refine HG.out.mono ?_
  rintro e w2 ⟨rfl, hb⟩
  replace HX := Lib.hid (HX.out.then_ hb)
  replace HR := Lib.hid HX.out.c.range
  clear hb HG HW
  have HRT := Lib.hid (cartRight_any f ls c A w2 (HX.out.v.loose fun b hb => Nat.lt_of_lt_of_le hb HX.out.below.size) HM.out)
  cases hrt : rightC f ls with
  | false =>
    rw [hrt] at HRT
    clear hrt
    go_wp2_with (first
      | (refine wpList_load_arrW (by go_simp) 56 _ rfl w.heap.size 0 rfl (cartC f A ls.length c) _ HR.out Try.underlying56 rfl s56.out ?_)
      | fail)
    refine HRT.out.mono ?_
    rintro e w3 ⟨rfl, hb⟩
    replace HX := Lib.hid (HX.out.then_ hb)
    clear hb HRT HR
    have HA := Lib.hid (alive6_any w3)
    go_wp2_with fail
    refine HA.out.mono ?_
    rintro e y ⟨rfl, hb⟩
    replace HX := Lib.hid (HX.out.then_ hb)
    clear hb HA
    go_wp2_with fail
    go_ret
    exact ⟨rfl, HX.out.below⟩
  | true =>
    rw [hrt] at HRT
    have hcd := cart_dots hrt HM2.out d
    have HLL : Hid ((liveE ls).length ≤ 9223372036854775807) := Lib.hid (by have := live_len ls; have := HM2.out; omega)
    obtain ⟨l, hl⟩ : ∃ l, l = decide (d ∈ liveE ls) := ⟨_, rfl⟩
    obtain ⟨o, ho⟩ : ∃ o, o = offE f ls d := ⟨_, rfl⟩
    obtain ⟨h, hh⟩ : ∃ h, h = Vec.has f d.1 d.2 := ⟨_, rfl⟩
    rw [← hl, ← ho, ← hh] at hcd
    have HL := Lib.hid hl.symm
    have HO := Lib.hid ho.symm
    have HH := Lib.hid hh.symm
    have HCD := Lib.hid hcd
    clear hrt hl ho hh hcd
    go_wp2_with (first
      | (refine wpList_load_arrW (by go_simp) 56 _ rfl w.heap.size 0 rfl (cartC f A ls.length c) _ HR.out Try.underlying56 rfl s56.out ?_)
      | fail)
    refine HRT.out.mono ?_
    rintro e w3 ⟨rfl, hb⟩
    replace HX := Lib.hid (HX.out.then_ hb)
    clear hb HRT HR
    go_wp2_with fail
    refine WM.wp_region_kinds (fun _ x y => RowKit.Below x.heap.size x y) (fun _ x => CD w f A c ls d x) (fun x => CD w f A c ls d x)
      [(0, .val (cartV f A ls.length c) fun _ => True), (1, .mem (LvD ls)), (2, .val (dotV d.1 d.2) fun _ => True), (3, .val (.bool l) fun _ => True), (4, .val (cartV f A ls.length c) fun _ => True), (5, .val (dotV d.1 d.2) fun _ => True), (6, .val (.bool o) fun _ => True)] (by kernel_rfl) (by kernel_rfl) (fun _ _ _ hb h => h.then_ hb) (fun _ _ _ _ _ hb h => h.then_ hb) ?_ HX.out.drew (fun _ => HX.out.drew) ?_
    · intro z hz
      simp only [List.mem_cons, List.mem_nil_iff, or_false] at hz
      rcases hz with rfl | rfl | rfl | rfl | rfl | rfl | rfl
      · exact fun _ _ _ _ _ _ => trivial
      · exact fun j v x y _ hr ⟨g, e, h⟩ => ⟨g, e, (hr.block _ (lt_of_row h)).trans h⟩
      iterate 5 exact fun _ _ _ _ _ _ => trivial
    refine WM.mono_val rfl rfl (fun x hD hF => ?_) ?_
    · have hl := run_loadVar_arr (P := Try.prog) x w.heap.size 0 56 (cartC f A ls.length c) _ hD.c.range Try.underlying56 rfl (cart_size56 _ _ _ _)
      rw [exec_load 56 (.tmp 2) rfl w.heap.size 0 rfl hl]
      exact ⟨RowKit.Below.refl _ _, rfl, trivial⟩
    apply Exists.intro
    refine ⟨by simp only [Act.put, List.setIfInBounds_toArray, List.set_cons_succ, List.set_cons_zero]; rfl, ?_⟩
    refine WM.mono_mem rfl rfl (fun x hD hF => ?_) (fun v16 => ?_)
    · go_simp
      refine (live_any f ls c A x (hD.v.loose fun b hb => Nat.lt_of_lt_of_le hb hD.below.size) HM.out).mono ?_
      rintro e y ⟨g, rfl, _, hr, hb⟩
      exact ⟨_, rfl, hb, g, rfl, hr⟩
    apply Exists.intro
    refine ⟨by simp only [Act.put, List.setIfInBounds_toArray, List.set_cons_succ, List.set_cons_zero]; rfl, ?_⟩
    refine WM.mono_val rfl rfl (fun x hD hF => ?_) ?_
    · have hl := run_loadVar_arr (P := Try.prog) x (w.heap.size + 1) 0 25 _ _ hD.d.range Try.underlying25 rfl size25
      rw [exec_load 25 (.tmp 3) rfl (w.heap.size + 1) 0 rfl hl]
      exact ⟨RowKit.Below.refl _ _, rfl, trivial⟩
    apply Exists.intro
    refine ⟨by simp only [Act.put, List.setIfInBounds_toArray, List.set_cons_succ, List.set_cons_zero]; rfl, ?_⟩
    refine WM.mono_val rfl rfl (fun x hD hF => ?_) ?_
    · obtain ⟨g, e1, hg⟩ : LvD ls v16 x := (hF 1 _ 16 rfl rfl (by decide)).1
      subst e1
      have h1 := dhas_any (liveE ls) (liveE ls).length (some ⟨g, 0, none⟩) d x (block_dots hg (lt_of_row hg)) HLL.out
      rw [HL.out] at h1
      go_simp
      refine h1.mono ?_
      rintro e y ⟨rfl, hb⟩
      exact ⟨_, rfl, hb, rfl⟩
    apply Exists.intro
    refine ⟨by simp only [Act.put, List.setIfInBounds_toArray, List.set_cons_succ, List.set_cons_zero]; rfl, ?_⟩
    refine WM.mono_val rfl rfl (fun x hD hF => ?_) ?_
    · have hl := run_loadVar_arr (P := Try.prog) x w.heap.size 0 56 (cartC f A ls.length c) _ hD.c.range Try.underlying56 rfl (cart_size56 _ _ _ _)
      rw [exec_load 56 (.tmp 2) rfl w.heap.size 0 rfl hl]
      exact ⟨RowKit.Below.refl _ _, rfl, trivial⟩
    apply Exists.intro
    refine ⟨by simp only [Act.put, List.setIfInBounds_toArray, List.set_cons_succ, List.set_cons_zero]; rfl, ?_⟩
    refine WM.mono_val rfl rfl (fun x hD hF => ?_) ?_
    · have hl := run_loadVar_arr (P := Try.prog) x (w.heap.size + 1) 0 25 _ _ hD.d.range Try.underlying25 rfl size25
      rw [exec_load 25 (.tmp 3) rfl (w.heap.size + 1) 0 rfl hl]
      exact ⟨RowKit.Below.refl _ _, rfl, trivial⟩
    apply Exists.intro
    refine ⟨by simp only [Act.put, List.setIfInBounds_toArray, List.set_cons_succ, List.set_cons_zero]; rfl, ?_⟩
    refine WM.mono_val rfl rfl (fun x hD hF => ?_) ?_
    · have h1 := isoff_any f ls c A d x (hD.v.loose fun b hb => Nat.lt_of_lt_of_le hb hD.below.size) HM.out
      rw [HO.out] at h1
      go_simp
      refine h1.mono ?_
      rintro e y ⟨rfl, hb⟩
      exact ⟨_, rfl, hb, rfl⟩
    apply Exists.intro
    refine ⟨by simp only [Act.put, List.setIfInBounds_toArray, List.set_cons_succ, List.set_cons_zero]; rfl, ?_⟩
    iterate 2
      refine WM.mono_pure rfl rfl ?_
      apply Exists.intro
      refine ⟨fun x => ?_, ?_⟩
      · go_simp
        rfl
      apply Exists.intro
      refine ⟨by simp only [Act.put, List.setIfInBounds_toArray, List.set_cons_succ, List.set_cons_zero]; rfl, ?_⟩
    refine WM.mono_nil ?_
    intro x hD hF
    replace HX := Lib.hid hD
    clear hD hF
    go_simp
    obtain ⟨q1, q2⟩ := HCD.out
    clear HCD HL HO
    cases l <;> cases o <;> cases h <;> simp only [Bool.or_true, Bool.or_false, Bool.and_true, Bool.and_false, Bool.true_eq_false, Bool.false_eq_true, reduceCtorEq] at q1 q2
    all_goals
      have HA := Lib.hid (alive6_any x)
      go_wp2_with fail
      refine HA.out.mono ?_
      rintro e y ⟨rfl, hb⟩
      replace HX := Lib.hid (HX.out.then_ hb)
      clear hb HA
      have HV27 := Lib.hid HX.out.c.vec
      have HR25 := Lib.hid HX.out.d.range
      have HH1 := has_any f d.1 d.2 y
      rw [HH.out] at HH1
      have HHC := Lib.hid HH1
      clear HH1
      go_wp2_with (first
        | (refine wpList_load_arrW (by go_simp) 27 _ rfl w.heap.size 0 rfl (arrOf .u64 8 f) _ HV27.out Try.underlying27 rfl s27.out ?_)
        | (refine wpList_load_arrW (by go_simp) 25 _ rfl (w.heap.size + 1) 0 rfl (dotC d) _ HR25.out Try.underlying25 rfl s25.out ?_)
        | fail)
      refine HHC.out.mono ?_
      rintro e z ⟨rfl, hb⟩
      replace HX := Lib.hid (HX.out.then_ hb)
      clear hb
      go_wp2_with fail
      go_ret
      exact ⟨rfl, HX.out.below⟩
end Go.Proofs.Ytnpacjdgbmldlaa
