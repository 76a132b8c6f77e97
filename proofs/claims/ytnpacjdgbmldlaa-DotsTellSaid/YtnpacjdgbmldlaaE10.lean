/- The law DotsSets of layer 4, walked. -/
import Derived.Test.YtnpacjdgbmldlaaE9
namespace Go.Proofs.Ytnpacjdgbmldlaa
open Go.RowKit Go.Shelf Go.Lib Go.Sort Wr

/-- The arguments, and the dot in its box. -/
structure A4 (w : World) (A B : Option Addr) (xs ys : List Dt) (d : Dt) (x : World) : Prop where
  da : Dots x (· < w.heap.size) A xs
  db : Dots x (· < w.heap.size) B ys
  dot : DotAt x w.heap.size 25 d.1 d.2
  below : Below w.heap.size w x
theorem A4.then_ {w x y : World} {A B : Option Addr} {xs ys : List Dt} {d : Dt} (hb : Below x.heap.size x y) (h : A4 w A B xs ys d x) : A4 w A B xs ys d y := ⟨h.da.below (hb.mono h.below.size), h.db.below (hb.mono h.below.size), h.dot.below hb h.dot.lt, h.below.trans (hb.mono h.below.size)⟩
theorem drewB (x : World) : Below x.heap.size x x.drew := ⟨rfl, rfl, rfl, Nat.le_refl _, fun _ _ => rfl⟩
theorem A4.drew {w x : World} {A B : Option Addr} {xs ys : List Dt} {d : Dt} (I : A4 w A B xs ys d x) : A4 w A B xs ys d x.drew := I.then_ (drewB x)
theorem A4.a {w x : World} {A B : Option Addr} {xs ys : List Dt} {d : Dt} (I : A4 w A B xs ys d x) : Dots x (· < x.heap.size) A xs := I.da.loose fun _ h => Nat.lt_of_lt_of_le h I.below.size
theorem A4.b {w x : World} {A B : Option Addr} {xs ys : List Dt} {d : Dt} (I : A4 w A B xs ys d x) : Dots x (· < x.heap.size) B ys := I.db.loose fun _ h => Nat.lt_of_lt_of_le h I.below.size
/-- .. and three sets. -/
structure A7 (w : World) (A B : Option Addr) (xs ys : List Dt) (d : Dt) (g h k : Nat) (J M N : List Dt) (x : World) : Prop extends A4 w A B xs ys d x where
  j : x.heap[g]? = some (.cells (dots2 J).toArray 25 (0, 0))
  m : x.heap[h]? = some (.cells (dots2 M).toArray 25 (0, 0))
  n : x.heap[k]? = some (.cells (dots2 N).toArray 25 (0, 0))
theorem A7.then_ {w x y : World} {A B : Option Addr} {xs ys : List Dt} {d : Dt} {g h k : Nat} {J M N : List Dt} (hb : Below x.heap.size x y) (I : A7 w A B xs ys d g h k J M N x) : A7 w A B xs ys d g h k J M N y := ⟨I.toA4.then_ hb, (hb.block _ (lt_of_row I.j)).trans I.j, (hb.block _ (lt_of_row I.m)).trans I.m, (hb.block _ (lt_of_row I.n)).trans I.n⟩
theorem A7.drew {w x : World} {A B : Option Addr} {xs ys : List Dt} {d : Dt} {g h k : Nat} {J M N : List Dt} (I : A7 w A B xs ys d g h k J M N x) : A7 w A B xs ys d g h k J M N x.drew := I.then_ (drewB x)
theorem A7.dj {w x : World} {A B : Option Addr} {xs ys : List Dt} {d : Dt} {g h k : Nat} {J M N : List Dt} (I : A7 w A B xs ys d g h k J M N x) : Dots x (· < x.heap.size) (some ⟨g, 0, none⟩) J := block_dots I.j (lt_of_row I.j)
theorem A7.dm {w x : World} {A B : Option Addr} {xs ys : List Dt} {d : Dt} {g h k : Nat} {J M N : List Dt} (I : A7 w A B xs ys d g h k J M N x) : Dots x (· < x.heap.size) (some ⟨h, 0, none⟩) M := block_dots I.m (lt_of_row I.m)
theorem A7.dn {w x : World} {A B : Option Addr} {xs ys : List Dt} {d : Dt} {g h k : Nat} {J M N : List Dt} (I : A7 w A B xs ys d g h k J M N x) : Dots x (· < x.heap.size) (some ⟨k, 0, none⟩) N := block_dots I.n (lt_of_row I.n)

set_option maxRecDepth 100000 in
set_option maxHeartbeats 8000000 in
theorem law_sets (xs ys : List Dt) (c c' : Nat) (A B : Option Addr) (d : Dt) (w : World) (hx : Dots w (· < w.heap.size) A xs) (hy : Dots w (· < w.heap.size) B ys) :
    Calls Try.prog 5 #[.slice A xs.length c, .slice B ys.length c', dotV d.1 d.2] w fun e w' => e = .returned (.bool true) ∧ Below w.heap.size w w' := by
  have HI : Hid (A4 w A B xs ys d (w.alloc (.cells (dotC d) 25))) := Lib.hid ⟨hx.below (below1 _ _), hy.below (below1 _ _), DotAt.new w 25 d.1 d.2, below1 _ _⟩
  clear hx hy
  have HG := Lib.hid (great_any xs c A (w.alloc (.cells (dotC d) 25)))
  by_cases h60 : 60 < xs.length
  · rw [decide_eq_true h60] at HG
    clear h60
    go_enter Try.func5, Try.ntmps5
    go_wp2_with fail
    refine HG.out.mono ?_
    rintro e w1 ⟨rfl, rfl⟩
    go_wp2_with fail
    refine (alive4_any _).mono ?_
    rintro e w9 ⟨rfl, hb⟩
    have HB := Lib.hid (HI.out.below.trans (hb.mono HI.out.below.size))
    clear hb
    go_wp2
    go_ret
    exact ⟨rfl, HB.out⟩
  · rw [decide_eq_false h60] at HG
    have HL : Hid (xs.length ≤ 60) := Lib.hid (by omega)
    clear h60
    have HG2 := Lib.hid (great_any ys c' B (w.alloc (.cells (dotC d) 25)))
    by_cases h61 : 60 < ys.length
    · rw [decide_eq_true h61] at HG2
      clear h61
      go_enter Try.func5, Try.ntmps5
      go_wp2_with fail
      refine HG.out.mono ?_
      rintro e w1 ⟨rfl, rfl⟩
      go_wp2_with fail
      refine HG2.out.mono ?_
      rintro e w1 ⟨rfl, rfl⟩
      go_wp2_with fail
      refine (alive4_any _).mono ?_
      rintro e w9 ⟨rfl, hb⟩
      have HB := Lib.hid (HI.out.below.trans (hb.mono HI.out.below.size))
      clear hb
      go_wp2
      go_ret
      exact ⟨rfl, HB.out⟩
    · rw [decide_eq_false h61] at HG2
      have HL2 : Hid (ys.length ≤ 60) := Lib.hid (by omega)
      clear h61
      have HR := Lib.hid (right_any d.1 d.2 (w.alloc (.cells (dotC d) 25)))
      cases hrt : Vec.right d.1 d.2 with
      | false =>
        rw [hrt] at HR
        clear hrt
        go_enter Try.func5, Try.ntmps5
        go_wp2_with fail
        refine HG.out.mono ?_
        rintro e w1 ⟨rfl, rfl⟩
        go_wp2_with fail
        refine HG2.out.mono ?_
        rintro e w1 ⟨rfl, rfl⟩
        have c0 := HI.out.dot.node
        have c1 := HI.out.dot.num
        go_wp2_with fail
        clear c0 c1
        refine HR.out.mono ?_
        rintro e w3 ⟨rfl, hb3⟩
        replace HI := Lib.hid (HI.out.then_ hb3)
        clear hb3 HR
        go_wp2_with fail
        refine (alive4_any _).mono ?_
        rintro e w9 ⟨rfl, hb⟩
        have HB := Lib.hid (HI.out.below.trans (hb.mono HI.out.below.size))
        clear hb
        go_wp2
        go_ret
        exact ⟨rfl, HB.out⟩
      | true =>
        rw [hrt] at HR
        obtain ⟨p, hp⟩ : ∃ p, p = decide (d ∈ xs) := ⟨_, rfl⟩
        obtain ⟨q, hq⟩ : ∃ q, q = decide (d ∈ ys) := ⟨_, rfl⟩
        obtain ⟨J, hJ⟩ : ∃ J, J = ofF (xs ++ ys) := ⟨_, rfl⟩
        obtain ⟨M, hM⟩ : ∃ M, M = ofF (someF xs ys true) := ⟨_, rfl⟩
        obtain ⟨N, hN⟩ : ∃ N, N = ofF (someF xs ys false) := ⟨_, rfl⟩
        obtain ⟨O, hO⟩ : ∃ O, O = ofF xs := ⟨_, rfl⟩
        have hl1 : (xs ++ ys).length ≤ 2000 := by have := HL.out; have := HL2.out; rw [List.length_append]; omega
        have hl2 : xs.length ≤ 2000 := by have := HL.out; omega
        have hl3 : xs.length + ys.length ≤ 2000 := by have := HL.out; have := HL2.out; omega
        have HP := Lib.hid hp
        have HQ := Lib.hid hq
        have HJ := Lib.hid hJ
        have HM := Lib.hid hM
        have HN := Lib.hid hN
        have HO := Lib.hid hO
        have HJS : Hid (isSet J = true) := Lib.hid (by rw [hJ]; exact of_set hl1)
        have HMS : Hid (isSet M = true) := Lib.hid (by rw [hM]; exact of_set (Nat.le_trans some_len hl2))
        have HNS : Hid (isSet N = true) := Lib.hid (by rw [hN]; exact of_set (Nat.le_trans some_len hl2))
        have HJD : Hid (decide (d ∈ J) = (p || q)) := Lib.hid (by rw [hJ, hp, hq]; exact join_mem hl3 hrt)
        have HMD : Hid (decide (d ∈ M) = (p && q)) := Lib.hid (by rw [hM, hp, hq]; exact meet_mem hl2 hrt)
        have HND : Hid (decide (d ∈ N) = (p && !q)) := Lib.hid (by rw [hN, hp, hq]; exact minus_mem hl2 hrt)
        have HJC : Hid (ofF (ys ++ xs) = J) := Lib.hid (by rw [hJ]; exact of_comm hl3)
        have HPS : Hid (((M.length : Int) + (N.length : Int)) = (O.length : Int)) := Lib.hid (by rw [hM, hN, hO]; have := of_parts (ys := ys) hl2; omega)
        have HJL : Hid (J.length ≤ 2000) := Lib.hid (by rw [hJ]; exact Nat.le_trans (of_len hl1) hl1)
        have HML : Hid (M.length ≤ 2000) := Lib.hid (by rw [hM]; exact Nat.le_trans (of_len (Nat.le_trans some_len hl2)) (Nat.le_trans some_len hl2))
        have HNL : Hid (N.length ≤ 2000) := Lib.hid (by rw [hN]; exact Nat.le_trans (of_len (Nat.le_trans some_len hl2)) (Nat.le_trans some_len hl2))
        clear hrt hp hq hJ hM hN hO hl1 hl2 hl3
        go_enter Try.func5, Try.ntmps5
        go_wp2_with fail
        refine HG.out.mono ?_
        rintro e w1 ⟨rfl, rfl⟩
        go_wp2_with fail
        refine HG2.out.mono ?_
        rintro e w1 ⟨rfl, rfl⟩
        have c0 := HI.out.dot.node
        have c1 := HI.out.dot.num
        go_wp2_with fail
        clear c0 c1
        refine HR.out.mono ?_
        rintro e w3 ⟨rfl, hb3⟩
        replace HI := Lib.hid (HI.out.then_ hb3)
        clear hb3 HR
        go_wp2_with fail
        refine WM.wp_region_kinds (fun _ x y => Below x.heap.size x y) (fun _ x => A4 w A B xs ys d x) (fun x => A4 w A B xs ys d x)
          [(1, .val (dotV d.1 d.2) fun _ => True), (2, .val (.bool p) fun _ => True), (4, .val (dotV d.1 d.2) fun _ => True), (5, .val (.bool q) fun _ => True)] (by kernel_rfl) (by kernel_rfl) (fun _ _ _ hb h => h.then_ hb) (fun _ _ _ _ _ hb h => h.then_ hb) ?_ HI.out.drew (fun _ => HI.out.drew) ?_
        · intro z hz
          simp only [List.mem_cons, List.mem_nil_iff, or_false] at hz
          rcases hz with rfl | rfl | rfl | rfl <;> first | exact fun _ _ _ _ _ _ => trivial | exact fun _ _ _ _ _ hr => SlD.up hr
        iterate 1
          refine WM.mono_pure rfl rfl ?_
          apply Exists.intro
          refine ⟨fun x => ?_, ?_⟩
          · go_simp
            rfl
          apply Exists.intro
          refine ⟨by simp only [Act.put, List.setIfInBounds_toArray, List.set_cons_succ, List.set_cons_zero]; rfl, ?_⟩
        refine WM.mono_val rfl rfl (fun x hD hF => ?_) ?_
        · have hl := run_loadVar_arr (P := Try.prog) x w.heap.size 0 25 (dotC d) _ hD.dot.range Try.underlying25 rfl (dot_size25 _)
          rw [exec_load 25 (.tmp 5) rfl w.heap.size 0 rfl hl]
          exact ⟨Below.refl _ _, rfl, trivial⟩
        apply Exists.intro
        refine ⟨by simp only [Act.put, List.setIfInBounds_toArray, List.set_cons_succ, List.set_cons_zero]; rfl, ?_⟩
        refine WM.mono_val rfl rfl (fun x hD hF => ?_) ?_
        · go_simp
          refine (dhas_any xs c A d x hD.a (by have := HL.out; omega)).mono ?_
          rintro e y ⟨rfl, hg⟩
          exact ⟨_, rfl, hg, by rw [HP.out]⟩
        apply Exists.intro
        refine ⟨by simp only [Act.put, List.setIfInBounds_toArray, List.set_cons_succ, List.set_cons_zero]; rfl, ?_⟩
        iterate 1
          refine WM.mono_pure rfl rfl ?_
          apply Exists.intro
          refine ⟨fun x => ?_, ?_⟩
          · go_simp
            rfl
          apply Exists.intro
          refine ⟨by simp only [Act.put, List.setIfInBounds_toArray, List.set_cons_succ, List.set_cons_zero]; rfl, ?_⟩
        refine WM.mono_val rfl rfl (fun x hD hF => ?_) ?_
        · have hl := run_loadVar_arr (P := Try.prog) x w.heap.size 0 25 (dotC d) _ hD.dot.range Try.underlying25 rfl (dot_size25 _)
          rw [exec_load 25 (.tmp 5) rfl w.heap.size 0 rfl hl]
          exact ⟨Below.refl _ _, rfl, trivial⟩
        apply Exists.intro
        refine ⟨by simp only [Act.put, List.setIfInBounds_toArray, List.set_cons_succ, List.set_cons_zero]; rfl, ?_⟩
        refine WM.mono_val rfl rfl (fun x hD hF => ?_) ?_
        · go_simp
          refine (dhas_any ys c' B d x hD.b (by have := HL2.out; omega)).mono ?_
          rintro e y ⟨rfl, hg⟩
          exact ⟨_, rfl, hg, by rw [HQ.out]⟩
        apply Exists.intro
        refine ⟨by simp only [Act.put, List.setIfInBounds_toArray, List.set_cons_succ, List.set_cons_zero]; rfl, ?_⟩
        iterate 2
          refine WM.mono_pure rfl rfl ?_
          apply Exists.intro
          refine ⟨fun x => ?_, ?_⟩
          · go_simp
            rfl
          apply Exists.intro
          refine ⟨by simp only [Act.put, List.setIfInBounds_toArray, List.set_cons_succ, List.set_cons_zero]; rfl, ?_⟩
        refine WM.mono_nil ?_
        intro x hD hF
        replace HI := Lib.hid hD
        clear hD hF
        have HC1 := Lib.hid (djoin_any xs ys c c' A B x HI.out.a HI.out.b (by have := HL.out; omega) (by have := HL2.out; omega))
        rw [← HJ.out] at HC1
        go_wp2_with fail
        refine HC1.out.mono ?_
        rintro e w4 ⟨g, rfl, _, hg, hb4⟩
        replace HI := Lib.hid (HI.out.then_ hb4)
        have HGJ := Lib.hid hg
        clear hg hb4 HC1
        have HC2 := Lib.hid (meet_any 35 true (.inl ⟨rfl, rfl⟩) xs ys c c' A B w4 HI.out.a HI.out.b (by have := HL.out; omega) (by have := HL2.out; omega))
        rw [← HM.out] at HC2
        go_wp2_with fail
        refine HC2.out.mono ?_
        rintro e w5 ⟨h, rfl, _, hg, hb5⟩
        replace HI := Lib.hid (HI.out.then_ hb5)
        replace HGJ := Lib.hid ((hb5.block _ (lt_of_row HGJ.out)).trans HGJ.out)
        have HGM := Lib.hid hg
        clear hg hb5 HC2
        have HC3 := Lib.hid (meet_any 37 false (.inr ⟨rfl, rfl⟩) xs ys c c' A B w5 HI.out.a HI.out.b (by have := HL.out; omega) (by have := HL2.out; omega))
        rw [← HN.out] at HC3
        go_wp2_with fail
        refine HC3.out.mono ?_
        rintro e w6 ⟨k, rfl, _, hg, hb6⟩
        have HS : Hid (A7 w A B xs ys d g h k J M N w6) := Lib.hid ⟨HI.out.then_ hb6, (hb6.block _ (lt_of_row HGJ.out)).trans HGJ.out, (hb6.block _ (lt_of_row HGM.out)).trans HGM.out, hg⟩
        have eW : IntKind.i64.wrap (O.length : Int) = (O.length : Int) := by have := HML.out; have := HNL.out; have := HPS.out; rw [IntKind.wrap_i64]; omega
        have HEW := Lib.hid eW
        clear hg hb6 HC3 HI HGJ HGM eW HP HQ
        cases p with
        | false =>
          cases q with
          | false =>
            go_wp2_with fail
            refine (alive4_any _).mono ?_
            rintro e x ⟨rfl, hb⟩
            replace HS := Lib.hid (HS.out.then_ hb)
            clear hb
            go_wp2_with fail
            refine (show Calls Try.prog 20 #[.slice (some ⟨g, 0, none⟩) J.length _] _ (fun e w' => e = .returned (.bool true) ∧ Below _ _ w') from by have h := dright_any J J.length (some ⟨g, 0, none⟩) _ HS.out.dj (by have := HJL.out; omega); rw [HJS.out] at h; exact h).mono ?_
            rintro e x ⟨rfl, hb⟩
            replace HS := Lib.hid (HS.out.then_ hb)
            clear hb
            go_wp2_with fail
            refine (show Calls Try.prog 20 #[.slice (some ⟨h, 0, none⟩) M.length _] _ (fun e w' => e = .returned (.bool true) ∧ Below _ _ w') from by have h := dright_any M M.length (some ⟨h, 0, none⟩) _ HS.out.dm (by have := HML.out; omega); rw [HMS.out] at h; exact h).mono ?_
            rintro e x ⟨rfl, hb⟩
            replace HS := Lib.hid (HS.out.then_ hb)
            clear hb
            go_wp2_with fail
            refine (show Calls Try.prog 20 #[.slice (some ⟨k, 0, none⟩) N.length _] _ (fun e w' => e = .returned (.bool true) ∧ Below _ _ w') from by have h := dright_any N N.length (some ⟨k, 0, none⟩) _ HS.out.dn (by have := HNL.out; omega); rw [HNS.out] at h; exact h).mono ?_
            rintro e x ⟨rfl, hb⟩
            replace HS := Lib.hid (HS.out.then_ hb)
            clear hb
            have c0 := HS.out.dot.node
            have c1 := HS.out.dot.num
            go_wp2_with fail
            clear c0 c1
            refine (show Calls Try.prog 24 #[.slice (some ⟨g, 0, none⟩) J.length _, dotV d.1 d.2] _ (fun e w' => e = .returned (.bool false) ∧ Below _ _ w') from by have h := dhas_any J J.length (some ⟨g, 0, none⟩) d _ HS.out.dj (by have := HJL.out; omega); rw [HJD.out] at h; exact h).mono ?_
            rintro e x ⟨rfl, hb⟩
            replace HS := Lib.hid (HS.out.then_ hb)
            clear hb
            have c0 := HS.out.dot.node
            have c1 := HS.out.dot.num
            go_wp2_with fail
            clear c0 c1
            refine (show Calls Try.prog 24 #[.slice (some ⟨h, 0, none⟩) M.length _, dotV d.1 d.2] _ (fun e w' => e = .returned (.bool false) ∧ Below _ _ w') from by have h := dhas_any M M.length (some ⟨h, 0, none⟩) d _ HS.out.dm (by have := HML.out; omega); rw [HMD.out] at h; exact h).mono ?_
            rintro e x ⟨rfl, hb⟩
            replace HS := Lib.hid (HS.out.then_ hb)
            clear hb
            have c0 := HS.out.dot.node
            have c1 := HS.out.dot.num
            go_wp2_with fail
            clear c0 c1
            refine (show Calls Try.prog 24 #[.slice (some ⟨k, 0, none⟩) N.length _, dotV d.1 d.2] _ (fun e w' => e = .returned (.bool false) ∧ Below _ _ w') from by have h := dhas_any N N.length (some ⟨k, 0, none⟩) d _ HS.out.dn (by have := HNL.out; omega); rw [HND.out] at h; exact h).mono ?_
            rintro e x ⟨rfl, hb⟩
            replace HS := Lib.hid (HS.out.then_ hb)
            clear hb
            have h1 := djoin_any ys xs c' c B A _ HS.out.b HS.out.a (by have := HL2.out; omega) (by have := HL.out; omega)
            rw [HJC.out] at h1
            have H1 := Lib.hid h1
            clear h1
            go_wp2_with fail
            refine H1.out.mono ?_
            rintro e x ⟨g2, rfl, _, hr, hb⟩
            replace HS := Lib.hid (HS.out.then_ hb)
            have HR2 := Lib.hid (block_dots (ok := fun b => b < x.heap.size) hr (lt_of_row hr))
            clear hb hr H1
            have H1 := Lib.hid (dsame_any J J J.length J.length (some ⟨g, 0, none⟩) (some ⟨g2, 0, none⟩) _ HS.out.dj HR2.out (by have := HJL.out; omega))
            rw [decide_eq_true (rfl : J = J)] at H1
            go_wp2_with fail
            refine H1.out.mono ?_
            rintro e x ⟨rfl, hb⟩
            replace HS := Lib.hid (HS.out.then_ hb)
            clear hb HR2 H1
            have h1 := dof_any xs c A _ HS.out.a (by have := HL.out; omega)
            rw [setF_rt, ← HO.out] at h1
            have H1 := Lib.hid h1
            have eW := HEW.out
            have hps := HPS.out
            clear h1
            go_wp2_with fail
            refine H1.out.mono ?_
            rintro e x ⟨g3, rfl, _, hr, hb⟩
            have HX := Lib.hid (HS.out.then_ hb)
            clear hb hr H1 HS
            go_wp2
            go_ret
            exact ⟨rfl, HX.out.below⟩
          | true =>
            go_wp2_with fail
            refine (alive4_any _).mono ?_
            rintro e x ⟨rfl, hb⟩
            replace HS := Lib.hid (HS.out.then_ hb)
            clear hb
            go_wp2_with fail
            refine (show Calls Try.prog 20 #[.slice (some ⟨g, 0, none⟩) J.length _] _ (fun e w' => e = .returned (.bool true) ∧ Below _ _ w') from by have h := dright_any J J.length (some ⟨g, 0, none⟩) _ HS.out.dj (by have := HJL.out; omega); rw [HJS.out] at h; exact h).mono ?_
            rintro e x ⟨rfl, hb⟩
            replace HS := Lib.hid (HS.out.then_ hb)
            clear hb
            go_wp2_with fail
            refine (show Calls Try.prog 20 #[.slice (some ⟨h, 0, none⟩) M.length _] _ (fun e w' => e = .returned (.bool true) ∧ Below _ _ w') from by have h := dright_any M M.length (some ⟨h, 0, none⟩) _ HS.out.dm (by have := HML.out; omega); rw [HMS.out] at h; exact h).mono ?_
            rintro e x ⟨rfl, hb⟩
            replace HS := Lib.hid (HS.out.then_ hb)
            clear hb
            go_wp2_with fail
            refine (show Calls Try.prog 20 #[.slice (some ⟨k, 0, none⟩) N.length _] _ (fun e w' => e = .returned (.bool true) ∧ Below _ _ w') from by have h := dright_any N N.length (some ⟨k, 0, none⟩) _ HS.out.dn (by have := HNL.out; omega); rw [HNS.out] at h; exact h).mono ?_
            rintro e x ⟨rfl, hb⟩
            replace HS := Lib.hid (HS.out.then_ hb)
            clear hb
            have c0 := HS.out.dot.node
            have c1 := HS.out.dot.num
            go_wp2_with fail
            clear c0 c1
            refine (show Calls Try.prog 24 #[.slice (some ⟨g, 0, none⟩) J.length _, dotV d.1 d.2] _ (fun e w' => e = .returned (.bool true) ∧ Below _ _ w') from by have h := dhas_any J J.length (some ⟨g, 0, none⟩) d _ HS.out.dj (by have := HJL.out; omega); rw [HJD.out] at h; exact h).mono ?_
            rintro e x ⟨rfl, hb⟩
            replace HS := Lib.hid (HS.out.then_ hb)
            clear hb
            have c0 := HS.out.dot.node
            have c1 := HS.out.dot.num
            go_wp2_with fail
            clear c0 c1
            refine (show Calls Try.prog 24 #[.slice (some ⟨h, 0, none⟩) M.length _, dotV d.1 d.2] _ (fun e w' => e = .returned (.bool false) ∧ Below _ _ w') from by have h := dhas_any M M.length (some ⟨h, 0, none⟩) d _ HS.out.dm (by have := HML.out; omega); rw [HMD.out] at h; exact h).mono ?_
            rintro e x ⟨rfl, hb⟩
            replace HS := Lib.hid (HS.out.then_ hb)
            clear hb
            have c0 := HS.out.dot.node
            have c1 := HS.out.dot.num
            go_wp2_with fail
            clear c0 c1
            refine (show Calls Try.prog 24 #[.slice (some ⟨k, 0, none⟩) N.length _, dotV d.1 d.2] _ (fun e w' => e = .returned (.bool false) ∧ Below _ _ w') from by have h := dhas_any N N.length (some ⟨k, 0, none⟩) d _ HS.out.dn (by have := HNL.out; omega); rw [HND.out] at h; exact h).mono ?_
            rintro e x ⟨rfl, hb⟩
            replace HS := Lib.hid (HS.out.then_ hb)
            clear hb
            have h1 := djoin_any ys xs c' c B A _ HS.out.b HS.out.a (by have := HL2.out; omega) (by have := HL.out; omega)
            rw [HJC.out] at h1
            have H1 := Lib.hid h1
            clear h1
            go_wp2_with fail
            refine H1.out.mono ?_
            rintro e x ⟨g2, rfl, _, hr, hb⟩
            replace HS := Lib.hid (HS.out.then_ hb)
            have HR2 := Lib.hid (block_dots (ok := fun b => b < x.heap.size) hr (lt_of_row hr))
            clear hb hr H1
            have H1 := Lib.hid (dsame_any J J J.length J.length (some ⟨g, 0, none⟩) (some ⟨g2, 0, none⟩) _ HS.out.dj HR2.out (by have := HJL.out; omega))
            rw [decide_eq_true (rfl : J = J)] at H1
            go_wp2_with fail
            refine H1.out.mono ?_
            rintro e x ⟨rfl, hb⟩
            replace HS := Lib.hid (HS.out.then_ hb)
            clear hb HR2 H1
            have h1 := dof_any xs c A _ HS.out.a (by have := HL.out; omega)
            rw [setF_rt, ← HO.out] at h1
            have H1 := Lib.hid h1
            have eW := HEW.out
            have hps := HPS.out
            clear h1
            go_wp2_with fail
            refine H1.out.mono ?_
            rintro e x ⟨g3, rfl, _, hr, hb⟩
            have HX := Lib.hid (HS.out.then_ hb)
            clear hb hr H1 HS
            go_wp2
            go_ret
            exact ⟨rfl, HX.out.below⟩
        | true =>
          cases q with
          | false =>
            go_wp2_with fail
            refine (alive4_any _).mono ?_
            rintro e x ⟨rfl, hb⟩
            replace HS := Lib.hid (HS.out.then_ hb)
            clear hb
            go_wp2_with fail
            refine (show Calls Try.prog 20 #[.slice (some ⟨g, 0, none⟩) J.length _] _ (fun e w' => e = .returned (.bool true) ∧ Below _ _ w') from by have h := dright_any J J.length (some ⟨g, 0, none⟩) _ HS.out.dj (by have := HJL.out; omega); rw [HJS.out] at h; exact h).mono ?_
            rintro e x ⟨rfl, hb⟩
            replace HS := Lib.hid (HS.out.then_ hb)
            clear hb
            go_wp2_with fail
            refine (show Calls Try.prog 20 #[.slice (some ⟨h, 0, none⟩) M.length _] _ (fun e w' => e = .returned (.bool true) ∧ Below _ _ w') from by have h := dright_any M M.length (some ⟨h, 0, none⟩) _ HS.out.dm (by have := HML.out; omega); rw [HMS.out] at h; exact h).mono ?_
            rintro e x ⟨rfl, hb⟩
            replace HS := Lib.hid (HS.out.then_ hb)
            clear hb
            go_wp2_with fail
            refine (show Calls Try.prog 20 #[.slice (some ⟨k, 0, none⟩) N.length _] _ (fun e w' => e = .returned (.bool true) ∧ Below _ _ w') from by have h := dright_any N N.length (some ⟨k, 0, none⟩) _ HS.out.dn (by have := HNL.out; omega); rw [HNS.out] at h; exact h).mono ?_
            rintro e x ⟨rfl, hb⟩
            replace HS := Lib.hid (HS.out.then_ hb)
            clear hb
            have c0 := HS.out.dot.node
            have c1 := HS.out.dot.num
            go_wp2_with fail
            clear c0 c1
            refine (show Calls Try.prog 24 #[.slice (some ⟨g, 0, none⟩) J.length _, dotV d.1 d.2] _ (fun e w' => e = .returned (.bool true) ∧ Below _ _ w') from by have h := dhas_any J J.length (some ⟨g, 0, none⟩) d _ HS.out.dj (by have := HJL.out; omega); rw [HJD.out] at h; exact h).mono ?_
            rintro e x ⟨rfl, hb⟩
            replace HS := Lib.hid (HS.out.then_ hb)
            clear hb
            have c0 := HS.out.dot.node
            have c1 := HS.out.dot.num
            go_wp2_with fail
            clear c0 c1
            refine (show Calls Try.prog 24 #[.slice (some ⟨h, 0, none⟩) M.length _, dotV d.1 d.2] _ (fun e w' => e = .returned (.bool false) ∧ Below _ _ w') from by have h := dhas_any M M.length (some ⟨h, 0, none⟩) d _ HS.out.dm (by have := HML.out; omega); rw [HMD.out] at h; exact h).mono ?_
            rintro e x ⟨rfl, hb⟩
            replace HS := Lib.hid (HS.out.then_ hb)
            clear hb
            have c0 := HS.out.dot.node
            have c1 := HS.out.dot.num
            go_wp2_with fail
            clear c0 c1
            refine (show Calls Try.prog 24 #[.slice (some ⟨k, 0, none⟩) N.length _, dotV d.1 d.2] _ (fun e w' => e = .returned (.bool true) ∧ Below _ _ w') from by have h := dhas_any N N.length (some ⟨k, 0, none⟩) d _ HS.out.dn (by have := HNL.out; omega); rw [HND.out] at h; exact h).mono ?_
            rintro e x ⟨rfl, hb⟩
            replace HS := Lib.hid (HS.out.then_ hb)
            clear hb
            have h1 := djoin_any ys xs c' c B A _ HS.out.b HS.out.a (by have := HL2.out; omega) (by have := HL.out; omega)
            rw [HJC.out] at h1
            have H1 := Lib.hid h1
            clear h1
            go_wp2_with fail
            refine H1.out.mono ?_
            rintro e x ⟨g2, rfl, _, hr, hb⟩
            replace HS := Lib.hid (HS.out.then_ hb)
            have HR2 := Lib.hid (block_dots (ok := fun b => b < x.heap.size) hr (lt_of_row hr))
            clear hb hr H1
            have H1 := Lib.hid (dsame_any J J J.length J.length (some ⟨g, 0, none⟩) (some ⟨g2, 0, none⟩) _ HS.out.dj HR2.out (by have := HJL.out; omega))
            rw [decide_eq_true (rfl : J = J)] at H1
            go_wp2_with fail
            refine H1.out.mono ?_
            rintro e x ⟨rfl, hb⟩
            replace HS := Lib.hid (HS.out.then_ hb)
            clear hb HR2 H1
            have h1 := dof_any xs c A _ HS.out.a (by have := HL.out; omega)
            rw [setF_rt, ← HO.out] at h1
            have H1 := Lib.hid h1
            have eW := HEW.out
            have hps := HPS.out
            clear h1
            go_wp2_with fail
            refine H1.out.mono ?_
            rintro e x ⟨g3, rfl, _, hr, hb⟩
            have HX := Lib.hid (HS.out.then_ hb)
            clear hb hr H1 HS
            go_wp2
            go_ret
            exact ⟨rfl, HX.out.below⟩
          | true =>
            go_wp2_with fail
            refine (alive4_any _).mono ?_
            rintro e x ⟨rfl, hb⟩
            replace HS := Lib.hid (HS.out.then_ hb)
            clear hb
            go_wp2_with fail
            refine (show Calls Try.prog 20 #[.slice (some ⟨g, 0, none⟩) J.length _] _ (fun e w' => e = .returned (.bool true) ∧ Below _ _ w') from by have h := dright_any J J.length (some ⟨g, 0, none⟩) _ HS.out.dj (by have := HJL.out; omega); rw [HJS.out] at h; exact h).mono ?_
            rintro e x ⟨rfl, hb⟩
            replace HS := Lib.hid (HS.out.then_ hb)
            clear hb
            go_wp2_with fail
            refine (show Calls Try.prog 20 #[.slice (some ⟨h, 0, none⟩) M.length _] _ (fun e w' => e = .returned (.bool true) ∧ Below _ _ w') from by have h := dright_any M M.length (some ⟨h, 0, none⟩) _ HS.out.dm (by have := HML.out; omega); rw [HMS.out] at h; exact h).mono ?_
            rintro e x ⟨rfl, hb⟩
            replace HS := Lib.hid (HS.out.then_ hb)
            clear hb
            go_wp2_with fail
            refine (show Calls Try.prog 20 #[.slice (some ⟨k, 0, none⟩) N.length _] _ (fun e w' => e = .returned (.bool true) ∧ Below _ _ w') from by have h := dright_any N N.length (some ⟨k, 0, none⟩) _ HS.out.dn (by have := HNL.out; omega); rw [HNS.out] at h; exact h).mono ?_
            rintro e x ⟨rfl, hb⟩
            replace HS := Lib.hid (HS.out.then_ hb)
            clear hb
            have c0 := HS.out.dot.node
            have c1 := HS.out.dot.num
            go_wp2_with fail
            clear c0 c1
            refine (show Calls Try.prog 24 #[.slice (some ⟨g, 0, none⟩) J.length _, dotV d.1 d.2] _ (fun e w' => e = .returned (.bool true) ∧ Below _ _ w') from by have h := dhas_any J J.length (some ⟨g, 0, none⟩) d _ HS.out.dj (by have := HJL.out; omega); rw [HJD.out] at h; exact h).mono ?_
            rintro e x ⟨rfl, hb⟩
            replace HS := Lib.hid (HS.out.then_ hb)
            clear hb
            have c0 := HS.out.dot.node
            have c1 := HS.out.dot.num
            go_wp2_with fail
            clear c0 c1
            refine (show Calls Try.prog 24 #[.slice (some ⟨h, 0, none⟩) M.length _, dotV d.1 d.2] _ (fun e w' => e = .returned (.bool true) ∧ Below _ _ w') from by have h := dhas_any M M.length (some ⟨h, 0, none⟩) d _ HS.out.dm (by have := HML.out; omega); rw [HMD.out] at h; exact h).mono ?_
            rintro e x ⟨rfl, hb⟩
            replace HS := Lib.hid (HS.out.then_ hb)
            clear hb
            have c0 := HS.out.dot.node
            have c1 := HS.out.dot.num
            go_wp2_with fail
            clear c0 c1
            refine (show Calls Try.prog 24 #[.slice (some ⟨k, 0, none⟩) N.length _, dotV d.1 d.2] _ (fun e w' => e = .returned (.bool false) ∧ Below _ _ w') from by have h := dhas_any N N.length (some ⟨k, 0, none⟩) d _ HS.out.dn (by have := HNL.out; omega); rw [HND.out] at h; exact h).mono ?_
            rintro e x ⟨rfl, hb⟩
            replace HS := Lib.hid (HS.out.then_ hb)
            clear hb
            have h1 := djoin_any ys xs c' c B A _ HS.out.b HS.out.a (by have := HL2.out; omega) (by have := HL.out; omega)
            rw [HJC.out] at h1
            have H1 := Lib.hid h1
            clear h1
            go_wp2_with fail
            refine H1.out.mono ?_
            rintro e x ⟨g2, rfl, _, hr, hb⟩
            replace HS := Lib.hid (HS.out.then_ hb)
            have HR2 := Lib.hid (block_dots (ok := fun b => b < x.heap.size) hr (lt_of_row hr))
            clear hb hr H1
            have H1 := Lib.hid (dsame_any J J J.length J.length (some ⟨g, 0, none⟩) (some ⟨g2, 0, none⟩) _ HS.out.dj HR2.out (by have := HJL.out; omega))
            rw [decide_eq_true (rfl : J = J)] at H1
            go_wp2_with fail
            refine H1.out.mono ?_
            rintro e x ⟨rfl, hb⟩
            replace HS := Lib.hid (HS.out.then_ hb)
            clear hb HR2 H1
            have h1 := dof_any xs c A _ HS.out.a (by have := HL.out; omega)
            rw [setF_rt, ← HO.out] at h1
            have H1 := Lib.hid h1
            have eW := HEW.out
            have hps := HPS.out
            clear h1
            go_wp2_with fail
            refine H1.out.mono ?_
            rintro e x ⟨g3, rfl, _, hr, hb⟩
            have HX := Lib.hid (HS.out.then_ hb)
            clear hb hr H1 HS
            go_wp2
            go_ret
            exact ⟨rfl, HX.out.below⟩
end Go.Proofs.Ytnpacjdgbmldlaa
