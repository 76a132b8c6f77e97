/- Right of the reference. -/
import Derived.Test.YtnpacjdgbmldlaaD4
namespace Go.Proofs.Ytnpacjdgbmldlaa
open Go.RowKit
structure DL (w : World) (A : Option Addr) (ls : List Dt) (x : World) : Prop where
  l : Dots x (· < w.heap.size) A ls
  below : Below w.heap.size w x
theorem DL.then_ {w x y : World} {A : Option Addr} {ls : List Dt} (hb : Below x.heap.size x y) (I : DL w A ls x) : DL w A ls y := ⟨I.l.below (hb.mono I.below.size), I.below.trans (hb.mono I.below.size)⟩
theorem DL.drew {w x : World} {A : Option Addr} {ls : List Dt} (I : DL w A ls x) : DL w A ls x.drew := DL.then_ (x := x) (y := x.drew) ⟨rfl, rfl, rfl, Nat.le_refl _, fun _ _ => rfl⟩ I

set_option maxRecDepth 100000 in
set_option maxHeartbeats 4000000 in
theorem drightR_any (ls : List Dt) (c : Nat) (A : Option Addr) (w : World) (hv : Dots w (· < w.heap.size) A ls) (hm : ls.length ≤ 9223372036854775806) :
    Calls Try.prog 21 #[.slice A ls.length c] w fun e w' => e = .returned (.bool (isSet ls)) ∧ Below w.heap.size w w' := by
  have HV := Lib.hid hv
  have HM := Lib.hid hm
  clear hv hm
  go_enter Try.func21, Try.ntmps21
  go_wp2
  go_loopw [3] (fun v wr => ∃ j : Nat, j ≤ ls.length ∧ v = .int .i64 j ∧ Hid (∀ i, i < j → dgood ls i = true) ∧ Hid (Dots wr (· < w.heap.size) A ls) ∧ Hid (Below w.heap.size w wr)) (fun v _ => ls.length - (intOf v).toNat)
  case atStart => exact ⟨0, by omega, rfl, fun i hi => by omega, HV, Below.refl _ _⟩
  case round =>
    clear HV
    obtain ⟨j, hj, rfl, HN, HV, HB⟩ := hrel
    by_cases hlt : j < ls.length
    · obtain ⟨b, o, hA⟩ := HV.out.some_ (by omega)
      subst hA
      obtain ⟨d, hd⟩ : ∃ d, d = ls.getD j (0, 0) := ⟨_, rfl⟩
      have HD := Lib.hid hd
      have HI : Hid (DL w (some ⟨b, o, none⟩) ls wr) := Lib.hid ⟨HV.out, HB.out⟩
      have HLT := Lib.hid hlt
      have eJ : IntKind.i64.wrap ((j : Int) + 1) = (j : Int) + 1 := by have := HM.out; rw [IntKind.wrap_i64]; omega
      clear hd HV HB
      go_wp2_with fail
      cases hrt : Vec.right d.1 d.2 with
      | false =>
        have HR := Lib.hid hrt
        have HG : Hid (dgood ls j = false) := Lib.hid (dgood_right (by rw [← HD.out]; exact hrt))
        clear hrt
        refine WM.wp_region_kinds (fun _ x y => Below x.heap.size x y) (fun _ x => DL w (some ⟨b, o, none⟩) ls x) (fun x => DL w (some ⟨b, o, none⟩) ls x)
          [(3, .val (dotV d.1 d.2) fun _ => True), (4, .val (.bool false) fun _ => True)] (by kernel_rfl) (by kernel_rfl) (fun _ _ _ hb h => DL.then_ hb h) (fun _ _ _ _ _ hb h => DL.then_ hb h) ?_ HI.out.drew (fun _ => HI.out.drew) ?_
        · intro z hz
          simp only [List.mem_cons, List.mem_nil_iff, or_false] at hz
          rcases hz with rfl | rfl <;> exact fun _ _ _ _ _ _ => trivial
        iterate 2
          refine WM.mono_pure rfl rfl ?_
          apply Exists.intro
          refine ⟨fun x => ?_, ?_⟩
          · go_simp
            rfl
          apply Exists.intro
          refine ⟨by simp only [Act.put, List.setIfInBounds_toArray, List.set_cons_succ, List.set_cons_zero]; rfl, ?_⟩
        refine WM.mono_pure rfl rfl ?_
        refine ⟨.pointer (some ⟨b, o + j * 2, none⟩), fun x => ?_, ?_⟩
        · go_simp
        apply Exists.intro
        refine ⟨by simp only [Act.put, List.setIfInBounds_toArray, List.set_cons_succ, List.set_cons_zero]; rfl, ?_⟩
        refine WM.mono_val rfl rfl (fun x hD hF => ?_) ?_
        · have hl := run_loadVar_arr (P := Try.prog) x b (o + j * 2) 35 (dotC d) _ (by rw [HD.out]; exact hD.l.at_j HLT.out) Try.underlying35 rfl size35
          rw [exec_load 35 (.tmp 12) rfl b (o + j * 2) rfl hl]
          exact ⟨Below.refl _ _, rfl, trivial⟩
        apply Exists.intro
        refine ⟨by simp only [Act.put, List.setIfInBounds_toArray, List.set_cons_succ, List.set_cons_zero]; rfl, ?_⟩
        refine WM.mono_val rfl rfl (fun x hD hF => ?_) ?_
        · go_simp
          refine (rightR_any d.1 d.2 x).mono ?_
          rintro e y ⟨rfl, hg⟩
          exact ⟨_, rfl, hg, by rw [HR.out]⟩
        apply Exists.intro
        refine ⟨by simp only [Act.put, List.setIfInBounds_toArray, List.set_cons_succ, List.set_cons_zero]; rfl, ?_⟩
        refine WM.mono_pure rfl rfl ?_
        refine ⟨.bool true, fun x => ?_, ?_⟩
        · go_simp
        apply Exists.intro
        refine ⟨by simp only [Act.put, List.setIfInBounds_toArray, List.set_cons_succ, List.set_cons_zero]; rfl, ?_⟩
        refine WM.mono_pure rfl rfl ?_
        refine ⟨.bool true, fun x => ?_, ?_⟩
        · go_simp
        apply Exists.intro
        refine ⟨by simp only [Act.put, List.setIfInBounds_toArray, List.set_cons_succ, List.set_cons_zero]; rfl, ?_⟩
        refine WM.mono_skip rfl ?_
        apply Exists.intro
        refine ⟨by simp only [Act.put, List.setIfInBounds_toArray, List.set_cons_succ, List.set_cons_zero]; rfl, ?_⟩
        refine WM.mono_skip rfl ?_
        apply Exists.intro
        refine ⟨by simp only [Act.put, List.setIfInBounds_toArray, List.set_cons_succ, List.set_cons_zero]; rfl, ?_⟩
        refine WM.mono_skip rfl ?_
        apply Exists.intro
        refine ⟨by simp only [Act.put, List.setIfInBounds_toArray, List.set_cons_succ, List.set_cons_zero]; rfl, ?_⟩
        refine WM.mono_skip rfl ?_
        apply Exists.intro
        refine ⟨by simp only [Act.put, List.setIfInBounds_toArray, List.set_cons_succ, List.set_cons_zero]; rfl, ?_⟩
        refine WM.mono_skip rfl ?_
        apply Exists.intro
        refine ⟨by simp only [Act.put, List.setIfInBounds_toArray, List.set_cons_succ, List.set_cons_zero]; rfl, ?_⟩
        refine WM.mono_skip rfl ?_
        apply Exists.intro
        refine ⟨by simp only [Act.put, List.setIfInBounds_toArray, List.set_cons_succ, List.set_cons_zero]; rfl, ?_⟩
        refine WM.mono_skip rfl ?_
        apply Exists.intro
        refine ⟨by simp only [Act.put, List.setIfInBounds_toArray, List.set_cons_succ, List.set_cons_zero]; rfl, ?_⟩
        refine WM.mono_skip rfl ?_
        apply Exists.intro
        refine ⟨by simp only [Act.put, List.setIfInBounds_toArray, List.set_cons_succ, List.set_cons_zero]; rfl, ?_⟩
        refine WM.mono_skip rfl ?_
        apply Exists.intro
        refine ⟨by simp only [Act.put, List.setIfInBounds_toArray, List.set_cons_succ, List.set_cons_zero]; rfl, ?_⟩
        refine WM.mono_skip rfl ?_
        apply Exists.intro
        refine ⟨by simp only [Act.put, List.setIfInBounds_toArray, List.set_cons_succ, List.set_cons_zero]; rfl, ?_⟩
        refine WM.mono_skip rfl ?_
        apply Exists.intro
        refine ⟨by simp only [Act.put, List.setIfInBounds_toArray, List.set_cons_succ, List.set_cons_zero]; rfl, ?_⟩
        refine WM.mono_skip rfl ?_
        apply Exists.intro
        refine ⟨by simp only [Act.put, List.setIfInBounds_toArray, List.set_cons_succ, List.set_cons_zero]; rfl, ?_⟩
        refine WM.mono_skip rfl ?_
        apply Exists.intro
        refine ⟨by simp only [Act.put, List.setIfInBounds_toArray, List.set_cons_succ, List.set_cons_zero]; rfl, ?_⟩
        refine WM.mono_skip rfl ?_
        apply Exists.intro
        refine ⟨by simp only [Act.put, List.setIfInBounds_toArray, List.set_cons_succ, List.set_cons_zero]; rfl, ?_⟩
        refine WM.mono_skip rfl ?_
        apply Exists.intro
        refine ⟨by simp only [Act.put, List.setIfInBounds_toArray, List.set_cons_succ, List.set_cons_zero]; rfl, ?_⟩
        refine WM.mono_pure rfl rfl ?_
        refine ⟨.bool true, fun x => ?_, ?_⟩
        · go_simp
        apply Exists.intro
        refine ⟨by simp only [Act.put, List.setIfInBounds_toArray, List.set_cons_succ, List.set_cons_zero]; rfl, ?_⟩
        refine WM.mono_nil ?_
        intro x hD hF
        have HX := Lib.hid hD
        clear hD hF HI
        go_simp
        go_wp2
        go_ret
        exact ⟨ret_bool (isSet_bad HLT.out HG.out).symm, HX.out.below⟩
      | true =>
        have HR := Lib.hid hrt
        clear hrt
        by_cases h0 : j = 0
        · subst h0
          have HG : Hid (dgood ls 0 = true) := Lib.hid (dgood_zero (by rw [← HD.out]; exact HR.out))
          clear eJ
          refine WM.wp_region_kinds (fun _ x y => Below x.heap.size x y) (fun _ x => DL w (some ⟨b, o, none⟩) ls x) (fun x => DL w (some ⟨b, o, none⟩) ls x)
            [(3, .val (dotV d.1 d.2) fun _ => True), (4, .val (.bool true) fun _ => True)] (by kernel_rfl) (by kernel_rfl) (fun _ _ _ hb h => DL.then_ hb h) (fun _ _ _ _ _ hb h => DL.then_ hb h) ?_ HI.out.drew (fun _ => HI.out.drew) ?_
          · intro z hz
            simp only [List.mem_cons, List.mem_nil_iff, or_false] at hz
            rcases hz with rfl | rfl <;> exact fun _ _ _ _ _ _ => trivial
          iterate 2
            refine WM.mono_pure rfl rfl ?_
            apply Exists.intro
            refine ⟨fun x => ?_, ?_⟩
            · go_simp
              rfl
            apply Exists.intro
            refine ⟨by simp only [Act.put, List.setIfInBounds_toArray, List.set_cons_succ, List.set_cons_zero]; rfl, ?_⟩
          refine WM.mono_pure rfl rfl ?_
          refine ⟨.pointer (some ⟨b, o + 0 * 2, none⟩), fun x => ?_, ?_⟩
          · go_simp
          apply Exists.intro
          refine ⟨by simp only [Act.put, List.setIfInBounds_toArray, List.set_cons_succ, List.set_cons_zero]; rfl, ?_⟩
          refine WM.mono_val rfl rfl (fun x hD hF => ?_) ?_
          · have hl := run_loadVar_arr (P := Try.prog) x b (o + 0 * 2) 35 (dotC d) _ (by rw [HD.out]; exact hD.l.at_j HLT.out) Try.underlying35 rfl size35
            rw [exec_load 35 (.tmp 12) rfl b (o + 0 * 2) rfl hl]
            exact ⟨Below.refl _ _, rfl, trivial⟩
          apply Exists.intro
          refine ⟨by simp only [Act.put, List.setIfInBounds_toArray, List.set_cons_succ, List.set_cons_zero]; rfl, ?_⟩
          refine WM.mono_val rfl rfl (fun x hD hF => ?_) ?_
          · go_simp
            refine (rightR_any d.1 d.2 x).mono ?_
            rintro e y ⟨rfl, hg⟩
            exact ⟨_, rfl, hg, by rw [HR.out]⟩
          apply Exists.intro
          refine ⟨by simp only [Act.put, List.setIfInBounds_toArray, List.set_cons_succ, List.set_cons_zero]; rfl, ?_⟩
          refine WM.mono_pure rfl rfl ?_
          refine ⟨.bool false, fun x => ?_, ?_⟩
          · go_simp
          apply Exists.intro
          refine ⟨by simp only [Act.put, List.setIfInBounds_toArray, List.set_cons_succ, List.set_cons_zero]; rfl, ?_⟩
          refine WM.mono_pure rfl rfl ?_
          refine ⟨.bool false, fun x => ?_, ?_⟩
          · go_simp
          apply Exists.intro
          refine ⟨by simp only [Act.put, List.setIfInBounds_toArray, List.set_cons_succ, List.set_cons_zero]; rfl, ?_⟩
          iterate 1
            refine WM.mono_pure rfl rfl ?_
            apply Exists.intro
            refine ⟨fun x => ?_, ?_⟩
            · go_simp
              rfl
            apply Exists.intro
            refine ⟨by simp only [Act.put, List.setIfInBounds_toArray, List.set_cons_succ, List.set_cons_zero]; rfl, ?_⟩
          refine WM.mono_pure rfl rfl ?_
          refine ⟨.bool false, fun x => ?_, ?_⟩
          · go_simp
          apply Exists.intro
          refine ⟨by simp only [Act.put, List.setIfInBounds_toArray, List.set_cons_succ, List.set_cons_zero]; rfl, ?_⟩
          refine WM.mono_pure rfl rfl ?_
          refine ⟨.bool false, fun x => ?_, ?_⟩
          · go_simp
          apply Exists.intro
          refine ⟨by simp only [Act.put, List.setIfInBounds_toArray, List.set_cons_succ, List.set_cons_zero]; rfl, ?_⟩
          refine WM.mono_skip rfl ?_
          apply Exists.intro
          refine ⟨by simp only [Act.put, List.setIfInBounds_toArray, List.set_cons_succ, List.set_cons_zero]; rfl, ?_⟩
          refine WM.mono_skip rfl ?_
          apply Exists.intro
          refine ⟨by simp only [Act.put, List.setIfInBounds_toArray, List.set_cons_succ, List.set_cons_zero]; rfl, ?_⟩
          refine WM.mono_skip rfl ?_
          apply Exists.intro
          refine ⟨by simp only [Act.put, List.setIfInBounds_toArray, List.set_cons_succ, List.set_cons_zero]; rfl, ?_⟩
          refine WM.mono_skip rfl ?_
          apply Exists.intro
          refine ⟨by simp only [Act.put, List.setIfInBounds_toArray, List.set_cons_succ, List.set_cons_zero]; rfl, ?_⟩
          refine WM.mono_skip rfl ?_
          apply Exists.intro
          refine ⟨by simp only [Act.put, List.setIfInBounds_toArray, List.set_cons_succ, List.set_cons_zero]; rfl, ?_⟩
          refine WM.mono_skip rfl ?_
          apply Exists.intro
          refine ⟨by simp only [Act.put, List.setIfInBounds_toArray, List.set_cons_succ, List.set_cons_zero]; rfl, ?_⟩
          refine WM.mono_skip rfl ?_
          apply Exists.intro
          refine ⟨by simp only [Act.put, List.setIfInBounds_toArray, List.set_cons_succ, List.set_cons_zero]; rfl, ?_⟩
          refine WM.mono_skip rfl ?_
          apply Exists.intro
          refine ⟨by simp only [Act.put, List.setIfInBounds_toArray, List.set_cons_succ, List.set_cons_zero]; rfl, ?_⟩
          refine WM.mono_skip rfl ?_
          apply Exists.intro
          refine ⟨by simp only [Act.put, List.setIfInBounds_toArray, List.set_cons_succ, List.set_cons_zero]; rfl, ?_⟩
          refine WM.mono_skip rfl ?_
          apply Exists.intro
          refine ⟨by simp only [Act.put, List.setIfInBounds_toArray, List.set_cons_succ, List.set_cons_zero]; rfl, ?_⟩
          refine WM.mono_skip rfl ?_
          apply Exists.intro
          refine ⟨by simp only [Act.put, List.setIfInBounds_toArray, List.set_cons_succ, List.set_cons_zero]; rfl, ?_⟩
          refine WM.mono_pure rfl rfl ?_
          refine ⟨.bool false, fun x => ?_, ?_⟩
          · go_simp
          apply Exists.intro
          refine ⟨by simp only [Act.put, List.setIfInBounds_toArray, List.set_cons_succ, List.set_cons_zero]; rfl, ?_⟩
          refine WM.mono_pure rfl rfl ?_
          refine ⟨.bool false, fun x => ?_, ?_⟩
          · go_simp
          apply Exists.intro
          refine ⟨by simp only [Act.put, List.setIfInBounds_toArray, List.set_cons_succ, List.set_cons_zero]; rfl, ?_⟩
          refine WM.mono_nil ?_
          intro x hD hF
          have HX := Lib.hid hD
          clear hD hF HI
          go_simp
          have HN2 : Hid (∀ i, i < 0 + 1 → dgood ls i = true) := Lib.hid (fun i hi => by
            by_cases e : i = 0
            · rw [e]; exact HG.out
            · exact HN.out i (by omega))
          go_wp2
          go_roundw
          case rel => exact ⟨0 + 1, by omega, by go_num, HN2, HX.out.l, HX.out.below⟩
          case measure => simp [intOf]; omega
        · obtain ⟨p, rfl⟩ : ∃ p, j = p + 1 := ⟨j - 1, by omega⟩
          clear h0 eJ
          obtain ⟨d0, hd0⟩ : ∃ d0, d0 = ls.getD p (0, 0) := ⟨_, rfl⟩
          have HD0 := Lib.hid hd0
          have HPL : Hid (p < ls.length) := Lib.hid (by omega)
          have hpi : (p : Int) < (ls.length : Int) := by omega
          have hpi1 : (p : Int) + 1 < (ls.length : Int) := by omega
          have hnn : ¬ (p : Int) + 1 < 0 := by omega
          have eW : IntKind.i64.wrap (p : Int) = (p : Int) := by have := HM.out; rw [IntKind.wrap_i64]; omega
          have eW2 : IntKind.i64.wrap ((p : Int) + 1 + 1) = (p : Int) + 1 + 1 := by have := HM.out; rw [IntKind.wrap_i64]; omega
          have hgt : (0 : Int) < (p : Int) + 1 := by omega
          have hgs := dgood_succ (ls := ls) (p := p) (by rw [← HD.out]; exact HR.out)
          rw [← HD.out, ← hd0] at hgs
          have HGS := Lib.hid hgs
          clear hd0 hgs
          cases hls : Vec.less d0.1 d0.2 d.1 d.2 with
          | true =>
            have HLS := Lib.hid hls
            have HG : Hid (dgood ls (p + 1) = true) := Lib.hid (by rw [HGS.out]; exact hls)
            clear hls
            refine WM.wp_region_kinds (fun _ x y => Below x.heap.size x y) (fun _ x => DL w (some ⟨b, o, none⟩) ls x) (fun x => DL w (some ⟨b, o, none⟩) ls x)
              [(3, .val (dotV d.1 d.2) fun _ => True), (4, .val (.bool true) fun _ => True), (14, .val (dotV d0.1 d0.2) fun _ => True), (18, .val (dotV d.1 d.2) fun _ => True), (19, .val (.bool true) fun _ => True)] (by kernel_rfl) (by kernel_rfl) (fun _ _ _ hb h => DL.then_ hb h) (fun _ _ _ _ _ hb h => DL.then_ hb h) ?_ HI.out.drew (fun _ => HI.out.drew) ?_
            · intro z hz
              simp only [List.mem_cons, List.mem_nil_iff, or_false] at hz
              rcases hz with rfl | rfl | rfl | rfl | rfl <;> exact fun _ _ _ _ _ _ => trivial
            iterate 2
              refine WM.mono_pure rfl rfl ?_
              apply Exists.intro
              refine ⟨fun x => ?_, ?_⟩
              · go_simp
                rfl
              apply Exists.intro
              refine ⟨by simp only [Act.put, List.setIfInBounds_toArray, List.set_cons_succ, List.set_cons_zero]; rfl, ?_⟩
            refine WM.mono_pure rfl rfl ?_
            refine ⟨.pointer (some ⟨b, o + (p + 1) * 2, none⟩), fun x => ?_, ?_⟩
            · go_simp
            apply Exists.intro
            refine ⟨by simp only [Act.put, List.setIfInBounds_toArray, List.set_cons_succ, List.set_cons_zero]; rfl, ?_⟩
            refine WM.mono_val rfl rfl (fun x hD hF => ?_) ?_
            · have hl := run_loadVar_arr (P := Try.prog) x b (o + (p + 1) * 2) 35 (dotC d) _ (by rw [HD.out]; exact hD.l.at_j HLT.out) Try.underlying35 rfl size35
              rw [exec_load 35 (.tmp 12) rfl b (o + (p + 1) * 2) rfl hl]
              exact ⟨Below.refl _ _, rfl, trivial⟩
            apply Exists.intro
            refine ⟨by simp only [Act.put, List.setIfInBounds_toArray, List.set_cons_succ, List.set_cons_zero]; rfl, ?_⟩
            refine WM.mono_val rfl rfl (fun x hD hF => ?_) ?_
            · go_simp
              refine (rightR_any d.1 d.2 x).mono ?_
              rintro e y ⟨rfl, hg⟩
              exact ⟨_, rfl, hg, by rw [HR.out]⟩
            apply Exists.intro
            refine ⟨by simp only [Act.put, List.setIfInBounds_toArray, List.set_cons_succ, List.set_cons_zero]; rfl, ?_⟩
            refine WM.mono_pure rfl rfl ?_
            refine ⟨.bool false, fun x => ?_, ?_⟩
            · go_simp
            apply Exists.intro
            refine ⟨by simp only [Act.put, List.setIfInBounds_toArray, List.set_cons_succ, List.set_cons_zero]; rfl, ?_⟩
            refine WM.mono_pure rfl rfl ?_
            refine ⟨.bool false, fun x => ?_, ?_⟩
            · go_simp
            apply Exists.intro
            refine ⟨by simp only [Act.put, List.setIfInBounds_toArray, List.set_cons_succ, List.set_cons_zero]; rfl, ?_⟩
            iterate 1
              refine WM.mono_pure rfl rfl ?_
              apply Exists.intro
              refine ⟨fun x => ?_, ?_⟩
              · go_simp
                rfl
              apply Exists.intro
              refine ⟨by simp only [Act.put, List.setIfInBounds_toArray, List.set_cons_succ, List.set_cons_zero]; rfl, ?_⟩
            refine WM.mono_pure rfl rfl ?_
            refine ⟨.bool true, fun x => ?_, ?_⟩
            · go_simp
            apply Exists.intro
            refine ⟨by simp only [Act.put, List.setIfInBounds_toArray, List.set_cons_succ, List.set_cons_zero]; rfl, ?_⟩
            refine WM.mono_pure rfl rfl ?_
            refine ⟨.bool true, fun x => ?_, ?_⟩
            · go_simp
            apply Exists.intro
            refine ⟨by simp only [Act.put, List.setIfInBounds_toArray, List.set_cons_succ, List.set_cons_zero]; rfl, ?_⟩
            iterate 2
              refine WM.mono_pure rfl rfl ?_
              apply Exists.intro
              refine ⟨fun x => ?_, ?_⟩
              · go_simp
                rfl
              apply Exists.intro
              refine ⟨by simp only [Act.put, List.setIfInBounds_toArray, List.set_cons_succ, List.set_cons_zero]; rfl, ?_⟩
            refine WM.mono_pure rfl rfl ?_
            refine ⟨.int .i64 (p : Int), fun x => ?_, ?_⟩
            · go_simp
            apply Exists.intro
            refine ⟨by simp only [Act.put, List.setIfInBounds_toArray, List.set_cons_succ, List.set_cons_zero]; rfl, ?_⟩
            refine WM.mono_pure rfl rfl ?_
            refine ⟨.pointer (some ⟨b, o + p * 2, none⟩), fun x => ?_, ?_⟩
            · go_simp
            apply Exists.intro
            refine ⟨by simp only [Act.put, List.setIfInBounds_toArray, List.set_cons_succ, List.set_cons_zero]; rfl, ?_⟩
            refine WM.mono_val rfl rfl (fun x hD hF => ?_) ?_
            · have hl := run_loadVar_arr (P := Try.prog) x b (o + p * 2) 35 (dotC d0) _ (by rw [HD0.out]; exact hD.l.at_j HPL.out) Try.underlying35 rfl size35
              rw [exec_load 35 (.tmp 23) rfl b (o + p * 2) rfl hl]
              exact ⟨Below.refl _ _, rfl, trivial⟩
            apply Exists.intro
            refine ⟨by simp only [Act.put, List.setIfInBounds_toArray, List.set_cons_succ, List.set_cons_zero]; rfl, ?_⟩
            iterate 2
              refine WM.mono_pure rfl rfl ?_
              apply Exists.intro
              refine ⟨fun x => ?_, ?_⟩
              · go_simp
                rfl
              apply Exists.intro
              refine ⟨by simp only [Act.put, List.setIfInBounds_toArray, List.set_cons_succ, List.set_cons_zero]; rfl, ?_⟩
            refine WM.mono_pure rfl rfl ?_
            refine ⟨.pointer (some ⟨b, o + (p + 1) * 2, none⟩), fun x => ?_, ?_⟩
            · go_simp
            apply Exists.intro
            refine ⟨by simp only [Act.put, List.setIfInBounds_toArray, List.set_cons_succ, List.set_cons_zero]; rfl, ?_⟩
            refine WM.mono_val rfl rfl (fun x hD hF => ?_) ?_
            · have hl := run_loadVar_arr (P := Try.prog) x b (o + (p + 1) * 2) 35 (dotC d) _ (by rw [HD.out]; exact hD.l.at_j HLT.out) Try.underlying35 rfl size35
              rw [exec_load 35 (.tmp 27) rfl b (o + (p + 1) * 2) rfl hl]
              exact ⟨Below.refl _ _, rfl, trivial⟩
            apply Exists.intro
            refine ⟨by simp only [Act.put, List.setIfInBounds_toArray, List.set_cons_succ, List.set_cons_zero]; rfl, ?_⟩
            refine WM.mono_val rfl rfl (fun x hD hF => ?_) ?_
            · go_simp
              refine (lessR_any d0.1 d0.2 d.1 d.2 x).mono ?_
              rintro e y ⟨rfl, hg⟩
              exact ⟨_, rfl, hg, by rw [HLS.out]⟩
            apply Exists.intro
            refine ⟨by simp only [Act.put, List.setIfInBounds_toArray, List.set_cons_succ, List.set_cons_zero]; rfl, ?_⟩
            refine WM.mono_pure rfl rfl ?_
            refine ⟨.bool false, fun x => ?_, ?_⟩
            · go_simp
            apply Exists.intro
            refine ⟨by simp only [Act.put, List.setIfInBounds_toArray, List.set_cons_succ, List.set_cons_zero]; rfl, ?_⟩
            refine WM.mono_pure rfl rfl ?_
            refine ⟨.bool false, fun x => ?_, ?_⟩
            · go_simp
            apply Exists.intro
            refine ⟨by simp only [Act.put, List.setIfInBounds_toArray, List.set_cons_succ, List.set_cons_zero]; rfl, ?_⟩
            refine WM.mono_pure rfl rfl ?_
            refine ⟨.bool false, fun x => ?_, ?_⟩
            · go_simp
            apply Exists.intro
            refine ⟨by simp only [Act.put, List.setIfInBounds_toArray, List.set_cons_succ, List.set_cons_zero]; rfl, ?_⟩
            refine WM.mono_nil ?_
            intro x hD hF
            have HX := Lib.hid hD
            clear hD hF HI
            go_simp
            have HN2 : Hid (∀ i, i < (p + 1) + 1 → dgood ls i = true) := Lib.hid (fun i hi => by
              by_cases e : i = (p + 1)
              · rw [e]; exact HG.out
              · exact HN.out i (by omega))
            go_wp2
            go_roundw
            all_goals clear eW eW2
            case rel => exact ⟨(p + 1) + 1, by omega, by go_num, HN2, HX.out.l, HX.out.below⟩
            case measure => simp [intOf]; omega
          | false =>
            have HLS := Lib.hid hls
            have HG : Hid (dgood ls (p + 1) = false) := Lib.hid (by rw [HGS.out]; exact hls)
            clear hls
            refine WM.wp_region_kinds (fun _ x y => Below x.heap.size x y) (fun _ x => DL w (some ⟨b, o, none⟩) ls x) (fun x => DL w (some ⟨b, o, none⟩) ls x)
              [(3, .val (dotV d.1 d.2) fun _ => True), (4, .val (.bool true) fun _ => True), (14, .val (dotV d0.1 d0.2) fun _ => True), (18, .val (dotV d.1 d.2) fun _ => True), (19, .val (.bool false) fun _ => True)] (by kernel_rfl) (by kernel_rfl) (fun _ _ _ hb h => DL.then_ hb h) (fun _ _ _ _ _ hb h => DL.then_ hb h) ?_ HI.out.drew (fun _ => HI.out.drew) ?_
            · intro z hz
              simp only [List.mem_cons, List.mem_nil_iff, or_false] at hz
              rcases hz with rfl | rfl | rfl | rfl | rfl <;> exact fun _ _ _ _ _ _ => trivial
            iterate 2
              refine WM.mono_pure rfl rfl ?_
              apply Exists.intro
              refine ⟨fun x => ?_, ?_⟩
              · go_simp
                rfl
              apply Exists.intro
              refine ⟨by simp only [Act.put, List.setIfInBounds_toArray, List.set_cons_succ, List.set_cons_zero]; rfl, ?_⟩
            refine WM.mono_pure rfl rfl ?_
            refine ⟨.pointer (some ⟨b, o + (p + 1) * 2, none⟩), fun x => ?_, ?_⟩
            · go_simp
            apply Exists.intro
            refine ⟨by simp only [Act.put, List.setIfInBounds_toArray, List.set_cons_succ, List.set_cons_zero]; rfl, ?_⟩
            refine WM.mono_val rfl rfl (fun x hD hF => ?_) ?_
            · have hl := run_loadVar_arr (P := Try.prog) x b (o + (p + 1) * 2) 35 (dotC d) _ (by rw [HD.out]; exact hD.l.at_j HLT.out) Try.underlying35 rfl size35
              rw [exec_load 35 (.tmp 12) rfl b (o + (p + 1) * 2) rfl hl]
              exact ⟨Below.refl _ _, rfl, trivial⟩
            apply Exists.intro
            refine ⟨by simp only [Act.put, List.setIfInBounds_toArray, List.set_cons_succ, List.set_cons_zero]; rfl, ?_⟩
            refine WM.mono_val rfl rfl (fun x hD hF => ?_) ?_
            · go_simp
              refine (rightR_any d.1 d.2 x).mono ?_
              rintro e y ⟨rfl, hg⟩
              exact ⟨_, rfl, hg, by rw [HR.out]⟩
            apply Exists.intro
            refine ⟨by simp only [Act.put, List.setIfInBounds_toArray, List.set_cons_succ, List.set_cons_zero]; rfl, ?_⟩
            refine WM.mono_pure rfl rfl ?_
            refine ⟨.bool false, fun x => ?_, ?_⟩
            · go_simp
            apply Exists.intro
            refine ⟨by simp only [Act.put, List.setIfInBounds_toArray, List.set_cons_succ, List.set_cons_zero]; rfl, ?_⟩
            refine WM.mono_pure rfl rfl ?_
            refine ⟨.bool false, fun x => ?_, ?_⟩
            · go_simp
            apply Exists.intro
            refine ⟨by simp only [Act.put, List.setIfInBounds_toArray, List.set_cons_succ, List.set_cons_zero]; rfl, ?_⟩
            iterate 1
              refine WM.mono_pure rfl rfl ?_
              apply Exists.intro
              refine ⟨fun x => ?_, ?_⟩
              · go_simp
                rfl
              apply Exists.intro
              refine ⟨by simp only [Act.put, List.setIfInBounds_toArray, List.set_cons_succ, List.set_cons_zero]; rfl, ?_⟩
            refine WM.mono_pure rfl rfl ?_
            refine ⟨.bool true, fun x => ?_, ?_⟩
            · go_simp
            apply Exists.intro
            refine ⟨by simp only [Act.put, List.setIfInBounds_toArray, List.set_cons_succ, List.set_cons_zero]; rfl, ?_⟩
            refine WM.mono_pure rfl rfl ?_
            refine ⟨.bool true, fun x => ?_, ?_⟩
            · go_simp
            apply Exists.intro
            refine ⟨by simp only [Act.put, List.setIfInBounds_toArray, List.set_cons_succ, List.set_cons_zero]; rfl, ?_⟩
            iterate 2
              refine WM.mono_pure rfl rfl ?_
              apply Exists.intro
              refine ⟨fun x => ?_, ?_⟩
              · go_simp
                rfl
              apply Exists.intro
              refine ⟨by simp only [Act.put, List.setIfInBounds_toArray, List.set_cons_succ, List.set_cons_zero]; rfl, ?_⟩
            refine WM.mono_pure rfl rfl ?_
            refine ⟨.int .i64 (p : Int), fun x => ?_, ?_⟩
            · go_simp
            apply Exists.intro
            refine ⟨by simp only [Act.put, List.setIfInBounds_toArray, List.set_cons_succ, List.set_cons_zero]; rfl, ?_⟩
            refine WM.mono_pure rfl rfl ?_
            refine ⟨.pointer (some ⟨b, o + p * 2, none⟩), fun x => ?_, ?_⟩
            · go_simp
            apply Exists.intro
            refine ⟨by simp only [Act.put, List.setIfInBounds_toArray, List.set_cons_succ, List.set_cons_zero]; rfl, ?_⟩
            refine WM.mono_val rfl rfl (fun x hD hF => ?_) ?_
            · have hl := run_loadVar_arr (P := Try.prog) x b (o + p * 2) 35 (dotC d0) _ (by rw [HD0.out]; exact hD.l.at_j HPL.out) Try.underlying35 rfl size35
              rw [exec_load 35 (.tmp 23) rfl b (o + p * 2) rfl hl]
              exact ⟨Below.refl _ _, rfl, trivial⟩
            apply Exists.intro
            refine ⟨by simp only [Act.put, List.setIfInBounds_toArray, List.set_cons_succ, List.set_cons_zero]; rfl, ?_⟩
            iterate 2
              refine WM.mono_pure rfl rfl ?_
              apply Exists.intro
              refine ⟨fun x => ?_, ?_⟩
              · go_simp
                rfl
              apply Exists.intro
              refine ⟨by simp only [Act.put, List.setIfInBounds_toArray, List.set_cons_succ, List.set_cons_zero]; rfl, ?_⟩
            refine WM.mono_pure rfl rfl ?_
            refine ⟨.pointer (some ⟨b, o + (p + 1) * 2, none⟩), fun x => ?_, ?_⟩
            · go_simp
            apply Exists.intro
            refine ⟨by simp only [Act.put, List.setIfInBounds_toArray, List.set_cons_succ, List.set_cons_zero]; rfl, ?_⟩
            refine WM.mono_val rfl rfl (fun x hD hF => ?_) ?_
            · have hl := run_loadVar_arr (P := Try.prog) x b (o + (p + 1) * 2) 35 (dotC d) _ (by rw [HD.out]; exact hD.l.at_j HLT.out) Try.underlying35 rfl size35
              rw [exec_load 35 (.tmp 27) rfl b (o + (p + 1) * 2) rfl hl]
              exact ⟨Below.refl _ _, rfl, trivial⟩
            apply Exists.intro
            refine ⟨by simp only [Act.put, List.setIfInBounds_toArray, List.set_cons_succ, List.set_cons_zero]; rfl, ?_⟩
            refine WM.mono_val rfl rfl (fun x hD hF => ?_) ?_
            · go_simp
              refine (lessR_any d0.1 d0.2 d.1 d.2 x).mono ?_
              rintro e y ⟨rfl, hg⟩
              exact ⟨_, rfl, hg, by rw [HLS.out]⟩
            apply Exists.intro
            refine ⟨by simp only [Act.put, List.setIfInBounds_toArray, List.set_cons_succ, List.set_cons_zero]; rfl, ?_⟩
            refine WM.mono_pure rfl rfl ?_
            refine ⟨.bool true, fun x => ?_, ?_⟩
            · go_simp
            apply Exists.intro
            refine ⟨by simp only [Act.put, List.setIfInBounds_toArray, List.set_cons_succ, List.set_cons_zero]; rfl, ?_⟩
            refine WM.mono_pure rfl rfl ?_
            refine ⟨.bool true, fun x => ?_, ?_⟩
            · go_simp
            apply Exists.intro
            refine ⟨by simp only [Act.put, List.setIfInBounds_toArray, List.set_cons_succ, List.set_cons_zero]; rfl, ?_⟩
            refine WM.mono_pure rfl rfl ?_
            refine ⟨.bool true, fun x => ?_, ?_⟩
            · go_simp
            apply Exists.intro
            refine ⟨by simp only [Act.put, List.setIfInBounds_toArray, List.set_cons_succ, List.set_cons_zero]; rfl, ?_⟩
            refine WM.mono_nil ?_
            intro x hD hF
            have HX := Lib.hid hD
            clear hD hF HI
            go_simp
            go_wp2
            go_ret
            exact ⟨ret_bool (isSet_bad HLT.out HG.out).symm, HX.out.below⟩
    · obtain rfl : j = ls.length := by omega
      by_cases hb : ls.length ≤ 2000
      · have HE : Hid (isSet ls = true) := Lib.hid ((isSet_iff ls).2 ⟨hb, HN.out⟩)
        have hbi : (ls.length : Int) ≤ 2000 := by omega
        clear hb
        go_wp2
        go_ret
        exact ⟨ret_bool HE.out.symm, HB.out⟩
      · have HE : Hid (isSet ls = false) := Lib.hid (by
          rw [Bool.eq_false_iff]
          intro h
          exact hb ((isSet_iff ls).1 h).1)
        have hbi : ¬ (ls.length : Int) ≤ 2000 := by omega
        clear hb
        go_wp2
        go_ret
        exact ⟨ret_bool HE.out.symm, HB.out⟩
end Go.Proofs.Ytnpacjdgbmldlaa
