/- The reference's Within. -/
import Derived.Test.YtnpacjdgbmldlaaD8
namespace Go.Proofs.Ytnpacjdgbmldlaa
open Go.RowKit
structure WI (w : World) (A : Option Addr) (ls : List Dt) (f : Nat → Nat) (u : Value) (acc : List Dt) (x : World) : Prop where
  r : x.rowIs w.heap.size 27 8 (fun i => .int .u64 ((f i : Nat) : Int))
  l : Dots x (· < w.heap.size) A ls
  own : x.ownsRow (w.heap.size + 1) 35 2 u acc.length (dots2 acc)
  below : Below w.heap.size w x
theorem WI.then_ {w x y : World} {A : Option Addr} {ls acc : List Dt} {f : Nat → Nat} {u : Value} (hb : Below x.heap.size x y) (I : WI w A ls f u acc x) : WI w A ls f u acc y :=
  ⟨row_below I.r hb I.r.lt, I.l.below (hb.mono I.below.size), own_keep I.own fun k _ hk => hb.block k hk, I.below.trans (hb.mono I.below.size)⟩
theorem WI.drew {w x : World} {A : Option Addr} {ls acc : List Dt} {f : Nat → Nat} {u : Value} (I : WI w A ls f u acc x) : WI w A ls f u acc x.drew := WI.then_ (x := x) (y := x.drew) ⟨rfl, rfl, rfl, Nat.le_refl _, fun _ _ => rfl⟩ I
theorem WI.add {w x y : World} {A : Option Addr} {ls acc : List Dt} {f : Nat → Nat} {u v : Value} (I : WI w A ls f u acc x) (d : Dt) (ho : y.ownsRow (w.heap.size + 1) 35 2 v (acc.length + 1) (dots2 acc ++ dcells d)) (hb : Below (w.heap.size + 1) x y) : WI w A ls f v (acc ++ [d]) y :=
  ⟨row_below I.r hb (by omega), I.l.below (hb.mono (by omega)), by rw [List.length_append, List.length_singleton, dots2_append, dots2_one]; exact ho, I.below.trans (hb.mono (by omega))⟩
set_option maxRecDepth 100000 in
set_option maxHeartbeats 4000000 in
theorem dwithinR_any (ls : List Dt) (c : Nat) (A : Option Addr) (f : Nat → Nat) (w : World) (hv : Dots w (· < w.heap.size) A ls) (hm : ls.length ≤ 100000) :
    Calls Try.prog 39 #[.slice A ls.length c, vecV f] w fun e w' => ∃ v, e = .returned v ∧ w'.ownsRow (w.heap.size + 1) 35 2 v (ls.filter fun d => Vec.has f d.1 d.2).length (dots2 (ls.filter fun d => Vec.has f d.1 d.2)) ∧ Below w.heap.size w w' := by
  have HI0 : Hid (WI w A ls f (.slice none 0 0) [] (w.alloc (.cells (arrOf .u64 8 f) 27))) := Lib.hid ⟨vec_row w f, hv.below (below1 _ _), World.ownsRow_nil _ _ _ _, below1 _ _⟩
  have HM := Lib.hid hm
  clear hv hm
  go_enter Try.func39, Try.ntmps39
  go_wp2
  generalize w.alloc (.cells (arrOf .u64 8 f) 27) = w1 at *
  go_loopw [5, 6] (fun u v wr => ∃ j : Nat, j ≤ ls.length ∧ v = .int .i64 j ∧ Hid (WI w A ls f u ((ls.take j).filter fun d => Vec.has f d.1 d.2) wr)) (fun _ v _ => ls.length - (intOf v).toNat)
  case atStart => exact ⟨0, by omega, rfl, HI0⟩
  case round =>
    clear HI0
    obtain ⟨j, hj, rfl, HI⟩ := hrel
    by_cases hlt : j < ls.length
    · obtain ⟨b, o, hA⟩ := HI.out.l.some_ (by omega)
      subst hA
      obtain ⟨d, hd⟩ : ∃ d, d = ls.getD j (0, 0) := ⟨_, rfl⟩
      have HD := Lib.hid hd
      obtain ⟨acc, hacc⟩ : ∃ acc, acc = (ls.take j).filter fun d => Vec.has f d.1 d.2 := ⟨_, rfl⟩
      have hT : ls.take (j + 1) = ls.take j ++ [d] := by
        rw [List.take_add_one, List.getElem?_eq_getElem hlt, hd, List.getD_eq_getElem?_getD, List.getElem?_eq_getElem hlt]
        rfl
      have HACC : Hid ((ls.take (j + 1)).filter (fun d => Vec.has f d.1 d.2) = acc ++ if Vec.has f d.1 d.2 = true then [d] else []) := Lib.hid (by rw [hT, List.filter_append, ← hacc]; congr 1; simp [List.filter_cons])
      have HAL : Hid (acc.length ≤ 100000) := Lib.hid (by rw [hacc]; have h1 := List.length_filter_le (fun d : Dt => Vec.has f d.1 d.2) (ls.take j); rw [List.length_take] at h1; have := HM.out; omega)
      rw [← hacc] at HI
      have HLT := Lib.hid hlt
      have eJ : IntKind.i64.wrap ((j : Int) + 1) = (j : Int) + 1 := by have := HM.out; rw [IntKind.wrap_i64]; omega
      clear hd hacc hT
      go_wp2_with fail
      cases hq : Vec.has f d.1 d.2 with
      | true =>
        have HQ := Lib.hid hq
        rw [if_pos hq] at HACC
        clear hq
        refine WM.wp_region_kinds (fun _ x y => Below x.heap.size x y) (fun _ x => WI w (some ⟨b, o, none⟩) ls f u5 acc x) (fun x => WI w (some ⟨b, o, none⟩) ls f u5 acc x)
          [(0, .val (vecV f) fun _ => True), (4, .val (dotV d.1 d.2) fun _ => True), (5, .val (.bool true) fun _ => True)] (by kernel_rfl) (by kernel_rfl) (fun _ _ _ hb h => WI.then_ hb h) (fun _ _ _ _ _ hb h => WI.then_ hb h) ?_ HI.out.drew (fun _ => HI.out.drew) ?_
        · intro z hz
          simp only [List.mem_cons, List.mem_nil_iff, or_false] at hz
          rcases hz with rfl | rfl | rfl <;> exact fun _ _ _ _ _ _ => trivial
        refine WM.mono_val rfl rfl (fun x hD hF => ?_) ?_
        · have hl := run_loadVar_arr (P := Try.prog) x w.heap.size 0 27 (arrOf .u64 8 f) _ (row_range hD.r) Try.underlying27 rfl (by rw [arrOf_size]; exact size27)
          rw [exec_load 27 (.tmp 3) rfl w.heap.size 0 rfl hl]
          exact ⟨Below.refl _ _, rfl, trivial⟩
        apply Exists.intro
        refine ⟨by simp only [Act.put, List.setIfInBounds_toArray, List.set_cons_succ, List.set_cons_zero]; rfl, ?_⟩
        iterate 2
          refine WM.mono_pure rfl rfl ?_
          apply Exists.intro
          refine ⟨fun x => ?_, ?_⟩
          · go_simp
            rfl
          apply Exists.intro
          refine ⟨by simp only [Act.put, List.setIfInBounds_toArray, List.set_cons_succ, List.set_cons_zero]; rfl, ?_⟩
        refine WM.mono_pure rfl rfl ?_
        refine ⟨.pointer (some ⟨b, o + j * 2, none⟩), fun x => ?_, ?_⟩
        · go_simp
        apply Exists.intro
        refine ⟨by simp only [Act.put, List.setIfInBounds_toArray, List.set_cons_succ, List.set_cons_zero]; rfl, ?_⟩
        refine WM.mono_val rfl rfl (fun x hD hF => ?_) ?_
        · have hl := run_loadVar_arr (P := Try.prog) x b (o + j * 2) 35 (dotC d) _ (by rw [HD.out]; exact hD.l.at_j HLT.out) Try.underlying35 rfl size35
          rw [exec_load 35 (.tmp 16) rfl b (o + j * 2) rfl hl]
          exact ⟨Below.refl _ _, rfl, trivial⟩
        apply Exists.intro
        refine ⟨by simp only [Act.put, List.setIfInBounds_toArray, List.set_cons_succ, List.set_cons_zero]; rfl, ?_⟩
        refine WM.mono_val rfl rfl (fun x hD hF => ?_) ?_
        · go_simp
          refine (hasR_any f d.1 d.2 x).mono ?_
          rintro e y ⟨rfl, hg⟩
          exact ⟨_, rfl, hg, by rw [HQ.out]⟩
        apply Exists.intro
        refine ⟨by simp only [Act.put, List.setIfInBounds_toArray, List.set_cons_succ, List.set_cons_zero]; rfl, ?_⟩
        refine WM.mono_nil ?_
        intro x hD hF
        have HX := Lib.hid hD
        clear hD hF HI
        go_simp
        have s35 := Lib.hid (dot_size35 d)
        have hr : Hid (rangeA x b (o + j * 2) (dotC d)) := Lib.hid (by rw [HD.out]; exact HX.out.l.at_j HLT.out)
        have S0 : Hid (w.heap.size + 1 ≤ x.heap.size) := Lib.hid HX.out.r.lt
        have HO := Lib.hid HX.out.own
        go_wp2_with (first
          | (refine wpList_load_arr rfl 35 _ rfl b (o + j * 2) rfl (dotC d) _ hr.out Try.underlying35 rfl s35.out ?_)
          | (refine wpList_append_dot rfl (.tmp 19) (.tmp 24) 30 rfl (w.heap.size + 1) 35 (.agg #[.int .i64 0, .int .u64 0]) 16 Try.underlying30 info35 rfl _ acc.length _ rfl HO.out d 35 rfl (by have := HAL.out; unfold maxLen; omega) (by have := HAL.out; omega) S0.out ?_; intro v1 w3 H1 B1))
        go_roundw
        all_goals clear eJ
        case rel => exact ⟨j + 1, by omega, by go_num, by rw [HACC.out]; exact Lib.hid (HX.out.add d H1.out B1.out)⟩
        case measure => simp [intOf]; omega
      | false =>
        have HQ := Lib.hid hq
        rw [if_neg (by rw [hq]; exact Bool.false_ne_true), List.append_nil] at HACC
        clear hq
        refine WM.wp_region_kinds (fun _ x y => Below x.heap.size x y) (fun _ x => WI w (some ⟨b, o, none⟩) ls f u5 acc x) (fun x => WI w (some ⟨b, o, none⟩) ls f u5 acc x)
          [(0, .val (vecV f) fun _ => True), (4, .val (dotV d.1 d.2) fun _ => True), (5, .val (.bool false) fun _ => True)] (by kernel_rfl) (by kernel_rfl) (fun _ _ _ hb h => WI.then_ hb h) (fun _ _ _ _ _ hb h => WI.then_ hb h) ?_ HI.out.drew (fun _ => HI.out.drew) ?_
        · intro z hz
          simp only [List.mem_cons, List.mem_nil_iff, or_false] at hz
          rcases hz with rfl | rfl | rfl <;> exact fun _ _ _ _ _ _ => trivial
        refine WM.mono_val rfl rfl (fun x hD hF => ?_) ?_
        · have hl := run_loadVar_arr (P := Try.prog) x w.heap.size 0 27 (arrOf .u64 8 f) _ (row_range hD.r) Try.underlying27 rfl (by rw [arrOf_size]; exact size27)
          rw [exec_load 27 (.tmp 3) rfl w.heap.size 0 rfl hl]
          exact ⟨Below.refl _ _, rfl, trivial⟩
        apply Exists.intro
        refine ⟨by simp only [Act.put, List.setIfInBounds_toArray, List.set_cons_succ, List.set_cons_zero]; rfl, ?_⟩
        iterate 2
          refine WM.mono_pure rfl rfl ?_
          apply Exists.intro
          refine ⟨fun x => ?_, ?_⟩
          · go_simp
            rfl
          apply Exists.intro
          refine ⟨by simp only [Act.put, List.setIfInBounds_toArray, List.set_cons_succ, List.set_cons_zero]; rfl, ?_⟩
        refine WM.mono_pure rfl rfl ?_
        refine ⟨.pointer (some ⟨b, o + j * 2, none⟩), fun x => ?_, ?_⟩
        · go_simp
        apply Exists.intro
        refine ⟨by simp only [Act.put, List.setIfInBounds_toArray, List.set_cons_succ, List.set_cons_zero]; rfl, ?_⟩
        refine WM.mono_val rfl rfl (fun x hD hF => ?_) ?_
        · have hl := run_loadVar_arr (P := Try.prog) x b (o + j * 2) 35 (dotC d) _ (by rw [HD.out]; exact hD.l.at_j HLT.out) Try.underlying35 rfl size35
          rw [exec_load 35 (.tmp 16) rfl b (o + j * 2) rfl hl]
          exact ⟨Below.refl _ _, rfl, trivial⟩
        apply Exists.intro
        refine ⟨by simp only [Act.put, List.setIfInBounds_toArray, List.set_cons_succ, List.set_cons_zero]; rfl, ?_⟩
        refine WM.mono_val rfl rfl (fun x hD hF => ?_) ?_
        · go_simp
          refine (hasR_any f d.1 d.2 x).mono ?_
          rintro e y ⟨rfl, hg⟩
          exact ⟨_, rfl, hg, by rw [HQ.out]⟩
        apply Exists.intro
        refine ⟨by simp only [Act.put, List.setIfInBounds_toArray, List.set_cons_succ, List.set_cons_zero]; rfl, ?_⟩
        refine WM.mono_nil ?_
        intro x hD hF
        have HX := Lib.hid hD
        clear hD hF HI
        go_simp
        go_wp2
        go_roundw
        all_goals clear eJ
        case rel => exact ⟨j + 1, by omega, by go_num, by rw [HACC.out]; exact HX⟩
        case measure => simp [intOf]; omega
    · obtain rfl : j = ls.length := by omega
      rw [List.take_length] at HI
      go_wp2
      go_ret
      exact ⟨_, rfl, HI.out.own, HI.out.below⟩
end Go.Proofs.Ytnpacjdgbmldlaa
