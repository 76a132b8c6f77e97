/- The law WireWrites. -/
import Derived.Test.YthodogcpoihjpaaW1
import Derived.Test.YthodogcpoihjpaaMonb
namespace Go.Proofs.Ythodogcpoihjpaa
open Go.RowKit
theorem size34 : (Try.prog.info? 34).map (·.size) = some 45 := by kernel_rfl
theorem row34 : (match Try.prog.underlying 34 with | some d => d.isRow | _ => false) = true := by kernel_rfl
theorem writes_ww (w : World) : WW w w.heap.size [] (.slice none 0 0) (w.alloc (.cells #[.slice none 0 0] 26)) :=
  ⟨⟨_, ⟨heap_alloc_new _ _, World.ownsRow_nil _ _ _ _, Nat.le_refl _⟩, fun k e => (by cases e)⟩, World.ownsRow_nil _ _ _ _, fun e => (by cases e), below1 _ _⟩
theorem own_conv {w : World} {base : Nat} {v : Value} {n : Nat} {xs : List Nat} (h : w.ownsRow base 5 1 v n (ints8 xs)) (hz : ∀ z, z ∈ xs → z < 256) : (convert 24 9 v).run Try.prog w = .ok (.string (strOfNums (xs.map fun n : Nat => (n : Int)))) w := by
  obtain ⟨A, c, rfl, hn, hb⟩ := own_bytes h hz
  by_cases h0 : 0 < xs.length
  · exact conv_any hb (fun _ => h0)
  · have : xs = [] := List.eq_nil_of_length_eq_zero (by omega)
    subst this
    rcases h.2 with ⟨e, _⟩ | ⟨g, cap, cur, e, _⟩
    · injection e with e1 e2 e3
      subst e1
      exact run_convert_bytes_nil w 24 5 rfl rfl _ _ 9 rfl
    · injection e with e1 e2 e3
      subst e1
      exact run_convert_bytes_arg w 24 5 rfl rfl g 0 0 c [] rfl (fun i hi => by omega) 9 rfl
def PB (xs : List Nat) (v : Value) (x : World) : Prop := ∃ base, x.ownsRow base 5 1 v xs.length (ints8 xs)
theorem PB.up {xs : List Nat} {v : Value} {x y : World} (hb : Below x.heap.size x y) (h : PB xs v x) : PB xs v y := by
  obtain ⟨q, ho⟩ := h
  exact ⟨q, own_keep ho fun k _ hk => hb.block k hk⟩
theorem WW.drew {w wr : World} {W : Nat} {xs : List Nat} {u : Value} (h : WW w W xs u wr) : WW w W xs u wr.drew := h.below_ ⟨rfl, rfl, rfl, Nat.le_refl _, fun _ _ => rfl⟩
set_option maxRecDepth 100000 in
set_option maxHeartbeats 4000000 in
theorem law_writes (N c : Nat) (A : Option Addr) (P : Nat → PartR) (w : World) (hp : PartsAt w w.heap.size N A P) (hN : N ≤ 9223372036854775807) :
    Calls Try.prog 3 #[.slice A N c] w fun e w' => e = .returned (.bool true) ∧ Below w.heap.size w w' := by
  have HP := Lib.hid hp
  clear hp
  have HI0 := Lib.hid (writes_ww w)
  go_enter Try.func3, Try.ntmps3
  go_wp2_with fail
  generalize (w.alloc (.cells #[.slice none 0 0] 26)) = w0 at *
  go_loopw [5, 6] (fun u v wr => ∃ i : Nat, i ≤ N ∧ i ≤ 40 ∧ v = .int .i64 i ∧ Hid (∀ j, j < i → (P j).ts.length ≤ 500) ∧ Hid (WW w w.heap.size (allB P i) u wr)) (fun _ v _ => 40 - (intOf v).toNat)
  case atStart => exact ⟨0, by omega, by omega, rfl, Lib.hid (fun j hj => by omega), HI0⟩
  case round =>
    clear HI0
    obtain ⟨i, hi, hi4, rfl, HS, HI⟩ := hrel
    by_cases hlt : i < N ∧ i < 40
    · obtain ⟨hlN, hl4⟩ := hlt
      obtain ⟨b, o, hA, hr⟩ : ∃ b o, A = some ⟨b, o, none⟩ ∧ Hid (rangeA wr b (o + i * 45) (P i).C) := by
        obtain ⟨b, o, e, _, hr⟩ := (HP.out.below HI.out.below).at_ (by omega)
        exact ⟨b, o, e, Lib.hid (hr i hlN)⟩
      subst hA
      have HG := Lib.hid (great_any (P i).C wr (HP.out.cells i hlN) (HP.out.len i hlN))
      have s34 : Hid ((Try.prog.info? 34).map (·.size) = some (P i).C.size) := Lib.hid (by rw [(HP.out.cells i hlN).size]; exact size34)
      by_cases hg : 500 < (P i).ts.length
      · rw [show decide (500 < (P i).ts.length) = true from decide_eq_true hg] at HG
        go_wp2_with (refine wpList_load_arr rfl 34 _ rfl b (o + i * 45) rfl (P i).C _ hr.out Try.underlying34 rfl s34.out ?_)
        refine HG.out.mono ?_
        rintro e w1 ⟨rfl, hb1⟩
        have HB1 := Lib.hid (HI.out.below.trans (hb1.mono HI.out.below.size))
        clear hb1 HG HI
        go_wp2_with fail
        refine (alive_any w1).mono ?_
        rintro e w2 ⟨rfl, hb2⟩
        have HB2 := Lib.hid (HB1.out.trans (hb2.mono HB1.out.size))
        clear hb2 HB1
        go_wp2_with fail
        go_ret
        exact ⟨rfl, HB2.out⟩
      · rw [show decide (500 < (P i).ts.length) = false from decide_eq_false hg] at HG
        have hg5 : (P i).ts.length ≤ 500 := by omega
        have HG5 := Lib.hid hg5
        clear hg hg5
        go_wp2_with (refine wpList_load_arr rfl 34 _ rfl b (o + i * 45) rfl (P i).C _ hr.out Try.underlying34 rfl s34.out ?_)
        refine HG.out.mono ?_
        rintro e w1 ⟨rfl, hb1⟩
        have HI1 := Lib.hid (HI.out.below_ hb1)
        have hP1 := HP.out.below HI1.out.below
        have hr1 : Hid (rangeA w1 b (o + i * 45) (P i).C) := by
          obtain ⟨b', o', e, _, hr⟩ := hP1.at_ (by omega)
          injection e with e; injection e with e1 e2
          subst e1 e2
          exact Lib.hid (hr i hlN)
        have HL := Lib.hid (allB_len P i (fun j hj => partB_len _ _ _ _ _ _ (HS.out j hj)))
        have hL2 : (allB P i).length ≤ 24000 := by have := HL.out; omega
        obtain ⟨v, hv, hn⟩ := HI1.out.at_
        have HC := Lib.hid (put_any (P i).k (P i).C w1 w.heap.size w.heap.size v (allB P i) (hP1.cells i hlN) (hP1.ok i hlN) HI1.out.below.size HG5.out hv (by omega))
        have HV := Lib.hid hv
        have HN := Lib.hid hn
        have HL2 := Lib.hid hL2
        clear hb1 HG HI hP1 hr HL hL2 hv hn
        go_wp2_with (refine wpList_load_arr rfl 34 _ rfl b (o + i * 45) rfl (P i).C _ hr1.out Try.underlying34 rfl s34.out ?_)
        refine HC.out.mono ?_
        rintro e w2 ⟨⟨A2, c2, rfl, hy2, hn2⟩, v2, hv2, ht2⟩
        obtain ⟨ho2, hb2, hst⟩ := HI1.out.turn HV.out HN.out hv2 ht2
        have HY2 := Lib.hid hy2
        have HN2 := Lib.hid hn2
        have HO2 := Lib.hid ho2
        have HB2 := Lib.hid hb2
        have HST := Lib.hid hst
        have HZ : Hid ((P i).bytes.length ≤ 600) := Lib.hid (partB_len _ _ _ _ _ _ HG5.out)
        clear hy2 hn2 hv2 ht2 ho2 hb2 hst HC HI1 HV HN hr1
        go_wp2_with (first
          | (refine wpList_load_arr rfl 34 _ rfl b (o + i * 45) rfl (P i).C _ hr3.out Try.underlying34 rfl s34.out ?_)
          | (refine wpList_append_turn rfl (.tmp 25) (.tmp 31) rfl w.heap.size u5 (allB P i).length (allB P i) rfl HO2.out A2 (P i).bytes c2 (fun b => w1.heap.size ≤ b ∧ b < w2.heap.size) rfl HY2.out HN2.out (by have := HZ.out; have := HL2.out; omega) HB2.out.size ?_
             intro u3 w3 H3 G3 S3
             have HI3 : Hid (WW w w.heap.size (allB P (i + 1)) u3 w3) := Lib.hid (by rw [allB_succ]; exact HST.out u3 w3 H3.out G3.out S3.out)
             have hr3 : Hid (rangeA w3 b (o + i * 45) (P i).C) := Lib.hid (by
               obtain ⟨b', o', e, _, hr⟩ := (HP.out.below HI3.out.below).at_ (by omega)
               injection e with e; injection e with e1 e2
               subst e1 e2
               exact hr i hlN)))
        refine (putN_any (P i).k (P i).C w3 w.heap.size (HP.out.cells i hlN) ((HP.out.below HI3.out.below).ok i hlN) HI3.out.below.size HG5.out).mono ?_
        rintro e w4 ⟨⟨A4, c4, rfl, _, _⟩, hb4⟩
        have HI4 := Lib.hid (HI3.out.below_ hb4)
        have HS4 : Hid (∀ j, j < i + 1 → (P j).ts.length ≤ 500) := Lib.hid (fun j hj => by
          by_cases e : j = i
          · rw [e]; exact HG5.out
          · exact HS.out j (by omega))
        clear hb4 HI3 hr3 H3 G3 S3 HST HO2 HY2 HN2 HB2 HZ HS HL2 HG5
        go_wp2_with fail
        go_roundw
        case rel => exact ⟨i + 1, by omega, by omega, by go_num, HS4, HI4⟩
        case measure => simp [intOf]; omega
    · have HZ : Hid (∀ z, z ∈ allB P i → z < 256) := Lib.hid (allB_lt P i fun j hj => partB_lt _ _ _ _ _ _ ((HP.out.ok j (by omega)).text.lt) (HP.out.ok j (by omega)).dig)
      have HL : Hid ((allB P i).length ≤ 24000) := Lib.hid (by have := allB_len P i (fun j hj => partB_len _ _ _ _ _ _ (HS.out j hj)); omega)
      clear HS HP
      generalize allB P i = xs at *
      obtain ⟨S, hS⟩ : ∃ S, S = strOfNums (xs.map fun n : Nat => (n : Int)) := ⟨_, rfl⟩
      have HSS := Lib.hid hS
      clear hS
      have HID : Hid (WW w w.heap.size xs u5 wr.drew) := Lib.hid HI.out.drew
      clear HI
      by_cases hlN : i < N
      · obtain rfl : i = 40 := by omega
        go_wp2_with fail
        refine M2.wp_region_kinds (fun _ x y => Below x.heap.size x y) (fun _ x => WW w w.heap.size xs u5 x) (fun x => WW w w.heap.size xs u5 x)
          [(0, .val (.bool true) fun _ => True), (3, .mem (PB xs)), (4, .val (.string S) fun _ => True), (6, .val (.string S) fun _ => True), (11, .val (.slice none 0 0) fun _ => True)] (by kernel_rfl) (by kernel_rfl) (fun _ _ _ hb h => WW.below_ h hb) (fun _ _ _ _ _ hb h => WW.below_ h hb) ?_ HID.out (fun _ => HID.out) ?_
        · intro z hz
          simp only [List.mem_cons, List.mem_nil_iff, or_false] at hz
          rcases hz with rfl | rfl | rfl | rfl | rfl <;> first
            | exact fun _ _ _ _ _ _ => trivial
            | exact fun j v x y _ hr => PB.up hr
        refine M2.mono_val rfl rfl (fun x hD hF => ?_) ?_
        · go_simp
          refine (alive_any x).mono ?_
          rintro e y ⟨rfl, hg⟩
          exact ⟨_, rfl, hg, rfl⟩
        apply Exists.intro
        refine ⟨by simp only [Act.put, List.setIfInBounds_toArray, List.set_cons_succ, List.set_cons_zero]; rfl, ?_⟩
        iterate 2
          refine M2.mono_pure rfl rfl ?_
          apply Exists.intro
          refine ⟨fun x => ?_, ?_⟩
          · go_simp
            rfl
          apply Exists.intro
          refine ⟨by simp only [Act.put, List.setIfInBounds_toArray, List.set_cons_succ, List.set_cons_zero]; rfl, ?_⟩
        refine M2.mono_mem rfl rfl (fun x hD hF => ?_) (fun v42 => ?_)
        · obtain ⟨v, hv, _⟩ := hD.at_
          go_simp
          refine (bytes_any x w.heap.size w.heap.size v xs hv HZ.out (by have := HL.out; omega)).mono ?_
          rintro e y ⟨u, rfl, ho, hb⟩
          exact ⟨_, rfl, hb, ⟨_, ho⟩⟩
        apply Exists.intro
        refine ⟨by simp only [Act.put, List.setIfInBounds_toArray, List.set_cons_succ, List.set_cons_zero]; rfl, ?_⟩
        refine M2.mono_val rfl rfl (fun x hD hF => ?_) ?_
        · obtain ⟨q, ho⟩ := (hF 3 _ 42 rfl rfl (by decide)).1
          have hk : (convert 24 9 v42).run Try.prog x = .ok (.string S) x := by rw [HSS.out]; exact own_conv ho HZ.out
          go_simp
          exact ⟨Below.refl _ _, rfl⟩
        apply Exists.intro
        refine ⟨by simp only [Act.put, List.setIfInBounds_toArray, List.set_cons_succ, List.set_cons_zero]; rfl, ?_⟩
        iterate 1
          refine M2.mono_pure rfl rfl ?_
          apply Exists.intro
          refine ⟨fun x => ?_, ?_⟩
          · go_simp
            rfl
          apply Exists.intro
          refine ⟨by simp only [Act.put, List.setIfInBounds_toArray, List.set_cons_succ, List.set_cons_zero]; rfl, ?_⟩
        refine M2.mono_val rfl rfl (fun x hD hF => ?_) ?_
        · have hk : (convert 24 9 u5).run Try.prog x = .ok (.string S) x := by rw [HSS.out]; exact own_conv hD.own HZ.out
          go_simp
          exact ⟨Below.refl _ _, rfl⟩
        apply Exists.intro
        refine ⟨by simp only [Act.put, List.setIfInBounds_toArray, List.set_cons_succ, List.set_cons_zero]; rfl, ?_⟩
        iterate 4
          refine M2.mono_pure rfl rfl ?_
          apply Exists.intro
          refine ⟨fun x => ?_, ?_⟩
          · go_simp
            rfl
          apply Exists.intro
          refine ⟨by simp only [Act.put, List.setIfInBounds_toArray, List.set_cons_succ, List.set_cons_zero]; rfl, ?_⟩
        refine M2.mono_val rfl rfl (fun x hD hF => ?_) ?_
        · go_simp
          refine (bytes_nil x).mono ?_
          rintro e y ⟨rfl, ew⟩
          exact ⟨_, rfl, by rw [ew]; exact Below.refl _ _, rfl⟩
        apply Exists.intro
        refine ⟨by simp only [Act.put, List.setIfInBounds_toArray, List.set_cons_succ, List.set_cons_zero]; rfl, ?_⟩
        iterate 4
          refine M2.mono_pure rfl rfl ?_
          apply Exists.intro
          refine ⟨fun x => ?_, ?_⟩
          · go_simp
            rfl
          apply Exists.intro
          refine ⟨by simp only [Act.put, List.setIfInBounds_toArray, List.set_cons_succ, List.set_cons_zero]; rfl, ?_⟩
        refine M2.mono_nil ?_
        intro w3 hD hF
        have HB := Lib.hid hD.below
        clear hD hF
        go_simp
        go_wp2_with fail
        go_ret
        exact ⟨rfl, HB.out⟩
      · have hNi : ¬ (i : Int) < (N : Int) := by omega
        go_wp2_with fail
        refine M2.wp_region_kinds (fun _ x y => Below x.heap.size x y) (fun _ x => WW w w.heap.size xs u5 x) (fun x => WW w w.heap.size xs u5 x)
          [(0, .val (.bool true) fun _ => True), (3, .mem (PB xs)), (4, .val (.string S) fun _ => True), (6, .val (.string S) fun _ => True), (11, .val (.slice none 0 0) fun _ => True)] (by kernel_rfl) (by kernel_rfl) (fun _ _ _ hb h => WW.below_ h hb) (fun _ _ _ _ _ hb h => WW.below_ h hb) ?_ HID.out (fun _ => HID.out) ?_
        · intro z hz
          simp only [List.mem_cons, List.mem_nil_iff, or_false] at hz
          rcases hz with rfl | rfl | rfl | rfl | rfl <;> first
            | exact fun _ _ _ _ _ _ => trivial
            | exact fun j v x y _ hr => PB.up hr
        refine M2.mono_val rfl rfl (fun x hD hF => ?_) ?_
        · go_simp
          refine (alive_any x).mono ?_
          rintro e y ⟨rfl, hg⟩
          exact ⟨_, rfl, hg, rfl⟩
        apply Exists.intro
        refine ⟨by simp only [Act.put, List.setIfInBounds_toArray, List.set_cons_succ, List.set_cons_zero]; rfl, ?_⟩
        iterate 2
          refine M2.mono_pure rfl rfl ?_
          apply Exists.intro
          refine ⟨fun x => ?_, ?_⟩
          · go_simp
            rfl
          apply Exists.intro
          refine ⟨by simp only [Act.put, List.setIfInBounds_toArray, List.set_cons_succ, List.set_cons_zero]; rfl, ?_⟩
        refine M2.mono_mem rfl rfl (fun x hD hF => ?_) (fun v42 => ?_)
        · obtain ⟨v, hv, _⟩ := hD.at_
          go_simp
          refine (bytes_any x w.heap.size w.heap.size v xs hv HZ.out (by have := HL.out; omega)).mono ?_
          rintro e y ⟨u, rfl, ho, hb⟩
          exact ⟨_, rfl, hb, ⟨_, ho⟩⟩
        apply Exists.intro
        refine ⟨by simp only [Act.put, List.setIfInBounds_toArray, List.set_cons_succ, List.set_cons_zero]; rfl, ?_⟩
        refine M2.mono_val rfl rfl (fun x hD hF => ?_) ?_
        · obtain ⟨q, ho⟩ := (hF 3 _ 42 rfl rfl (by decide)).1
          have hk : (convert 24 9 v42).run Try.prog x = .ok (.string S) x := by rw [HSS.out]; exact own_conv ho HZ.out
          go_simp
          exact ⟨Below.refl _ _, rfl⟩
        apply Exists.intro
        refine ⟨by simp only [Act.put, List.setIfInBounds_toArray, List.set_cons_succ, List.set_cons_zero]; rfl, ?_⟩
        iterate 1
          refine M2.mono_pure rfl rfl ?_
          apply Exists.intro
          refine ⟨fun x => ?_, ?_⟩
          · go_simp
            rfl
          apply Exists.intro
          refine ⟨by simp only [Act.put, List.setIfInBounds_toArray, List.set_cons_succ, List.set_cons_zero]; rfl, ?_⟩
        refine M2.mono_val rfl rfl (fun x hD hF => ?_) ?_
        · have hk : (convert 24 9 u5).run Try.prog x = .ok (.string S) x := by rw [HSS.out]; exact own_conv hD.own HZ.out
          go_simp
          exact ⟨Below.refl _ _, rfl⟩
        apply Exists.intro
        refine ⟨by simp only [Act.put, List.setIfInBounds_toArray, List.set_cons_succ, List.set_cons_zero]; rfl, ?_⟩
        iterate 4
          refine M2.mono_pure rfl rfl ?_
          apply Exists.intro
          refine ⟨fun x => ?_, ?_⟩
          · go_simp
            rfl
          apply Exists.intro
          refine ⟨by simp only [Act.put, List.setIfInBounds_toArray, List.set_cons_succ, List.set_cons_zero]; rfl, ?_⟩
        refine M2.mono_val rfl rfl (fun x hD hF => ?_) ?_
        · go_simp
          refine (bytes_nil x).mono ?_
          rintro e y ⟨rfl, ew⟩
          exact ⟨_, rfl, by rw [ew]; exact Below.refl _ _, rfl⟩
        apply Exists.intro
        refine ⟨by simp only [Act.put, List.setIfInBounds_toArray, List.set_cons_succ, List.set_cons_zero]; rfl, ?_⟩
        iterate 4
          refine M2.mono_pure rfl rfl ?_
          apply Exists.intro
          refine ⟨fun x => ?_, ?_⟩
          · go_simp
            rfl
          apply Exists.intro
          refine ⟨by simp only [Act.put, List.setIfInBounds_toArray, List.set_cons_succ, List.set_cons_zero]; rfl, ?_⟩
        refine M2.mono_nil ?_
        intro w3 hD hF
        have HB := Lib.hid hD.below
        clear hD hF
        go_simp
        go_wp2_with fail
        go_ret
        exact ⟨rfl, HB.out⟩
end Go.Proofs.Ythodogcpoihjpaa
