/- The law VecJoins of layer 3, walked. -/
import Derived.Test.YtlakienebicahaaA8
import Derived.Test.YtlakienebicahaaFront
namespace Go.Proofs.Ytlakienebicahaa
open Go.RowKit

structure QInv (w : World) (f : Nat → Nat) (x : World) : Prop where
  v : x.rowIs w.heap.size 24 8 (fun i => .int .u64 ((f i : Nat) : Int))
  below : Below w.heap.size w x
theorem QInv.then_ {w x y : World} {f : Nat → Nat} (hb : Below x.heap.size x y) (I : QInv w f x) : QInv w f y := ⟨row_below I.v hb I.v.lt, I.below.trans (hb.mono I.below.size)⟩
theorem QInv.drew {w x : World} {f : Nat → Nat} (I : QInv w f x) : QInv w f x.drew := ⟨I.v, ⟨I.below.os, I.below.tape, I.below.output, I.below.size, I.below.block⟩⟩
theorem QInv.set {w x : World} {f g : Nat → Nat} (I : QInv w f x) : QInv w g (x.setRow w.heap.size (arrOf .u64 8 g)) :=
  ⟨arr_row (setRow_heap x w.heap.size _ (arrOf .u64 8 g) 24 (0, 0) (row24 I.v)), below_setRow' I.below (Nat.le_refl _) _⟩

set_option maxRecDepth 100000 in
set_option maxHeartbeats 4000000 in
theorem law_joins (ls : List (Nat → Nat)) (c : Nat) (A : Option Addr) (w : World) (hv : Vecs w (· < w.heap.size) A ls) (hm : ls.length ≤ 9223372036854775807) :
    Calls Try.prog 4 #[.slice A ls.length c] w fun e w' => e = .returned (.bool true) ∧ Below w.heap.size w w' := by
  have HV := Lib.hid hv
  clear hv
  have s24 : ∀ {f : Nat → Nat}, Hid ((Try.prog.info? 24).map (·.size) = some (arrOf .u64 8 f).size) := fun {f} => by rw [arrOf_size]; exact size24
  have ss : ∀ {f g : Nat → Nat}, Hid ((arrOf .u64 8 f).size = (arrOf .u64 8 g).size) := fun {f g} => by rw [arrOf_size, arrOf_size]; exact rfl
  by_cases hbig : 50 < ls.length
  · have hbig' : (50 : Int) < (ls.length : Int) := by omega
    go_enter Try.func4, Try.ntmps4
    go_wp2_with (go_at_call 18; refine (alive_any _).mono ?_; rintro e w1 ⟨rfl, hb⟩; have HB := Lib.hid hb; clear hb)
    go_ret
    exact ⟨rfl, HB.out⟩
  · have hbig' : ¬ (50 : Int) < (ls.length : Int) := by omega
    go_enter Try.func4, Try.ntmps4
    go_wp2_with fail
    have HI0 : Hid (QInv w (fun _ => 0) (w.alloc (.cells #[.int .u64 0, .int .u64 0, .int .u64 0, .int .u64 0, .int .u64 0, .int .u64 0, .int .u64 0, .int .u64 0] 24))) := ⟨zero_row w, below1 _ _⟩
    generalize w.alloc (.cells #[.int .u64 0, .int .u64 0, .int .u64 0, .int .u64 0, .int .u64 0, .int .u64 0, .int .u64 0, .int .u64 0] 24) = w1 at *
    go_loopw [4] (fun v wr => ∃ j : Nat, j ≤ ls.length ∧ v = .int .i64 j ∧ Hid (QInv w (joinAll (ls.take j)) wr)) (fun v _ => ls.length - (intOf v).toNat)
    case atStart => exact ⟨0, by omega, rfl, HI0⟩
    case round =>
      clear HI0
      obtain ⟨j, hj, rfl, HI⟩ := hrel
      by_cases hlt : j < ls.length
      · obtain ⟨b, o, hA, HR0⟩ : ∃ b o, A = some ⟨b, o, none⟩ ∧ ∀ x, Below w.heap.size w x → rangeA x b (o + j * 8) (arrOf .u64 8 (ls.getD j fun _ => 0)) := by
          obtain ⟨b, o, e, hbl, _⟩ := HV.out.at_ (by omega)
          refine ⟨b, o, e, fun x hx => ?_⟩
          obtain ⟨b', o', e', _, hr⟩ := (HV.out.below hx).at_ (by omega)
          rw [e] at e'
          injection e' with e'
          injection e' with e1 e2
          subst e1 e2
          exact hr j hlt
        subst hA
        obtain ⟨Y, hY⟩ : ∃ Y, Y = ls.getD j (fun _ => 0) := ⟨_, rfl⟩
        rw [← hY] at HR0
        have HR := Lib.hid HR0
        obtain ⟨X, hX⟩ : ∃ X, X = joinAll (ls.take j) := ⟨_, rfl⟩
        rw [← hX] at HI
        have HE : Hid (joinAll (ls.take (j + 1)) = fun i => max (X i) (Y i)) := by show _ = _; rw [joinAll_take ls hlt, hX, hY]
        clear HR0 hX hY
        go_wp2_with fail
        refine M3.wp_region_front 6 [] (fun _ x y => Below x.heap.size x y) (fun _ x => QInv w X x) (fun x => QInv w X x)
          [(0, .val (vecV X) fun _ => True), (4, .val (vecV Y) fun _ => True), (5, .val (vecV fun i => max (X i) (Y i)) fun _ => True)] (by kernel_rfl) (by kernel_rfl) (by kernel_rfl) (by kernel_rfl) (of_decide_eq_true (by kernel_rfl)) (fun p hp => by cases hp) (fun p hp => by cases hp) (fun _ _ _ hb => hb.size) (fun _ _ _ hb h => QInv.then_ hb h) (fun _ _ _ _ _ hb h => QInv.then_ hb h) ?_ HI.out.drew (fun _ => HI.out.drew) ?_
        · intro z hz
          simp only [List.mem_cons, List.mem_nil_iff, or_false] at hz
          rcases hz with rfl | rfl | rfl <;> exact fun _ _ _ _ _ _ => trivial
        refine M2.mono_val rfl rfl (fun x hD hF => ?_) ?_
        · have hl := run_loadVar_arr (P := Try.prog) x w.heap.size 0 24 (arrOf .u64 8 X) _ (row_range hD.v) Try.underlying24 rfl (by rw [arrOf_size]; exact size24)
          rw [exec_load 24 (.tmp 3) rfl w.heap.size 0 rfl hl]
          exact ⟨Below.refl _ _, rfl, trivial⟩
        apply Exists.intro
        refine ⟨by simp only [Act.put, List.setIfInBounds_toArray, List.set_cons_succ, List.set_cons_zero]; rfl, ?_⟩
        iterate 3
          refine M2.mono_pure rfl rfl ?_
          apply Exists.intro
          refine ⟨fun x => ?_, ?_⟩
          · go_simp
            rfl
          apply Exists.intro
          refine ⟨by simp only [Act.put, List.setIfInBounds_toArray, List.set_cons_succ, List.set_cons_zero]; rfl, ?_⟩
        refine M2.mono_val rfl rfl (fun x hD hF => ?_) ?_
        · have hl := run_loadVar_arr (P := Try.prog) x b (o + j * 8) 24 (arrOf .u64 8 Y) _ (HR.out x hD.below) Try.underlying24 rfl (by rw [arrOf_size]; exact size24)
          rw [exec_load 24 (.tmp 18) rfl b (o + j * 8) rfl hl]
          exact ⟨Below.refl _ _, rfl, trivial⟩
        apply Exists.intro
        refine ⟨by simp only [Act.put, List.setIfInBounds_toArray, List.set_cons_succ, List.set_cons_zero]; rfl, ?_⟩
        refine M2.mono_val rfl rfl (fun x hD hF => ?_) ?_
        · go_simp
          refine (joinR_any X Y x).mono ?_
          rintro e y ⟨rfl, hg⟩
          exact ⟨_, rfl, hg, rfl⟩
        apply Exists.intro
        refine ⟨by simp only [Act.put, List.setIfInBounds_toArray, List.set_cons_succ, List.set_cons_zero]; rfl, ?_⟩
        refine M2.mono_nil ?_
        intro w3 hD hF _
        have HI3 := Lib.hid (QInv.set (g := fun i => max (X i) (Y i)) hD)
        refine wpList_store_row rfl 24 _ _ rfl w.heap.size (arrOf .u64 8 fun i => max (X i) (Y i)) rfl rfl 24 _ (row24 hD.v) s24.out ss.out (arrOf_one _ _ _) ?_
        clear hD hF HI
        generalize w3.setRow w.heap.size (arrOf .u64 8 fun i => max (X i) (Y i)) = w4 at *
        go_simp
        go_wp2_with fail
        go_roundw
        case rel => exact ⟨j + 1, by omega, by go_num, by rw [HE.out]; exact HI3⟩
        case measure => simp [intOf]; omega
      · obtain rfl : j = ls.length := by omega
        clear hj hlt
        obtain ⟨X, hX⟩ : ∃ X, X = joinAll ls := ⟨_, rfl⟩
        rw [List.take_length, ← hX] at HI
        have HX := Lib.hid hX
        clear hX
        have HV2 : Hid (∀ x, Below w.heap.size w x → Vecs x (· < x.heap.size) A ls) := fun x hx => ⟨fun hp => by
          obtain ⟨b, o, e, hbl, hr⟩ := (HV.out.below hx).at_ hp
          exact ⟨b, o, e, Nat.lt_of_lt_of_le hbl hx.size, hr⟩⟩
        go_wp2_with fail
        refine M2.wp_region_kinds (fun _ x y => Below x.heap.size x y) (fun _ x => QInv w X x) (fun x => QInv w X x)
          [(0, .val (.bool true) fun _ => True), (3, .val (vecV X) fun _ => True), (4, .val (vecV X) fun _ => True), (8, .val (vecV fun _ => 0) fun _ => True)] (by kernel_rfl) (by kernel_rfl) (fun _ _ _ hb h => QInv.then_ hb h) (fun _ _ _ _ _ hb h => QInv.then_ hb h) ?_ HI.out.drew (fun _ => HI.out.drew) ?_
        · intro z hz
          simp only [List.mem_cons, List.mem_nil_iff, or_false] at hz
          rcases hz with rfl | rfl | rfl | rfl <;> exact fun _ _ _ _ _ _ => trivial
        refine M2.mono_val rfl rfl (fun x hD hF => ?_) ?_
        · go_simp
          refine (alive_any x).mono ?_
          rintro e y ⟨rfl, hg⟩
          exact ⟨_, rfl, hg, rfl⟩
        apply Exists.intro
        refine ⟨by simp only [Act.put, List.setIfInBounds_toArray, List.set_cons_succ, List.set_cons_zero]; rfl, ?_⟩
        iterate 2
          refine M2.mono_pure rfl rfl ?_
          apply Exists.intro
          refine ⟨fun x => ?_, ?_⟩
          · go_simp
            rfl
          apply Exists.intro
          refine ⟨by simp only [Act.put, List.setIfInBounds_toArray, List.set_cons_succ, List.set_cons_zero]; rfl, ?_⟩
        refine M2.mono_val rfl rfl (fun x hD hF => ?_) ?_
        · go_simp
          refine (join_any ls c A x (HV2.out x hD.below) hm).mono ?_
          rintro e y ⟨rfl, hg⟩
          exact ⟨_, rfl, hg, by rw [HX.out]⟩
        apply Exists.intro
        refine ⟨by simp only [Act.put, List.setIfInBounds_toArray, List.set_cons_succ, List.set_cons_zero]; rfl, ?_⟩
        refine M2.mono_val rfl rfl (fun x hD hF => ?_) ?_
        · have hl := run_loadVar_arr (P := Try.prog) x w.heap.size 0 24 (arrOf .u64 8 X) _ (row_range hD.v) Try.underlying24 rfl (by rw [arrOf_size]; exact size24)
          rw [exec_load 24 (.tmp 3) rfl w.heap.size 0 rfl hl]
          exact ⟨Below.refl _ _, rfl, trivial⟩
        apply Exists.intro
        refine ⟨by simp only [Act.put, List.setIfInBounds_toArray, List.set_cons_succ, List.set_cons_zero]; rfl, ?_⟩
        refine M2.mono_pure rfl rfl ?_
        apply Exists.intro
        refine ⟨fun x => ?_, ?_⟩
        · have h1 := eq_vec X X x
          rw [(Vec.same_iff X X).2 fun _ _ => rfl] at h1
          go_simp
          rfl
        apply Exists.intro
        refine ⟨by simp only [Act.put, List.setIfInBounds_toArray, List.set_cons_succ, List.set_cons_zero]; rfl, ?_⟩
        iterate 2
          refine M2.mono_pure rfl rfl ?_
          apply Exists.intro
          refine ⟨fun x => ?_, ?_⟩
          · go_simp
            rfl
          apply Exists.intro
          refine ⟨by simp only [Act.put, List.setIfInBounds_toArray, List.set_cons_succ, List.set_cons_zero]; rfl, ?_⟩
        refine M2.mono_val rfl rfl (fun x hD hF => ?_) ?_
        · go_simp
          refine (join_any [] 0 none x ⟨fun h => absurd h (Nat.lt_irrefl 0)⟩ (by simp)).mono ?_
          rintro e y ⟨rfl, hg⟩
          exact ⟨_, rfl, hg, rfl⟩
        apply Exists.intro
        refine ⟨by simp only [Act.put, List.setIfInBounds_toArray, List.set_cons_succ, List.set_cons_zero]; rfl, ?_⟩
        refine M2.mono_pure rfl rfl ?_
        refine ⟨vecV fun _ => 0, fun x => ?_, ?_⟩
        · go_simp
          rfl
        apply Exists.intro
        refine ⟨by simp only [Act.put, List.setIfInBounds_toArray, List.set_cons_succ, List.set_cons_zero]; rfl, ?_⟩
        refine M2.mono_pure rfl rfl ?_
        apply Exists.intro
        refine ⟨fun x => ?_, ?_⟩
        · have h1 := eq_vec (fun _ => 0) (fun _ => 0) x
          rw [(Vec.same_iff (fun _ => 0) (fun _ => 0)).2 fun _ _ => rfl] at h1
          go_simp
          rfl
        apply Exists.intro
        refine ⟨by simp only [Act.put, List.setIfInBounds_toArray, List.set_cons_succ, List.set_cons_zero]; rfl, ?_⟩
        iterate 2
          refine M2.mono_pure rfl rfl ?_
          apply Exists.intro
          refine ⟨fun x => ?_, ?_⟩
          · go_simp
            rfl
          apply Exists.intro
          refine ⟨by simp only [Act.put, List.setIfInBounds_toArray, List.set_cons_succ, List.set_cons_zero]; rfl, ?_⟩
        refine M2.mono_nil ?_
        intro w7 hD hF
        have HB := Lib.hid hD.below
        clear hD hF
        go_simp
        go_wp2_with fail
        go_ret
        exact ⟨rfl, HB.out⟩
end Go.Proofs.Ytlakienebicahaa
