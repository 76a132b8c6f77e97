/- The law VecLattice of layer 3, walked. -/
import Derived.Test.YtlakienebicahaaA8
import Derived.Test.YtlakienebicahaaFront
import Derived.Deep.Cut
namespace Go.Proofs.Ytlakienebicahaa
open Go.RowKit

theorem then2' {w x y : World} (h : Below w.heap.size w x) (hb : Below x.heap.size x y) : Below w.heap.size w y := h.trans (hb.mono h.size)
theorem same_refl (f : Nat → Nat) : Vec.same f f = true := (Vec.same_iff f f).2 fun _ _ => rfl
/-- A new block of noughts. -/
def PN (w : World) (v : Value) (x : World) : Prop := ∃ b, v = .pointer (some ⟨b, 0, none⟩) ∧ w.heap.size + 3 ≤ b ∧ x.rowIs b 24 8 (fun _ => .int .u64 0)
theorem PN.up {w : World} {v : Value} {x y : World} (h : Below x.heap.size x y) : PN w v x → PN w v y := fun ⟨b, e, hb, hr⟩ => ⟨b, e, hb, row_below hr h hr.lt⟩
theorem PN.new {w x : World} (h : w.heap.size + 1 + 1 < x.heap.size) : PN w (.pointer (some ⟨x.heap.size, 0, none⟩)) (x.alloc (.cells #[.int .u64 0, .int .u64 0, .int .u64 0, .int .u64 0, .int .u64 0, .int .u64 0, .int .u64 0, .int .u64 0] 24)) := ⟨_, rfl, by omega, zero_row x⟩
/-- Three boxed vectors. -/
structure TInv (w : World) (f g h : Nat → Nat) (x : World) : Prop where
  a : x.rowIs w.heap.size 24 8 (fun i => .int .u64 ((f i : Nat) : Int))
  b : x.rowIs (w.heap.size + 1) 24 8 (fun i => .int .u64 ((g i : Nat) : Int))
  c : x.rowIs (w.heap.size + 1 + 1) 24 8 (fun i => .int .u64 ((h i : Nat) : Int))
  below : Below w.heap.size w x
theorem TInv.start (w : World) (f g h : Nat → Nat) : TInv w f g h (((w.alloc (.cells (arrOf .u64 8 f) 24)).alloc (.cells (arrOf .u64 8 g) 24)).alloc (.cells (arrOf .u64 8 h) 24)) := by
  have k := VInv.start w f g
  refine ⟨k.a.alloc _, k.b.alloc _, ?_, k.below.alloc k.below.size _⟩
  simpa using vec_row ((w.alloc (.cells (arrOf .u64 8 f) 24)).alloc (.cells (arrOf .u64 8 g) 24)) h
theorem TInv.then_ {w x y : World} {f g h : Nat → Nat} (hb : Below x.heap.size x y) (I : TInv w f g h x) : TInv w f g h y :=
  ⟨row_below I.a hb I.a.lt, row_below I.b hb I.b.lt, row_below I.c hb I.c.lt, I.below.trans (hb.mono I.below.size)⟩
theorem TInv.drew {w x : World} {f g h : Nat → Nat} (I : TInv w f g h x) : TInv w f g h x.drew := ⟨I.a, I.b, I.c, ⟨I.below.os, I.below.tape, I.below.output, I.below.size, I.below.block⟩⟩
/-- .. and two more. -/
structure LInv (w : World) (f g h : Nat → Nat) (b7 b8 : Nat) (J M : Nat → Nat) (x : World) : Prop where
  a : x.rowIs w.heap.size 24 8 (fun i => .int .u64 ((f i : Nat) : Int))
  b : x.rowIs (w.heap.size + 1) 24 8 (fun i => .int .u64 ((g i : Nat) : Int))
  c : x.rowIs (w.heap.size + 1 + 1) 24 8 (fun i => .int .u64 ((h i : Nat) : Int))
  j : x.rowIs b7 24 8 (fun i => .int .u64 ((J i : Nat) : Int))
  m : x.rowIs b8 24 8 (fun i => .int .u64 ((M i : Nat) : Int))
  below : Below w.heap.size w x
theorem LInv.then_ {w x y : World} {f g h J M : Nat → Nat} {b7 b8 : Nat} (hb : Below x.heap.size x y) (I : LInv w f g h b7 b8 J M x) : LInv w f g h b7 b8 J M y :=
  ⟨row_below I.a hb I.a.lt, row_below I.b hb I.b.lt, row_below I.c hb I.c.lt, row_below I.j hb I.j.lt, row_below I.m hb I.m.lt, I.below.trans (hb.mono I.below.size)⟩
theorem LInv.drew {w x : World} {f g h J M : Nat → Nat} {b7 b8 : Nat} (I : LInv w f g h b7 b8 J M x) : LInv w f g h b7 b8 J M x.drew := ⟨I.a, I.b, I.c, I.j, I.m, ⟨I.below.os, I.below.tape, I.below.output, I.below.size, I.below.block⟩⟩


theorem seq_val {P : Program} {ops : Array Oper} {rest : List Oper} {o : Oper} {a : Act} {w : World} {Q : Exit → Act → World → Prop} {R : World → World → Prop} {p : World → Prop} (hw : Region.wanted o (yielded ops a.tmps) = true) (c : Value)
    (hc : M2.growUpon P R w (fun v w' => v = c ∧ p w') ((execOp a.eval o).run P w)) (h : ∀ w', R w w' → p w' → ∃ a', a.put o.dst c = a' ∧ wpList P ops Q rest a' w') : wpList P ops Q (o :: rest) a w :=
  wpList_wanted hw fun K hK => by
    have go : ∀ w', R w w' → p w' → K (a.put o.dst c) w' := fun w' hr hp => by
      obtain ⟨a', rfl, hh⟩ := h w' hr hp
      exact hK _ _ hh
    unfold Oper.wp
    generalize (execOp a.eval o).run P w = r at *
    cases r with
    | ok n w' =>
      cases n <;> simp only [M2.growUpon] at hc <;> simp only [Oper.upon]
      case value u => obtain ⟨hr, rfl, hp⟩ := hc; exact go _ hr hp
      case skip => obtain ⟨hr, rfl, hp⟩ := hc; exact go _ hr hp
      case enter f args => exact Calls.mono hc fun e w'' ⟨v, he, hr, hv, hp⟩ => by subst he; subst hv; exact go _ hr hp
    | halt x w' => simp only [M2.growUpon] at hc
theorem seq_pure {P : Program} {ops : Array Oper} {rest : List Oper} {o : Oper} {a : Act} {w : World} {Q : Exit → Act → World → Prop} (hw : Region.wanted o (yielded ops a.tmps) = true)
    (h : ∃ c, (execOp a.eval o).run P w = .ok (.value c) w ∧ ∃ a', a.put o.dst c = a' ∧ wpList P ops Q rest a' w) : wpList P ops Q (o :: rest) a w := by
  obtain ⟨c, hc, h⟩ := h
  refine seq_val (R := fun x y => x = y) (p := fun _ => True) hw c ?_ ?_
  · rw [hc]; exact ⟨rfl, rfl, trivial⟩
  · rintro w' rfl _; exact h
theorem seq_skip {P : Program} {ops : Array Oper} {rest : List Oper} {o : Oper} {a : Act} {w : World} {Q : Exit → Act → World → Prop} (hw : Region.wanted o (yielded ops a.tmps) = false)
    (h : ∃ a', a.put o.dst undef = a' ∧ wpList P ops Q rest a' w) : wpList P ops Q (o :: rest) a w := by
  obtain ⟨_, rfl, h⟩ := h
  exact wpList_step fun K hK => by rw [if_neg (by rw [hw]; exact Bool.false_ne_true)]; exact hK _ _ h
theorem seq_nil {P : Program} {ops : Array Oper} {a : Act} {w : World} {Q : Exit → Act → World → Prop} (h : Q .normal a w) : wpList P ops Q [] a w := h

set_option maxRecDepth 100000 in
set_option maxHeartbeats 8000000 in
theorem law_lattice (f g h : Nat → Nat) (w : World) : Calls Try.prog 5 #[vecV f, vecV g, vecV h] w fun e w' => e = .returned (.bool true) ∧ Below w.heap.size w w' := by
  have HI0 := Lib.hid (TInv.start w f g h)
  obtain ⟨J, hJ⟩ : ∃ J : Nat → Nat, J = fun i => max (f i) (g i) := ⟨_, rfl⟩
  obtain ⟨M, hM⟩ : ∃ M : Nat → Nat, M = fun i => min (f i) (g i) := ⟨_, rfl⟩
  have HJ := Lib.hid hJ
  have HM := Lib.hid hM
  clear hJ hM
  have s24 : ∀ {f : Nat → Nat}, Hid ((Try.prog.info? 24).map (·.size) = some (arrOf .u64 8 f).size) := fun {f} => by rw [arrOf_size]; exact size24
  have ss : ∀ {f g : Nat → Nat}, Hid ((arrOf .u64 8 f).size = (arrOf .u64 8 g).size) := fun {f g} => by rw [arrOf_size, arrOf_size]; exact rfl
  go_enter Try.func5, Try.ntmps5
  go_wp2_with fail
  generalize ((w.alloc (.cells (arrOf .u64 8 f) 24)).alloc (.cells (arrOf .u64 8 g) 24)).alloc (.cells (arrOf .u64 8 h) 24) = w1 at *
  refine M3.wp_region_front 9 [(7, 7), (8, 8)] (fun _ x y => Below x.heap.size x y) (fun _ x => TInv w f g h x) (fun x => TInv w f g h x)
    [(0, .val (vecV f) fun _ => True), (1, .val (vecV g) fun _ => True), (2, .mem (PV [f, g])), (3, .val (vecV J) fun _ => True), (4, .val (vecV f) fun _ => True), (5, .val (vecV g) fun _ => True), (6, .val (vecV M) fun _ => True), (7, .mem (PN w)), (8, .mem (PN w))] (by kernel_rfl) (by kernel_rfl) (by kernel_rfl) (by kernel_rfl) (of_decide_eq_true (by kernel_rfl)) ?_ ?_ (fun _ _ _ hb => hb.size) (fun _ _ _ hb h => TInv.then_ hb h) (fun _ _ _ _ _ hb h => TInv.then_ hb h) ?_ HI0.out.drew (fun _ => HI0.out.drew) ?_
  · intro p hp o ho ev x
    simp only [List.mem_cons, List.mem_nil_iff, or_false] at hp
    rcases hp with rfl | rfl
    · have ho' := Option.some.inj ho
      subst ho'
      refine ⟨x.alloc (.cells #[.int .u64 0, .int .u64 0, .int .u64 0, .int .u64 0, .int .u64 0, .int .u64 0, .int .u64 0, .int .u64 0] 24), ?_, by simp⟩
      go_simp
    · have ho' := Option.some.inj ho
      subst ho'
      refine ⟨x.alloc (.cells #[.int .u64 0, .int .u64 0, .int .u64 0, .int .u64 0, .int .u64 0, .int .u64 0, .int .u64 0, .int .u64 0] 24), ?_, by simp⟩
      go_simp
  · intro p hp
    simp only [List.mem_cons, List.mem_nil_iff, or_false] at hp
    rcases hp with rfl | rfl <;> (simp)
  · intro z hz
    simp only [List.mem_cons, List.mem_nil_iff, or_false] at hz
    rcases hz with rfl | rfl | rfl | rfl | rfl | rfl | rfl | rfl | rfl <;> first
      | exact fun _ _ _ _ _ _ => trivial
      | exact fun j v x y _ hr => PV.up hr
      | exact fun j v x y _ hr => PN.up hr
  refine M2.mono_val rfl rfl (fun x hD hF => ?_) ?_
  · have hl := run_loadVar_arr (P := Try.prog) x w.heap.size 0 24 (arrOf .u64 8 f) _ (row_range hD.a) Try.underlying24 rfl (by rw [arrOf_size]; exact size24)
    rw [exec_load 24 (.tmp 3) rfl w.heap.size 0 rfl hl]
    exact ⟨Below.refl _ _, rfl, trivial⟩
  apply Exists.intro
  refine ⟨by simp only [Act.put, List.setIfInBounds_toArray, List.set_cons_succ, List.set_cons_zero]; rfl, ?_⟩
  refine M2.mono_val rfl rfl (fun x hD hF => ?_) ?_
  · have hl := run_loadVar_arr (P := Try.prog) x (w.heap.size + 1) 0 24 (arrOf .u64 8 g) _ (row_range hD.b) Try.underlying24 rfl (by rw [arrOf_size]; exact size24)
    rw [exec_load 24 (.tmp 4) rfl (w.heap.size + 1) 0 rfl hl]
    exact ⟨Below.refl _ _, rfl, trivial⟩
  apply Exists.intro
  refine ⟨by simp only [Act.put, List.setIfInBounds_toArray, List.set_cons_succ, List.set_cons_zero]; rfl, ?_⟩
  refine M2.mono_mem rfl rfl (fun x hD hF => ?_) (fun v11 => ?_)
  · rw [exec_build 49 2 _ rfl #[(0, .agg (arrOf .u64 8 f)), (1, .agg (arrOf .u64 8 g))] (by simp only [List.map_toArray, List.map_cons, List.map_nil]; rfl) (run_two f g x)]
    exact ⟨below1 _ _, pv_two f g x⟩
  apply Exists.intro
  refine ⟨by simp only [Act.put, List.setIfInBounds_toArray, List.set_cons_succ, List.set_cons_zero]; rfl, ?_⟩
  refine M2.mono_val rfl rfl (fun x hD hF => ?_) ?_
  · have h1 := (hF 2 _ 11 rfl rfl (by decide)).1
    go_simp
    refine (join_pv h1).mono ?_
    rintro e y ⟨rfl, hg⟩
    exact ⟨_, rfl, hg, by rw [← HJ.out]⟩
  apply Exists.intro
  refine ⟨by simp only [Act.put, List.setIfInBounds_toArray, List.set_cons_succ, List.set_cons_zero]; rfl, ?_⟩
  refine M2.mono_val rfl rfl (fun x hD hF => ?_) ?_
  · have hl := run_loadVar_arr (P := Try.prog) x w.heap.size 0 24 (arrOf .u64 8 f) _ (row_range hD.a) Try.underlying24 rfl (by rw [arrOf_size]; exact size24)
    rw [exec_load 24 (.tmp 3) rfl w.heap.size 0 rfl hl]
    exact ⟨Below.refl _ _, rfl, trivial⟩
  apply Exists.intro
  refine ⟨by simp only [Act.put, List.setIfInBounds_toArray, List.set_cons_succ, List.set_cons_zero]; rfl, ?_⟩
  refine M2.mono_val rfl rfl (fun x hD hF => ?_) ?_
  · have hl := run_loadVar_arr (P := Try.prog) x (w.heap.size + 1) 0 24 (arrOf .u64 8 g) _ (row_range hD.b) Try.underlying24 rfl (by rw [arrOf_size]; exact size24)
    rw [exec_load 24 (.tmp 4) rfl (w.heap.size + 1) 0 rfl hl]
    exact ⟨Below.refl _ _, rfl, trivial⟩
  apply Exists.intro
  refine ⟨by simp only [Act.put, List.setIfInBounds_toArray, List.set_cons_succ, List.set_cons_zero]; rfl, ?_⟩
  refine M2.mono_val rfl rfl (fun x hD hF => ?_) ?_
  · go_simp
    refine (meet_any f g x).mono ?_
    rintro e y ⟨rfl, hg⟩
    exact ⟨_, rfl, hg, by rw [← HM.out]⟩
  apply Exists.intro
  refine ⟨by simp only [Act.put, List.setIfInBounds_toArray, List.set_cons_succ, List.set_cons_zero]; rfl, ?_⟩
  refine M2.mono_mem rfl rfl (fun x hD hF => ?_) (fun v7 => ?_)
  · go_simp
    exact ⟨below1 _ _, PN.new hD.c.lt⟩
  apply Exists.intro
  refine ⟨by simp only [Act.put, List.setIfInBounds_toArray, List.set_cons_succ, List.set_cons_zero]; rfl, ?_⟩
  refine M2.mono_mem rfl rfl (fun x hD hF => ?_) (fun v8 => ?_)
  · go_simp
    exact ⟨below1 _ _, PN.new hD.c.lt⟩
  apply Exists.intro
  refine ⟨by simp only [Act.put, List.setIfInBounds_toArray, List.set_cons_succ, List.set_cons_zero]; rfl, ?_⟩
  refine M2.mono_nil ?_
  intro w3 hD hF hdist
  have h7 : PN w v7 w3 := (hF 7).1
  have h8 : PN w v8 w3 := (hF 8).1
  have hne : v7 ≠ v8 := hdist (7, 7) (by simp) (8, 8) (by simp) (by decide)
  obtain ⟨b7, rfl, hb7, z7⟩ := h7
  obtain ⟨b8, rfl, hb8, z8⟩ := h8
  have hbb : b7 ≠ b8 := fun e => hne (by rw [e])
  have HL : Hid (LInv w f g h b7 b8 J M ((w3.setRow b7 (arrOf .u64 8 J)).setRow b8 (arrOf .u64 8 M))) := by
    have keep : ∀ k, k ≠ b7 → k ≠ b8 → ((w3.setRow b7 (arrOf .u64 8 J)).setRow b8 (arrOf .u64 8 M)).heap[k]? = w3.heap[k]? := fun k h1 h2 =>
      (setRow_other _ b8 k _ (by omega)).trans (setRow_other _ b7 k _ (by omega))
    have e7 := setRow_heap w3 b7 _ (arrOf .u64 8 J) 24 (0, 0) (row24 (f := fun _ => 0) z7)
    have e8 := setRow_heap (w3.setRow b7 (arrOf .u64 8 J)) b8 _ (arrOf .u64 8 M) 24 (0, 0) ((setRow_other _ b7 b8 _ (by omega)).trans (row24 (f := fun _ => 0) z8))
    exact ⟨hD.a.of_block (keep _ (by omega) (by omega)), hD.b.of_block (keep _ (by omega) (by omega)), hD.c.of_block (keep _ (by omega) (by omega)),
      arr_row ((setRow_other _ b8 b7 _ (by omega)).trans e7), arr_row e8, below_setRow' (below_setRow' hD.below (by omega) _) (by omega) _⟩
  refine wpList_store_row rfl 24 _ _ rfl b7 (arrOf .u64 8 J) rfl rfl 24 _ (row24 (f := fun _ => 0) z7) s24.out ss.out (arrOf_one _ _ _) ?_
  refine wpList_store_row rfl 24 _ _ rfl b8 (arrOf .u64 8 M) rfl rfl 24 _ ((setRow_other _ b7 b8 _ (by omega)).trans (row24 (f := fun _ => 0) z8)) s24.out ss.out (arrOf_one _ _ _) ?_
  clear hD hF hdist hne z7 z8 hbb hb7 hb8
  generalize (w3.setRow b7 (arrOf .u64 8 J)).setRow b8 (arrOf .u64 8 M) = w4 at *
  go_simp
  go_upto_region 2 with fail
  have jf : ∀ i, J i = max (f i) (g i) := fun i => by rw [HJ.out]
  have mf : ∀ i, M i = min (f i) (g i) := fun i => by rw [HM.out]
  have C1 : Hid (Vec.covers J f = true) := (Vec.covers_iff _ _).2 fun i _ => by rw [jf]; omega
  have C2 : Hid (Vec.covers J g = true) := (Vec.covers_iff _ _).2 fun i _ => by rw [jf]; omega
  have C3 : Hid (Vec.covers f M = true) := (Vec.covers_iff _ _).2 fun i _ => by rw [mf]; omega
  have C4 : Hid (Vec.covers g M = true) := (Vec.covers_iff _ _).2 fun i _ => by rw [mf]; omega
  have HJ2 : Hid (J = fun i => max (g i) (f i)) := by show J = _; funext i; rw [jf]; omega
  have HM2 : Hid (M = fun i => min (g i) (f i)) := by show M = _; funext i; rw [mf]; omega
  obtain ⟨T, hT⟩ : ∃ T : Nat → Nat, T = fun i => max (J i) (h i) := ⟨_, rfl⟩
  have HT := Lib.hid hT
  have HT2 : Hid (T = fun i => max (f i) (max (g i) (h i))) := by show T = _; rw [hT]; funext i; rw [jf]; omega
  have HA1 : Hid (f = fun i => max (f i) (M i)) := by show f = _; funext i; rw [mf]; omega
  have HA2 : Hid (f = fun i => min (f i) (J i)) := by show f = _; funext i; rw [jf]; omega
  have K1 : Vec.covers h f = true → Vec.covers h g = true → Vec.covers h J = true := fun h1 h2 => (Vec.covers_iff _ _).2 fun i hi => by
    have := (Vec.covers_iff _ _).1 h1 i hi; have := (Vec.covers_iff _ _).1 h2 i hi; rw [jf]; omega
  have K2 : Vec.covers f h = true → Vec.covers g h = true → Vec.covers M h = true := fun h1 h2 => (Vec.covers_iff _ _).2 fun i hi => by
    have := (Vec.covers_iff _ _).1 h1 i hi; have := (Vec.covers_iff _ _).1 h2 i hi; rw [mf]; omega
  have HK1 := Lib.hid K1
  have HK2 := Lib.hid K2
  clear hT jf mf K1 K2
  refine M2.wp_region_kinds (fun _ x y => Below x.heap.size x y) (fun _ x => LInv w f g h b7 b8 J M x) (fun x => LInv w f g h b7 b8 J M x)
    [(0, .val (vecV J) fun _ => True), (1, .val (vecV f) fun _ => True), (2, .val (.bool true) fun _ => True), (5, .val (vecV J) fun _ => True), (6, .val (vecV g) fun _ => True), (7, .val (.bool true) fun _ => True), (11, .val (vecV f) fun _ => True), (12, .val (vecV M) fun _ => True), (13, .val (.bool true) fun _ => True), (17, .val (vecV g) fun _ => True), (18, .val (vecV M) fun _ => True), (19, .val (.bool true) fun _ => True), (23, .val (vecV J) fun _ => True), (24, .val (vecV g) fun _ => True), (25, .val (vecV f) fun _ => True), (26, .mem (PV [g, f])), (27, .val (vecV J) fun _ => True), (31, .val (vecV M) fun _ => True), (32, .val (vecV g) fun _ => True), (33, .val (vecV f) fun _ => True), (34, .val (vecV M) fun _ => True)] (by kernel_rfl) (by kernel_rfl) (fun _ _ _ hb h => LInv.then_ hb h) (fun _ _ _ _ _ hb h => LInv.then_ hb h) ?_ HL.out.drew (fun _ => HL.out.drew) ?_
  · intro z hz
    simp only [List.mem_cons, List.mem_nil_iff, or_false] at hz
    rcases hz with rfl | rfl | rfl | rfl | rfl | rfl | rfl | rfl | rfl | rfl | rfl | rfl | rfl | rfl | rfl | rfl | rfl | rfl | rfl | rfl | rfl <;> first
      | exact fun _ _ _ _ _ _ => trivial
      | exact fun j v x y _ hr => PV.up hr
  refine M2.mono_val rfl rfl (fun x hD hF => ?_) ?_
  · have hl := run_loadVar_arr (P := Try.prog) x b7 0 24 (arrOf .u64 8 J) _ (row_range hD.j) Try.underlying24 rfl (by rw [arrOf_size]; exact size24)
    rw [exec_load 24 (.tmp 7) rfl b7 0 rfl hl]
    exact ⟨Below.refl _ _, rfl, trivial⟩
  apply Exists.intro
  refine ⟨by simp only [Act.put, List.setIfInBounds_toArray, List.set_cons_succ, List.set_cons_zero]; rfl, ?_⟩
  refine M2.mono_val rfl rfl (fun x hD hF => ?_) ?_
  · have hl := run_loadVar_arr (P := Try.prog) x w.heap.size 0 24 (arrOf .u64 8 f) _ (row_range hD.a) Try.underlying24 rfl (by rw [arrOf_size]; exact size24)
    rw [exec_load 24 (.tmp 3) rfl w.heap.size 0 rfl hl]
    exact ⟨Below.refl _ _, rfl, trivial⟩
  apply Exists.intro
  refine ⟨by simp only [Act.put, List.setIfInBounds_toArray, List.set_cons_succ, List.set_cons_zero]; rfl, ?_⟩
  refine M2.mono_val rfl rfl (fun x hD hF => ?_) ?_
  · go_simp
    refine (covers_any J f x).mono ?_
    rintro e y ⟨rfl, hg⟩
    exact ⟨_, rfl, hg, by rw [C1.out]⟩
  apply Exists.intro
  refine ⟨by simp only [Act.put, List.setIfInBounds_toArray, List.set_cons_succ, List.set_cons_zero]; rfl, ?_⟩
  iterate 2
    refine M2.mono_pure rfl rfl ?_
    apply Exists.intro
    refine ⟨fun x => ?_, ?_⟩
    · go_simp
      rfl
    apply Exists.intro
    refine ⟨by simp only [Act.put, List.setIfInBounds_toArray, List.set_cons_succ, List.set_cons_zero]; rfl, ?_⟩
  refine M2.mono_val rfl rfl (fun x hD hF => ?_) ?_
  · have hl := run_loadVar_arr (P := Try.prog) x b7 0 24 (arrOf .u64 8 J) _ (row_range hD.j) Try.underlying24 rfl (by rw [arrOf_size]; exact size24)
    rw [exec_load 24 (.tmp 7) rfl b7 0 rfl hl]
    exact ⟨Below.refl _ _, rfl, trivial⟩
  apply Exists.intro
  refine ⟨by simp only [Act.put, List.setIfInBounds_toArray, List.set_cons_succ, List.set_cons_zero]; rfl, ?_⟩
  refine M2.mono_val rfl rfl (fun x hD hF => ?_) ?_
  · have hl := run_loadVar_arr (P := Try.prog) x (w.heap.size + 1) 0 24 (arrOf .u64 8 g) _ (row_range hD.b) Try.underlying24 rfl (by rw [arrOf_size]; exact size24)
    rw [exec_load 24 (.tmp 4) rfl (w.heap.size + 1) 0 rfl hl]
    exact ⟨Below.refl _ _, rfl, trivial⟩
  apply Exists.intro
  refine ⟨by simp only [Act.put, List.setIfInBounds_toArray, List.set_cons_succ, List.set_cons_zero]; rfl, ?_⟩
  refine M2.mono_val rfl rfl (fun x hD hF => ?_) ?_
  · go_simp
    refine (covers_any J g x).mono ?_
    rintro e y ⟨rfl, hg⟩
    exact ⟨_, rfl, hg, by rw [C2.out]⟩
  apply Exists.intro
  refine ⟨by simp only [Act.put, List.setIfInBounds_toArray, List.set_cons_succ, List.set_cons_zero]; rfl, ?_⟩
  iterate 3
    refine M2.mono_pure rfl rfl ?_
    apply Exists.intro
    refine ⟨fun x => ?_, ?_⟩
    · go_simp
      rfl
    apply Exists.intro
    refine ⟨by simp only [Act.put, List.setIfInBounds_toArray, List.set_cons_succ, List.set_cons_zero]; rfl, ?_⟩
  refine M2.mono_val rfl rfl (fun x hD hF => ?_) ?_
  · have hl := run_loadVar_arr (P := Try.prog) x w.heap.size 0 24 (arrOf .u64 8 f) _ (row_range hD.a) Try.underlying24 rfl (by rw [arrOf_size]; exact size24)
    rw [exec_load 24 (.tmp 3) rfl w.heap.size 0 rfl hl]
    exact ⟨Below.refl _ _, rfl, trivial⟩
  apply Exists.intro
  refine ⟨by simp only [Act.put, List.setIfInBounds_toArray, List.set_cons_succ, List.set_cons_zero]; rfl, ?_⟩
  refine M2.mono_val rfl rfl (fun x hD hF => ?_) ?_
  · have hl := run_loadVar_arr (P := Try.prog) x b8 0 24 (arrOf .u64 8 M) _ (row_range hD.m) Try.underlying24 rfl (by rw [arrOf_size]; exact size24)
    rw [exec_load 24 (.tmp 8) rfl b8 0 rfl hl]
    exact ⟨Below.refl _ _, rfl, trivial⟩
  apply Exists.intro
  refine ⟨by simp only [Act.put, List.setIfInBounds_toArray, List.set_cons_succ, List.set_cons_zero]; rfl, ?_⟩
  refine M2.mono_val rfl rfl (fun x hD hF => ?_) ?_
  · go_simp
    refine (covers_any f M x).mono ?_
    rintro e y ⟨rfl, hg⟩
    exact ⟨_, rfl, hg, by rw [C3.out]⟩
  apply Exists.intro
  refine ⟨by simp only [Act.put, List.setIfInBounds_toArray, List.set_cons_succ, List.set_cons_zero]; rfl, ?_⟩
  iterate 3
    refine M2.mono_pure rfl rfl ?_
    apply Exists.intro
    refine ⟨fun x => ?_, ?_⟩
    · go_simp
      rfl
    apply Exists.intro
    refine ⟨by simp only [Act.put, List.setIfInBounds_toArray, List.set_cons_succ, List.set_cons_zero]; rfl, ?_⟩
  refine M2.mono_val rfl rfl (fun x hD hF => ?_) ?_
  · have hl := run_loadVar_arr (P := Try.prog) x (w.heap.size + 1) 0 24 (arrOf .u64 8 g) _ (row_range hD.b) Try.underlying24 rfl (by rw [arrOf_size]; exact size24)
    rw [exec_load 24 (.tmp 4) rfl (w.heap.size + 1) 0 rfl hl]
    exact ⟨Below.refl _ _, rfl, trivial⟩
  apply Exists.intro
  refine ⟨by simp only [Act.put, List.setIfInBounds_toArray, List.set_cons_succ, List.set_cons_zero]; rfl, ?_⟩
  refine M2.mono_val rfl rfl (fun x hD hF => ?_) ?_
  · have hl := run_loadVar_arr (P := Try.prog) x b8 0 24 (arrOf .u64 8 M) _ (row_range hD.m) Try.underlying24 rfl (by rw [arrOf_size]; exact size24)
    rw [exec_load 24 (.tmp 8) rfl b8 0 rfl hl]
    exact ⟨Below.refl _ _, rfl, trivial⟩
  apply Exists.intro
  refine ⟨by simp only [Act.put, List.setIfInBounds_toArray, List.set_cons_succ, List.set_cons_zero]; rfl, ?_⟩
  refine M2.mono_val rfl rfl (fun x hD hF => ?_) ?_
  · go_simp
    refine (covers_any g M x).mono ?_
    rintro e y ⟨rfl, hg⟩
    exact ⟨_, rfl, hg, by rw [C4.out]⟩
  apply Exists.intro
  refine ⟨by simp only [Act.put, List.setIfInBounds_toArray, List.set_cons_succ, List.set_cons_zero]; rfl, ?_⟩
  iterate 3
    refine M2.mono_pure rfl rfl ?_
    apply Exists.intro
    refine ⟨fun x => ?_, ?_⟩
    · go_simp
      rfl
    apply Exists.intro
    refine ⟨by simp only [Act.put, List.setIfInBounds_toArray, List.set_cons_succ, List.set_cons_zero]; rfl, ?_⟩
  refine M2.mono_val rfl rfl (fun x hD hF => ?_) ?_
  · have hl := run_loadVar_arr (P := Try.prog) x b7 0 24 (arrOf .u64 8 J) _ (row_range hD.j) Try.underlying24 rfl (by rw [arrOf_size]; exact size24)
    rw [exec_load 24 (.tmp 7) rfl b7 0 rfl hl]
    exact ⟨Below.refl _ _, rfl, trivial⟩
  apply Exists.intro
  refine ⟨by simp only [Act.put, List.setIfInBounds_toArray, List.set_cons_succ, List.set_cons_zero]; rfl, ?_⟩
  refine M2.mono_val rfl rfl (fun x hD hF => ?_) ?_
  · have hl := run_loadVar_arr (P := Try.prog) x (w.heap.size + 1) 0 24 (arrOf .u64 8 g) _ (row_range hD.b) Try.underlying24 rfl (by rw [arrOf_size]; exact size24)
    rw [exec_load 24 (.tmp 4) rfl (w.heap.size + 1) 0 rfl hl]
    exact ⟨Below.refl _ _, rfl, trivial⟩
  apply Exists.intro
  refine ⟨by simp only [Act.put, List.setIfInBounds_toArray, List.set_cons_succ, List.set_cons_zero]; rfl, ?_⟩
  refine M2.mono_val rfl rfl (fun x hD hF => ?_) ?_
  · have hl := run_loadVar_arr (P := Try.prog) x w.heap.size 0 24 (arrOf .u64 8 f) _ (row_range hD.a) Try.underlying24 rfl (by rw [arrOf_size]; exact size24)
    rw [exec_load 24 (.tmp 3) rfl w.heap.size 0 rfl hl]
    exact ⟨Below.refl _ _, rfl, trivial⟩
  apply Exists.intro
  refine ⟨by simp only [Act.put, List.setIfInBounds_toArray, List.set_cons_succ, List.set_cons_zero]; rfl, ?_⟩
  refine M2.mono_mem rfl rfl (fun x hD hF => ?_) (fun v42 => ?_)
  · rw [exec_build 49 2 _ rfl #[(0, .agg (arrOf .u64 8 g)), (1, .agg (arrOf .u64 8 f))] (by simp only [List.map_toArray, List.map_cons, List.map_nil]; rfl) (run_two g f x)]
    exact ⟨below1 _ _, pv_two g f x⟩
  apply Exists.intro
  refine ⟨by simp only [Act.put, List.setIfInBounds_toArray, List.set_cons_succ, List.set_cons_zero]; rfl, ?_⟩
  refine M2.mono_val rfl rfl (fun x hD hF => ?_) ?_
  · have h1 := (hF 26 _ 42 rfl rfl (by decide)).1
    go_simp
    refine (join_pv h1).mono ?_
    rintro e y ⟨rfl, hg⟩
    exact ⟨_, rfl, hg, by rw [← HJ2.out]⟩
  apply Exists.intro
  refine ⟨by simp only [Act.put, List.setIfInBounds_toArray, List.set_cons_succ, List.set_cons_zero]; rfl, ?_⟩
  refine M2.mono_pure rfl rfl ?_
  apply Exists.intro
  refine ⟨fun x => ?_, ?_⟩
  · have h1 := eq_vec J J x
    rw [same_refl] at h1
    go_simp
    rfl
  apply Exists.intro
  refine ⟨by simp only [Act.put, List.setIfInBounds_toArray, List.set_cons_succ, List.set_cons_zero]; rfl, ?_⟩
  iterate 2
    refine M2.mono_pure rfl rfl ?_
    apply Exists.intro
    refine ⟨fun x => ?_, ?_⟩
    · go_simp
      rfl
    apply Exists.intro
    refine ⟨by simp only [Act.put, List.setIfInBounds_toArray, List.set_cons_succ, List.set_cons_zero]; rfl, ?_⟩
  refine M2.mono_val rfl rfl (fun x hD hF => ?_) ?_
  · have hl := run_loadVar_arr (P := Try.prog) x b8 0 24 (arrOf .u64 8 M) _ (row_range hD.m) Try.underlying24 rfl (by rw [arrOf_size]; exact size24)
    rw [exec_load 24 (.tmp 8) rfl b8 0 rfl hl]
    exact ⟨Below.refl _ _, rfl, trivial⟩
  apply Exists.intro
  refine ⟨by simp only [Act.put, List.setIfInBounds_toArray, List.set_cons_succ, List.set_cons_zero]; rfl, ?_⟩
  refine M2.mono_val rfl rfl (fun x hD hF => ?_) ?_
  · have hl := run_loadVar_arr (P := Try.prog) x (w.heap.size + 1) 0 24 (arrOf .u64 8 g) _ (row_range hD.b) Try.underlying24 rfl (by rw [arrOf_size]; exact size24)
    rw [exec_load 24 (.tmp 4) rfl (w.heap.size + 1) 0 rfl hl]
    exact ⟨Below.refl _ _, rfl, trivial⟩
  apply Exists.intro
  refine ⟨by simp only [Act.put, List.setIfInBounds_toArray, List.set_cons_succ, List.set_cons_zero]; rfl, ?_⟩
  refine M2.mono_val rfl rfl (fun x hD hF => ?_) ?_
  · have hl := run_loadVar_arr (P := Try.prog) x w.heap.size 0 24 (arrOf .u64 8 f) _ (row_range hD.a) Try.underlying24 rfl (by rw [arrOf_size]; exact size24)
    rw [exec_load 24 (.tmp 3) rfl w.heap.size 0 rfl hl]
    exact ⟨Below.refl _ _, rfl, trivial⟩
  apply Exists.intro
  refine ⟨by simp only [Act.put, List.setIfInBounds_toArray, List.set_cons_succ, List.set_cons_zero]; rfl, ?_⟩
  refine M2.mono_val rfl rfl (fun x hD hF => ?_) ?_
  · go_simp
    refine (meet_any g f x).mono ?_
    rintro e y ⟨rfl, hg⟩
    exact ⟨_, rfl, hg, by rw [← HM2.out]⟩
  apply Exists.intro
  refine ⟨by simp only [Act.put, List.setIfInBounds_toArray, List.set_cons_succ, List.set_cons_zero]; rfl, ?_⟩
  refine M2.mono_pure rfl rfl ?_
  apply Exists.intro
  refine ⟨fun x => ?_, ?_⟩
  · have h1 := eq_vec M M x
    rw [same_refl] at h1
    go_simp
    rfl
  apply Exists.intro
  refine ⟨by simp only [Act.put, List.setIfInBounds_toArray, List.set_cons_succ, List.set_cons_zero]; rfl, ?_⟩
  iterate 1
    refine M2.mono_pure rfl rfl ?_
    apply Exists.intro
    refine ⟨fun x => ?_, ?_⟩
    · go_simp
      rfl
    apply Exists.intro
    refine ⟨by simp only [Act.put, List.setIfInBounds_toArray, List.set_cons_succ, List.set_cons_zero]; rfl, ?_⟩
  refine M2.mono_nil ?_
  intro x hD hF
  have HI5 := Lib.hid hD
  clear hD hF HL
  go_simp
  go_upto_region 4 with fail
  go_cut [82] from 53 (fun v82 wx => v82 = Value.bool false ∧ Hid (LInv w f g h b7 b8 J M wx))
  case first =>
    have hD := HI5.out
    clear HI5
    refine wp_region_lit ?_
    cases e1 : Vec.covers h f with
    | false =>
      cases e3 : Vec.covers f h with
      | false =>
        refine seq_val (R := fun x y => Below x.heap.size x y) (p := fun _ => True) rfl (vecV h) ?_ ?_
        · have hl := run_loadVar_arr (P := Try.prog) x (w.heap.size + 1 + 1) 0 24 (arrOf .u64 8 h) _ (row_range hD.c) Try.underlying24 rfl (by rw [arrOf_size]; exact size24)
          rw [exec_load 24 (.tmp 5) rfl (w.heap.size + 1 + 1) 0 rfl hl]
          exact ⟨Below.refl _ _, rfl, trivial⟩
        intro y hb hT
        replace hD := LInv.then_ hb hD
        clear hb hT x
        revert y
        intro x hD
        apply Exists.intro
        refine ⟨by simp only [Act.put, List.setIfInBounds_toArray, List.set_cons_succ, List.set_cons_zero]; rfl, ?_⟩
        refine seq_val (R := fun x y => Below x.heap.size x y) (p := fun _ => True) rfl (vecV f) ?_ ?_
        · have hl := run_loadVar_arr (P := Try.prog) x w.heap.size 0 24 (arrOf .u64 8 f) _ (row_range hD.a) Try.underlying24 rfl (by rw [arrOf_size]; exact size24)
          rw [exec_load 24 (.tmp 3) rfl w.heap.size 0 rfl hl]
          exact ⟨Below.refl _ _, rfl, trivial⟩
        intro y hb hT
        replace hD := LInv.then_ hb hD
        clear hb hT x
        revert y
        intro x hD
        apply Exists.intro
        refine ⟨by simp only [Act.put, List.setIfInBounds_toArray, List.set_cons_succ, List.set_cons_zero]; rfl, ?_⟩
        refine seq_val (R := fun x y => Below x.heap.size x y) (p := fun _ => True) rfl (.bool false) ?_ ?_
        · go_simp
          refine (covers_any h f x).mono ?_
          rintro e y ⟨rfl, hg⟩
          exact ⟨_, rfl, hg, by rw [e1]⟩
        intro y hb hT
        replace hD := LInv.then_ hb hD
        clear hb hT x
        revert y
        intro x hD
        apply Exists.intro
        refine ⟨by simp only [Act.put, List.setIfInBounds_toArray, List.set_cons_succ, List.set_cons_zero]; rfl, ?_⟩
        refine seq_pure rfl ?_
        apply Exists.intro
        refine ⟨?_, ?_⟩
        · go_simp
          rfl
        apply Exists.intro
        refine ⟨by simp only [Act.put, List.setIfInBounds_toArray, List.set_cons_succ, List.set_cons_zero]; rfl, ?_⟩
        refine seq_skip rfl ?_
        apply Exists.intro
        refine ⟨by simp only [Act.put, List.setIfInBounds_toArray, List.set_cons_succ, List.set_cons_zero]; rfl, ?_⟩
        refine seq_skip rfl ?_
        apply Exists.intro
        refine ⟨by simp only [Act.put, List.setIfInBounds_toArray, List.set_cons_succ, List.set_cons_zero]; rfl, ?_⟩
        refine seq_skip rfl ?_
        apply Exists.intro
        refine ⟨by simp only [Act.put, List.setIfInBounds_toArray, List.set_cons_succ, List.set_cons_zero]; rfl, ?_⟩
        refine seq_pure rfl ?_
        apply Exists.intro
        refine ⟨?_, ?_⟩
        · go_simp
          rfl
        apply Exists.intro
        refine ⟨by simp only [Act.put, List.setIfInBounds_toArray, List.set_cons_succ, List.set_cons_zero]; rfl, ?_⟩
        refine seq_pure rfl ?_
        apply Exists.intro
        refine ⟨?_, ?_⟩
        · go_simp
          rfl
        apply Exists.intro
        refine ⟨by simp only [Act.put, List.setIfInBounds_toArray, List.set_cons_succ, List.set_cons_zero]; rfl, ?_⟩
        refine seq_skip rfl ?_
        apply Exists.intro
        refine ⟨by simp only [Act.put, List.setIfInBounds_toArray, List.set_cons_succ, List.set_cons_zero]; rfl, ?_⟩
        refine seq_skip rfl ?_
        apply Exists.intro
        refine ⟨by simp only [Act.put, List.setIfInBounds_toArray, List.set_cons_succ, List.set_cons_zero]; rfl, ?_⟩
        refine seq_skip rfl ?_
        apply Exists.intro
        refine ⟨by simp only [Act.put, List.setIfInBounds_toArray, List.set_cons_succ, List.set_cons_zero]; rfl, ?_⟩
        refine seq_skip rfl ?_
        apply Exists.intro
        refine ⟨by simp only [Act.put, List.setIfInBounds_toArray, List.set_cons_succ, List.set_cons_zero]; rfl, ?_⟩
        refine seq_pure rfl ?_
        apply Exists.intro
        refine ⟨?_, ?_⟩
        · go_simp
          rfl
        apply Exists.intro
        refine ⟨by simp only [Act.put, List.setIfInBounds_toArray, List.set_cons_succ, List.set_cons_zero]; rfl, ?_⟩
        refine seq_pure rfl ?_
        apply Exists.intro
        refine ⟨?_, ?_⟩
        · go_simp
          rfl
        apply Exists.intro
        refine ⟨by simp only [Act.put, List.setIfInBounds_toArray, List.set_cons_succ, List.set_cons_zero]; rfl, ?_⟩
        refine seq_val (R := fun x y => Below x.heap.size x y) (p := fun _ => True) rfl (vecV f) ?_ ?_
        · have hl := run_loadVar_arr (P := Try.prog) x w.heap.size 0 24 (arrOf .u64 8 f) _ (row_range hD.a) Try.underlying24 rfl (by rw [arrOf_size]; exact size24)
          rw [exec_load 24 (.tmp 3) rfl w.heap.size 0 rfl hl]
          exact ⟨Below.refl _ _, rfl, trivial⟩
        intro y hb hT
        replace hD := LInv.then_ hb hD
        clear hb hT x
        revert y
        intro x hD
        apply Exists.intro
        refine ⟨by simp only [Act.put, List.setIfInBounds_toArray, List.set_cons_succ, List.set_cons_zero]; rfl, ?_⟩
        refine seq_val (R := fun x y => Below x.heap.size x y) (p := fun _ => True) rfl (vecV h) ?_ ?_
        · have hl := run_loadVar_arr (P := Try.prog) x (w.heap.size + 1 + 1) 0 24 (arrOf .u64 8 h) _ (row_range hD.c) Try.underlying24 rfl (by rw [arrOf_size]; exact size24)
          rw [exec_load 24 (.tmp 5) rfl (w.heap.size + 1 + 1) 0 rfl hl]
          exact ⟨Below.refl _ _, rfl, trivial⟩
        intro y hb hT
        replace hD := LInv.then_ hb hD
        clear hb hT x
        revert y
        intro x hD
        apply Exists.intro
        refine ⟨by simp only [Act.put, List.setIfInBounds_toArray, List.set_cons_succ, List.set_cons_zero]; rfl, ?_⟩
        refine seq_val (R := fun x y => Below x.heap.size x y) (p := fun _ => True) rfl (.bool false) ?_ ?_
        · go_simp
          refine (covers_any f h x).mono ?_
          rintro e y ⟨rfl, hg⟩
          exact ⟨_, rfl, hg, by rw [e3]⟩
        intro y hb hT
        replace hD := LInv.then_ hb hD
        clear hb hT x
        revert y
        intro x hD
        apply Exists.intro
        refine ⟨by simp only [Act.put, List.setIfInBounds_toArray, List.set_cons_succ, List.set_cons_zero]; rfl, ?_⟩
        refine seq_pure rfl ?_
        apply Exists.intro
        refine ⟨?_, ?_⟩
        · go_simp
          rfl
        apply Exists.intro
        refine ⟨by simp only [Act.put, List.setIfInBounds_toArray, List.set_cons_succ, List.set_cons_zero]; rfl, ?_⟩
        refine seq_skip rfl ?_
        apply Exists.intro
        refine ⟨by simp only [Act.put, List.setIfInBounds_toArray, List.set_cons_succ, List.set_cons_zero]; rfl, ?_⟩
        refine seq_skip rfl ?_
        apply Exists.intro
        refine ⟨by simp only [Act.put, List.setIfInBounds_toArray, List.set_cons_succ, List.set_cons_zero]; rfl, ?_⟩
        refine seq_skip rfl ?_
        apply Exists.intro
        refine ⟨by simp only [Act.put, List.setIfInBounds_toArray, List.set_cons_succ, List.set_cons_zero]; rfl, ?_⟩
        refine seq_pure rfl ?_
        apply Exists.intro
        refine ⟨?_, ?_⟩
        · go_simp
          rfl
        apply Exists.intro
        refine ⟨by simp only [Act.put, List.setIfInBounds_toArray, List.set_cons_succ, List.set_cons_zero]; rfl, ?_⟩
        refine seq_pure rfl ?_
        apply Exists.intro
        refine ⟨?_, ?_⟩
        · go_simp
          rfl
        apply Exists.intro
        refine ⟨by simp only [Act.put, List.setIfInBounds_toArray, List.set_cons_succ, List.set_cons_zero]; rfl, ?_⟩
        refine seq_skip rfl ?_
        apply Exists.intro
        refine ⟨by simp only [Act.put, List.setIfInBounds_toArray, List.set_cons_succ, List.set_cons_zero]; rfl, ?_⟩
        refine seq_skip rfl ?_
        apply Exists.intro
        refine ⟨by simp only [Act.put, List.setIfInBounds_toArray, List.set_cons_succ, List.set_cons_zero]; rfl, ?_⟩
        refine seq_skip rfl ?_
        apply Exists.intro
        refine ⟨by simp only [Act.put, List.setIfInBounds_toArray, List.set_cons_succ, List.set_cons_zero]; rfl, ?_⟩
        refine seq_skip rfl ?_
        apply Exists.intro
        refine ⟨by simp only [Act.put, List.setIfInBounds_toArray, List.set_cons_succ, List.set_cons_zero]; rfl, ?_⟩
        refine seq_pure rfl ?_
        apply Exists.intro
        refine ⟨?_, ?_⟩
        · go_simp
          rfl
        apply Exists.intro
        refine ⟨by simp only [Act.put, List.setIfInBounds_toArray, List.set_cons_succ, List.set_cons_zero]; rfl, ?_⟩
        refine seq_pure rfl ?_
        apply Exists.intro
        refine ⟨?_, ?_⟩
        · go_simp
          rfl
        apply Exists.intro
        refine ⟨by simp only [Act.put, List.setIfInBounds_toArray, List.set_cons_succ, List.set_cons_zero]; rfl, ?_⟩
        refine seq_nil ?_
        try go_simp
        try (go_wp2_with fail)
        go_meet
        exact ⟨rfl, hD⟩
      | true =>
        cases e4 : Vec.covers g h with
        | false =>
          refine seq_val (R := fun x y => Below x.heap.size x y) (p := fun _ => True) rfl (vecV h) ?_ ?_
          · have hl := run_loadVar_arr (P := Try.prog) x (w.heap.size + 1 + 1) 0 24 (arrOf .u64 8 h) _ (row_range hD.c) Try.underlying24 rfl (by rw [arrOf_size]; exact size24)
            rw [exec_load 24 (.tmp 5) rfl (w.heap.size + 1 + 1) 0 rfl hl]
            exact ⟨Below.refl _ _, rfl, trivial⟩
          intro y hb hT
          replace hD := LInv.then_ hb hD
          clear hb hT x
          revert y
          intro x hD
          apply Exists.intro
          refine ⟨by simp only [Act.put, List.setIfInBounds_toArray, List.set_cons_succ, List.set_cons_zero]; rfl, ?_⟩
          refine seq_val (R := fun x y => Below x.heap.size x y) (p := fun _ => True) rfl (vecV f) ?_ ?_
          · have hl := run_loadVar_arr (P := Try.prog) x w.heap.size 0 24 (arrOf .u64 8 f) _ (row_range hD.a) Try.underlying24 rfl (by rw [arrOf_size]; exact size24)
            rw [exec_load 24 (.tmp 3) rfl w.heap.size 0 rfl hl]
            exact ⟨Below.refl _ _, rfl, trivial⟩
          intro y hb hT
          replace hD := LInv.then_ hb hD
          clear hb hT x
          revert y
          intro x hD
          apply Exists.intro
          refine ⟨by simp only [Act.put, List.setIfInBounds_toArray, List.set_cons_succ, List.set_cons_zero]; rfl, ?_⟩
          refine seq_val (R := fun x y => Below x.heap.size x y) (p := fun _ => True) rfl (.bool false) ?_ ?_
          · go_simp
            refine (covers_any h f x).mono ?_
            rintro e y ⟨rfl, hg⟩
            exact ⟨_, rfl, hg, by rw [e1]⟩
          intro y hb hT
          replace hD := LInv.then_ hb hD
          clear hb hT x
          revert y
          intro x hD
          apply Exists.intro
          refine ⟨by simp only [Act.put, List.setIfInBounds_toArray, List.set_cons_succ, List.set_cons_zero]; rfl, ?_⟩
          refine seq_pure rfl ?_
          apply Exists.intro
          refine ⟨?_, ?_⟩
          · go_simp
            rfl
          apply Exists.intro
          refine ⟨by simp only [Act.put, List.setIfInBounds_toArray, List.set_cons_succ, List.set_cons_zero]; rfl, ?_⟩
          refine seq_skip rfl ?_
          apply Exists.intro
          refine ⟨by simp only [Act.put, List.setIfInBounds_toArray, List.set_cons_succ, List.set_cons_zero]; rfl, ?_⟩
          refine seq_skip rfl ?_
          apply Exists.intro
          refine ⟨by simp only [Act.put, List.setIfInBounds_toArray, List.set_cons_succ, List.set_cons_zero]; rfl, ?_⟩
          refine seq_skip rfl ?_
          apply Exists.intro
          refine ⟨by simp only [Act.put, List.setIfInBounds_toArray, List.set_cons_succ, List.set_cons_zero]; rfl, ?_⟩
          refine seq_pure rfl ?_
          apply Exists.intro
          refine ⟨?_, ?_⟩
          · go_simp
            rfl
          apply Exists.intro
          refine ⟨by simp only [Act.put, List.setIfInBounds_toArray, List.set_cons_succ, List.set_cons_zero]; rfl, ?_⟩
          refine seq_pure rfl ?_
          apply Exists.intro
          refine ⟨?_, ?_⟩
          · go_simp
            rfl
          apply Exists.intro
          refine ⟨by simp only [Act.put, List.setIfInBounds_toArray, List.set_cons_succ, List.set_cons_zero]; rfl, ?_⟩
          refine seq_skip rfl ?_
          apply Exists.intro
          refine ⟨by simp only [Act.put, List.setIfInBounds_toArray, List.set_cons_succ, List.set_cons_zero]; rfl, ?_⟩
          refine seq_skip rfl ?_
          apply Exists.intro
          refine ⟨by simp only [Act.put, List.setIfInBounds_toArray, List.set_cons_succ, List.set_cons_zero]; rfl, ?_⟩
          refine seq_skip rfl ?_
          apply Exists.intro
          refine ⟨by simp only [Act.put, List.setIfInBounds_toArray, List.set_cons_succ, List.set_cons_zero]; rfl, ?_⟩
          refine seq_skip rfl ?_
          apply Exists.intro
          refine ⟨by simp only [Act.put, List.setIfInBounds_toArray, List.set_cons_succ, List.set_cons_zero]; rfl, ?_⟩
          refine seq_pure rfl ?_
          apply Exists.intro
          refine ⟨?_, ?_⟩
          · go_simp
            rfl
          apply Exists.intro
          refine ⟨by simp only [Act.put, List.setIfInBounds_toArray, List.set_cons_succ, List.set_cons_zero]; rfl, ?_⟩
          refine seq_pure rfl ?_
          apply Exists.intro
          refine ⟨?_, ?_⟩
          · go_simp
            rfl
          apply Exists.intro
          refine ⟨by simp only [Act.put, List.setIfInBounds_toArray, List.set_cons_succ, List.set_cons_zero]; rfl, ?_⟩
          refine seq_val (R := fun x y => Below x.heap.size x y) (p := fun _ => True) rfl (vecV f) ?_ ?_
          · have hl := run_loadVar_arr (P := Try.prog) x w.heap.size 0 24 (arrOf .u64 8 f) _ (row_range hD.a) Try.underlying24 rfl (by rw [arrOf_size]; exact size24)
            rw [exec_load 24 (.tmp 3) rfl w.heap.size 0 rfl hl]
            exact ⟨Below.refl _ _, rfl, trivial⟩
          intro y hb hT
          replace hD := LInv.then_ hb hD
          clear hb hT x
          revert y
          intro x hD
          apply Exists.intro
          refine ⟨by simp only [Act.put, List.setIfInBounds_toArray, List.set_cons_succ, List.set_cons_zero]; rfl, ?_⟩
          refine seq_val (R := fun x y => Below x.heap.size x y) (p := fun _ => True) rfl (vecV h) ?_ ?_
          · have hl := run_loadVar_arr (P := Try.prog) x (w.heap.size + 1 + 1) 0 24 (arrOf .u64 8 h) _ (row_range hD.c) Try.underlying24 rfl (by rw [arrOf_size]; exact size24)
            rw [exec_load 24 (.tmp 5) rfl (w.heap.size + 1 + 1) 0 rfl hl]
            exact ⟨Below.refl _ _, rfl, trivial⟩
          intro y hb hT
          replace hD := LInv.then_ hb hD
          clear hb hT x
          revert y
          intro x hD
          apply Exists.intro
          refine ⟨by simp only [Act.put, List.setIfInBounds_toArray, List.set_cons_succ, List.set_cons_zero]; rfl, ?_⟩
          refine seq_val (R := fun x y => Below x.heap.size x y) (p := fun _ => True) rfl (.bool true) ?_ ?_
          · go_simp
            refine (covers_any f h x).mono ?_
            rintro e y ⟨rfl, hg⟩
            exact ⟨_, rfl, hg, by rw [e3]⟩
          intro y hb hT
          replace hD := LInv.then_ hb hD
          clear hb hT x
          revert y
          intro x hD
          apply Exists.intro
          refine ⟨by simp only [Act.put, List.setIfInBounds_toArray, List.set_cons_succ, List.set_cons_zero]; rfl, ?_⟩
          refine seq_pure rfl ?_
          apply Exists.intro
          refine ⟨?_, ?_⟩
          · go_simp
            rfl
          apply Exists.intro
          refine ⟨by simp only [Act.put, List.setIfInBounds_toArray, List.set_cons_succ, List.set_cons_zero]; rfl, ?_⟩
          refine seq_val (R := fun x y => Below x.heap.size x y) (p := fun _ => True) rfl (vecV g) ?_ ?_
          · have hl := run_loadVar_arr (P := Try.prog) x (w.heap.size + 1) 0 24 (arrOf .u64 8 g) _ (row_range hD.b) Try.underlying24 rfl (by rw [arrOf_size]; exact size24)
            rw [exec_load 24 (.tmp 4) rfl (w.heap.size + 1) 0 rfl hl]
            exact ⟨Below.refl _ _, rfl, trivial⟩
          intro y hb hT
          replace hD := LInv.then_ hb hD
          clear hb hT x
          revert y
          intro x hD
          apply Exists.intro
          refine ⟨by simp only [Act.put, List.setIfInBounds_toArray, List.set_cons_succ, List.set_cons_zero]; rfl, ?_⟩
          refine seq_val (R := fun x y => Below x.heap.size x y) (p := fun _ => True) rfl (vecV h) ?_ ?_
          · have hl := run_loadVar_arr (P := Try.prog) x (w.heap.size + 1 + 1) 0 24 (arrOf .u64 8 h) _ (row_range hD.c) Try.underlying24 rfl (by rw [arrOf_size]; exact size24)
            rw [exec_load 24 (.tmp 5) rfl (w.heap.size + 1 + 1) 0 rfl hl]
            exact ⟨Below.refl _ _, rfl, trivial⟩
          intro y hb hT
          replace hD := LInv.then_ hb hD
          clear hb hT x
          revert y
          intro x hD
          apply Exists.intro
          refine ⟨by simp only [Act.put, List.setIfInBounds_toArray, List.set_cons_succ, List.set_cons_zero]; rfl, ?_⟩
          refine seq_val (R := fun x y => Below x.heap.size x y) (p := fun _ => True) rfl (.bool false) ?_ ?_
          · go_simp
            refine (covers_any g h x).mono ?_
            rintro e y ⟨rfl, hg⟩
            exact ⟨_, rfl, hg, by rw [e4]⟩
          intro y hb hT
          replace hD := LInv.then_ hb hD
          clear hb hT x
          revert y
          intro x hD
          apply Exists.intro
          refine ⟨by simp only [Act.put, List.setIfInBounds_toArray, List.set_cons_succ, List.set_cons_zero]; rfl, ?_⟩
          refine seq_pure rfl ?_
          apply Exists.intro
          refine ⟨?_, ?_⟩
          · go_simp
            rfl
          apply Exists.intro
          refine ⟨by simp only [Act.put, List.setIfInBounds_toArray, List.set_cons_succ, List.set_cons_zero]; rfl, ?_⟩
          refine seq_pure rfl ?_
          apply Exists.intro
          refine ⟨?_, ?_⟩
          · go_simp
            rfl
          apply Exists.intro
          refine ⟨by simp only [Act.put, List.setIfInBounds_toArray, List.set_cons_succ, List.set_cons_zero]; rfl, ?_⟩
          refine seq_skip rfl ?_
          apply Exists.intro
          refine ⟨by simp only [Act.put, List.setIfInBounds_toArray, List.set_cons_succ, List.set_cons_zero]; rfl, ?_⟩
          refine seq_skip rfl ?_
          apply Exists.intro
          refine ⟨by simp only [Act.put, List.setIfInBounds_toArray, List.set_cons_succ, List.set_cons_zero]; rfl, ?_⟩
          refine seq_skip rfl ?_
          apply Exists.intro
          refine ⟨by simp only [Act.put, List.setIfInBounds_toArray, List.set_cons_succ, List.set_cons_zero]; rfl, ?_⟩
          refine seq_skip rfl ?_
          apply Exists.intro
          refine ⟨by simp only [Act.put, List.setIfInBounds_toArray, List.set_cons_succ, List.set_cons_zero]; rfl, ?_⟩
          refine seq_pure rfl ?_
          apply Exists.intro
          refine ⟨?_, ?_⟩
          · go_simp
            rfl
          apply Exists.intro
          refine ⟨by simp only [Act.put, List.setIfInBounds_toArray, List.set_cons_succ, List.set_cons_zero]; rfl, ?_⟩
          refine seq_pure rfl ?_
          apply Exists.intro
          refine ⟨?_, ?_⟩
          · go_simp
            rfl
          apply Exists.intro
          refine ⟨by simp only [Act.put, List.setIfInBounds_toArray, List.set_cons_succ, List.set_cons_zero]; rfl, ?_⟩
          refine seq_nil ?_
          try go_simp
          try (go_wp2_with fail)
          go_meet
          exact ⟨rfl, hD⟩
        | true =>
          have e6 := HK2.out e3 e4
          refine seq_val (R := fun x y => Below x.heap.size x y) (p := fun _ => True) rfl (vecV h) ?_ ?_
          · have hl := run_loadVar_arr (P := Try.prog) x (w.heap.size + 1 + 1) 0 24 (arrOf .u64 8 h) _ (row_range hD.c) Try.underlying24 rfl (by rw [arrOf_size]; exact size24)
            rw [exec_load 24 (.tmp 5) rfl (w.heap.size + 1 + 1) 0 rfl hl]
            exact ⟨Below.refl _ _, rfl, trivial⟩
          intro y hb hT
          replace hD := LInv.then_ hb hD
          clear hb hT x
          revert y
          intro x hD
          apply Exists.intro
          refine ⟨by simp only [Act.put, List.setIfInBounds_toArray, List.set_cons_succ, List.set_cons_zero]; rfl, ?_⟩
          refine seq_val (R := fun x y => Below x.heap.size x y) (p := fun _ => True) rfl (vecV f) ?_ ?_
          · have hl := run_loadVar_arr (P := Try.prog) x w.heap.size 0 24 (arrOf .u64 8 f) _ (row_range hD.a) Try.underlying24 rfl (by rw [arrOf_size]; exact size24)
            rw [exec_load 24 (.tmp 3) rfl w.heap.size 0 rfl hl]
            exact ⟨Below.refl _ _, rfl, trivial⟩
          intro y hb hT
          replace hD := LInv.then_ hb hD
          clear hb hT x
          revert y
          intro x hD
          apply Exists.intro
          refine ⟨by simp only [Act.put, List.setIfInBounds_toArray, List.set_cons_succ, List.set_cons_zero]; rfl, ?_⟩
          refine seq_val (R := fun x y => Below x.heap.size x y) (p := fun _ => True) rfl (.bool false) ?_ ?_
          · go_simp
            refine (covers_any h f x).mono ?_
            rintro e y ⟨rfl, hg⟩
            exact ⟨_, rfl, hg, by rw [e1]⟩
          intro y hb hT
          replace hD := LInv.then_ hb hD
          clear hb hT x
          revert y
          intro x hD
          apply Exists.intro
          refine ⟨by simp only [Act.put, List.setIfInBounds_toArray, List.set_cons_succ, List.set_cons_zero]; rfl, ?_⟩
          refine seq_pure rfl ?_
          apply Exists.intro
          refine ⟨?_, ?_⟩
          · go_simp
            rfl
          apply Exists.intro
          refine ⟨by simp only [Act.put, List.setIfInBounds_toArray, List.set_cons_succ, List.set_cons_zero]; rfl, ?_⟩
          refine seq_skip rfl ?_
          apply Exists.intro
          refine ⟨by simp only [Act.put, List.setIfInBounds_toArray, List.set_cons_succ, List.set_cons_zero]; rfl, ?_⟩
          refine seq_skip rfl ?_
          apply Exists.intro
          refine ⟨by simp only [Act.put, List.setIfInBounds_toArray, List.set_cons_succ, List.set_cons_zero]; rfl, ?_⟩
          refine seq_skip rfl ?_
          apply Exists.intro
          refine ⟨by simp only [Act.put, List.setIfInBounds_toArray, List.set_cons_succ, List.set_cons_zero]; rfl, ?_⟩
          refine seq_pure rfl ?_
          apply Exists.intro
          refine ⟨?_, ?_⟩
          · go_simp
            rfl
          apply Exists.intro
          refine ⟨by simp only [Act.put, List.setIfInBounds_toArray, List.set_cons_succ, List.set_cons_zero]; rfl, ?_⟩
          refine seq_pure rfl ?_
          apply Exists.intro
          refine ⟨?_, ?_⟩
          · go_simp
            rfl
          apply Exists.intro
          refine ⟨by simp only [Act.put, List.setIfInBounds_toArray, List.set_cons_succ, List.set_cons_zero]; rfl, ?_⟩
          refine seq_skip rfl ?_
          apply Exists.intro
          refine ⟨by simp only [Act.put, List.setIfInBounds_toArray, List.set_cons_succ, List.set_cons_zero]; rfl, ?_⟩
          refine seq_skip rfl ?_
          apply Exists.intro
          refine ⟨by simp only [Act.put, List.setIfInBounds_toArray, List.set_cons_succ, List.set_cons_zero]; rfl, ?_⟩
          refine seq_skip rfl ?_
          apply Exists.intro
          refine ⟨by simp only [Act.put, List.setIfInBounds_toArray, List.set_cons_succ, List.set_cons_zero]; rfl, ?_⟩
          refine seq_skip rfl ?_
          apply Exists.intro
          refine ⟨by simp only [Act.put, List.setIfInBounds_toArray, List.set_cons_succ, List.set_cons_zero]; rfl, ?_⟩
          refine seq_pure rfl ?_
          apply Exists.intro
          refine ⟨?_, ?_⟩
          · go_simp
            rfl
          apply Exists.intro
          refine ⟨by simp only [Act.put, List.setIfInBounds_toArray, List.set_cons_succ, List.set_cons_zero]; rfl, ?_⟩
          refine seq_pure rfl ?_
          apply Exists.intro
          refine ⟨?_, ?_⟩
          · go_simp
            rfl
          apply Exists.intro
          refine ⟨by simp only [Act.put, List.setIfInBounds_toArray, List.set_cons_succ, List.set_cons_zero]; rfl, ?_⟩
          refine seq_val (R := fun x y => Below x.heap.size x y) (p := fun _ => True) rfl (vecV f) ?_ ?_
          · have hl := run_loadVar_arr (P := Try.prog) x w.heap.size 0 24 (arrOf .u64 8 f) _ (row_range hD.a) Try.underlying24 rfl (by rw [arrOf_size]; exact size24)
            rw [exec_load 24 (.tmp 3) rfl w.heap.size 0 rfl hl]
            exact ⟨Below.refl _ _, rfl, trivial⟩
          intro y hb hT
          replace hD := LInv.then_ hb hD
          clear hb hT x
          revert y
          intro x hD
          apply Exists.intro
          refine ⟨by simp only [Act.put, List.setIfInBounds_toArray, List.set_cons_succ, List.set_cons_zero]; rfl, ?_⟩
          refine seq_val (R := fun x y => Below x.heap.size x y) (p := fun _ => True) rfl (vecV h) ?_ ?_
          · have hl := run_loadVar_arr (P := Try.prog) x (w.heap.size + 1 + 1) 0 24 (arrOf .u64 8 h) _ (row_range hD.c) Try.underlying24 rfl (by rw [arrOf_size]; exact size24)
            rw [exec_load 24 (.tmp 5) rfl (w.heap.size + 1 + 1) 0 rfl hl]
            exact ⟨Below.refl _ _, rfl, trivial⟩
          intro y hb hT
          replace hD := LInv.then_ hb hD
          clear hb hT x
          revert y
          intro x hD
          apply Exists.intro
          refine ⟨by simp only [Act.put, List.setIfInBounds_toArray, List.set_cons_succ, List.set_cons_zero]; rfl, ?_⟩
          refine seq_val (R := fun x y => Below x.heap.size x y) (p := fun _ => True) rfl (.bool true) ?_ ?_
          · go_simp
            refine (covers_any f h x).mono ?_
            rintro e y ⟨rfl, hg⟩
            exact ⟨_, rfl, hg, by rw [e3]⟩
          intro y hb hT
          replace hD := LInv.then_ hb hD
          clear hb hT x
          revert y
          intro x hD
          apply Exists.intro
          refine ⟨by simp only [Act.put, List.setIfInBounds_toArray, List.set_cons_succ, List.set_cons_zero]; rfl, ?_⟩
          refine seq_pure rfl ?_
          apply Exists.intro
          refine ⟨?_, ?_⟩
          · go_simp
            rfl
          apply Exists.intro
          refine ⟨by simp only [Act.put, List.setIfInBounds_toArray, List.set_cons_succ, List.set_cons_zero]; rfl, ?_⟩
          refine seq_val (R := fun x y => Below x.heap.size x y) (p := fun _ => True) rfl (vecV g) ?_ ?_
          · have hl := run_loadVar_arr (P := Try.prog) x (w.heap.size + 1) 0 24 (arrOf .u64 8 g) _ (row_range hD.b) Try.underlying24 rfl (by rw [arrOf_size]; exact size24)
            rw [exec_load 24 (.tmp 4) rfl (w.heap.size + 1) 0 rfl hl]
            exact ⟨Below.refl _ _, rfl, trivial⟩
          intro y hb hT
          replace hD := LInv.then_ hb hD
          clear hb hT x
          revert y
          intro x hD
          apply Exists.intro
          refine ⟨by simp only [Act.put, List.setIfInBounds_toArray, List.set_cons_succ, List.set_cons_zero]; rfl, ?_⟩
          refine seq_val (R := fun x y => Below x.heap.size x y) (p := fun _ => True) rfl (vecV h) ?_ ?_
          · have hl := run_loadVar_arr (P := Try.prog) x (w.heap.size + 1 + 1) 0 24 (arrOf .u64 8 h) _ (row_range hD.c) Try.underlying24 rfl (by rw [arrOf_size]; exact size24)
            rw [exec_load 24 (.tmp 5) rfl (w.heap.size + 1 + 1) 0 rfl hl]
            exact ⟨Below.refl _ _, rfl, trivial⟩
          intro y hb hT
          replace hD := LInv.then_ hb hD
          clear hb hT x
          revert y
          intro x hD
          apply Exists.intro
          refine ⟨by simp only [Act.put, List.setIfInBounds_toArray, List.set_cons_succ, List.set_cons_zero]; rfl, ?_⟩
          refine seq_val (R := fun x y => Below x.heap.size x y) (p := fun _ => True) rfl (.bool true) ?_ ?_
          · go_simp
            refine (covers_any g h x).mono ?_
            rintro e y ⟨rfl, hg⟩
            exact ⟨_, rfl, hg, by rw [e4]⟩
          intro y hb hT
          replace hD := LInv.then_ hb hD
          clear hb hT x
          revert y
          intro x hD
          apply Exists.intro
          refine ⟨by simp only [Act.put, List.setIfInBounds_toArray, List.set_cons_succ, List.set_cons_zero]; rfl, ?_⟩
          refine seq_pure rfl ?_
          apply Exists.intro
          refine ⟨?_, ?_⟩
          · go_simp
            rfl
          apply Exists.intro
          refine ⟨by simp only [Act.put, List.setIfInBounds_toArray, List.set_cons_succ, List.set_cons_zero]; rfl, ?_⟩
          refine seq_pure rfl ?_
          apply Exists.intro
          refine ⟨?_, ?_⟩
          · go_simp
            rfl
          apply Exists.intro
          refine ⟨by simp only [Act.put, List.setIfInBounds_toArray, List.set_cons_succ, List.set_cons_zero]; rfl, ?_⟩
          refine seq_val (R := fun x y => Below x.heap.size x y) (p := fun _ => True) rfl (vecV M) ?_ ?_
          · have hl := run_loadVar_arr (P := Try.prog) x b8 0 24 (arrOf .u64 8 M) _ (row_range hD.m) Try.underlying24 rfl (by rw [arrOf_size]; exact size24)
            rw [exec_load 24 (.tmp 8) rfl b8 0 rfl hl]
            exact ⟨Below.refl _ _, rfl, trivial⟩
          intro y hb hT
          replace hD := LInv.then_ hb hD
          clear hb hT x
          revert y
          intro x hD
          apply Exists.intro
          refine ⟨by simp only [Act.put, List.setIfInBounds_toArray, List.set_cons_succ, List.set_cons_zero]; rfl, ?_⟩
          refine seq_val (R := fun x y => Below x.heap.size x y) (p := fun _ => True) rfl (vecV h) ?_ ?_
          · have hl := run_loadVar_arr (P := Try.prog) x (w.heap.size + 1 + 1) 0 24 (arrOf .u64 8 h) _ (row_range hD.c) Try.underlying24 rfl (by rw [arrOf_size]; exact size24)
            rw [exec_load 24 (.tmp 5) rfl (w.heap.size + 1 + 1) 0 rfl hl]
            exact ⟨Below.refl _ _, rfl, trivial⟩
          intro y hb hT
          replace hD := LInv.then_ hb hD
          clear hb hT x
          revert y
          intro x hD
          apply Exists.intro
          refine ⟨by simp only [Act.put, List.setIfInBounds_toArray, List.set_cons_succ, List.set_cons_zero]; rfl, ?_⟩
          refine seq_val (R := fun x y => Below x.heap.size x y) (p := fun _ => True) rfl (.bool true) ?_ ?_
          · go_simp
            refine (covers_any M h x).mono ?_
            rintro e y ⟨rfl, hg⟩
            exact ⟨_, rfl, hg, by rw [e6]⟩
          intro y hb hT
          replace hD := LInv.then_ hb hD
          clear hb hT x
          revert y
          intro x hD
          apply Exists.intro
          refine ⟨by simp only [Act.put, List.setIfInBounds_toArray, List.set_cons_succ, List.set_cons_zero]; rfl, ?_⟩
          refine seq_pure rfl ?_
          apply Exists.intro
          refine ⟨?_, ?_⟩
          · go_simp
            rfl
          apply Exists.intro
          refine ⟨by simp only [Act.put, List.setIfInBounds_toArray, List.set_cons_succ, List.set_cons_zero]; rfl, ?_⟩
          refine seq_pure rfl ?_
          apply Exists.intro
          refine ⟨?_, ?_⟩
          · go_simp
            rfl
          apply Exists.intro
          refine ⟨by simp only [Act.put, List.setIfInBounds_toArray, List.set_cons_succ, List.set_cons_zero]; rfl, ?_⟩
          refine seq_pure rfl ?_
          apply Exists.intro
          refine ⟨?_, ?_⟩
          · go_simp
            rfl
          apply Exists.intro
          refine ⟨by simp only [Act.put, List.setIfInBounds_toArray, List.set_cons_succ, List.set_cons_zero]; rfl, ?_⟩
          refine seq_nil ?_
          try go_simp
          try (go_wp2_with fail)
          go_meet
          exact ⟨rfl, hD⟩
    | true =>
      cases e2 : Vec.covers h g with
      | false =>
        cases e3 : Vec.covers f h with
        | false =>
          refine seq_val (R := fun x y => Below x.heap.size x y) (p := fun _ => True) rfl (vecV h) ?_ ?_
          · have hl := run_loadVar_arr (P := Try.prog) x (w.heap.size + 1 + 1) 0 24 (arrOf .u64 8 h) _ (row_range hD.c) Try.underlying24 rfl (by rw [arrOf_size]; exact size24)
            rw [exec_load 24 (.tmp 5) rfl (w.heap.size + 1 + 1) 0 rfl hl]
            exact ⟨Below.refl _ _, rfl, trivial⟩
          intro y hb hT
          replace hD := LInv.then_ hb hD
          clear hb hT x
          revert y
          intro x hD
          apply Exists.intro
          refine ⟨by simp only [Act.put, List.setIfInBounds_toArray, List.set_cons_succ, List.set_cons_zero]; rfl, ?_⟩
          refine seq_val (R := fun x y => Below x.heap.size x y) (p := fun _ => True) rfl (vecV f) ?_ ?_
          · have hl := run_loadVar_arr (P := Try.prog) x w.heap.size 0 24 (arrOf .u64 8 f) _ (row_range hD.a) Try.underlying24 rfl (by rw [arrOf_size]; exact size24)
            rw [exec_load 24 (.tmp 3) rfl w.heap.size 0 rfl hl]
            exact ⟨Below.refl _ _, rfl, trivial⟩
          intro y hb hT
          replace hD := LInv.then_ hb hD
          clear hb hT x
          revert y
          intro x hD
          apply Exists.intro
          refine ⟨by simp only [Act.put, List.setIfInBounds_toArray, List.set_cons_succ, List.set_cons_zero]; rfl, ?_⟩
          refine seq_val (R := fun x y => Below x.heap.size x y) (p := fun _ => True) rfl (.bool true) ?_ ?_
          · go_simp
            refine (covers_any h f x).mono ?_
            rintro e y ⟨rfl, hg⟩
            exact ⟨_, rfl, hg, by rw [e1]⟩
          intro y hb hT
          replace hD := LInv.then_ hb hD
          clear hb hT x
          revert y
          intro x hD
          apply Exists.intro
          refine ⟨by simp only [Act.put, List.setIfInBounds_toArray, List.set_cons_succ, List.set_cons_zero]; rfl, ?_⟩
          refine seq_pure rfl ?_
          apply Exists.intro
          refine ⟨?_, ?_⟩
          · go_simp
            rfl
          apply Exists.intro
          refine ⟨by simp only [Act.put, List.setIfInBounds_toArray, List.set_cons_succ, List.set_cons_zero]; rfl, ?_⟩
          refine seq_val (R := fun x y => Below x.heap.size x y) (p := fun _ => True) rfl (vecV h) ?_ ?_
          · have hl := run_loadVar_arr (P := Try.prog) x (w.heap.size + 1 + 1) 0 24 (arrOf .u64 8 h) _ (row_range hD.c) Try.underlying24 rfl (by rw [arrOf_size]; exact size24)
            rw [exec_load 24 (.tmp 5) rfl (w.heap.size + 1 + 1) 0 rfl hl]
            exact ⟨Below.refl _ _, rfl, trivial⟩
          intro y hb hT
          replace hD := LInv.then_ hb hD
          clear hb hT x
          revert y
          intro x hD
          apply Exists.intro
          refine ⟨by simp only [Act.put, List.setIfInBounds_toArray, List.set_cons_succ, List.set_cons_zero]; rfl, ?_⟩
          refine seq_val (R := fun x y => Below x.heap.size x y) (p := fun _ => True) rfl (vecV g) ?_ ?_
          · have hl := run_loadVar_arr (P := Try.prog) x (w.heap.size + 1) 0 24 (arrOf .u64 8 g) _ (row_range hD.b) Try.underlying24 rfl (by rw [arrOf_size]; exact size24)
            rw [exec_load 24 (.tmp 4) rfl (w.heap.size + 1) 0 rfl hl]
            exact ⟨Below.refl _ _, rfl, trivial⟩
          intro y hb hT
          replace hD := LInv.then_ hb hD
          clear hb hT x
          revert y
          intro x hD
          apply Exists.intro
          refine ⟨by simp only [Act.put, List.setIfInBounds_toArray, List.set_cons_succ, List.set_cons_zero]; rfl, ?_⟩
          refine seq_val (R := fun x y => Below x.heap.size x y) (p := fun _ => True) rfl (.bool false) ?_ ?_
          · go_simp
            refine (covers_any h g x).mono ?_
            rintro e y ⟨rfl, hg⟩
            exact ⟨_, rfl, hg, by rw [e2]⟩
          intro y hb hT
          replace hD := LInv.then_ hb hD
          clear hb hT x
          revert y
          intro x hD
          apply Exists.intro
          refine ⟨by simp only [Act.put, List.setIfInBounds_toArray, List.set_cons_succ, List.set_cons_zero]; rfl, ?_⟩
          refine seq_pure rfl ?_
          apply Exists.intro
          refine ⟨?_, ?_⟩
          · go_simp
            rfl
          apply Exists.intro
          refine ⟨by simp only [Act.put, List.setIfInBounds_toArray, List.set_cons_succ, List.set_cons_zero]; rfl, ?_⟩
          refine seq_pure rfl ?_
          apply Exists.intro
          refine ⟨?_, ?_⟩
          · go_simp
            rfl
          apply Exists.intro
          refine ⟨by simp only [Act.put, List.setIfInBounds_toArray, List.set_cons_succ, List.set_cons_zero]; rfl, ?_⟩
          refine seq_skip rfl ?_
          apply Exists.intro
          refine ⟨by simp only [Act.put, List.setIfInBounds_toArray, List.set_cons_succ, List.set_cons_zero]; rfl, ?_⟩
          refine seq_skip rfl ?_
          apply Exists.intro
          refine ⟨by simp only [Act.put, List.setIfInBounds_toArray, List.set_cons_succ, List.set_cons_zero]; rfl, ?_⟩
          refine seq_skip rfl ?_
          apply Exists.intro
          refine ⟨by simp only [Act.put, List.setIfInBounds_toArray, List.set_cons_succ, List.set_cons_zero]; rfl, ?_⟩
          refine seq_skip rfl ?_
          apply Exists.intro
          refine ⟨by simp only [Act.put, List.setIfInBounds_toArray, List.set_cons_succ, List.set_cons_zero]; rfl, ?_⟩
          refine seq_pure rfl ?_
          apply Exists.intro
          refine ⟨?_, ?_⟩
          · go_simp
            rfl
          apply Exists.intro
          refine ⟨by simp only [Act.put, List.setIfInBounds_toArray, List.set_cons_succ, List.set_cons_zero]; rfl, ?_⟩
          refine seq_pure rfl ?_
          apply Exists.intro
          refine ⟨?_, ?_⟩
          · go_simp
            rfl
          apply Exists.intro
          refine ⟨by simp only [Act.put, List.setIfInBounds_toArray, List.set_cons_succ, List.set_cons_zero]; rfl, ?_⟩
          refine seq_val (R := fun x y => Below x.heap.size x y) (p := fun _ => True) rfl (vecV f) ?_ ?_
          · have hl := run_loadVar_arr (P := Try.prog) x w.heap.size 0 24 (arrOf .u64 8 f) _ (row_range hD.a) Try.underlying24 rfl (by rw [arrOf_size]; exact size24)
            rw [exec_load 24 (.tmp 3) rfl w.heap.size 0 rfl hl]
            exact ⟨Below.refl _ _, rfl, trivial⟩
          intro y hb hT
          replace hD := LInv.then_ hb hD
          clear hb hT x
          revert y
          intro x hD
          apply Exists.intro
          refine ⟨by simp only [Act.put, List.setIfInBounds_toArray, List.set_cons_succ, List.set_cons_zero]; rfl, ?_⟩
          refine seq_val (R := fun x y => Below x.heap.size x y) (p := fun _ => True) rfl (vecV h) ?_ ?_
          · have hl := run_loadVar_arr (P := Try.prog) x (w.heap.size + 1 + 1) 0 24 (arrOf .u64 8 h) _ (row_range hD.c) Try.underlying24 rfl (by rw [arrOf_size]; exact size24)
            rw [exec_load 24 (.tmp 5) rfl (w.heap.size + 1 + 1) 0 rfl hl]
            exact ⟨Below.refl _ _, rfl, trivial⟩
          intro y hb hT
          replace hD := LInv.then_ hb hD
          clear hb hT x
          revert y
          intro x hD
          apply Exists.intro
          refine ⟨by simp only [Act.put, List.setIfInBounds_toArray, List.set_cons_succ, List.set_cons_zero]; rfl, ?_⟩
          refine seq_val (R := fun x y => Below x.heap.size x y) (p := fun _ => True) rfl (.bool false) ?_ ?_
          · go_simp
            refine (covers_any f h x).mono ?_
            rintro e y ⟨rfl, hg⟩
            exact ⟨_, rfl, hg, by rw [e3]⟩
          intro y hb hT
          replace hD := LInv.then_ hb hD
          clear hb hT x
          revert y
          intro x hD
          apply Exists.intro
          refine ⟨by simp only [Act.put, List.setIfInBounds_toArray, List.set_cons_succ, List.set_cons_zero]; rfl, ?_⟩
          refine seq_pure rfl ?_
          apply Exists.intro
          refine ⟨?_, ?_⟩
          · go_simp
            rfl
          apply Exists.intro
          refine ⟨by simp only [Act.put, List.setIfInBounds_toArray, List.set_cons_succ, List.set_cons_zero]; rfl, ?_⟩
          refine seq_skip rfl ?_
          apply Exists.intro
          refine ⟨by simp only [Act.put, List.setIfInBounds_toArray, List.set_cons_succ, List.set_cons_zero]; rfl, ?_⟩
          refine seq_skip rfl ?_
          apply Exists.intro
          refine ⟨by simp only [Act.put, List.setIfInBounds_toArray, List.set_cons_succ, List.set_cons_zero]; rfl, ?_⟩
          refine seq_skip rfl ?_
          apply Exists.intro
          refine ⟨by simp only [Act.put, List.setIfInBounds_toArray, List.set_cons_succ, List.set_cons_zero]; rfl, ?_⟩
          refine seq_pure rfl ?_
          apply Exists.intro
          refine ⟨?_, ?_⟩
          · go_simp
            rfl
          apply Exists.intro
          refine ⟨by simp only [Act.put, List.setIfInBounds_toArray, List.set_cons_succ, List.set_cons_zero]; rfl, ?_⟩
          refine seq_pure rfl ?_
          apply Exists.intro
          refine ⟨?_, ?_⟩
          · go_simp
            rfl
          apply Exists.intro
          refine ⟨by simp only [Act.put, List.setIfInBounds_toArray, List.set_cons_succ, List.set_cons_zero]; rfl, ?_⟩
          refine seq_skip rfl ?_
          apply Exists.intro
          refine ⟨by simp only [Act.put, List.setIfInBounds_toArray, List.set_cons_succ, List.set_cons_zero]; rfl, ?_⟩
          refine seq_skip rfl ?_
          apply Exists.intro
          refine ⟨by simp only [Act.put, List.setIfInBounds_toArray, List.set_cons_succ, List.set_cons_zero]; rfl, ?_⟩
          refine seq_skip rfl ?_
          apply Exists.intro
          refine ⟨by simp only [Act.put, List.setIfInBounds_toArray, List.set_cons_succ, List.set_cons_zero]; rfl, ?_⟩
          refine seq_skip rfl ?_
          apply Exists.intro
          refine ⟨by simp only [Act.put, List.setIfInBounds_toArray, List.set_cons_succ, List.set_cons_zero]; rfl, ?_⟩
          refine seq_pure rfl ?_
          apply Exists.intro
          refine ⟨?_, ?_⟩
          · go_simp
            rfl
          apply Exists.intro
          refine ⟨by simp only [Act.put, List.setIfInBounds_toArray, List.set_cons_succ, List.set_cons_zero]; rfl, ?_⟩
          refine seq_pure rfl ?_
          apply Exists.intro
          refine ⟨?_, ?_⟩
          · go_simp
            rfl
          apply Exists.intro
          refine ⟨by simp only [Act.put, List.setIfInBounds_toArray, List.set_cons_succ, List.set_cons_zero]; rfl, ?_⟩
          refine seq_nil ?_
          try go_simp
          try (go_wp2_with fail)
          go_meet
          exact ⟨rfl, hD⟩
        | true =>
          cases e4 : Vec.covers g h with
          | false =>
            refine seq_val (R := fun x y => Below x.heap.size x y) (p := fun _ => True) rfl (vecV h) ?_ ?_
            · have hl := run_loadVar_arr (P := Try.prog) x (w.heap.size + 1 + 1) 0 24 (arrOf .u64 8 h) _ (row_range hD.c) Try.underlying24 rfl (by rw [arrOf_size]; exact size24)
              rw [exec_load 24 (.tmp 5) rfl (w.heap.size + 1 + 1) 0 rfl hl]
              exact ⟨Below.refl _ _, rfl, trivial⟩
            intro y hb hT
            replace hD := LInv.then_ hb hD
            clear hb hT x
            revert y
            intro x hD
            apply Exists.intro
            refine ⟨by simp only [Act.put, List.setIfInBounds_toArray, List.set_cons_succ, List.set_cons_zero]; rfl, ?_⟩
            refine seq_val (R := fun x y => Below x.heap.size x y) (p := fun _ => True) rfl (vecV f) ?_ ?_
            · have hl := run_loadVar_arr (P := Try.prog) x w.heap.size 0 24 (arrOf .u64 8 f) _ (row_range hD.a) Try.underlying24 rfl (by rw [arrOf_size]; exact size24)
              rw [exec_load 24 (.tmp 3) rfl w.heap.size 0 rfl hl]
              exact ⟨Below.refl _ _, rfl, trivial⟩
            intro y hb hT
            replace hD := LInv.then_ hb hD
            clear hb hT x
            revert y
            intro x hD
            apply Exists.intro
            refine ⟨by simp only [Act.put, List.setIfInBounds_toArray, List.set_cons_succ, List.set_cons_zero]; rfl, ?_⟩
            refine seq_val (R := fun x y => Below x.heap.size x y) (p := fun _ => True) rfl (.bool true) ?_ ?_
            · go_simp
              refine (covers_any h f x).mono ?_
              rintro e y ⟨rfl, hg⟩
              exact ⟨_, rfl, hg, by rw [e1]⟩
            intro y hb hT
            replace hD := LInv.then_ hb hD
            clear hb hT x
            revert y
            intro x hD
            apply Exists.intro
            refine ⟨by simp only [Act.put, List.setIfInBounds_toArray, List.set_cons_succ, List.set_cons_zero]; rfl, ?_⟩
            refine seq_pure rfl ?_
            apply Exists.intro
            refine ⟨?_, ?_⟩
            · go_simp
              rfl
            apply Exists.intro
            refine ⟨by simp only [Act.put, List.setIfInBounds_toArray, List.set_cons_succ, List.set_cons_zero]; rfl, ?_⟩
            refine seq_val (R := fun x y => Below x.heap.size x y) (p := fun _ => True) rfl (vecV h) ?_ ?_
            · have hl := run_loadVar_arr (P := Try.prog) x (w.heap.size + 1 + 1) 0 24 (arrOf .u64 8 h) _ (row_range hD.c) Try.underlying24 rfl (by rw [arrOf_size]; exact size24)
              rw [exec_load 24 (.tmp 5) rfl (w.heap.size + 1 + 1) 0 rfl hl]
              exact ⟨Below.refl _ _, rfl, trivial⟩
            intro y hb hT
            replace hD := LInv.then_ hb hD
            clear hb hT x
            revert y
            intro x hD
            apply Exists.intro
            refine ⟨by simp only [Act.put, List.setIfInBounds_toArray, List.set_cons_succ, List.set_cons_zero]; rfl, ?_⟩
            refine seq_val (R := fun x y => Below x.heap.size x y) (p := fun _ => True) rfl (vecV g) ?_ ?_
            · have hl := run_loadVar_arr (P := Try.prog) x (w.heap.size + 1) 0 24 (arrOf .u64 8 g) _ (row_range hD.b) Try.underlying24 rfl (by rw [arrOf_size]; exact size24)
              rw [exec_load 24 (.tmp 4) rfl (w.heap.size + 1) 0 rfl hl]
              exact ⟨Below.refl _ _, rfl, trivial⟩
            intro y hb hT
            replace hD := LInv.then_ hb hD
            clear hb hT x
            revert y
            intro x hD
            apply Exists.intro
            refine ⟨by simp only [Act.put, List.setIfInBounds_toArray, List.set_cons_succ, List.set_cons_zero]; rfl, ?_⟩
            refine seq_val (R := fun x y => Below x.heap.size x y) (p := fun _ => True) rfl (.bool false) ?_ ?_
            · go_simp
              refine (covers_any h g x).mono ?_
              rintro e y ⟨rfl, hg⟩
              exact ⟨_, rfl, hg, by rw [e2]⟩
            intro y hb hT
            replace hD := LInv.then_ hb hD
            clear hb hT x
            revert y
            intro x hD
            apply Exists.intro
            refine ⟨by simp only [Act.put, List.setIfInBounds_toArray, List.set_cons_succ, List.set_cons_zero]; rfl, ?_⟩
            refine seq_pure rfl ?_
            apply Exists.intro
            refine ⟨?_, ?_⟩
            · go_simp
              rfl
            apply Exists.intro
            refine ⟨by simp only [Act.put, List.setIfInBounds_toArray, List.set_cons_succ, List.set_cons_zero]; rfl, ?_⟩
            refine seq_pure rfl ?_
            apply Exists.intro
            refine ⟨?_, ?_⟩
            · go_simp
              rfl
            apply Exists.intro
            refine ⟨by simp only [Act.put, List.setIfInBounds_toArray, List.set_cons_succ, List.set_cons_zero]; rfl, ?_⟩
            refine seq_skip rfl ?_
            apply Exists.intro
            refine ⟨by simp only [Act.put, List.setIfInBounds_toArray, List.set_cons_succ, List.set_cons_zero]; rfl, ?_⟩
            refine seq_skip rfl ?_
            apply Exists.intro
            refine ⟨by simp only [Act.put, List.setIfInBounds_toArray, List.set_cons_succ, List.set_cons_zero]; rfl, ?_⟩
            refine seq_skip rfl ?_
            apply Exists.intro
            refine ⟨by simp only [Act.put, List.setIfInBounds_toArray, List.set_cons_succ, List.set_cons_zero]; rfl, ?_⟩
            refine seq_skip rfl ?_
            apply Exists.intro
            refine ⟨by simp only [Act.put, List.setIfInBounds_toArray, List.set_cons_succ, List.set_cons_zero]; rfl, ?_⟩
            refine seq_pure rfl ?_
            apply Exists.intro
            refine ⟨?_, ?_⟩
            · go_simp
              rfl
            apply Exists.intro
            refine ⟨by simp only [Act.put, List.setIfInBounds_toArray, List.set_cons_succ, List.set_cons_zero]; rfl, ?_⟩
            refine seq_pure rfl ?_
            apply Exists.intro
            refine ⟨?_, ?_⟩
            · go_simp
              rfl
            apply Exists.intro
            refine ⟨by simp only [Act.put, List.setIfInBounds_toArray, List.set_cons_succ, List.set_cons_zero]; rfl, ?_⟩
            refine seq_val (R := fun x y => Below x.heap.size x y) (p := fun _ => True) rfl (vecV f) ?_ ?_
            · have hl := run_loadVar_arr (P := Try.prog) x w.heap.size 0 24 (arrOf .u64 8 f) _ (row_range hD.a) Try.underlying24 rfl (by rw [arrOf_size]; exact size24)
              rw [exec_load 24 (.tmp 3) rfl w.heap.size 0 rfl hl]
              exact ⟨Below.refl _ _, rfl, trivial⟩
            intro y hb hT
            replace hD := LInv.then_ hb hD
            clear hb hT x
            revert y
            intro x hD
            apply Exists.intro
            refine ⟨by simp only [Act.put, List.setIfInBounds_toArray, List.set_cons_succ, List.set_cons_zero]; rfl, ?_⟩
            refine seq_val (R := fun x y => Below x.heap.size x y) (p := fun _ => True) rfl (vecV h) ?_ ?_
            · have hl := run_loadVar_arr (P := Try.prog) x (w.heap.size + 1 + 1) 0 24 (arrOf .u64 8 h) _ (row_range hD.c) Try.underlying24 rfl (by rw [arrOf_size]; exact size24)
              rw [exec_load 24 (.tmp 5) rfl (w.heap.size + 1 + 1) 0 rfl hl]
              exact ⟨Below.refl _ _, rfl, trivial⟩
            intro y hb hT
            replace hD := LInv.then_ hb hD
            clear hb hT x
            revert y
            intro x hD
            apply Exists.intro
            refine ⟨by simp only [Act.put, List.setIfInBounds_toArray, List.set_cons_succ, List.set_cons_zero]; rfl, ?_⟩
            refine seq_val (R := fun x y => Below x.heap.size x y) (p := fun _ => True) rfl (.bool true) ?_ ?_
            · go_simp
              refine (covers_any f h x).mono ?_
              rintro e y ⟨rfl, hg⟩
              exact ⟨_, rfl, hg, by rw [e3]⟩
            intro y hb hT
            replace hD := LInv.then_ hb hD
            clear hb hT x
            revert y
            intro x hD
            apply Exists.intro
            refine ⟨by simp only [Act.put, List.setIfInBounds_toArray, List.set_cons_succ, List.set_cons_zero]; rfl, ?_⟩
            refine seq_pure rfl ?_
            apply Exists.intro
            refine ⟨?_, ?_⟩
            · go_simp
              rfl
            apply Exists.intro
            refine ⟨by simp only [Act.put, List.setIfInBounds_toArray, List.set_cons_succ, List.set_cons_zero]; rfl, ?_⟩
            refine seq_val (R := fun x y => Below x.heap.size x y) (p := fun _ => True) rfl (vecV g) ?_ ?_
            · have hl := run_loadVar_arr (P := Try.prog) x (w.heap.size + 1) 0 24 (arrOf .u64 8 g) _ (row_range hD.b) Try.underlying24 rfl (by rw [arrOf_size]; exact size24)
              rw [exec_load 24 (.tmp 4) rfl (w.heap.size + 1) 0 rfl hl]
              exact ⟨Below.refl _ _, rfl, trivial⟩
            intro y hb hT
            replace hD := LInv.then_ hb hD
            clear hb hT x
            revert y
            intro x hD
            apply Exists.intro
            refine ⟨by simp only [Act.put, List.setIfInBounds_toArray, List.set_cons_succ, List.set_cons_zero]; rfl, ?_⟩
            refine seq_val (R := fun x y => Below x.heap.size x y) (p := fun _ => True) rfl (vecV h) ?_ ?_
            · have hl := run_loadVar_arr (P := Try.prog) x (w.heap.size + 1 + 1) 0 24 (arrOf .u64 8 h) _ (row_range hD.c) Try.underlying24 rfl (by rw [arrOf_size]; exact size24)
              rw [exec_load 24 (.tmp 5) rfl (w.heap.size + 1 + 1) 0 rfl hl]
              exact ⟨Below.refl _ _, rfl, trivial⟩
            intro y hb hT
            replace hD := LInv.then_ hb hD
            clear hb hT x
            revert y
            intro x hD
            apply Exists.intro
            refine ⟨by simp only [Act.put, List.setIfInBounds_toArray, List.set_cons_succ, List.set_cons_zero]; rfl, ?_⟩
            refine seq_val (R := fun x y => Below x.heap.size x y) (p := fun _ => True) rfl (.bool false) ?_ ?_
            · go_simp
              refine (covers_any g h x).mono ?_
              rintro e y ⟨rfl, hg⟩
              exact ⟨_, rfl, hg, by rw [e4]⟩
            intro y hb hT
            replace hD := LInv.then_ hb hD
            clear hb hT x
            revert y
            intro x hD
            apply Exists.intro
            refine ⟨by simp only [Act.put, List.setIfInBounds_toArray, List.set_cons_succ, List.set_cons_zero]; rfl, ?_⟩
            refine seq_pure rfl ?_
            apply Exists.intro
            refine ⟨?_, ?_⟩
            · go_simp
              rfl
            apply Exists.intro
            refine ⟨by simp only [Act.put, List.setIfInBounds_toArray, List.set_cons_succ, List.set_cons_zero]; rfl, ?_⟩
            refine seq_pure rfl ?_
            apply Exists.intro
            refine ⟨?_, ?_⟩
            · go_simp
              rfl
            apply Exists.intro
            refine ⟨by simp only [Act.put, List.setIfInBounds_toArray, List.set_cons_succ, List.set_cons_zero]; rfl, ?_⟩
            refine seq_skip rfl ?_
            apply Exists.intro
            refine ⟨by simp only [Act.put, List.setIfInBounds_toArray, List.set_cons_succ, List.set_cons_zero]; rfl, ?_⟩
            refine seq_skip rfl ?_
            apply Exists.intro
            refine ⟨by simp only [Act.put, List.setIfInBounds_toArray, List.set_cons_succ, List.set_cons_zero]; rfl, ?_⟩
            refine seq_skip rfl ?_
            apply Exists.intro
            refine ⟨by simp only [Act.put, List.setIfInBounds_toArray, List.set_cons_succ, List.set_cons_zero]; rfl, ?_⟩
            refine seq_skip rfl ?_
            apply Exists.intro
            refine ⟨by simp only [Act.put, List.setIfInBounds_toArray, List.set_cons_succ, List.set_cons_zero]; rfl, ?_⟩
            refine seq_pure rfl ?_
            apply Exists.intro
            refine ⟨?_, ?_⟩
            · go_simp
              rfl
            apply Exists.intro
            refine ⟨by simp only [Act.put, List.setIfInBounds_toArray, List.set_cons_succ, List.set_cons_zero]; rfl, ?_⟩
            refine seq_pure rfl ?_
            apply Exists.intro
            refine ⟨?_, ?_⟩
            · go_simp
              rfl
            apply Exists.intro
            refine ⟨by simp only [Act.put, List.setIfInBounds_toArray, List.set_cons_succ, List.set_cons_zero]; rfl, ?_⟩
            refine seq_nil ?_
            try go_simp
            try (go_wp2_with fail)
            go_meet
            exact ⟨rfl, hD⟩
          | true =>
            have e6 := HK2.out e3 e4
            refine seq_val (R := fun x y => Below x.heap.size x y) (p := fun _ => True) rfl (vecV h) ?_ ?_
            · have hl := run_loadVar_arr (P := Try.prog) x (w.heap.size + 1 + 1) 0 24 (arrOf .u64 8 h) _ (row_range hD.c) Try.underlying24 rfl (by rw [arrOf_size]; exact size24)
              rw [exec_load 24 (.tmp 5) rfl (w.heap.size + 1 + 1) 0 rfl hl]
              exact ⟨Below.refl _ _, rfl, trivial⟩
            intro y hb hT
            replace hD := LInv.then_ hb hD
            clear hb hT x
            revert y
            intro x hD
            apply Exists.intro
            refine ⟨by simp only [Act.put, List.setIfInBounds_toArray, List.set_cons_succ, List.set_cons_zero]; rfl, ?_⟩
            refine seq_val (R := fun x y => Below x.heap.size x y) (p := fun _ => True) rfl (vecV f) ?_ ?_
            · have hl := run_loadVar_arr (P := Try.prog) x w.heap.size 0 24 (arrOf .u64 8 f) _ (row_range hD.a) Try.underlying24 rfl (by rw [arrOf_size]; exact size24)
              rw [exec_load 24 (.tmp 3) rfl w.heap.size 0 rfl hl]
              exact ⟨Below.refl _ _, rfl, trivial⟩
            intro y hb hT
            replace hD := LInv.then_ hb hD
            clear hb hT x
            revert y
            intro x hD
            apply Exists.intro
            refine ⟨by simp only [Act.put, List.setIfInBounds_toArray, List.set_cons_succ, List.set_cons_zero]; rfl, ?_⟩
            refine seq_val (R := fun x y => Below x.heap.size x y) (p := fun _ => True) rfl (.bool true) ?_ ?_
            · go_simp
              refine (covers_any h f x).mono ?_
              rintro e y ⟨rfl, hg⟩
              exact ⟨_, rfl, hg, by rw [e1]⟩
            intro y hb hT
            replace hD := LInv.then_ hb hD
            clear hb hT x
            revert y
            intro x hD
            apply Exists.intro
            refine ⟨by simp only [Act.put, List.setIfInBounds_toArray, List.set_cons_succ, List.set_cons_zero]; rfl, ?_⟩
            refine seq_pure rfl ?_
            apply Exists.intro
            refine ⟨?_, ?_⟩
            · go_simp
              rfl
            apply Exists.intro
            refine ⟨by simp only [Act.put, List.setIfInBounds_toArray, List.set_cons_succ, List.set_cons_zero]; rfl, ?_⟩
            refine seq_val (R := fun x y => Below x.heap.size x y) (p := fun _ => True) rfl (vecV h) ?_ ?_
            · have hl := run_loadVar_arr (P := Try.prog) x (w.heap.size + 1 + 1) 0 24 (arrOf .u64 8 h) _ (row_range hD.c) Try.underlying24 rfl (by rw [arrOf_size]; exact size24)
              rw [exec_load 24 (.tmp 5) rfl (w.heap.size + 1 + 1) 0 rfl hl]
              exact ⟨Below.refl _ _, rfl, trivial⟩
            intro y hb hT
            replace hD := LInv.then_ hb hD
            clear hb hT x
            revert y
            intro x hD
            apply Exists.intro
            refine ⟨by simp only [Act.put, List.setIfInBounds_toArray, List.set_cons_succ, List.set_cons_zero]; rfl, ?_⟩
            refine seq_val (R := fun x y => Below x.heap.size x y) (p := fun _ => True) rfl (vecV g) ?_ ?_
            · have hl := run_loadVar_arr (P := Try.prog) x (w.heap.size + 1) 0 24 (arrOf .u64 8 g) _ (row_range hD.b) Try.underlying24 rfl (by rw [arrOf_size]; exact size24)
              rw [exec_load 24 (.tmp 4) rfl (w.heap.size + 1) 0 rfl hl]
              exact ⟨Below.refl _ _, rfl, trivial⟩
            intro y hb hT
            replace hD := LInv.then_ hb hD
            clear hb hT x
            revert y
            intro x hD
            apply Exists.intro
            refine ⟨by simp only [Act.put, List.setIfInBounds_toArray, List.set_cons_succ, List.set_cons_zero]; rfl, ?_⟩
            refine seq_val (R := fun x y => Below x.heap.size x y) (p := fun _ => True) rfl (.bool false) ?_ ?_
            · go_simp
              refine (covers_any h g x).mono ?_
              rintro e y ⟨rfl, hg⟩
              exact ⟨_, rfl, hg, by rw [e2]⟩
            intro y hb hT
            replace hD := LInv.then_ hb hD
            clear hb hT x
            revert y
            intro x hD
            apply Exists.intro
            refine ⟨by simp only [Act.put, List.setIfInBounds_toArray, List.set_cons_succ, List.set_cons_zero]; rfl, ?_⟩
            refine seq_pure rfl ?_
            apply Exists.intro
            refine ⟨?_, ?_⟩
            · go_simp
              rfl
            apply Exists.intro
            refine ⟨by simp only [Act.put, List.setIfInBounds_toArray, List.set_cons_succ, List.set_cons_zero]; rfl, ?_⟩
            refine seq_pure rfl ?_
            apply Exists.intro
            refine ⟨?_, ?_⟩
            · go_simp
              rfl
            apply Exists.intro
            refine ⟨by simp only [Act.put, List.setIfInBounds_toArray, List.set_cons_succ, List.set_cons_zero]; rfl, ?_⟩
            refine seq_skip rfl ?_
            apply Exists.intro
            refine ⟨by simp only [Act.put, List.setIfInBounds_toArray, List.set_cons_succ, List.set_cons_zero]; rfl, ?_⟩
            refine seq_skip rfl ?_
            apply Exists.intro
            refine ⟨by simp only [Act.put, List.setIfInBounds_toArray, List.set_cons_succ, List.set_cons_zero]; rfl, ?_⟩
            refine seq_skip rfl ?_
            apply Exists.intro
            refine ⟨by simp only [Act.put, List.setIfInBounds_toArray, List.set_cons_succ, List.set_cons_zero]; rfl, ?_⟩
            refine seq_skip rfl ?_
            apply Exists.intro
            refine ⟨by simp only [Act.put, List.setIfInBounds_toArray, List.set_cons_succ, List.set_cons_zero]; rfl, ?_⟩
            refine seq_pure rfl ?_
            apply Exists.intro
            refine ⟨?_, ?_⟩
            · go_simp
              rfl
            apply Exists.intro
            refine ⟨by simp only [Act.put, List.setIfInBounds_toArray, List.set_cons_succ, List.set_cons_zero]; rfl, ?_⟩
            refine seq_pure rfl ?_
            apply Exists.intro
            refine ⟨?_, ?_⟩
            · go_simp
              rfl
            apply Exists.intro
            refine ⟨by simp only [Act.put, List.setIfInBounds_toArray, List.set_cons_succ, List.set_cons_zero]; rfl, ?_⟩
            refine seq_val (R := fun x y => Below x.heap.size x y) (p := fun _ => True) rfl (vecV f) ?_ ?_
            · have hl := run_loadVar_arr (P := Try.prog) x w.heap.size 0 24 (arrOf .u64 8 f) _ (row_range hD.a) Try.underlying24 rfl (by rw [arrOf_size]; exact size24)
              rw [exec_load 24 (.tmp 3) rfl w.heap.size 0 rfl hl]
              exact ⟨Below.refl _ _, rfl, trivial⟩
            intro y hb hT
            replace hD := LInv.then_ hb hD
            clear hb hT x
            revert y
            intro x hD
            apply Exists.intro
            refine ⟨by simp only [Act.put, List.setIfInBounds_toArray, List.set_cons_succ, List.set_cons_zero]; rfl, ?_⟩
            refine seq_val (R := fun x y => Below x.heap.size x y) (p := fun _ => True) rfl (vecV h) ?_ ?_
            · have hl := run_loadVar_arr (P := Try.prog) x (w.heap.size + 1 + 1) 0 24 (arrOf .u64 8 h) _ (row_range hD.c) Try.underlying24 rfl (by rw [arrOf_size]; exact size24)
              rw [exec_load 24 (.tmp 5) rfl (w.heap.size + 1 + 1) 0 rfl hl]
              exact ⟨Below.refl _ _, rfl, trivial⟩
            intro y hb hT
            replace hD := LInv.then_ hb hD
            clear hb hT x
            revert y
            intro x hD
            apply Exists.intro
            refine ⟨by simp only [Act.put, List.setIfInBounds_toArray, List.set_cons_succ, List.set_cons_zero]; rfl, ?_⟩
            refine seq_val (R := fun x y => Below x.heap.size x y) (p := fun _ => True) rfl (.bool true) ?_ ?_
            · go_simp
              refine (covers_any f h x).mono ?_
              rintro e y ⟨rfl, hg⟩
              exact ⟨_, rfl, hg, by rw [e3]⟩
            intro y hb hT
            replace hD := LInv.then_ hb hD
            clear hb hT x
            revert y
            intro x hD
            apply Exists.intro
            refine ⟨by simp only [Act.put, List.setIfInBounds_toArray, List.set_cons_succ, List.set_cons_zero]; rfl, ?_⟩
            refine seq_pure rfl ?_
            apply Exists.intro
            refine ⟨?_, ?_⟩
            · go_simp
              rfl
            apply Exists.intro
            refine ⟨by simp only [Act.put, List.setIfInBounds_toArray, List.set_cons_succ, List.set_cons_zero]; rfl, ?_⟩
            refine seq_val (R := fun x y => Below x.heap.size x y) (p := fun _ => True) rfl (vecV g) ?_ ?_
            · have hl := run_loadVar_arr (P := Try.prog) x (w.heap.size + 1) 0 24 (arrOf .u64 8 g) _ (row_range hD.b) Try.underlying24 rfl (by rw [arrOf_size]; exact size24)
              rw [exec_load 24 (.tmp 4) rfl (w.heap.size + 1) 0 rfl hl]
              exact ⟨Below.refl _ _, rfl, trivial⟩
            intro y hb hT
            replace hD := LInv.then_ hb hD
            clear hb hT x
            revert y
            intro x hD
            apply Exists.intro
            refine ⟨by simp only [Act.put, List.setIfInBounds_toArray, List.set_cons_succ, List.set_cons_zero]; rfl, ?_⟩
            refine seq_val (R := fun x y => Below x.heap.size x y) (p := fun _ => True) rfl (vecV h) ?_ ?_
            · have hl := run_loadVar_arr (P := Try.prog) x (w.heap.size + 1 + 1) 0 24 (arrOf .u64 8 h) _ (row_range hD.c) Try.underlying24 rfl (by rw [arrOf_size]; exact size24)
              rw [exec_load 24 (.tmp 5) rfl (w.heap.size + 1 + 1) 0 rfl hl]
              exact ⟨Below.refl _ _, rfl, trivial⟩
            intro y hb hT
            replace hD := LInv.then_ hb hD
            clear hb hT x
            revert y
            intro x hD
            apply Exists.intro
            refine ⟨by simp only [Act.put, List.setIfInBounds_toArray, List.set_cons_succ, List.set_cons_zero]; rfl, ?_⟩
            refine seq_val (R := fun x y => Below x.heap.size x y) (p := fun _ => True) rfl (.bool true) ?_ ?_
            · go_simp
              refine (covers_any g h x).mono ?_
              rintro e y ⟨rfl, hg⟩
              exact ⟨_, rfl, hg, by rw [e4]⟩
            intro y hb hT
            replace hD := LInv.then_ hb hD
            clear hb hT x
            revert y
            intro x hD
            apply Exists.intro
            refine ⟨by simp only [Act.put, List.setIfInBounds_toArray, List.set_cons_succ, List.set_cons_zero]; rfl, ?_⟩
            refine seq_pure rfl ?_
            apply Exists.intro
            refine ⟨?_, ?_⟩
            · go_simp
              rfl
            apply Exists.intro
            refine ⟨by simp only [Act.put, List.setIfInBounds_toArray, List.set_cons_succ, List.set_cons_zero]; rfl, ?_⟩
            refine seq_pure rfl ?_
            apply Exists.intro
            refine ⟨?_, ?_⟩
            · go_simp
              rfl
            apply Exists.intro
            refine ⟨by simp only [Act.put, List.setIfInBounds_toArray, List.set_cons_succ, List.set_cons_zero]; rfl, ?_⟩
            refine seq_val (R := fun x y => Below x.heap.size x y) (p := fun _ => True) rfl (vecV M) ?_ ?_
            · have hl := run_loadVar_arr (P := Try.prog) x b8 0 24 (arrOf .u64 8 M) _ (row_range hD.m) Try.underlying24 rfl (by rw [arrOf_size]; exact size24)
              rw [exec_load 24 (.tmp 8) rfl b8 0 rfl hl]
              exact ⟨Below.refl _ _, rfl, trivial⟩
            intro y hb hT
            replace hD := LInv.then_ hb hD
            clear hb hT x
            revert y
            intro x hD
            apply Exists.intro
            refine ⟨by simp only [Act.put, List.setIfInBounds_toArray, List.set_cons_succ, List.set_cons_zero]; rfl, ?_⟩
            refine seq_val (R := fun x y => Below x.heap.size x y) (p := fun _ => True) rfl (vecV h) ?_ ?_
            · have hl := run_loadVar_arr (P := Try.prog) x (w.heap.size + 1 + 1) 0 24 (arrOf .u64 8 h) _ (row_range hD.c) Try.underlying24 rfl (by rw [arrOf_size]; exact size24)
              rw [exec_load 24 (.tmp 5) rfl (w.heap.size + 1 + 1) 0 rfl hl]
              exact ⟨Below.refl _ _, rfl, trivial⟩
            intro y hb hT
            replace hD := LInv.then_ hb hD
            clear hb hT x
            revert y
            intro x hD
            apply Exists.intro
            refine ⟨by simp only [Act.put, List.setIfInBounds_toArray, List.set_cons_succ, List.set_cons_zero]; rfl, ?_⟩
            refine seq_val (R := fun x y => Below x.heap.size x y) (p := fun _ => True) rfl (.bool true) ?_ ?_
            · go_simp
              refine (covers_any M h x).mono ?_
              rintro e y ⟨rfl, hg⟩
              exact ⟨_, rfl, hg, by rw [e6]⟩
            intro y hb hT
            replace hD := LInv.then_ hb hD
            clear hb hT x
            revert y
            intro x hD
            apply Exists.intro
            refine ⟨by simp only [Act.put, List.setIfInBounds_toArray, List.set_cons_succ, List.set_cons_zero]; rfl, ?_⟩
            refine seq_pure rfl ?_
            apply Exists.intro
            refine ⟨?_, ?_⟩
            · go_simp
              rfl
            apply Exists.intro
            refine ⟨by simp only [Act.put, List.setIfInBounds_toArray, List.set_cons_succ, List.set_cons_zero]; rfl, ?_⟩
            refine seq_pure rfl ?_
            apply Exists.intro
            refine ⟨?_, ?_⟩
            · go_simp
              rfl
            apply Exists.intro
            refine ⟨by simp only [Act.put, List.setIfInBounds_toArray, List.set_cons_succ, List.set_cons_zero]; rfl, ?_⟩
            refine seq_pure rfl ?_
            apply Exists.intro
            refine ⟨?_, ?_⟩
            · go_simp
              rfl
            apply Exists.intro
            refine ⟨by simp only [Act.put, List.setIfInBounds_toArray, List.set_cons_succ, List.set_cons_zero]; rfl, ?_⟩
            refine seq_nil ?_
            try go_simp
            try (go_wp2_with fail)
            go_meet
            exact ⟨rfl, hD⟩
      | true =>
        cases e3 : Vec.covers f h with
        | false =>
          have e5 := HK1.out e1 e2
          refine seq_val (R := fun x y => Below x.heap.size x y) (p := fun _ => True) rfl (vecV h) ?_ ?_
          · have hl := run_loadVar_arr (P := Try.prog) x (w.heap.size + 1 + 1) 0 24 (arrOf .u64 8 h) _ (row_range hD.c) Try.underlying24 rfl (by rw [arrOf_size]; exact size24)
            rw [exec_load 24 (.tmp 5) rfl (w.heap.size + 1 + 1) 0 rfl hl]
            exact ⟨Below.refl _ _, rfl, trivial⟩
          intro y hb hT
          replace hD := LInv.then_ hb hD
          clear hb hT x
          revert y
          intro x hD
          apply Exists.intro
          refine ⟨by simp only [Act.put, List.setIfInBounds_toArray, List.set_cons_succ, List.set_cons_zero]; rfl, ?_⟩
          refine seq_val (R := fun x y => Below x.heap.size x y) (p := fun _ => True) rfl (vecV f) ?_ ?_
          · have hl := run_loadVar_arr (P := Try.prog) x w.heap.size 0 24 (arrOf .u64 8 f) _ (row_range hD.a) Try.underlying24 rfl (by rw [arrOf_size]; exact size24)
            rw [exec_load 24 (.tmp 3) rfl w.heap.size 0 rfl hl]
            exact ⟨Below.refl _ _, rfl, trivial⟩
          intro y hb hT
          replace hD := LInv.then_ hb hD
          clear hb hT x
          revert y
          intro x hD
          apply Exists.intro
          refine ⟨by simp only [Act.put, List.setIfInBounds_toArray, List.set_cons_succ, List.set_cons_zero]; rfl, ?_⟩
          refine seq_val (R := fun x y => Below x.heap.size x y) (p := fun _ => True) rfl (.bool true) ?_ ?_
          · go_simp
            refine (covers_any h f x).mono ?_
            rintro e y ⟨rfl, hg⟩
            exact ⟨_, rfl, hg, by rw [e1]⟩
          intro y hb hT
          replace hD := LInv.then_ hb hD
          clear hb hT x
          revert y
          intro x hD
          apply Exists.intro
          refine ⟨by simp only [Act.put, List.setIfInBounds_toArray, List.set_cons_succ, List.set_cons_zero]; rfl, ?_⟩
          refine seq_pure rfl ?_
          apply Exists.intro
          refine ⟨?_, ?_⟩
          · go_simp
            rfl
          apply Exists.intro
          refine ⟨by simp only [Act.put, List.setIfInBounds_toArray, List.set_cons_succ, List.set_cons_zero]; rfl, ?_⟩
          refine seq_val (R := fun x y => Below x.heap.size x y) (p := fun _ => True) rfl (vecV h) ?_ ?_
          · have hl := run_loadVar_arr (P := Try.prog) x (w.heap.size + 1 + 1) 0 24 (arrOf .u64 8 h) _ (row_range hD.c) Try.underlying24 rfl (by rw [arrOf_size]; exact size24)
            rw [exec_load 24 (.tmp 5) rfl (w.heap.size + 1 + 1) 0 rfl hl]
            exact ⟨Below.refl _ _, rfl, trivial⟩
          intro y hb hT
          replace hD := LInv.then_ hb hD
          clear hb hT x
          revert y
          intro x hD
          apply Exists.intro
          refine ⟨by simp only [Act.put, List.setIfInBounds_toArray, List.set_cons_succ, List.set_cons_zero]; rfl, ?_⟩
          refine seq_val (R := fun x y => Below x.heap.size x y) (p := fun _ => True) rfl (vecV g) ?_ ?_
          · have hl := run_loadVar_arr (P := Try.prog) x (w.heap.size + 1) 0 24 (arrOf .u64 8 g) _ (row_range hD.b) Try.underlying24 rfl (by rw [arrOf_size]; exact size24)
            rw [exec_load 24 (.tmp 4) rfl (w.heap.size + 1) 0 rfl hl]
            exact ⟨Below.refl _ _, rfl, trivial⟩
          intro y hb hT
          replace hD := LInv.then_ hb hD
          clear hb hT x
          revert y
          intro x hD
          apply Exists.intro
          refine ⟨by simp only [Act.put, List.setIfInBounds_toArray, List.set_cons_succ, List.set_cons_zero]; rfl, ?_⟩
          refine seq_val (R := fun x y => Below x.heap.size x y) (p := fun _ => True) rfl (.bool true) ?_ ?_
          · go_simp
            refine (covers_any h g x).mono ?_
            rintro e y ⟨rfl, hg⟩
            exact ⟨_, rfl, hg, by rw [e2]⟩
          intro y hb hT
          replace hD := LInv.then_ hb hD
          clear hb hT x
          revert y
          intro x hD
          apply Exists.intro
          refine ⟨by simp only [Act.put, List.setIfInBounds_toArray, List.set_cons_succ, List.set_cons_zero]; rfl, ?_⟩
          refine seq_pure rfl ?_
          apply Exists.intro
          refine ⟨?_, ?_⟩
          · go_simp
            rfl
          apply Exists.intro
          refine ⟨by simp only [Act.put, List.setIfInBounds_toArray, List.set_cons_succ, List.set_cons_zero]; rfl, ?_⟩
          refine seq_pure rfl ?_
          apply Exists.intro
          refine ⟨?_, ?_⟩
          · go_simp
            rfl
          apply Exists.intro
          refine ⟨by simp only [Act.put, List.setIfInBounds_toArray, List.set_cons_succ, List.set_cons_zero]; rfl, ?_⟩
          refine seq_val (R := fun x y => Below x.heap.size x y) (p := fun _ => True) rfl (vecV h) ?_ ?_
          · have hl := run_loadVar_arr (P := Try.prog) x (w.heap.size + 1 + 1) 0 24 (arrOf .u64 8 h) _ (row_range hD.c) Try.underlying24 rfl (by rw [arrOf_size]; exact size24)
            rw [exec_load 24 (.tmp 5) rfl (w.heap.size + 1 + 1) 0 rfl hl]
            exact ⟨Below.refl _ _, rfl, trivial⟩
          intro y hb hT
          replace hD := LInv.then_ hb hD
          clear hb hT x
          revert y
          intro x hD
          apply Exists.intro
          refine ⟨by simp only [Act.put, List.setIfInBounds_toArray, List.set_cons_succ, List.set_cons_zero]; rfl, ?_⟩
          refine seq_val (R := fun x y => Below x.heap.size x y) (p := fun _ => True) rfl (vecV J) ?_ ?_
          · have hl := run_loadVar_arr (P := Try.prog) x b7 0 24 (arrOf .u64 8 J) _ (row_range hD.j) Try.underlying24 rfl (by rw [arrOf_size]; exact size24)
            rw [exec_load 24 (.tmp 7) rfl b7 0 rfl hl]
            exact ⟨Below.refl _ _, rfl, trivial⟩
          intro y hb hT
          replace hD := LInv.then_ hb hD
          clear hb hT x
          revert y
          intro x hD
          apply Exists.intro
          refine ⟨by simp only [Act.put, List.setIfInBounds_toArray, List.set_cons_succ, List.set_cons_zero]; rfl, ?_⟩
          refine seq_val (R := fun x y => Below x.heap.size x y) (p := fun _ => True) rfl (.bool true) ?_ ?_
          · go_simp
            refine (covers_any h J x).mono ?_
            rintro e y ⟨rfl, hg⟩
            exact ⟨_, rfl, hg, by rw [e5]⟩
          intro y hb hT
          replace hD := LInv.then_ hb hD
          clear hb hT x
          revert y
          intro x hD
          apply Exists.intro
          refine ⟨by simp only [Act.put, List.setIfInBounds_toArray, List.set_cons_succ, List.set_cons_zero]; rfl, ?_⟩
          refine seq_pure rfl ?_
          apply Exists.intro
          refine ⟨?_, ?_⟩
          · go_simp
            rfl
          apply Exists.intro
          refine ⟨by simp only [Act.put, List.setIfInBounds_toArray, List.set_cons_succ, List.set_cons_zero]; rfl, ?_⟩
          refine seq_pure rfl ?_
          apply Exists.intro
          refine ⟨?_, ?_⟩
          · go_simp
            rfl
          apply Exists.intro
          refine ⟨by simp only [Act.put, List.setIfInBounds_toArray, List.set_cons_succ, List.set_cons_zero]; rfl, ?_⟩
          refine seq_pure rfl ?_
          apply Exists.intro
          refine ⟨?_, ?_⟩
          · go_simp
            rfl
          apply Exists.intro
          refine ⟨by simp only [Act.put, List.setIfInBounds_toArray, List.set_cons_succ, List.set_cons_zero]; rfl, ?_⟩
          refine seq_val (R := fun x y => Below x.heap.size x y) (p := fun _ => True) rfl (vecV f) ?_ ?_
          · have hl := run_loadVar_arr (P := Try.prog) x w.heap.size 0 24 (arrOf .u64 8 f) _ (row_range hD.a) Try.underlying24 rfl (by rw [arrOf_size]; exact size24)
            rw [exec_load 24 (.tmp 3) rfl w.heap.size 0 rfl hl]
            exact ⟨Below.refl _ _, rfl, trivial⟩
          intro y hb hT
          replace hD := LInv.then_ hb hD
          clear hb hT x
          revert y
          intro x hD
          apply Exists.intro
          refine ⟨by simp only [Act.put, List.setIfInBounds_toArray, List.set_cons_succ, List.set_cons_zero]; rfl, ?_⟩
          refine seq_val (R := fun x y => Below x.heap.size x y) (p := fun _ => True) rfl (vecV h) ?_ ?_
          · have hl := run_loadVar_arr (P := Try.prog) x (w.heap.size + 1 + 1) 0 24 (arrOf .u64 8 h) _ (row_range hD.c) Try.underlying24 rfl (by rw [arrOf_size]; exact size24)
            rw [exec_load 24 (.tmp 5) rfl (w.heap.size + 1 + 1) 0 rfl hl]
            exact ⟨Below.refl _ _, rfl, trivial⟩
          intro y hb hT
          replace hD := LInv.then_ hb hD
          clear hb hT x
          revert y
          intro x hD
          apply Exists.intro
          refine ⟨by simp only [Act.put, List.setIfInBounds_toArray, List.set_cons_succ, List.set_cons_zero]; rfl, ?_⟩
          refine seq_val (R := fun x y => Below x.heap.size x y) (p := fun _ => True) rfl (.bool false) ?_ ?_
          · go_simp
            refine (covers_any f h x).mono ?_
            rintro e y ⟨rfl, hg⟩
            exact ⟨_, rfl, hg, by rw [e3]⟩
          intro y hb hT
          replace hD := LInv.then_ hb hD
          clear hb hT x
          revert y
          intro x hD
          apply Exists.intro
          refine ⟨by simp only [Act.put, List.setIfInBounds_toArray, List.set_cons_succ, List.set_cons_zero]; rfl, ?_⟩
          refine seq_pure rfl ?_
          apply Exists.intro
          refine ⟨?_, ?_⟩
          · go_simp
            rfl
          apply Exists.intro
          refine ⟨by simp only [Act.put, List.setIfInBounds_toArray, List.set_cons_succ, List.set_cons_zero]; rfl, ?_⟩
          refine seq_skip rfl ?_
          apply Exists.intro
          refine ⟨by simp only [Act.put, List.setIfInBounds_toArray, List.set_cons_succ, List.set_cons_zero]; rfl, ?_⟩
          refine seq_skip rfl ?_
          apply Exists.intro
          refine ⟨by simp only [Act.put, List.setIfInBounds_toArray, List.set_cons_succ, List.set_cons_zero]; rfl, ?_⟩
          refine seq_skip rfl ?_
          apply Exists.intro
          refine ⟨by simp only [Act.put, List.setIfInBounds_toArray, List.set_cons_succ, List.set_cons_zero]; rfl, ?_⟩
          refine seq_pure rfl ?_
          apply Exists.intro
          refine ⟨?_, ?_⟩
          · go_simp
            rfl
          apply Exists.intro
          refine ⟨by simp only [Act.put, List.setIfInBounds_toArray, List.set_cons_succ, List.set_cons_zero]; rfl, ?_⟩
          refine seq_pure rfl ?_
          apply Exists.intro
          refine ⟨?_, ?_⟩
          · go_simp
            rfl
          apply Exists.intro
          refine ⟨by simp only [Act.put, List.setIfInBounds_toArray, List.set_cons_succ, List.set_cons_zero]; rfl, ?_⟩
          refine seq_skip rfl ?_
          apply Exists.intro
          refine ⟨by simp only [Act.put, List.setIfInBounds_toArray, List.set_cons_succ, List.set_cons_zero]; rfl, ?_⟩
          refine seq_skip rfl ?_
          apply Exists.intro
          refine ⟨by simp only [Act.put, List.setIfInBounds_toArray, List.set_cons_succ, List.set_cons_zero]; rfl, ?_⟩
          refine seq_skip rfl ?_
          apply Exists.intro
          refine ⟨by simp only [Act.put, List.setIfInBounds_toArray, List.set_cons_succ, List.set_cons_zero]; rfl, ?_⟩
          refine seq_skip rfl ?_
          apply Exists.intro
          refine ⟨by simp only [Act.put, List.setIfInBounds_toArray, List.set_cons_succ, List.set_cons_zero]; rfl, ?_⟩
          refine seq_pure rfl ?_
          apply Exists.intro
          refine ⟨?_, ?_⟩
          · go_simp
            rfl
          apply Exists.intro
          refine ⟨by simp only [Act.put, List.setIfInBounds_toArray, List.set_cons_succ, List.set_cons_zero]; rfl, ?_⟩
          refine seq_pure rfl ?_
          apply Exists.intro
          refine ⟨?_, ?_⟩
          · go_simp
            rfl
          apply Exists.intro
          refine ⟨by simp only [Act.put, List.setIfInBounds_toArray, List.set_cons_succ, List.set_cons_zero]; rfl, ?_⟩
          refine seq_nil ?_
          try go_simp
          try (go_wp2_with fail)
          go_meet
          exact ⟨rfl, hD⟩
        | true =>
          cases e4 : Vec.covers g h with
          | false =>
            have e5 := HK1.out e1 e2
            refine seq_val (R := fun x y => Below x.heap.size x y) (p := fun _ => True) rfl (vecV h) ?_ ?_
            · have hl := run_loadVar_arr (P := Try.prog) x (w.heap.size + 1 + 1) 0 24 (arrOf .u64 8 h) _ (row_range hD.c) Try.underlying24 rfl (by rw [arrOf_size]; exact size24)
              rw [exec_load 24 (.tmp 5) rfl (w.heap.size + 1 + 1) 0 rfl hl]
              exact ⟨Below.refl _ _, rfl, trivial⟩
            intro y hb hT
            replace hD := LInv.then_ hb hD
            clear hb hT x
            revert y
            intro x hD
            apply Exists.intro
            refine ⟨by simp only [Act.put, List.setIfInBounds_toArray, List.set_cons_succ, List.set_cons_zero]; rfl, ?_⟩
            refine seq_val (R := fun x y => Below x.heap.size x y) (p := fun _ => True) rfl (vecV f) ?_ ?_
            · have hl := run_loadVar_arr (P := Try.prog) x w.heap.size 0 24 (arrOf .u64 8 f) _ (row_range hD.a) Try.underlying24 rfl (by rw [arrOf_size]; exact size24)
              rw [exec_load 24 (.tmp 3) rfl w.heap.size 0 rfl hl]
              exact ⟨Below.refl _ _, rfl, trivial⟩
            intro y hb hT
            replace hD := LInv.then_ hb hD
            clear hb hT x
            revert y
            intro x hD
            apply Exists.intro
            refine ⟨by simp only [Act.put, List.setIfInBounds_toArray, List.set_cons_succ, List.set_cons_zero]; rfl, ?_⟩
            refine seq_val (R := fun x y => Below x.heap.size x y) (p := fun _ => True) rfl (.bool true) ?_ ?_
            · go_simp
              refine (covers_any h f x).mono ?_
              rintro e y ⟨rfl, hg⟩
              exact ⟨_, rfl, hg, by rw [e1]⟩
            intro y hb hT
            replace hD := LInv.then_ hb hD
            clear hb hT x
            revert y
            intro x hD
            apply Exists.intro
            refine ⟨by simp only [Act.put, List.setIfInBounds_toArray, List.set_cons_succ, List.set_cons_zero]; rfl, ?_⟩
            refine seq_pure rfl ?_
            apply Exists.intro
            refine ⟨?_, ?_⟩
            · go_simp
              rfl
            apply Exists.intro
            refine ⟨by simp only [Act.put, List.setIfInBounds_toArray, List.set_cons_succ, List.set_cons_zero]; rfl, ?_⟩
            refine seq_val (R := fun x y => Below x.heap.size x y) (p := fun _ => True) rfl (vecV h) ?_ ?_
            · have hl := run_loadVar_arr (P := Try.prog) x (w.heap.size + 1 + 1) 0 24 (arrOf .u64 8 h) _ (row_range hD.c) Try.underlying24 rfl (by rw [arrOf_size]; exact size24)
              rw [exec_load 24 (.tmp 5) rfl (w.heap.size + 1 + 1) 0 rfl hl]
              exact ⟨Below.refl _ _, rfl, trivial⟩
            intro y hb hT
            replace hD := LInv.then_ hb hD
            clear hb hT x
            revert y
            intro x hD
            apply Exists.intro
            refine ⟨by simp only [Act.put, List.setIfInBounds_toArray, List.set_cons_succ, List.set_cons_zero]; rfl, ?_⟩
            refine seq_val (R := fun x y => Below x.heap.size x y) (p := fun _ => True) rfl (vecV g) ?_ ?_
            · have hl := run_loadVar_arr (P := Try.prog) x (w.heap.size + 1) 0 24 (arrOf .u64 8 g) _ (row_range hD.b) Try.underlying24 rfl (by rw [arrOf_size]; exact size24)
              rw [exec_load 24 (.tmp 4) rfl (w.heap.size + 1) 0 rfl hl]
              exact ⟨Below.refl _ _, rfl, trivial⟩
            intro y hb hT
            replace hD := LInv.then_ hb hD
            clear hb hT x
            revert y
            intro x hD
            apply Exists.intro
            refine ⟨by simp only [Act.put, List.setIfInBounds_toArray, List.set_cons_succ, List.set_cons_zero]; rfl, ?_⟩
            refine seq_val (R := fun x y => Below x.heap.size x y) (p := fun _ => True) rfl (.bool true) ?_ ?_
            · go_simp
              refine (covers_any h g x).mono ?_
              rintro e y ⟨rfl, hg⟩
              exact ⟨_, rfl, hg, by rw [e2]⟩
            intro y hb hT
            replace hD := LInv.then_ hb hD
            clear hb hT x
            revert y
            intro x hD
            apply Exists.intro
            refine ⟨by simp only [Act.put, List.setIfInBounds_toArray, List.set_cons_succ, List.set_cons_zero]; rfl, ?_⟩
            refine seq_pure rfl ?_
            apply Exists.intro
            refine ⟨?_, ?_⟩
            · go_simp
              rfl
            apply Exists.intro
            refine ⟨by simp only [Act.put, List.setIfInBounds_toArray, List.set_cons_succ, List.set_cons_zero]; rfl, ?_⟩
            refine seq_pure rfl ?_
            apply Exists.intro
            refine ⟨?_, ?_⟩
            · go_simp
              rfl
            apply Exists.intro
            refine ⟨by simp only [Act.put, List.setIfInBounds_toArray, List.set_cons_succ, List.set_cons_zero]; rfl, ?_⟩
            refine seq_val (R := fun x y => Below x.heap.size x y) (p := fun _ => True) rfl (vecV h) ?_ ?_
            · have hl := run_loadVar_arr (P := Try.prog) x (w.heap.size + 1 + 1) 0 24 (arrOf .u64 8 h) _ (row_range hD.c) Try.underlying24 rfl (by rw [arrOf_size]; exact size24)
              rw [exec_load 24 (.tmp 5) rfl (w.heap.size + 1 + 1) 0 rfl hl]
              exact ⟨Below.refl _ _, rfl, trivial⟩
            intro y hb hT
            replace hD := LInv.then_ hb hD
            clear hb hT x
            revert y
            intro x hD
            apply Exists.intro
            refine ⟨by simp only [Act.put, List.setIfInBounds_toArray, List.set_cons_succ, List.set_cons_zero]; rfl, ?_⟩
            refine seq_val (R := fun x y => Below x.heap.size x y) (p := fun _ => True) rfl (vecV J) ?_ ?_
            · have hl := run_loadVar_arr (P := Try.prog) x b7 0 24 (arrOf .u64 8 J) _ (row_range hD.j) Try.underlying24 rfl (by rw [arrOf_size]; exact size24)
              rw [exec_load 24 (.tmp 7) rfl b7 0 rfl hl]
              exact ⟨Below.refl _ _, rfl, trivial⟩
            intro y hb hT
            replace hD := LInv.then_ hb hD
            clear hb hT x
            revert y
            intro x hD
            apply Exists.intro
            refine ⟨by simp only [Act.put, List.setIfInBounds_toArray, List.set_cons_succ, List.set_cons_zero]; rfl, ?_⟩
            refine seq_val (R := fun x y => Below x.heap.size x y) (p := fun _ => True) rfl (.bool true) ?_ ?_
            · go_simp
              refine (covers_any h J x).mono ?_
              rintro e y ⟨rfl, hg⟩
              exact ⟨_, rfl, hg, by rw [e5]⟩
            intro y hb hT
            replace hD := LInv.then_ hb hD
            clear hb hT x
            revert y
            intro x hD
            apply Exists.intro
            refine ⟨by simp only [Act.put, List.setIfInBounds_toArray, List.set_cons_succ, List.set_cons_zero]; rfl, ?_⟩
            refine seq_pure rfl ?_
            apply Exists.intro
            refine ⟨?_, ?_⟩
            · go_simp
              rfl
            apply Exists.intro
            refine ⟨by simp only [Act.put, List.setIfInBounds_toArray, List.set_cons_succ, List.set_cons_zero]; rfl, ?_⟩
            refine seq_pure rfl ?_
            apply Exists.intro
            refine ⟨?_, ?_⟩
            · go_simp
              rfl
            apply Exists.intro
            refine ⟨by simp only [Act.put, List.setIfInBounds_toArray, List.set_cons_succ, List.set_cons_zero]; rfl, ?_⟩
            refine seq_pure rfl ?_
            apply Exists.intro
            refine ⟨?_, ?_⟩
            · go_simp
              rfl
            apply Exists.intro
            refine ⟨by simp only [Act.put, List.setIfInBounds_toArray, List.set_cons_succ, List.set_cons_zero]; rfl, ?_⟩
            refine seq_val (R := fun x y => Below x.heap.size x y) (p := fun _ => True) rfl (vecV f) ?_ ?_
            · have hl := run_loadVar_arr (P := Try.prog) x w.heap.size 0 24 (arrOf .u64 8 f) _ (row_range hD.a) Try.underlying24 rfl (by rw [arrOf_size]; exact size24)
              rw [exec_load 24 (.tmp 3) rfl w.heap.size 0 rfl hl]
              exact ⟨Below.refl _ _, rfl, trivial⟩
            intro y hb hT
            replace hD := LInv.then_ hb hD
            clear hb hT x
            revert y
            intro x hD
            apply Exists.intro
            refine ⟨by simp only [Act.put, List.setIfInBounds_toArray, List.set_cons_succ, List.set_cons_zero]; rfl, ?_⟩
            refine seq_val (R := fun x y => Below x.heap.size x y) (p := fun _ => True) rfl (vecV h) ?_ ?_
            · have hl := run_loadVar_arr (P := Try.prog) x (w.heap.size + 1 + 1) 0 24 (arrOf .u64 8 h) _ (row_range hD.c) Try.underlying24 rfl (by rw [arrOf_size]; exact size24)
              rw [exec_load 24 (.tmp 5) rfl (w.heap.size + 1 + 1) 0 rfl hl]
              exact ⟨Below.refl _ _, rfl, trivial⟩
            intro y hb hT
            replace hD := LInv.then_ hb hD
            clear hb hT x
            revert y
            intro x hD
            apply Exists.intro
            refine ⟨by simp only [Act.put, List.setIfInBounds_toArray, List.set_cons_succ, List.set_cons_zero]; rfl, ?_⟩
            refine seq_val (R := fun x y => Below x.heap.size x y) (p := fun _ => True) rfl (.bool true) ?_ ?_
            · go_simp
              refine (covers_any f h x).mono ?_
              rintro e y ⟨rfl, hg⟩
              exact ⟨_, rfl, hg, by rw [e3]⟩
            intro y hb hT
            replace hD := LInv.then_ hb hD
            clear hb hT x
            revert y
            intro x hD
            apply Exists.intro
            refine ⟨by simp only [Act.put, List.setIfInBounds_toArray, List.set_cons_succ, List.set_cons_zero]; rfl, ?_⟩
            refine seq_pure rfl ?_
            apply Exists.intro
            refine ⟨?_, ?_⟩
            · go_simp
              rfl
            apply Exists.intro
            refine ⟨by simp only [Act.put, List.setIfInBounds_toArray, List.set_cons_succ, List.set_cons_zero]; rfl, ?_⟩
            refine seq_val (R := fun x y => Below x.heap.size x y) (p := fun _ => True) rfl (vecV g) ?_ ?_
            · have hl := run_loadVar_arr (P := Try.prog) x (w.heap.size + 1) 0 24 (arrOf .u64 8 g) _ (row_range hD.b) Try.underlying24 rfl (by rw [arrOf_size]; exact size24)
              rw [exec_load 24 (.tmp 4) rfl (w.heap.size + 1) 0 rfl hl]
              exact ⟨Below.refl _ _, rfl, trivial⟩
            intro y hb hT
            replace hD := LInv.then_ hb hD
            clear hb hT x
            revert y
            intro x hD
            apply Exists.intro
            refine ⟨by simp only [Act.put, List.setIfInBounds_toArray, List.set_cons_succ, List.set_cons_zero]; rfl, ?_⟩
            refine seq_val (R := fun x y => Below x.heap.size x y) (p := fun _ => True) rfl (vecV h) ?_ ?_
            · have hl := run_loadVar_arr (P := Try.prog) x (w.heap.size + 1 + 1) 0 24 (arrOf .u64 8 h) _ (row_range hD.c) Try.underlying24 rfl (by rw [arrOf_size]; exact size24)
              rw [exec_load 24 (.tmp 5) rfl (w.heap.size + 1 + 1) 0 rfl hl]
              exact ⟨Below.refl _ _, rfl, trivial⟩
            intro y hb hT
            replace hD := LInv.then_ hb hD
            clear hb hT x
            revert y
            intro x hD
            apply Exists.intro
            refine ⟨by simp only [Act.put, List.setIfInBounds_toArray, List.set_cons_succ, List.set_cons_zero]; rfl, ?_⟩
            refine seq_val (R := fun x y => Below x.heap.size x y) (p := fun _ => True) rfl (.bool false) ?_ ?_
            · go_simp
              refine (covers_any g h x).mono ?_
              rintro e y ⟨rfl, hg⟩
              exact ⟨_, rfl, hg, by rw [e4]⟩
            intro y hb hT
            replace hD := LInv.then_ hb hD
            clear hb hT x
            revert y
            intro x hD
            apply Exists.intro
            refine ⟨by simp only [Act.put, List.setIfInBounds_toArray, List.set_cons_succ, List.set_cons_zero]; rfl, ?_⟩
            refine seq_pure rfl ?_
            apply Exists.intro
            refine ⟨?_, ?_⟩
            · go_simp
              rfl
            apply Exists.intro
            refine ⟨by simp only [Act.put, List.setIfInBounds_toArray, List.set_cons_succ, List.set_cons_zero]; rfl, ?_⟩
            refine seq_pure rfl ?_
            apply Exists.intro
            refine ⟨?_, ?_⟩
            · go_simp
              rfl
            apply Exists.intro
            refine ⟨by simp only [Act.put, List.setIfInBounds_toArray, List.set_cons_succ, List.set_cons_zero]; rfl, ?_⟩
            refine seq_skip rfl ?_
            apply Exists.intro
            refine ⟨by simp only [Act.put, List.setIfInBounds_toArray, List.set_cons_succ, List.set_cons_zero]; rfl, ?_⟩
            refine seq_skip rfl ?_
            apply Exists.intro
            refine ⟨by simp only [Act.put, List.setIfInBounds_toArray, List.set_cons_succ, List.set_cons_zero]; rfl, ?_⟩
            refine seq_skip rfl ?_
            apply Exists.intro
            refine ⟨by simp only [Act.put, List.setIfInBounds_toArray, List.set_cons_succ, List.set_cons_zero]; rfl, ?_⟩
            refine seq_skip rfl ?_
            apply Exists.intro
            refine ⟨by simp only [Act.put, List.setIfInBounds_toArray, List.set_cons_succ, List.set_cons_zero]; rfl, ?_⟩
            refine seq_pure rfl ?_
            apply Exists.intro
            refine ⟨?_, ?_⟩
            · go_simp
              rfl
            apply Exists.intro
            refine ⟨by simp only [Act.put, List.setIfInBounds_toArray, List.set_cons_succ, List.set_cons_zero]; rfl, ?_⟩
            refine seq_pure rfl ?_
            apply Exists.intro
            refine ⟨?_, ?_⟩
            · go_simp
              rfl
            apply Exists.intro
            refine ⟨by simp only [Act.put, List.setIfInBounds_toArray, List.set_cons_succ, List.set_cons_zero]; rfl, ?_⟩
            refine seq_nil ?_
            try go_simp
            try (go_wp2_with fail)
            go_meet
            exact ⟨rfl, hD⟩
          | true =>
            have e5 := HK1.out e1 e2
            have e6 := HK2.out e3 e4
            refine seq_val (R := fun x y => Below x.heap.size x y) (p := fun _ => True) rfl (vecV h) ?_ ?_
            · have hl := run_loadVar_arr (P := Try.prog) x (w.heap.size + 1 + 1) 0 24 (arrOf .u64 8 h) _ (row_range hD.c) Try.underlying24 rfl (by rw [arrOf_size]; exact size24)
              rw [exec_load 24 (.tmp 5) rfl (w.heap.size + 1 + 1) 0 rfl hl]
              exact ⟨Below.refl _ _, rfl, trivial⟩
            intro y hb hT
            replace hD := LInv.then_ hb hD
            clear hb hT x
            revert y
            intro x hD
            apply Exists.intro
            refine ⟨by simp only [Act.put, List.setIfInBounds_toArray, List.set_cons_succ, List.set_cons_zero]; rfl, ?_⟩
            refine seq_val (R := fun x y => Below x.heap.size x y) (p := fun _ => True) rfl (vecV f) ?_ ?_
            · have hl := run_loadVar_arr (P := Try.prog) x w.heap.size 0 24 (arrOf .u64 8 f) _ (row_range hD.a) Try.underlying24 rfl (by rw [arrOf_size]; exact size24)
              rw [exec_load 24 (.tmp 3) rfl w.heap.size 0 rfl hl]
              exact ⟨Below.refl _ _, rfl, trivial⟩
            intro y hb hT
            replace hD := LInv.then_ hb hD
            clear hb hT x
            revert y
            intro x hD
            apply Exists.intro
            refine ⟨by simp only [Act.put, List.setIfInBounds_toArray, List.set_cons_succ, List.set_cons_zero]; rfl, ?_⟩
            refine seq_val (R := fun x y => Below x.heap.size x y) (p := fun _ => True) rfl (.bool true) ?_ ?_
            · go_simp
              refine (covers_any h f x).mono ?_
              rintro e y ⟨rfl, hg⟩
              exact ⟨_, rfl, hg, by rw [e1]⟩
            intro y hb hT
            replace hD := LInv.then_ hb hD
            clear hb hT x
            revert y
            intro x hD
            apply Exists.intro
            refine ⟨by simp only [Act.put, List.setIfInBounds_toArray, List.set_cons_succ, List.set_cons_zero]; rfl, ?_⟩
            refine seq_pure rfl ?_
            apply Exists.intro
            refine ⟨?_, ?_⟩
            · go_simp
              rfl
            apply Exists.intro
            refine ⟨by simp only [Act.put, List.setIfInBounds_toArray, List.set_cons_succ, List.set_cons_zero]; rfl, ?_⟩
            refine seq_val (R := fun x y => Below x.heap.size x y) (p := fun _ => True) rfl (vecV h) ?_ ?_
            · have hl := run_loadVar_arr (P := Try.prog) x (w.heap.size + 1 + 1) 0 24 (arrOf .u64 8 h) _ (row_range hD.c) Try.underlying24 rfl (by rw [arrOf_size]; exact size24)
              rw [exec_load 24 (.tmp 5) rfl (w.heap.size + 1 + 1) 0 rfl hl]
              exact ⟨Below.refl _ _, rfl, trivial⟩
            intro y hb hT
            replace hD := LInv.then_ hb hD
            clear hb hT x
            revert y
            intro x hD
            apply Exists.intro
            refine ⟨by simp only [Act.put, List.setIfInBounds_toArray, List.set_cons_succ, List.set_cons_zero]; rfl, ?_⟩
            refine seq_val (R := fun x y => Below x.heap.size x y) (p := fun _ => True) rfl (vecV g) ?_ ?_
            · have hl := run_loadVar_arr (P := Try.prog) x (w.heap.size + 1) 0 24 (arrOf .u64 8 g) _ (row_range hD.b) Try.underlying24 rfl (by rw [arrOf_size]; exact size24)
              rw [exec_load 24 (.tmp 4) rfl (w.heap.size + 1) 0 rfl hl]
              exact ⟨Below.refl _ _, rfl, trivial⟩
            intro y hb hT
            replace hD := LInv.then_ hb hD
            clear hb hT x
            revert y
            intro x hD
            apply Exists.intro
            refine ⟨by simp only [Act.put, List.setIfInBounds_toArray, List.set_cons_succ, List.set_cons_zero]; rfl, ?_⟩
            refine seq_val (R := fun x y => Below x.heap.size x y) (p := fun _ => True) rfl (.bool true) ?_ ?_
            · go_simp
              refine (covers_any h g x).mono ?_
              rintro e y ⟨rfl, hg⟩
              exact ⟨_, rfl, hg, by rw [e2]⟩
            intro y hb hT
            replace hD := LInv.then_ hb hD
            clear hb hT x
            revert y
            intro x hD
            apply Exists.intro
            refine ⟨by simp only [Act.put, List.setIfInBounds_toArray, List.set_cons_succ, List.set_cons_zero]; rfl, ?_⟩
            refine seq_pure rfl ?_
            apply Exists.intro
            refine ⟨?_, ?_⟩
            · go_simp
              rfl
            apply Exists.intro
            refine ⟨by simp only [Act.put, List.setIfInBounds_toArray, List.set_cons_succ, List.set_cons_zero]; rfl, ?_⟩
            refine seq_pure rfl ?_
            apply Exists.intro
            refine ⟨?_, ?_⟩
            · go_simp
              rfl
            apply Exists.intro
            refine ⟨by simp only [Act.put, List.setIfInBounds_toArray, List.set_cons_succ, List.set_cons_zero]; rfl, ?_⟩
            refine seq_val (R := fun x y => Below x.heap.size x y) (p := fun _ => True) rfl (vecV h) ?_ ?_
            · have hl := run_loadVar_arr (P := Try.prog) x (w.heap.size + 1 + 1) 0 24 (arrOf .u64 8 h) _ (row_range hD.c) Try.underlying24 rfl (by rw [arrOf_size]; exact size24)
              rw [exec_load 24 (.tmp 5) rfl (w.heap.size + 1 + 1) 0 rfl hl]
              exact ⟨Below.refl _ _, rfl, trivial⟩
            intro y hb hT
            replace hD := LInv.then_ hb hD
            clear hb hT x
            revert y
            intro x hD
            apply Exists.intro
            refine ⟨by simp only [Act.put, List.setIfInBounds_toArray, List.set_cons_succ, List.set_cons_zero]; rfl, ?_⟩
            refine seq_val (R := fun x y => Below x.heap.size x y) (p := fun _ => True) rfl (vecV J) ?_ ?_
            · have hl := run_loadVar_arr (P := Try.prog) x b7 0 24 (arrOf .u64 8 J) _ (row_range hD.j) Try.underlying24 rfl (by rw [arrOf_size]; exact size24)
              rw [exec_load 24 (.tmp 7) rfl b7 0 rfl hl]
              exact ⟨Below.refl _ _, rfl, trivial⟩
            intro y hb hT
            replace hD := LInv.then_ hb hD
            clear hb hT x
            revert y
            intro x hD
            apply Exists.intro
            refine ⟨by simp only [Act.put, List.setIfInBounds_toArray, List.set_cons_succ, List.set_cons_zero]; rfl, ?_⟩
            refine seq_val (R := fun x y => Below x.heap.size x y) (p := fun _ => True) rfl (.bool true) ?_ ?_
            · go_simp
              refine (covers_any h J x).mono ?_
              rintro e y ⟨rfl, hg⟩
              exact ⟨_, rfl, hg, by rw [e5]⟩
            intro y hb hT
            replace hD := LInv.then_ hb hD
            clear hb hT x
            revert y
            intro x hD
            apply Exists.intro
            refine ⟨by simp only [Act.put, List.setIfInBounds_toArray, List.set_cons_succ, List.set_cons_zero]; rfl, ?_⟩
            refine seq_pure rfl ?_
            apply Exists.intro
            refine ⟨?_, ?_⟩
            · go_simp
              rfl
            apply Exists.intro
            refine ⟨by simp only [Act.put, List.setIfInBounds_toArray, List.set_cons_succ, List.set_cons_zero]; rfl, ?_⟩
            refine seq_pure rfl ?_
            apply Exists.intro
            refine ⟨?_, ?_⟩
            · go_simp
              rfl
            apply Exists.intro
            refine ⟨by simp only [Act.put, List.setIfInBounds_toArray, List.set_cons_succ, List.set_cons_zero]; rfl, ?_⟩
            refine seq_pure rfl ?_
            apply Exists.intro
            refine ⟨?_, ?_⟩
            · go_simp
              rfl
            apply Exists.intro
            refine ⟨by simp only [Act.put, List.setIfInBounds_toArray, List.set_cons_succ, List.set_cons_zero]; rfl, ?_⟩
            refine seq_val (R := fun x y => Below x.heap.size x y) (p := fun _ => True) rfl (vecV f) ?_ ?_
            · have hl := run_loadVar_arr (P := Try.prog) x w.heap.size 0 24 (arrOf .u64 8 f) _ (row_range hD.a) Try.underlying24 rfl (by rw [arrOf_size]; exact size24)
              rw [exec_load 24 (.tmp 3) rfl w.heap.size 0 rfl hl]
              exact ⟨Below.refl _ _, rfl, trivial⟩
            intro y hb hT
            replace hD := LInv.then_ hb hD
            clear hb hT x
            revert y
            intro x hD
            apply Exists.intro
            refine ⟨by simp only [Act.put, List.setIfInBounds_toArray, List.set_cons_succ, List.set_cons_zero]; rfl, ?_⟩
            refine seq_val (R := fun x y => Below x.heap.size x y) (p := fun _ => True) rfl (vecV h) ?_ ?_
            · have hl := run_loadVar_arr (P := Try.prog) x (w.heap.size + 1 + 1) 0 24 (arrOf .u64 8 h) _ (row_range hD.c) Try.underlying24 rfl (by rw [arrOf_size]; exact size24)
              rw [exec_load 24 (.tmp 5) rfl (w.heap.size + 1 + 1) 0 rfl hl]
              exact ⟨Below.refl _ _, rfl, trivial⟩
            intro y hb hT
            replace hD := LInv.then_ hb hD
            clear hb hT x
            revert y
            intro x hD
            apply Exists.intro
            refine ⟨by simp only [Act.put, List.setIfInBounds_toArray, List.set_cons_succ, List.set_cons_zero]; rfl, ?_⟩
            refine seq_val (R := fun x y => Below x.heap.size x y) (p := fun _ => True) rfl (.bool true) ?_ ?_
            · go_simp
              refine (covers_any f h x).mono ?_
              rintro e y ⟨rfl, hg⟩
              exact ⟨_, rfl, hg, by rw [e3]⟩
            intro y hb hT
            replace hD := LInv.then_ hb hD
            clear hb hT x
            revert y
            intro x hD
            apply Exists.intro
            refine ⟨by simp only [Act.put, List.setIfInBounds_toArray, List.set_cons_succ, List.set_cons_zero]; rfl, ?_⟩
            refine seq_pure rfl ?_
            apply Exists.intro
            refine ⟨?_, ?_⟩
            · go_simp
              rfl
            apply Exists.intro
            refine ⟨by simp only [Act.put, List.setIfInBounds_toArray, List.set_cons_succ, List.set_cons_zero]; rfl, ?_⟩
            refine seq_val (R := fun x y => Below x.heap.size x y) (p := fun _ => True) rfl (vecV g) ?_ ?_
            · have hl := run_loadVar_arr (P := Try.prog) x (w.heap.size + 1) 0 24 (arrOf .u64 8 g) _ (row_range hD.b) Try.underlying24 rfl (by rw [arrOf_size]; exact size24)
              rw [exec_load 24 (.tmp 4) rfl (w.heap.size + 1) 0 rfl hl]
              exact ⟨Below.refl _ _, rfl, trivial⟩
            intro y hb hT
            replace hD := LInv.then_ hb hD
            clear hb hT x
            revert y
            intro x hD
            apply Exists.intro
            refine ⟨by simp only [Act.put, List.setIfInBounds_toArray, List.set_cons_succ, List.set_cons_zero]; rfl, ?_⟩
            refine seq_val (R := fun x y => Below x.heap.size x y) (p := fun _ => True) rfl (vecV h) ?_ ?_
            · have hl := run_loadVar_arr (P := Try.prog) x (w.heap.size + 1 + 1) 0 24 (arrOf .u64 8 h) _ (row_range hD.c) Try.underlying24 rfl (by rw [arrOf_size]; exact size24)
              rw [exec_load 24 (.tmp 5) rfl (w.heap.size + 1 + 1) 0 rfl hl]
              exact ⟨Below.refl _ _, rfl, trivial⟩
            intro y hb hT
            replace hD := LInv.then_ hb hD
            clear hb hT x
            revert y
            intro x hD
            apply Exists.intro
            refine ⟨by simp only [Act.put, List.setIfInBounds_toArray, List.set_cons_succ, List.set_cons_zero]; rfl, ?_⟩
            refine seq_val (R := fun x y => Below x.heap.size x y) (p := fun _ => True) rfl (.bool true) ?_ ?_
            · go_simp
              refine (covers_any g h x).mono ?_
              rintro e y ⟨rfl, hg⟩
              exact ⟨_, rfl, hg, by rw [e4]⟩
            intro y hb hT
            replace hD := LInv.then_ hb hD
            clear hb hT x
            revert y
            intro x hD
            apply Exists.intro
            refine ⟨by simp only [Act.put, List.setIfInBounds_toArray, List.set_cons_succ, List.set_cons_zero]; rfl, ?_⟩
            refine seq_pure rfl ?_
            apply Exists.intro
            refine ⟨?_, ?_⟩
            · go_simp
              rfl
            apply Exists.intro
            refine ⟨by simp only [Act.put, List.setIfInBounds_toArray, List.set_cons_succ, List.set_cons_zero]; rfl, ?_⟩
            refine seq_pure rfl ?_
            apply Exists.intro
            refine ⟨?_, ?_⟩
            · go_simp
              rfl
            apply Exists.intro
            refine ⟨by simp only [Act.put, List.setIfInBounds_toArray, List.set_cons_succ, List.set_cons_zero]; rfl, ?_⟩
            refine seq_val (R := fun x y => Below x.heap.size x y) (p := fun _ => True) rfl (vecV M) ?_ ?_
            · have hl := run_loadVar_arr (P := Try.prog) x b8 0 24 (arrOf .u64 8 M) _ (row_range hD.m) Try.underlying24 rfl (by rw [arrOf_size]; exact size24)
              rw [exec_load 24 (.tmp 8) rfl b8 0 rfl hl]
              exact ⟨Below.refl _ _, rfl, trivial⟩
            intro y hb hT
            replace hD := LInv.then_ hb hD
            clear hb hT x
            revert y
            intro x hD
            apply Exists.intro
            refine ⟨by simp only [Act.put, List.setIfInBounds_toArray, List.set_cons_succ, List.set_cons_zero]; rfl, ?_⟩
            refine seq_val (R := fun x y => Below x.heap.size x y) (p := fun _ => True) rfl (vecV h) ?_ ?_
            · have hl := run_loadVar_arr (P := Try.prog) x (w.heap.size + 1 + 1) 0 24 (arrOf .u64 8 h) _ (row_range hD.c) Try.underlying24 rfl (by rw [arrOf_size]; exact size24)
              rw [exec_load 24 (.tmp 5) rfl (w.heap.size + 1 + 1) 0 rfl hl]
              exact ⟨Below.refl _ _, rfl, trivial⟩
            intro y hb hT
            replace hD := LInv.then_ hb hD
            clear hb hT x
            revert y
            intro x hD
            apply Exists.intro
            refine ⟨by simp only [Act.put, List.setIfInBounds_toArray, List.set_cons_succ, List.set_cons_zero]; rfl, ?_⟩
            refine seq_val (R := fun x y => Below x.heap.size x y) (p := fun _ => True) rfl (.bool true) ?_ ?_
            · go_simp
              refine (covers_any M h x).mono ?_
              rintro e y ⟨rfl, hg⟩
              exact ⟨_, rfl, hg, by rw [e6]⟩
            intro y hb hT
            replace hD := LInv.then_ hb hD
            clear hb hT x
            revert y
            intro x hD
            apply Exists.intro
            refine ⟨by simp only [Act.put, List.setIfInBounds_toArray, List.set_cons_succ, List.set_cons_zero]; rfl, ?_⟩
            refine seq_pure rfl ?_
            apply Exists.intro
            refine ⟨?_, ?_⟩
            · go_simp
              rfl
            apply Exists.intro
            refine ⟨by simp only [Act.put, List.setIfInBounds_toArray, List.set_cons_succ, List.set_cons_zero]; rfl, ?_⟩
            refine seq_pure rfl ?_
            apply Exists.intro
            refine ⟨?_, ?_⟩
            · go_simp
              rfl
            apply Exists.intro
            refine ⟨by simp only [Act.put, List.setIfInBounds_toArray, List.set_cons_succ, List.set_cons_zero]; rfl, ?_⟩
            refine seq_pure rfl ?_
            apply Exists.intro
            refine ⟨?_, ?_⟩
            · go_simp
              rfl
            apply Exists.intro
            refine ⟨by simp only [Act.put, List.setIfInBounds_toArray, List.set_cons_succ, List.set_cons_zero]; rfl, ?_⟩
            refine seq_nil ?_
            try go_simp
            try (go_wp2_with fail)
            go_meet
            exact ⟨rfl, hD⟩
  case rest =>
    obtain ⟨rfl, HI6⟩ := hcut
    clear HI5
    go_upto_region 6 with fail
    refine M2.wp_region_kinds (fun _ x y => Below x.heap.size x y) (fun _ x => LInv w f g h b7 b8 J M x) (fun x => LInv w f g h b7 b8 J M x)
      [(0, .val (.bool true) fun _ => True), (2, .val (vecV J) fun _ => True), (3, .val (vecV h) fun _ => True), (4, .mem (PV [J, h])), (5, .val (vecV T) fun _ => True), (6, .val (vecV f) fun _ => True), (7, .val (vecV g) fun _ => True), (8, .val (vecV h) fun _ => True), (9, .mem (PV [g, h])), (10, .val (vecV (fun i => max (g i) (h i))) fun _ => True), (11, .mem (PV [f, (fun i => max (g i) (h i))])), (12, .val (vecV T) fun _ => True), (16, .val (vecV f) fun _ => True), (17, .val (vecV M) fun _ => True), (18, .mem (PV [f, M])), (19, .val (vecV f) fun _ => True), (20, .val (vecV f) fun _ => True), (24, .val (vecV f) fun _ => True), (25, .val (vecV J) fun _ => True), (26, .val (vecV f) fun _ => True), (27, .val (vecV f) fun _ => True)] (by kernel_rfl) (by kernel_rfl) (fun _ _ _ hb h => LInv.then_ hb h) (fun _ _ _ _ _ hb h => LInv.then_ hb h) ?_ HI6.out.drew (fun _ => HI6.out.drew) ?_
    · intro z hz
      simp only [List.mem_cons, List.mem_nil_iff, or_false] at hz
      rcases hz with rfl | rfl | rfl | rfl | rfl | rfl | rfl | rfl | rfl | rfl | rfl | rfl | rfl | rfl | rfl | rfl | rfl | rfl | rfl | rfl | rfl <;> first
        | exact fun _ _ _ _ _ _ => trivial
        | exact fun j v x y _ hr => PV.up hr
    refine M2.mono_val rfl rfl (fun x hD hF => ?_) ?_
    · go_simp
      refine (alive_any x).mono ?_
      rintro e y ⟨rfl, hg⟩
      exact ⟨_, rfl, hg, rfl⟩
    apply Exists.intro
    refine ⟨by simp only [Act.put, List.setIfInBounds_toArray, List.set_cons_succ, List.set_cons_zero]; rfl, ?_⟩
    iterate 1
      refine M2.mono_pure rfl rfl ?_
      apply Exists.intro
      refine ⟨fun x => ?_, ?_⟩
      · go_simp
        rfl
      apply Exists.intro
      refine ⟨by simp only [Act.put, List.setIfInBounds_toArray, List.set_cons_succ, List.set_cons_zero]; rfl, ?_⟩
    refine M2.mono_val rfl rfl (fun x hD hF => ?_) ?_
    · have hl := run_loadVar_arr (P := Try.prog) x b7 0 24 (arrOf .u64 8 J) _ (row_range hD.j) Try.underlying24 rfl (by rw [arrOf_size]; exact size24)
      rw [exec_load 24 (.tmp 7) rfl b7 0 rfl hl]
      exact ⟨Below.refl _ _, rfl, trivial⟩
    apply Exists.intro
    refine ⟨by simp only [Act.put, List.setIfInBounds_toArray, List.set_cons_succ, List.set_cons_zero]; rfl, ?_⟩
    refine M2.mono_val rfl rfl (fun x hD hF => ?_) ?_
    · have hl := run_loadVar_arr (P := Try.prog) x (w.heap.size + 1 + 1) 0 24 (arrOf .u64 8 h) _ (row_range hD.c) Try.underlying24 rfl (by rw [arrOf_size]; exact size24)
      rw [exec_load 24 (.tmp 5) rfl (w.heap.size + 1 + 1) 0 rfl hl]
      exact ⟨Below.refl _ _, rfl, trivial⟩
    apply Exists.intro
    refine ⟨by simp only [Act.put, List.setIfInBounds_toArray, List.set_cons_succ, List.set_cons_zero]; rfl, ?_⟩
    refine M2.mono_mem rfl rfl (fun x hD hF => ?_) (fun v87 => ?_)
    · rw [exec_build 49 2 _ rfl #[(0, .agg (arrOf .u64 8 J)), (1, .agg (arrOf .u64 8 h))] (by simp only [List.map_toArray, List.map_cons, List.map_nil]; rfl) (run_two J h x)]
      exact ⟨below1 _ _, pv_two J h x⟩
    apply Exists.intro
    refine ⟨by simp only [Act.put, List.setIfInBounds_toArray, List.set_cons_succ, List.set_cons_zero]; rfl, ?_⟩
    refine M2.mono_val rfl rfl (fun x hD hF => ?_) ?_
    · have h1 := (hF 4 _ 87 rfl rfl (by decide)).1
      go_simp
      refine (join_pv h1).mono ?_
      rintro e y ⟨rfl, hg⟩
      exact ⟨_, rfl, hg, by rw [← HT.out]⟩
    apply Exists.intro
    refine ⟨by simp only [Act.put, List.setIfInBounds_toArray, List.set_cons_succ, List.set_cons_zero]; rfl, ?_⟩
    refine M2.mono_val rfl rfl (fun x hD hF => ?_) ?_
    · have hl := run_loadVar_arr (P := Try.prog) x w.heap.size 0 24 (arrOf .u64 8 f) _ (row_range hD.a) Try.underlying24 rfl (by rw [arrOf_size]; exact size24)
      rw [exec_load 24 (.tmp 3) rfl w.heap.size 0 rfl hl]
      exact ⟨Below.refl _ _, rfl, trivial⟩
    apply Exists.intro
    refine ⟨by simp only [Act.put, List.setIfInBounds_toArray, List.set_cons_succ, List.set_cons_zero]; rfl, ?_⟩
    refine M2.mono_val rfl rfl (fun x hD hF => ?_) ?_
    · have hl := run_loadVar_arr (P := Try.prog) x (w.heap.size + 1) 0 24 (arrOf .u64 8 g) _ (row_range hD.b) Try.underlying24 rfl (by rw [arrOf_size]; exact size24)
      rw [exec_load 24 (.tmp 4) rfl (w.heap.size + 1) 0 rfl hl]
      exact ⟨Below.refl _ _, rfl, trivial⟩
    apply Exists.intro
    refine ⟨by simp only [Act.put, List.setIfInBounds_toArray, List.set_cons_succ, List.set_cons_zero]; rfl, ?_⟩
    refine M2.mono_val rfl rfl (fun x hD hF => ?_) ?_
    · have hl := run_loadVar_arr (P := Try.prog) x (w.heap.size + 1 + 1) 0 24 (arrOf .u64 8 h) _ (row_range hD.c) Try.underlying24 rfl (by rw [arrOf_size]; exact size24)
      rw [exec_load 24 (.tmp 5) rfl (w.heap.size + 1 + 1) 0 rfl hl]
      exact ⟨Below.refl _ _, rfl, trivial⟩
    apply Exists.intro
    refine ⟨by simp only [Act.put, List.setIfInBounds_toArray, List.set_cons_succ, List.set_cons_zero]; rfl, ?_⟩
    refine M2.mono_mem rfl rfl (fun x hD hF => ?_) (fun v92 => ?_)
    · rw [exec_build 49 2 _ rfl #[(0, .agg (arrOf .u64 8 g)), (1, .agg (arrOf .u64 8 h))] (by simp only [List.map_toArray, List.map_cons, List.map_nil]; rfl) (run_two g h x)]
      exact ⟨below1 _ _, pv_two g h x⟩
    apply Exists.intro
    refine ⟨by simp only [Act.put, List.setIfInBounds_toArray, List.set_cons_succ, List.set_cons_zero]; rfl, ?_⟩
    refine M2.mono_val rfl rfl (fun x hD hF => ?_) ?_
    · have h1 := (hF 9 _ 92 rfl rfl (by decide)).1
      go_simp
      refine (join_pv h1).mono ?_
      rintro e y ⟨rfl, hg⟩
      exact ⟨_, rfl, hg, rfl⟩
    apply Exists.intro
    refine ⟨by simp only [Act.put, List.setIfInBounds_toArray, List.set_cons_succ, List.set_cons_zero]; rfl, ?_⟩
    refine M2.mono_mem rfl rfl (fun x hD hF => ?_) (fun v94 => ?_)
    · rw [exec_build 49 2 _ rfl #[(0, .agg (arrOf .u64 8 f)), (1, .agg (arrOf .u64 8 (fun i => max (g i) (h i))))] (by simp only [List.map_toArray, List.map_cons, List.map_nil]; rfl) (run_two f (fun i => max (g i) (h i)) x)]
      exact ⟨below1 _ _, pv_two f (fun i => max (g i) (h i)) x⟩
    apply Exists.intro
    refine ⟨by simp only [Act.put, List.setIfInBounds_toArray, List.set_cons_succ, List.set_cons_zero]; rfl, ?_⟩
    refine M2.mono_val rfl rfl (fun x hD hF => ?_) ?_
    · have h1 := (hF 11 _ 94 rfl rfl (by decide)).1
      go_simp
      refine (join_pv h1).mono ?_
      rintro e y ⟨rfl, hg⟩
      exact ⟨_, rfl, hg, by rw [← HT2.out]⟩
    apply Exists.intro
    refine ⟨by simp only [Act.put, List.setIfInBounds_toArray, List.set_cons_succ, List.set_cons_zero]; rfl, ?_⟩
    refine M2.mono_pure rfl rfl ?_
    apply Exists.intro
    refine ⟨fun x => ?_, ?_⟩
    · have h1 := eq_vec T T x
      rw [same_refl] at h1
      go_simp
      rfl
    apply Exists.intro
    refine ⟨by simp only [Act.put, List.setIfInBounds_toArray, List.set_cons_succ, List.set_cons_zero]; rfl, ?_⟩
    iterate 2
      refine M2.mono_pure rfl rfl ?_
      apply Exists.intro
      refine ⟨fun x => ?_, ?_⟩
      · go_simp
        rfl
      apply Exists.intro
      refine ⟨by simp only [Act.put, List.setIfInBounds_toArray, List.set_cons_succ, List.set_cons_zero]; rfl, ?_⟩
    refine M2.mono_val rfl rfl (fun x hD hF => ?_) ?_
    · have hl := run_loadVar_arr (P := Try.prog) x w.heap.size 0 24 (arrOf .u64 8 f) _ (row_range hD.a) Try.underlying24 rfl (by rw [arrOf_size]; exact size24)
      rw [exec_load 24 (.tmp 3) rfl w.heap.size 0 rfl hl]
      exact ⟨Below.refl _ _, rfl, trivial⟩
    apply Exists.intro
    refine ⟨by simp only [Act.put, List.setIfInBounds_toArray, List.set_cons_succ, List.set_cons_zero]; rfl, ?_⟩
    refine M2.mono_val rfl rfl (fun x hD hF => ?_) ?_
    · have hl := run_loadVar_arr (P := Try.prog) x b8 0 24 (arrOf .u64 8 M) _ (row_range hD.m) Try.underlying24 rfl (by rw [arrOf_size]; exact size24)
      rw [exec_load 24 (.tmp 8) rfl b8 0 rfl hl]
      exact ⟨Below.refl _ _, rfl, trivial⟩
    apply Exists.intro
    refine ⟨by simp only [Act.put, List.setIfInBounds_toArray, List.set_cons_succ, List.set_cons_zero]; rfl, ?_⟩
    refine M2.mono_mem rfl rfl (fun x hD hF => ?_) (fun v101 => ?_)
    · rw [exec_build 49 2 _ rfl #[(0, .agg (arrOf .u64 8 f)), (1, .agg (arrOf .u64 8 M))] (by simp only [List.map_toArray, List.map_cons, List.map_nil]; rfl) (run_two f M x)]
      exact ⟨below1 _ _, pv_two f M x⟩
    apply Exists.intro
    refine ⟨by simp only [Act.put, List.setIfInBounds_toArray, List.set_cons_succ, List.set_cons_zero]; rfl, ?_⟩
    refine M2.mono_val rfl rfl (fun x hD hF => ?_) ?_
    · have h1 := (hF 18 _ 101 rfl rfl (by decide)).1
      go_simp
      refine (join_pv h1).mono ?_
      rintro e y ⟨rfl, hg⟩
      exact ⟨_, rfl, hg, by rw [← HA1.out]⟩
    apply Exists.intro
    refine ⟨by simp only [Act.put, List.setIfInBounds_toArray, List.set_cons_succ, List.set_cons_zero]; rfl, ?_⟩
    refine M2.mono_val rfl rfl (fun x hD hF => ?_) ?_
    · have hl := run_loadVar_arr (P := Try.prog) x w.heap.size 0 24 (arrOf .u64 8 f) _ (row_range hD.a) Try.underlying24 rfl (by rw [arrOf_size]; exact size24)
      rw [exec_load 24 (.tmp 3) rfl w.heap.size 0 rfl hl]
      exact ⟨Below.refl _ _, rfl, trivial⟩
    apply Exists.intro
    refine ⟨by simp only [Act.put, List.setIfInBounds_toArray, List.set_cons_succ, List.set_cons_zero]; rfl, ?_⟩
    refine M2.mono_pure rfl rfl ?_
    apply Exists.intro
    refine ⟨fun x => ?_, ?_⟩
    · have h1 := eq_vec f f x
      rw [same_refl] at h1
      go_simp
      rfl
    apply Exists.intro
    refine ⟨by simp only [Act.put, List.setIfInBounds_toArray, List.set_cons_succ, List.set_cons_zero]; rfl, ?_⟩
    iterate 2
      refine M2.mono_pure rfl rfl ?_
      apply Exists.intro
      refine ⟨fun x => ?_, ?_⟩
      · go_simp
        rfl
      apply Exists.intro
      refine ⟨by simp only [Act.put, List.setIfInBounds_toArray, List.set_cons_succ, List.set_cons_zero]; rfl, ?_⟩
    refine M2.mono_val rfl rfl (fun x hD hF => ?_) ?_
    · have hl := run_loadVar_arr (P := Try.prog) x w.heap.size 0 24 (arrOf .u64 8 f) _ (row_range hD.a) Try.underlying24 rfl (by rw [arrOf_size]; exact size24)
      rw [exec_load 24 (.tmp 3) rfl w.heap.size 0 rfl hl]
      exact ⟨Below.refl _ _, rfl, trivial⟩
    apply Exists.intro
    refine ⟨by simp only [Act.put, List.setIfInBounds_toArray, List.set_cons_succ, List.set_cons_zero]; rfl, ?_⟩
    refine M2.mono_val rfl rfl (fun x hD hF => ?_) ?_
    · have hl := run_loadVar_arr (P := Try.prog) x b7 0 24 (arrOf .u64 8 J) _ (row_range hD.j) Try.underlying24 rfl (by rw [arrOf_size]; exact size24)
      rw [exec_load 24 (.tmp 7) rfl b7 0 rfl hl]
      exact ⟨Below.refl _ _, rfl, trivial⟩
    apply Exists.intro
    refine ⟨by simp only [Act.put, List.setIfInBounds_toArray, List.set_cons_succ, List.set_cons_zero]; rfl, ?_⟩
    refine M2.mono_val rfl rfl (fun x hD hF => ?_) ?_
    · go_simp
      refine (meet_any f J x).mono ?_
      rintro e y ⟨rfl, hg⟩
      exact ⟨_, rfl, hg, by rw [← HA2.out]⟩
    apply Exists.intro
    refine ⟨by simp only [Act.put, List.setIfInBounds_toArray, List.set_cons_succ, List.set_cons_zero]; rfl, ?_⟩
    refine M2.mono_val rfl rfl (fun x hD hF => ?_) ?_
    · have hl := run_loadVar_arr (P := Try.prog) x w.heap.size 0 24 (arrOf .u64 8 f) _ (row_range hD.a) Try.underlying24 rfl (by rw [arrOf_size]; exact size24)
      rw [exec_load 24 (.tmp 3) rfl w.heap.size 0 rfl hl]
      exact ⟨Below.refl _ _, rfl, trivial⟩
    apply Exists.intro
    refine ⟨by simp only [Act.put, List.setIfInBounds_toArray, List.set_cons_succ, List.set_cons_zero]; rfl, ?_⟩
    refine M2.mono_pure rfl rfl ?_
    apply Exists.intro
    refine ⟨fun x => ?_, ?_⟩
    · have h1 := eq_vec f f x
      rw [same_refl] at h1
      go_simp
      rfl
    apply Exists.intro
    refine ⟨by simp only [Act.put, List.setIfInBounds_toArray, List.set_cons_succ, List.set_cons_zero]; rfl, ?_⟩
    iterate 2
      refine M2.mono_pure rfl rfl ?_
      apply Exists.intro
      refine ⟨fun x => ?_, ?_⟩
      · go_simp
        rfl
      apply Exists.intro
      refine ⟨by simp only [Act.put, List.setIfInBounds_toArray, List.set_cons_succ, List.set_cons_zero]; rfl, ?_⟩
    refine M2.mono_nil ?_
    intro w7 hD hF
    have HB := Lib.hid hD.below
    clear hD hF
    go_simp
    go_wp2_with fail
    go_ret
    exact ⟨rfl, HB.out⟩
end Go.Proofs.Ytlakienebicahaa
