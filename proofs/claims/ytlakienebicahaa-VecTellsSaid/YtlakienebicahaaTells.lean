/- The law VecTells of layer 3, walked. -/
import Derived.Test.YtlakienebicahaaA7
import Derived.Test.YtlakienebicahaaA8
import Derived.Test.YtlakienebicahaaFront
import Derived.Deep.Cut
namespace Go.Proofs.Ytlakienebicahaa
open Go.RowKit

theorem same_refl (f : Nat → Nat) : Vec.same f f = true := (Vec.same_iff f f).2 fun _ _ => rfl
/-- A new block of a zero dot. -/
def PD (w : World) (v : Value) (x : World) : Prop := ∃ b, v = .pointer (some ⟨b, 0, none⟩) ∧ w.heap.size + 4 ≤ b ∧ DotAt x b 27 0 0
theorem PD.up {w : World} {v : Value} {x y : World} (h : Below x.heap.size x y) : PD w v x → PD w v y := fun ⟨b, e, hb, hr⟩ => ⟨b, e, hb, hr.below h hr.lt⟩
theorem PD.new {w x : World} (h : w.heap.size + 1 + 1 + 1 < x.heap.size) : PD w (.pointer (some ⟨x.heap.size, 0, none⟩)) (x.alloc (.cells #[.int .i64 0, .int .u64 0] 27)) := ⟨_, rfl, by omega, DotAt.new x 27 0 0⟩
/-- Two boxed vectors, two boxed dots. -/
structure BInv (w : World) (f g : Nat → Nat) (cn : Int) (ck : Nat) (dn : Int) (dk : Nat) (x : World) : Prop where
  a : x.rowIs w.heap.size 24 8 (fun i => .int .u64 ((f i : Nat) : Int))
  b : x.rowIs (w.heap.size + 1) 24 8 (fun i => .int .u64 ((g i : Nat) : Int))
  c : DotAt x (w.heap.size + 1 + 1) 26 cn ck
  d : DotAt x (w.heap.size + 1 + 1 + 1) 26 dn dk
  below : Below w.heap.size w x
theorem BInv.start (w : World) (f g : Nat → Nat) (cn : Int) (ck : Nat) (dn : Int) (dk : Nat) : BInv w f g cn ck dn dk ((((w.alloc (.cells (arrOf .u64 8 f) 24)).alloc (.cells (arrOf .u64 8 g) 24)).alloc (.cells #[.int .i64 cn, .int .u64 (ck : Int)] 26)).alloc (.cells #[.int .i64 dn, .int .u64 (dk : Int)] 26)) := by
  have k := VInv.start w f g
  refine ⟨(k.a.alloc _).alloc _, (k.b.alloc _).alloc _, ?_, ?_, (k.below.alloc k.below.size _).alloc (by have := k.below.size; simp at this ⊢; omega) _⟩
  · have h := (DotAt.new ((w.alloc (.cells (arrOf .u64 8 f) 24)).alloc (.cells (arrOf .u64 8 g) 24)) 26 cn ck).alloc (.cells #[.int .i64 dn, .int .u64 (dk : Int)] 26)
    simpa using h
  · have h := DotAt.new (((w.alloc (.cells (arrOf .u64 8 f) 24)).alloc (.cells (arrOf .u64 8 g) 24)).alloc (.cells #[.int .i64 cn, .int .u64 (ck : Int)] 26)) 26 dn dk
    simpa using h
theorem BInv.then_ {w x y : World} {f g : Nat → Nat} {cn : Int} {ck : Nat} {dn : Int} {dk : Nat} (hb : Below x.heap.size x y) (I : BInv w f g cn ck dn dk x) : BInv w f g cn ck dn dk y :=
  ⟨row_below I.a hb I.a.lt, row_below I.b hb I.b.lt, I.c.below hb I.c.lt, I.d.below hb I.d.lt, I.below.trans (hb.mono I.below.size)⟩
theorem BInv.drew {w x : World} {f g : Nat → Nat} {cn : Int} {ck : Nat} {dn : Int} {dk : Nat} (I : BInv w f g cn ck dn dk x) : BInv w f g cn ck dn dk x.drew := ⟨I.a, I.b, I.c, I.d, ⟨I.below.os, I.below.tape, I.below.output, I.below.size, I.below.block⟩⟩
/-- .. and the two as the document's. -/
structure CInv (w : World) (f g : Nat → Nat) (cn : Int) (ck : Nat) (dn : Int) (dk : Nat) (b11 b12 : Nat) (x : World) : Prop where
  all : BInv w f g cn ck dn dk x
  xx : DotAt x b11 27 cn ck
  yy : DotAt x b12 27 dn dk
theorem CInv.then_ {w x y : World} {f g : Nat → Nat} {cn : Int} {ck : Nat} {dn : Int} {dk : Nat} {b11 b12 : Nat} (hb : Below x.heap.size x y) (I : CInv w f g cn ck dn dk b11 b12 x) : CInv w f g cn ck dn dk b11 b12 y :=
  ⟨I.all.then_ hb, I.xx.below hb I.xx.lt, I.yy.below hb I.yy.lt⟩
/-- .. and the next dots. -/
structure EInv (w : World) (f g : Nat → Nat) (cn : Int) (ck : Nat) (dn : Int) (dk : Nat) (b11 b12 b13 b15 : Nat) (pn : Int) (pk : Nat) (x : World) : Prop where
  a : x.rowIs w.heap.size 24 8 (fun i => .int .u64 ((f i : Nat) : Int))
  b : x.rowIs (w.heap.size + 1) 24 8 (fun i => .int .u64 ((g i : Nat) : Int))
  c : DotAt x (w.heap.size + 1 + 1) 26 cn ck
  d : DotAt x (w.heap.size + 1 + 1 + 1) 26 dn dk
  xx : DotAt x b11 27 cn ck
  yy : DotAt x b12 27 dn dk
  n : DotAt x b13 26 pn pk
  m : DotAt x b15 27 pn pk
  below : Below w.heap.size w x
theorem EInv.then_ {w x y : World} {f g : Nat → Nat} {cn : Int} {ck : Nat} {dn : Int} {dk : Nat} {b11 b12 b13 b15 : Nat} {pn : Int} {pk : Nat} (hb : Below x.heap.size x y) (I : EInv w f g cn ck dn dk b11 b12 b13 b15 pn pk x) : EInv w f g cn ck dn dk b11 b12 b13 b15 pn pk y :=
  ⟨row_below I.a hb I.a.lt, row_below I.b hb I.b.lt, I.c.below hb I.c.lt, I.d.below hb I.d.lt, I.xx.below hb I.xx.lt, I.yy.below hb I.yy.lt, I.n.below hb I.n.lt, I.m.below hb I.m.lt, I.below.trans (hb.mono I.below.size)⟩
theorem EInv.drew {w x : World} {f g : Nat → Nat} {cn : Int} {ck : Nat} {dn : Int} {dk : Nat} {b11 b12 b13 b15 : Nat} {pn : Int} {pk : Nat} (I : EInv w f g cn ck dn dk b11 b12 b13 b15 pn pk x) : EInv w f g cn ck dn dk b11 b12 b13 b15 pn pk x.drew :=
  ⟨I.a, I.b, I.c, I.d, I.xx, I.yy, I.n, I.m, ⟨I.below.os, I.below.tape, I.below.output, I.below.size, I.below.block⟩⟩

set_option maxRecDepth 100000 in
set_option maxHeartbeats 8000000 in
theorem law_tells (f g : Nat → Nat) (cn : Int) (ck : Nat) (dn : Int) (dk : Nat) (n : Int) (w : World) (hf : Vec.get f n < 18446744073709551616) :
    Calls Try.prog 3 #[vecV f, vecV g, dotV cn ck, dotV dn dk, .int .i64 n] w fun e w' => e = .returned (.bool true) ∧ Below w.heap.size w w' := by
  have HI0 := Lib.hid (BInv.start w f g cn ck dn dk)
  have HF := Lib.hid hf
  clear hf
  have s24 : ∀ {f : Nat → Nat}, Hid ((Try.prog.info? 24).map (·.size) = some (arrOf .u64 8 f).size) := fun {f} => by rw [arrOf_size]; exact size24
  go_enter Try.func3, Try.ntmps3
  go_wp2_with fail
  generalize (((w.alloc (.cells (arrOf .u64 8 f) 24)).alloc (.cells (arrOf .u64 8 g) 24)).alloc (.cells #[.int .i64 cn, .int .u64 (ck : Int)] 26)).alloc (.cells #[.int .i64 dn, .int .u64 (dk : Int)] 26) = w1 at *
  refine M3.wp_region_front 6 [(4, 11), (5, 12)] (fun _ x y => Below x.heap.size x y) (fun _ x => BInv w f g cn ck dn dk x) (fun x => BInv w f g cn ck dn dk x)
    [(0, .val (dotV cn ck) fun _ => True), (1, .val (dotV cn ck) fun _ => True), (2, .val (dotV dn dk) fun _ => True), (3, .val (dotV dn dk) fun _ => True), (4, .mem (PD w)), (5, .mem (PD w))] (by kernel_rfl) (by kernel_rfl) (by kernel_rfl) (by kernel_rfl) (of_decide_eq_true (by kernel_rfl)) ?_ ?_ (fun _ _ _ hb => hb.size) (fun _ _ _ hb h => BInv.then_ hb h) (fun _ _ _ _ _ hb h => BInv.then_ hb h) ?_ HI0.out.drew (fun _ => HI0.out.drew) ?_
  · intro p hp o ho ev x
    simp only [List.mem_cons, List.mem_nil_iff, or_false] at hp
    rcases hp with rfl | rfl
    · have ho' := Option.some.inj ho
      subst ho'
      refine ⟨x.alloc (.cells #[.int .i64 0, .int .u64 0] 27), ?_, by simp⟩
      go_simp
    · have ho' := Option.some.inj ho
      subst ho'
      refine ⟨x.alloc (.cells #[.int .i64 0, .int .u64 0] 27), ?_, by simp⟩
      go_simp
  · intro p hp
    simp only [List.mem_cons, List.mem_nil_iff, or_false] at hp
    rcases hp with rfl | rfl <;> (simp)
  · intro z hz
    simp only [List.mem_cons, List.mem_nil_iff, or_false] at hz
    rcases hz with rfl | rfl | rfl | rfl | rfl | rfl <;> first
      | exact fun _ _ _ _ _ _ => trivial
      | exact fun j v x y _ hr => PD.up hr
  refine M2.mono_val rfl rfl (fun x hD hF => ?_) ?_
  · have hl := run_loadVar_arr (P := Try.prog) x (w.heap.size + 1 + 1) 0 26 #[.int .i64 cn, .int .u64 (ck : Int)] _ hD.c.range Try.underlying26 rfl size26
    rw [exec_load 26 (.tmp 7) rfl (w.heap.size + 1 + 1) 0 rfl hl]
    exact ⟨Below.refl _ _, rfl, trivial⟩
  apply Exists.intro
  refine ⟨by simp only [Act.put, List.setIfInBounds_toArray, List.set_cons_succ, List.set_cons_zero]; rfl, ?_⟩
  refine M2.mono_val rfl rfl (fun x hD hF => ?_) ?_
  · go_simp
    refine (as_any cn ck x).mono ?_
    rintro e y ⟨rfl, hg⟩
    exact ⟨_, rfl, hg, rfl⟩
  apply Exists.intro
  refine ⟨by simp only [Act.put, List.setIfInBounds_toArray, List.set_cons_succ, List.set_cons_zero]; rfl, ?_⟩
  refine M2.mono_val rfl rfl (fun x hD hF => ?_) ?_
  · have hl := run_loadVar_arr (P := Try.prog) x (w.heap.size + 1 + 1 + 1) 0 26 #[.int .i64 dn, .int .u64 (dk : Int)] _ hD.d.range Try.underlying26 rfl size26
    rw [exec_load 26 (.tmp 8) rfl (w.heap.size + 1 + 1 + 1) 0 rfl hl]
    exact ⟨Below.refl _ _, rfl, trivial⟩
  apply Exists.intro
  refine ⟨by simp only [Act.put, List.setIfInBounds_toArray, List.set_cons_succ, List.set_cons_zero]; rfl, ?_⟩
  refine M2.mono_val rfl rfl (fun x hD hF => ?_) ?_
  · go_simp
    refine (as_any dn dk x).mono ?_
    rintro e y ⟨rfl, hg⟩
    exact ⟨_, rfl, hg, rfl⟩
  apply Exists.intro
  refine ⟨by simp only [Act.put, List.setIfInBounds_toArray, List.set_cons_succ, List.set_cons_zero]; rfl, ?_⟩
  refine M2.mono_mem rfl rfl (fun x hD hF => ?_) (fun v11 => ?_)
  · go_simp
    exact ⟨below1 _ _, PD.new hD.d.lt⟩
  apply Exists.intro
  refine ⟨by simp only [Act.put, List.setIfInBounds_toArray, List.set_cons_succ, List.set_cons_zero]; rfl, ?_⟩
  refine M2.mono_mem rfl rfl (fun x hD hF => ?_) (fun v12 => ?_)
  · go_simp
    exact ⟨below1 _ _, PD.new hD.d.lt⟩
  apply Exists.intro
  refine ⟨by simp only [Act.put, List.setIfInBounds_toArray, List.set_cons_succ, List.set_cons_zero]; rfl, ?_⟩
  refine M2.mono_nil ?_
  intro w3 hD hF hdist
  have h7 : PD w v11 w3 := (hF 4).1
  have h8 : PD w v12 w3 := (hF 5).1
  have hne : v11 ≠ v12 := hdist (4, 11) (by simp) (5, 12) (by simp) (by decide)
  obtain ⟨b11, rfl, hb7, z7⟩ := h7
  obtain ⟨b12, rfl, hb8, z8⟩ := h8
  have hbb : b11 ≠ b12 := fun e => hne (by rw [e])
  have HL : Hid (CInv w f g cn ck dn dk b11 b12 ((w3.setRow b11 #[.int .i64 cn, .int .u64 (ck : Int)]).setRow b12 #[.int .i64 dn, .int .u64 (dk : Int)])) := by
    have keep : ∀ k, k ≠ b11 → k ≠ b12 → ((w3.setRow b11 #[.int .i64 cn, .int .u64 (ck : Int)]).setRow b12 #[.int .i64 dn, .int .u64 (dk : Int)]).heap[k]? = w3.heap[k]? := fun k h1 h2 =>
      (setRow_other _ b12 k _ (by omega)).trans (setRow_other _ b11 k _ (by omega))
    have e7 := setRow_heap w3 b11 _ #[.int .i64 cn, .int .u64 (ck : Int)] 27 (0, 0) z7
    have e8 := setRow_heap (w3.setRow b11 #[.int .i64 cn, .int .u64 (ck : Int)]) b12 _ #[.int .i64 dn, .int .u64 (dk : Int)] 27 (0, 0) ((setRow_other _ b11 b12 _ (by omega)).trans z8)
    exact ⟨⟨hD.a.of_block (keep _ (by omega) (by omega)), hD.b.of_block (keep _ (by omega) (by omega)), hD.c.keep (keep _ (by omega) (by omega)), hD.d.keep (keep _ (by omega) (by omega)), below_setRow' (below_setRow' hD.below (by omega) _) (by omega) _⟩,
      (setRow_other _ b12 b11 _ (by omega)).trans e7, e8⟩
  refine wpList_store_row rfl 27 _ _ rfl b11 #[.int .i64 cn, .int .u64 (ck : Int)] rfl rfl 27 _ z7 size27 rfl (dot_one _ _) ?_
  refine wpList_store_row rfl 27 _ _ rfl b12 #[.int .i64 dn, .int .u64 (dk : Int)] rfl rfl 27 _ ((setRow_other _ b11 b12 _ (by omega)).trans z8) size27 rfl (dot_one _ _) ?_
  clear hD hF hdist hne z7 z8 hbb hb7 hb8
  generalize (w3.setRow b11 #[.int .i64 cn, .int .u64 (ck : Int)]).setRow b12 #[.int .i64 dn, .int .u64 (dk : Int)] = w4 at *
  obtain ⟨⟨pn, pk, pe⟩, hP⟩ : ∃ p, Vec.next f n = p := ⟨_, rfl⟩
  have HP := Lib.hid hP
  clear hP
  have hr4 := Lib.hid (row24 HL.out.all.a)
  go_simp
  go_wp2_with (refine wpList_load_row rfl 24 _ rfl w.heap.size rfl 24 _ (0, 0) _ hr4.out Try.underlying24 rfl s24.out ?_)
  refine (next_any f n w4 HF.out).mono ?_
  rintro e w5 ⟨rfl, hb⟩
  rw [HP.out]
  have HL5 := Lib.hid ((HL.out.then_ hb).then_ (below1 w5 (.cells #[.int .i64 pn, .int .u64 (pk : Int)] 26)))
  have hn5 : Hid (DotAt (w5.alloc (.cells #[.int .i64 pn, .int .u64 (pk : Int)] 26)) w5.heap.size 26 pn pk) := DotAt.new w5 26 pn pk
  have hr5 := Lib.hid (row24 HL5.out.all.a)
  clear hb HL hr4
  go_wp2_with (refine wpList_load_row rfl 24 _ rfl w.heap.size rfl 24 _ (0, 0) _ hr5.out Try.underlying24 rfl s24.out ?_)
  refine (nextR_any f n _ HF.out).mono ?_
  rintro e w6 ⟨rfl, hb⟩
  rw [HP.out]
  have HL6 := Lib.hid ((HL5.out.then_ hb).then_ (below1 w6 (.cells #[.int .i64 pn, .int .u64 (pk : Int)] 27)))
  have hn6 := Lib.hid ((hn5.out.below hb hn5.out.lt).below (below1 w6 (.cells #[.int .i64 pn, .int .u64 (pk : Int)] 27)) (hn5.out.below hb hn5.out.lt).lt)
  have HI : Hid (EInv w f g cn ck dn dk b11 b12 w5.heap.size w6.heap.size pn pk (w6.alloc (.cells #[.int .i64 pn, .int .u64 (pk : Int)] 27))) :=
    ⟨HL6.out.all.a, HL6.out.all.b, HL6.out.all.c, HL6.out.all.d, HL6.out.xx, HL6.out.yy, hn6.out, DotAt.new w6 27 pn pk, HL6.out.all.below⟩
  clear hb HL5 hn5 hr5 HL6 hn6
  go_upto_region 4 with fail
  generalize w6.alloc (.cells #[.int .i64 pn, .int .u64 (pk : Int)] 27) = w7 at *
  generalize w6.heap.size = b15 at *
  generalize w5.heap.size = b13 at *
  obtain ⟨R, hR⟩ : ∃ R, R = Vec.right dn dk := ⟨_, rfl⟩
  obtain ⟨Q, hQ⟩ : ∃ Q, Q = Vec.less cn ck dn dk := ⟨_, rfl⟩
  obtain ⟨G, hG⟩ : ∃ G, G = Vec.get f n := ⟨_, rfl⟩
  obtain ⟨V, hV⟩ : ∃ V, V = Vec.with_ f dn dk := ⟨_, rfl⟩
  obtain ⟨J, hJ⟩ : ∃ J : Nat → Nat, J = fun i => max (f i) (g i) := ⟨_, rfl⟩
  obtain ⟨M, hM⟩ : ∃ M : Nat → Nat, M = fun i => min (f i) (g i) := ⟨_, rfl⟩
  obtain ⟨U, hU⟩ : ∃ U, U = Vec.covers f g := ⟨_, rfl⟩
  obtain ⟨K, hK⟩ : ∃ K, K = Vec.has f dn dk := ⟨_, rfl⟩
  obtain ⟨O, hO⟩ : ∃ O, O = Vec.order f g := ⟨_, rfl⟩
  have HR := Lib.hid hR
  have HQ := Lib.hid hQ
  have HG := Lib.hid hG
  have HV := Lib.hid hV
  have HJ := Lib.hid hJ
  have HM := Lib.hid hM
  have HU := Lib.hid hU
  have HK := Lib.hid hK
  have HO := Lib.hid hO
  clear hR hQ hG hV hJ hM hU hK hO
  refine M2.wp_region_kinds (fun _ x y => Below x.heap.size x y) (fun _ x => EInv w f g cn ck dn dk b11 b12 b13 b15 pn pk x) (fun x => EInv w f g cn ck dn dk b11 b12 b13 b15 pn pk x)
    [(0, .val (dotV dn dk) fun _ => True), (1, .val (.bool R) fun _ => True), (2, .val (dotV dn dk) fun _ => True), (3, .val (.bool R) fun _ => True), (6, .val (dotV cn ck) fun _ => True), (7, .val (dotV dn dk) fun _ => True), (8, .val (.bool Q) fun _ => True), (9, .val (dotV cn ck) fun _ => True), (10, .val (dotV dn dk) fun _ => True), (11, .val (.bool Q) fun _ => True), (15, .val (vecV f) fun _ => True), (17, .val (.int .u64 (G : Int)) fun _ => True), (18, .val (vecV f) fun _ => True), (20, .val (.int .u64 (G : Int)) fun _ => True), (24, .val (vecV f) fun _ => True), (25, .val (dotV dn dk) fun _ => True), (26, .val (vecV V) fun _ => True), (27, .val (vecV f) fun _ => True), (28, .val (dotV dn dk) fun _ => True), (29, .val (vecV V) fun _ => True), (33, .val (dotV pn pk) fun _ => True), (34, .val (dotV pn pk) fun _ => True), (35, .val (dotV pn pk) fun _ => True)] (by kernel_rfl) (by kernel_rfl) (fun _ _ _ hb h => EInv.then_ hb h) (fun _ _ _ _ _ hb h => EInv.then_ hb h) ?_ HI.out.drew (fun _ => HI.out.drew) ?_
  · intro z hz
    simp only [List.mem_cons, List.mem_nil_iff, or_false] at hz
    rcases hz with rfl | rfl | rfl | rfl | rfl | rfl | rfl | rfl | rfl | rfl | rfl | rfl | rfl | rfl | rfl | rfl | rfl | rfl | rfl | rfl | rfl | rfl | rfl <;> first
      | exact fun _ _ _ _ _ _ => trivial
      | exact fun j v x y _ hr => PV.up hr
  refine M2.mono_val rfl rfl (fun x hD hF => ?_) ?_
  · have hl := run_loadVar_arr (P := Try.prog) x (w.heap.size + 1 + 1 + 1) 0 26 #[.int .i64 dn, .int .u64 (dk : Int)] _ hD.d.range Try.underlying26 rfl size26
    rw [exec_load 26 (.tmp 8) rfl (w.heap.size + 1 + 1 + 1) 0 rfl hl]
    exact ⟨Below.refl _ _, rfl, trivial⟩
  apply Exists.intro
  refine ⟨by simp only [Act.put, List.setIfInBounds_toArray, List.set_cons_succ, List.set_cons_zero]; rfl, ?_⟩
  refine M2.mono_val rfl rfl (fun x hD hF => ?_) ?_
  · go_simp
    refine (right_any dn dk x).mono ?_
    rintro e y ⟨rfl, hg⟩
    exact ⟨_, rfl, hg, by rw [← HR.out]⟩
  apply Exists.intro
  refine ⟨by simp only [Act.put, List.setIfInBounds_toArray, List.set_cons_succ, List.set_cons_zero]; rfl, ?_⟩
  refine M2.mono_val rfl rfl (fun x hD hF => ?_) ?_
  · have hl := run_loadVar_arr (P := Try.prog) x b12 0 27 #[.int .i64 dn, .int .u64 (dk : Int)] _ hD.yy.range Try.underlying27 rfl size27
    rw [exec_load 27 (.tmp 12) rfl b12 0 rfl hl]
    exact ⟨Below.refl _ _, rfl, trivial⟩
  apply Exists.intro
  refine ⟨by simp only [Act.put, List.setIfInBounds_toArray, List.set_cons_succ, List.set_cons_zero]; rfl, ?_⟩
  refine M2.mono_val rfl rfl (fun x hD hF => ?_) ?_
  · go_simp
    refine (rightR_any dn dk x).mono ?_
    rintro e y ⟨rfl, hg⟩
    exact ⟨_, rfl, hg, by rw [← HR.out]⟩
  apply Exists.intro
  refine ⟨by simp only [Act.put, List.setIfInBounds_toArray, List.set_cons_succ, List.set_cons_zero]; rfl, ?_⟩
  iterate 2
    refine M2.mono_pure rfl rfl ?_
    apply Exists.intro
    refine ⟨fun x => ?_, ?_⟩
    · go_simp
      rfl
    apply Exists.intro
    refine ⟨by simp only [Act.put, List.setIfInBounds_toArray, List.set_cons_succ, List.set_cons_zero]; rfl, ?_⟩
  refine M2.mono_val rfl rfl (fun x hD hF => ?_) ?_
  · have hl := run_loadVar_arr (P := Try.prog) x (w.heap.size + 1 + 1) 0 26 #[.int .i64 cn, .int .u64 (ck : Int)] _ hD.c.range Try.underlying26 rfl size26
    rw [exec_load 26 (.tmp 7) rfl (w.heap.size + 1 + 1) 0 rfl hl]
    exact ⟨Below.refl _ _, rfl, trivial⟩
  apply Exists.intro
  refine ⟨by simp only [Act.put, List.setIfInBounds_toArray, List.set_cons_succ, List.set_cons_zero]; rfl, ?_⟩
  refine M2.mono_val rfl rfl (fun x hD hF => ?_) ?_
  · have hl := run_loadVar_arr (P := Try.prog) x (w.heap.size + 1 + 1 + 1) 0 26 #[.int .i64 dn, .int .u64 (dk : Int)] _ hD.d.range Try.underlying26 rfl size26
    rw [exec_load 26 (.tmp 8) rfl (w.heap.size + 1 + 1 + 1) 0 rfl hl]
    exact ⟨Below.refl _ _, rfl, trivial⟩
  apply Exists.intro
  refine ⟨by simp only [Act.put, List.setIfInBounds_toArray, List.set_cons_succ, List.set_cons_zero]; rfl, ?_⟩
  refine M2.mono_val rfl rfl (fun x hD hF => ?_) ?_
  · go_simp
    refine (less_any cn ck dn dk x).mono ?_
    rintro e y ⟨rfl, hg⟩
    exact ⟨_, rfl, hg, by rw [← HQ.out]⟩
  apply Exists.intro
  refine ⟨by simp only [Act.put, List.setIfInBounds_toArray, List.set_cons_succ, List.set_cons_zero]; rfl, ?_⟩
  refine M2.mono_val rfl rfl (fun x hD hF => ?_) ?_
  · have hl := run_loadVar_arr (P := Try.prog) x b11 0 27 #[.int .i64 cn, .int .u64 (ck : Int)] _ hD.xx.range Try.underlying27 rfl size27
    rw [exec_load 27 (.tmp 11) rfl b11 0 rfl hl]
    exact ⟨Below.refl _ _, rfl, trivial⟩
  apply Exists.intro
  refine ⟨by simp only [Act.put, List.setIfInBounds_toArray, List.set_cons_succ, List.set_cons_zero]; rfl, ?_⟩
  refine M2.mono_val rfl rfl (fun x hD hF => ?_) ?_
  · have hl := run_loadVar_arr (P := Try.prog) x b12 0 27 #[.int .i64 dn, .int .u64 (dk : Int)] _ hD.yy.range Try.underlying27 rfl size27
    rw [exec_load 27 (.tmp 12) rfl b12 0 rfl hl]
    exact ⟨Below.refl _ _, rfl, trivial⟩
  apply Exists.intro
  refine ⟨by simp only [Act.put, List.setIfInBounds_toArray, List.set_cons_succ, List.set_cons_zero]; rfl, ?_⟩
  refine M2.mono_val rfl rfl (fun x hD hF => ?_) ?_
  · go_simp
    refine (lessR_any cn ck dn dk x).mono ?_
    rintro e y ⟨rfl, hg⟩
    exact ⟨_, rfl, hg, by rw [← HQ.out]⟩
  apply Exists.intro
  refine ⟨by simp only [Act.put, List.setIfInBounds_toArray, List.set_cons_succ, List.set_cons_zero]; rfl, ?_⟩
  iterate 3
    refine M2.mono_pure rfl rfl ?_
    apply Exists.intro
    refine ⟨fun x => ?_, ?_⟩
    · go_simp
      rfl
    apply Exists.intro
    refine ⟨by simp only [Act.put, List.setIfInBounds_toArray, List.set_cons_succ, List.set_cons_zero]; rfl, ?_⟩
  refine M2.mono_val rfl rfl (fun x hD hF => ?_) ?_
  · have hl := run_loadVar_arr (P := Try.prog) x w.heap.size 0 24 (arrOf .u64 8 f) _ (row_range hD.a) Try.underlying24 rfl (by rw [arrOf_size]; exact size24)
    rw [exec_load 24 (.tmp 5) rfl w.heap.size 0 rfl hl]
    exact ⟨Below.refl _ _, rfl, trivial⟩
  apply Exists.intro
  refine ⟨by simp only [Act.put, List.setIfInBounds_toArray, List.set_cons_succ, List.set_cons_zero]; rfl, ?_⟩
  iterate 1
    refine M2.mono_pure rfl rfl ?_
    apply Exists.intro
    refine ⟨fun x => ?_, ?_⟩
    · go_simp
      rfl
    apply Exists.intro
    refine ⟨by simp only [Act.put, List.setIfInBounds_toArray, List.set_cons_succ, List.set_cons_zero]; rfl, ?_⟩
  refine M2.mono_val rfl rfl (fun x hD hF => ?_) ?_
  · go_simp
    refine (get_any f n x).mono ?_
    rintro e y ⟨rfl, hg⟩
    exact ⟨_, rfl, hg, by rw [← HG.out]⟩
  apply Exists.intro
  refine ⟨by simp only [Act.put, List.setIfInBounds_toArray, List.set_cons_succ, List.set_cons_zero]; rfl, ?_⟩
  refine M2.mono_val rfl rfl (fun x hD hF => ?_) ?_
  · have hl := run_loadVar_arr (P := Try.prog) x w.heap.size 0 24 (arrOf .u64 8 f) _ (row_range hD.a) Try.underlying24 rfl (by rw [arrOf_size]; exact size24)
    rw [exec_load 24 (.tmp 5) rfl w.heap.size 0 rfl hl]
    exact ⟨Below.refl _ _, rfl, trivial⟩
  apply Exists.intro
  refine ⟨by simp only [Act.put, List.setIfInBounds_toArray, List.set_cons_succ, List.set_cons_zero]; rfl, ?_⟩
  iterate 1
    refine M2.mono_pure rfl rfl ?_
    apply Exists.intro
    refine ⟨fun x => ?_, ?_⟩
    · go_simp
      rfl
    apply Exists.intro
    refine ⟨by simp only [Act.put, List.setIfInBounds_toArray, List.set_cons_succ, List.set_cons_zero]; rfl, ?_⟩
  refine M2.mono_val rfl rfl (fun x hD hF => ?_) ?_
  · go_simp
    refine (getR_any f n x).mono ?_
    rintro e y ⟨rfl, hg⟩
    exact ⟨_, rfl, hg, by rw [← HG.out]⟩
  apply Exists.intro
  refine ⟨by simp only [Act.put, List.setIfInBounds_toArray, List.set_cons_succ, List.set_cons_zero]; rfl, ?_⟩
  iterate 3
    refine M2.mono_pure rfl rfl ?_
    apply Exists.intro
    refine ⟨fun x => ?_, ?_⟩
    · go_simp
      rfl
    apply Exists.intro
    refine ⟨by simp only [Act.put, List.setIfInBounds_toArray, List.set_cons_succ, List.set_cons_zero]; rfl, ?_⟩
  refine M2.mono_val rfl rfl (fun x hD hF => ?_) ?_
  · have hl := run_loadVar_arr (P := Try.prog) x w.heap.size 0 24 (arrOf .u64 8 f) _ (row_range hD.a) Try.underlying24 rfl (by rw [arrOf_size]; exact size24)
    rw [exec_load 24 (.tmp 5) rfl w.heap.size 0 rfl hl]
    exact ⟨Below.refl _ _, rfl, trivial⟩
  apply Exists.intro
  refine ⟨by simp only [Act.put, List.setIfInBounds_toArray, List.set_cons_succ, List.set_cons_zero]; rfl, ?_⟩
  refine M2.mono_val rfl rfl (fun x hD hF => ?_) ?_
  · have hl := run_loadVar_arr (P := Try.prog) x (w.heap.size + 1 + 1 + 1) 0 26 #[.int .i64 dn, .int .u64 (dk : Int)] _ hD.d.range Try.underlying26 rfl size26
    rw [exec_load 26 (.tmp 8) rfl (w.heap.size + 1 + 1 + 1) 0 rfl hl]
    exact ⟨Below.refl _ _, rfl, trivial⟩
  apply Exists.intro
  refine ⟨by simp only [Act.put, List.setIfInBounds_toArray, List.set_cons_succ, List.set_cons_zero]; rfl, ?_⟩
  refine M2.mono_val rfl rfl (fun x hD hF => ?_) ?_
  · go_simp
    refine (with_any f dn dk x).mono ?_
    rintro e y ⟨rfl, hg⟩
    exact ⟨_, rfl, hg, by rw [← HV.out]⟩
  apply Exists.intro
  refine ⟨by simp only [Act.put, List.setIfInBounds_toArray, List.set_cons_succ, List.set_cons_zero]; rfl, ?_⟩
  refine M2.mono_val rfl rfl (fun x hD hF => ?_) ?_
  · have hl := run_loadVar_arr (P := Try.prog) x w.heap.size 0 24 (arrOf .u64 8 f) _ (row_range hD.a) Try.underlying24 rfl (by rw [arrOf_size]; exact size24)
    rw [exec_load 24 (.tmp 5) rfl w.heap.size 0 rfl hl]
    exact ⟨Below.refl _ _, rfl, trivial⟩
  apply Exists.intro
  refine ⟨by simp only [Act.put, List.setIfInBounds_toArray, List.set_cons_succ, List.set_cons_zero]; rfl, ?_⟩
  refine M2.mono_val rfl rfl (fun x hD hF => ?_) ?_
  · have hl := run_loadVar_arr (P := Try.prog) x b12 0 27 #[.int .i64 dn, .int .u64 (dk : Int)] _ hD.yy.range Try.underlying27 rfl size27
    rw [exec_load 27 (.tmp 12) rfl b12 0 rfl hl]
    exact ⟨Below.refl _ _, rfl, trivial⟩
  apply Exists.intro
  refine ⟨by simp only [Act.put, List.setIfInBounds_toArray, List.set_cons_succ, List.set_cons_zero]; rfl, ?_⟩
  refine M2.mono_val rfl rfl (fun x hD hF => ?_) ?_
  · go_simp
    refine (withR_any f dn dk x).mono ?_
    rintro e y ⟨rfl, hg⟩
    exact ⟨_, rfl, hg, by rw [← HV.out]⟩
  apply Exists.intro
  refine ⟨by simp only [Act.put, List.setIfInBounds_toArray, List.set_cons_succ, List.set_cons_zero]; rfl, ?_⟩
  refine M2.mono_pure rfl rfl ?_
  apply Exists.intro
  refine ⟨fun x => ?_, ?_⟩
  · have h1 := eq_vec V V x
    rw [same_refl] at h1
    go_simp
    rfl
  apply Exists.intro
  refine ⟨by simp only [Act.put, List.setIfInBounds_toArray, List.set_cons_succ, List.set_cons_zero]; rfl, ?_⟩
  iterate 2
    refine M2.mono_pure rfl rfl ?_
    apply Exists.intro
    refine ⟨fun x => ?_, ?_⟩
    · go_simp
      rfl
    apply Exists.intro
    refine ⟨by simp only [Act.put, List.setIfInBounds_toArray, List.set_cons_succ, List.set_cons_zero]; rfl, ?_⟩
  refine M2.mono_val rfl rfl (fun x hD hF => ?_) ?_
  · have hl := run_loadVar_arr (P := Try.prog) x b13 0 26 #[.int .i64 pn, .int .u64 (pk : Int)] _ hD.n.range Try.underlying26 rfl size26
    rw [exec_load 26 (.tmp 13) rfl b13 0 rfl hl]
    exact ⟨Below.refl _ _, rfl, trivial⟩
  apply Exists.intro
  refine ⟨by simp only [Act.put, List.setIfInBounds_toArray, List.set_cons_succ, List.set_cons_zero]; rfl, ?_⟩
  refine M2.mono_val rfl rfl (fun x hD hF => ?_) ?_
  · go_simp
    refine (as_any pn pk x).mono ?_
    rintro e y ⟨rfl, hg⟩
    exact ⟨_, rfl, hg, rfl⟩
  apply Exists.intro
  refine ⟨by simp only [Act.put, List.setIfInBounds_toArray, List.set_cons_succ, List.set_cons_zero]; rfl, ?_⟩
  refine M2.mono_val rfl rfl (fun x hD hF => ?_) ?_
  · have hl := run_loadVar_arr (P := Try.prog) x b15 0 27 #[.int .i64 pn, .int .u64 (pk : Int)] _ hD.m.range Try.underlying27 rfl size27
    rw [exec_load 27 (.tmp 15) rfl b15 0 rfl hl]
    exact ⟨Below.refl _ _, rfl, trivial⟩
  apply Exists.intro
  refine ⟨by simp only [Act.put, List.setIfInBounds_toArray, List.set_cons_succ, List.set_cons_zero]; rfl, ?_⟩
  iterate 7
    refine M2.mono_pure rfl rfl ?_
    apply Exists.intro
    refine ⟨fun x => ?_, ?_⟩
    · go_simp
      rfl
    apply Exists.intro
    refine ⟨by simp only [Act.put, List.setIfInBounds_toArray, List.set_cons_succ, List.set_cons_zero]; rfl, ?_⟩
  refine M2.mono_nil ?_
  intro x hD hF
  have HI5 := Lib.hid hD
  clear hD hF HI
  go_simp
  go_upto_region 6 with fail
  refine M2.wp_region_kinds (fun _ x y => Below x.heap.size x y) (fun _ x => EInv w f g cn ck dn dk b11 b12 b13 b15 pn pk x) (fun x => EInv w f g cn ck dn dk b11 b12 b13 b15 pn pk x)
    [(0, .val (.bool true) fun _ => True), (2, .val (vecV f) fun _ => True), (3, .val (vecV g) fun _ => True), (4, .mem (PV [f, g])), (5, .val (vecV J) fun _ => True), (6, .val (vecV f) fun _ => True), (7, .val (vecV g) fun _ => True), (8, .val (vecV J) fun _ => True), (12, .val (vecV f) fun _ => True), (13, .val (vecV g) fun _ => True), (14, .val (vecV M) fun _ => True), (15, .val (vecV f) fun _ => True), (16, .val (vecV g) fun _ => True), (17, .val (vecV M) fun _ => True), (21, .val (vecV f) fun _ => True), (22, .val (vecV g) fun _ => True), (23, .val (.bool U) fun _ => True), (24, .val (vecV f) fun _ => True), (25, .val (vecV g) fun _ => True), (26, .val (.bool U) fun _ => True), (30, .val (vecV f) fun _ => True), (31, .val (dotV dn dk) fun _ => True), (32, .val (.bool K) fun _ => True), (33, .val (vecV f) fun _ => True), (34, .val (dotV dn dk) fun _ => True), (35, .val (.bool K) fun _ => True), (39, .val (vecV f) fun _ => True), (40, .val (vecV g) fun _ => True), (41, .val (.int .i64 O) fun _ => True), (42, .val (vecV f) fun _ => True), (43, .val (vecV g) fun _ => True), (44, .val (.int .i64 O) fun _ => True)] (by kernel_rfl) (by kernel_rfl) (fun _ _ _ hb h => EInv.then_ hb h) (fun _ _ _ _ _ hb h => EInv.then_ hb h) ?_ HI5.out.drew (fun _ => HI5.out.drew) ?_
  · intro z hz
    simp only [List.mem_cons, List.mem_nil_iff, or_false] at hz
    rcases hz with rfl | rfl | rfl | rfl | rfl | rfl | rfl | rfl | rfl | rfl | rfl | rfl | rfl | rfl | rfl | rfl | rfl | rfl | rfl | rfl | rfl | rfl | rfl | rfl | rfl | rfl | rfl | rfl | rfl | rfl | rfl | rfl <;> first
      | exact fun _ _ _ _ _ _ => trivial
      | exact fun j v x y _ hr => PV.up hr
  refine M2.mono_val rfl rfl (fun x hD hF => ?_) ?_
  · go_simp
    refine (alive_any x).mono ?_
    rintro e y ⟨rfl, hg⟩
    exact ⟨_, rfl, hg, rfl⟩
  apply Exists.intro
  refine ⟨by simp only [Act.put, List.setIfInBounds_toArray, List.set_cons_succ, List.set_cons_zero]; rfl, ?_⟩
  iterate 1
    refine M2.mono_pure rfl rfl ?_
    apply Exists.intro
    refine ⟨fun x => ?_, ?_⟩
    · go_simp
      rfl
    apply Exists.intro
    refine ⟨by simp only [Act.put, List.setIfInBounds_toArray, List.set_cons_succ, List.set_cons_zero]; rfl, ?_⟩
  refine M2.mono_val rfl rfl (fun x hD hF => ?_) ?_
  · have hl := run_loadVar_arr (P := Try.prog) x w.heap.size 0 24 (arrOf .u64 8 f) _ (row_range hD.a) Try.underlying24 rfl (by rw [arrOf_size]; exact size24)
    rw [exec_load 24 (.tmp 5) rfl w.heap.size 0 rfl hl]
    exact ⟨Below.refl _ _, rfl, trivial⟩
  apply Exists.intro
  refine ⟨by simp only [Act.put, List.setIfInBounds_toArray, List.set_cons_succ, List.set_cons_zero]; rfl, ?_⟩
  refine M2.mono_val rfl rfl (fun x hD hF => ?_) ?_
  · have hl := run_loadVar_arr (P := Try.prog) x (w.heap.size + 1) 0 24 (arrOf .u64 8 g) _ (row_range hD.b) Try.underlying24 rfl (by rw [arrOf_size]; exact size24)
    rw [exec_load 24 (.tmp 6) rfl (w.heap.size + 1) 0 rfl hl]
    exact ⟨Below.refl _ _, rfl, trivial⟩
  apply Exists.intro
  refine ⟨by simp only [Act.put, List.setIfInBounds_toArray, List.set_cons_succ, List.set_cons_zero]; rfl, ?_⟩
  refine M2.mono_mem rfl rfl (fun x hD hF => ?_) (fun v80 => ?_)
  · rw [exec_build 49 2 _ rfl #[(0, .agg (arrOf .u64 8 f)), (1, .agg (arrOf .u64 8 g))] (by simp only [List.map_toArray, List.map_cons, List.map_nil]; rfl) (run_two f g x)]
    exact ⟨below1 _ _, pv_two f g x⟩
  apply Exists.intro
  refine ⟨by simp only [Act.put, List.setIfInBounds_toArray, List.set_cons_succ, List.set_cons_zero]; rfl, ?_⟩
  refine M2.mono_val rfl rfl (fun x hD hF => ?_) ?_
  · have h1 := (hF 4 _ 80 rfl rfl (by decide)).1
    go_simp
    refine (join_pv h1).mono ?_
    rintro e y ⟨rfl, hg⟩
    exact ⟨_, rfl, hg, by rw [← HJ.out]⟩
  apply Exists.intro
  refine ⟨by simp only [Act.put, List.setIfInBounds_toArray, List.set_cons_succ, List.set_cons_zero]; rfl, ?_⟩
  refine M2.mono_val rfl rfl (fun x hD hF => ?_) ?_
  · have hl := run_loadVar_arr (P := Try.prog) x w.heap.size 0 24 (arrOf .u64 8 f) _ (row_range hD.a) Try.underlying24 rfl (by rw [arrOf_size]; exact size24)
    rw [exec_load 24 (.tmp 5) rfl w.heap.size 0 rfl hl]
    exact ⟨Below.refl _ _, rfl, trivial⟩
  apply Exists.intro
  refine ⟨by simp only [Act.put, List.setIfInBounds_toArray, List.set_cons_succ, List.set_cons_zero]; rfl, ?_⟩
  refine M2.mono_val rfl rfl (fun x hD hF => ?_) ?_
  · have hl := run_loadVar_arr (P := Try.prog) x (w.heap.size + 1) 0 24 (arrOf .u64 8 g) _ (row_range hD.b) Try.underlying24 rfl (by rw [arrOf_size]; exact size24)
    rw [exec_load 24 (.tmp 6) rfl (w.heap.size + 1) 0 rfl hl]
    exact ⟨Below.refl _ _, rfl, trivial⟩
  apply Exists.intro
  refine ⟨by simp only [Act.put, List.setIfInBounds_toArray, List.set_cons_succ, List.set_cons_zero]; rfl, ?_⟩
  refine M2.mono_val rfl rfl (fun x hD hF => ?_) ?_
  · go_simp
    refine (joinR_any f g x).mono ?_
    rintro e y ⟨rfl, hg⟩
    exact ⟨_, rfl, hg, by rw [← HJ.out]⟩
  apply Exists.intro
  refine ⟨by simp only [Act.put, List.setIfInBounds_toArray, List.set_cons_succ, List.set_cons_zero]; rfl, ?_⟩
  refine M2.mono_pure rfl rfl ?_
  apply Exists.intro
  refine ⟨fun x => ?_, ?_⟩
  · have h1 := eq_vec J J x
    rw [same_refl] at h1
    go_simp
    rfl
  apply Exists.intro
  refine ⟨by simp only [Act.put, List.setIfInBounds_toArray, List.set_cons_succ, List.set_cons_zero]; rfl, ?_⟩
  iterate 2
    refine M2.mono_pure rfl rfl ?_
    apply Exists.intro
    refine ⟨fun x => ?_, ?_⟩
    · go_simp
      rfl
    apply Exists.intro
    refine ⟨by simp only [Act.put, List.setIfInBounds_toArray, List.set_cons_succ, List.set_cons_zero]; rfl, ?_⟩
  refine M2.mono_val rfl rfl (fun x hD hF => ?_) ?_
  · have hl := run_loadVar_arr (P := Try.prog) x w.heap.size 0 24 (arrOf .u64 8 f) _ (row_range hD.a) Try.underlying24 rfl (by rw [arrOf_size]; exact size24)
    rw [exec_load 24 (.tmp 5) rfl w.heap.size 0 rfl hl]
    exact ⟨Below.refl _ _, rfl, trivial⟩
  apply Exists.intro
  refine ⟨by simp only [Act.put, List.setIfInBounds_toArray, List.set_cons_succ, List.set_cons_zero]; rfl, ?_⟩
  refine M2.mono_val rfl rfl (fun x hD hF => ?_) ?_
  · have hl := run_loadVar_arr (P := Try.prog) x (w.heap.size + 1) 0 24 (arrOf .u64 8 g) _ (row_range hD.b) Try.underlying24 rfl (by rw [arrOf_size]; exact size24)
    rw [exec_load 24 (.tmp 6) rfl (w.heap.size + 1) 0 rfl hl]
    exact ⟨Below.refl _ _, rfl, trivial⟩
  apply Exists.intro
  refine ⟨by simp only [Act.put, List.setIfInBounds_toArray, List.set_cons_succ, List.set_cons_zero]; rfl, ?_⟩
  refine M2.mono_val rfl rfl (fun x hD hF => ?_) ?_
  · go_simp
    refine (meet_any f g x).mono ?_
    rintro e y ⟨rfl, hg⟩
    exact ⟨_, rfl, hg, by rw [← HM.out]⟩
  apply Exists.intro
  refine ⟨by simp only [Act.put, List.setIfInBounds_toArray, List.set_cons_succ, List.set_cons_zero]; rfl, ?_⟩
  refine M2.mono_val rfl rfl (fun x hD hF => ?_) ?_
  · have hl := run_loadVar_arr (P := Try.prog) x w.heap.size 0 24 (arrOf .u64 8 f) _ (row_range hD.a) Try.underlying24 rfl (by rw [arrOf_size]; exact size24)
    rw [exec_load 24 (.tmp 5) rfl w.heap.size 0 rfl hl]
    exact ⟨Below.refl _ _, rfl, trivial⟩
  apply Exists.intro
  refine ⟨by simp only [Act.put, List.setIfInBounds_toArray, List.set_cons_succ, List.set_cons_zero]; rfl, ?_⟩
  refine M2.mono_val rfl rfl (fun x hD hF => ?_) ?_
  · have hl := run_loadVar_arr (P := Try.prog) x (w.heap.size + 1) 0 24 (arrOf .u64 8 g) _ (row_range hD.b) Try.underlying24 rfl (by rw [arrOf_size]; exact size24)
    rw [exec_load 24 (.tmp 6) rfl (w.heap.size + 1) 0 rfl hl]
    exact ⟨Below.refl _ _, rfl, trivial⟩
  apply Exists.intro
  refine ⟨by simp only [Act.put, List.setIfInBounds_toArray, List.set_cons_succ, List.set_cons_zero]; rfl, ?_⟩
  refine M2.mono_val rfl rfl (fun x hD hF => ?_) ?_
  · go_simp
    refine (meetR_any f g x).mono ?_
    rintro e y ⟨rfl, hg⟩
    exact ⟨_, rfl, hg, by rw [← HM.out]⟩
  apply Exists.intro
  refine ⟨by simp only [Act.put, List.setIfInBounds_toArray, List.set_cons_succ, List.set_cons_zero]; rfl, ?_⟩
  refine M2.mono_pure rfl rfl ?_
  apply Exists.intro
  refine ⟨fun x => ?_, ?_⟩
  · have h1 := eq_vec M M x
    rw [same_refl] at h1
    go_simp
    rfl
  apply Exists.intro
  refine ⟨by simp only [Act.put, List.setIfInBounds_toArray, List.set_cons_succ, List.set_cons_zero]; rfl, ?_⟩
  iterate 2
    refine M2.mono_pure rfl rfl ?_
    apply Exists.intro
    refine ⟨fun x => ?_, ?_⟩
    · go_simp
      rfl
    apply Exists.intro
    refine ⟨by simp only [Act.put, List.setIfInBounds_toArray, List.set_cons_succ, List.set_cons_zero]; rfl, ?_⟩
  refine M2.mono_val rfl rfl (fun x hD hF => ?_) ?_
  · have hl := run_loadVar_arr (P := Try.prog) x w.heap.size 0 24 (arrOf .u64 8 f) _ (row_range hD.a) Try.underlying24 rfl (by rw [arrOf_size]; exact size24)
    rw [exec_load 24 (.tmp 5) rfl w.heap.size 0 rfl hl]
    exact ⟨Below.refl _ _, rfl, trivial⟩
  apply Exists.intro
  refine ⟨by simp only [Act.put, List.setIfInBounds_toArray, List.set_cons_succ, List.set_cons_zero]; rfl, ?_⟩
  refine M2.mono_val rfl rfl (fun x hD hF => ?_) ?_
  · have hl := run_loadVar_arr (P := Try.prog) x (w.heap.size + 1) 0 24 (arrOf .u64 8 g) _ (row_range hD.b) Try.underlying24 rfl (by rw [arrOf_size]; exact size24)
    rw [exec_load 24 (.tmp 6) rfl (w.heap.size + 1) 0 rfl hl]
    exact ⟨Below.refl _ _, rfl, trivial⟩
  apply Exists.intro
  refine ⟨by simp only [Act.put, List.setIfInBounds_toArray, List.set_cons_succ, List.set_cons_zero]; rfl, ?_⟩
  refine M2.mono_val rfl rfl (fun x hD hF => ?_) ?_
  · go_simp
    refine (covers_any f g x).mono ?_
    rintro e y ⟨rfl, hg⟩
    exact ⟨_, rfl, hg, by rw [← HU.out]⟩
  apply Exists.intro
  refine ⟨by simp only [Act.put, List.setIfInBounds_toArray, List.set_cons_succ, List.set_cons_zero]; rfl, ?_⟩
  refine M2.mono_val rfl rfl (fun x hD hF => ?_) ?_
  · have hl := run_loadVar_arr (P := Try.prog) x w.heap.size 0 24 (arrOf .u64 8 f) _ (row_range hD.a) Try.underlying24 rfl (by rw [arrOf_size]; exact size24)
    rw [exec_load 24 (.tmp 5) rfl w.heap.size 0 rfl hl]
    exact ⟨Below.refl _ _, rfl, trivial⟩
  apply Exists.intro
  refine ⟨by simp only [Act.put, List.setIfInBounds_toArray, List.set_cons_succ, List.set_cons_zero]; rfl, ?_⟩
  refine M2.mono_val rfl rfl (fun x hD hF => ?_) ?_
  · have hl := run_loadVar_arr (P := Try.prog) x (w.heap.size + 1) 0 24 (arrOf .u64 8 g) _ (row_range hD.b) Try.underlying24 rfl (by rw [arrOf_size]; exact size24)
    rw [exec_load 24 (.tmp 6) rfl (w.heap.size + 1) 0 rfl hl]
    exact ⟨Below.refl _ _, rfl, trivial⟩
  apply Exists.intro
  refine ⟨by simp only [Act.put, List.setIfInBounds_toArray, List.set_cons_succ, List.set_cons_zero]; rfl, ?_⟩
  refine M2.mono_val rfl rfl (fun x hD hF => ?_) ?_
  · go_simp
    refine (coversR_any f g x).mono ?_
    rintro e y ⟨rfl, hg⟩
    exact ⟨_, rfl, hg, by rw [← HU.out]⟩
  apply Exists.intro
  refine ⟨by simp only [Act.put, List.setIfInBounds_toArray, List.set_cons_succ, List.set_cons_zero]; rfl, ?_⟩
  iterate 3
    refine M2.mono_pure rfl rfl ?_
    apply Exists.intro
    refine ⟨fun x => ?_, ?_⟩
    · go_simp
      rfl
    apply Exists.intro
    refine ⟨by simp only [Act.put, List.setIfInBounds_toArray, List.set_cons_succ, List.set_cons_zero]; rfl, ?_⟩
  refine M2.mono_val rfl rfl (fun x hD hF => ?_) ?_
  · have hl := run_loadVar_arr (P := Try.prog) x w.heap.size 0 24 (arrOf .u64 8 f) _ (row_range hD.a) Try.underlying24 rfl (by rw [arrOf_size]; exact size24)
    rw [exec_load 24 (.tmp 5) rfl w.heap.size 0 rfl hl]
    exact ⟨Below.refl _ _, rfl, trivial⟩
  apply Exists.intro
  refine ⟨by simp only [Act.put, List.setIfInBounds_toArray, List.set_cons_succ, List.set_cons_zero]; rfl, ?_⟩
  refine M2.mono_val rfl rfl (fun x hD hF => ?_) ?_
  · have hl := run_loadVar_arr (P := Try.prog) x (w.heap.size + 1 + 1 + 1) 0 26 #[.int .i64 dn, .int .u64 (dk : Int)] _ hD.d.range Try.underlying26 rfl size26
    rw [exec_load 26 (.tmp 8) rfl (w.heap.size + 1 + 1 + 1) 0 rfl hl]
    exact ⟨Below.refl _ _, rfl, trivial⟩
  apply Exists.intro
  refine ⟨by simp only [Act.put, List.setIfInBounds_toArray, List.set_cons_succ, List.set_cons_zero]; rfl, ?_⟩
  refine M2.mono_val rfl rfl (fun x hD hF => ?_) ?_
  · go_simp
    refine (has_any f dn dk x).mono ?_
    rintro e y ⟨rfl, hg⟩
    exact ⟨_, rfl, hg, by rw [← HK.out]⟩
  apply Exists.intro
  refine ⟨by simp only [Act.put, List.setIfInBounds_toArray, List.set_cons_succ, List.set_cons_zero]; rfl, ?_⟩
  refine M2.mono_val rfl rfl (fun x hD hF => ?_) ?_
  · have hl := run_loadVar_arr (P := Try.prog) x w.heap.size 0 24 (arrOf .u64 8 f) _ (row_range hD.a) Try.underlying24 rfl (by rw [arrOf_size]; exact size24)
    rw [exec_load 24 (.tmp 5) rfl w.heap.size 0 rfl hl]
    exact ⟨Below.refl _ _, rfl, trivial⟩
  apply Exists.intro
  refine ⟨by simp only [Act.put, List.setIfInBounds_toArray, List.set_cons_succ, List.set_cons_zero]; rfl, ?_⟩
  refine M2.mono_val rfl rfl (fun x hD hF => ?_) ?_
  · have hl := run_loadVar_arr (P := Try.prog) x b12 0 27 #[.int .i64 dn, .int .u64 (dk : Int)] _ hD.yy.range Try.underlying27 rfl size27
    rw [exec_load 27 (.tmp 12) rfl b12 0 rfl hl]
    exact ⟨Below.refl _ _, rfl, trivial⟩
  apply Exists.intro
  refine ⟨by simp only [Act.put, List.setIfInBounds_toArray, List.set_cons_succ, List.set_cons_zero]; rfl, ?_⟩
  refine M2.mono_val rfl rfl (fun x hD hF => ?_) ?_
  · go_simp
    refine (hasR_any f dn dk x).mono ?_
    rintro e y ⟨rfl, hg⟩
    exact ⟨_, rfl, hg, by rw [← HK.out]⟩
  apply Exists.intro
  refine ⟨by simp only [Act.put, List.setIfInBounds_toArray, List.set_cons_succ, List.set_cons_zero]; rfl, ?_⟩
  iterate 3
    refine M2.mono_pure rfl rfl ?_
    apply Exists.intro
    refine ⟨fun x => ?_, ?_⟩
    · go_simp
      rfl
    apply Exists.intro
    refine ⟨by simp only [Act.put, List.setIfInBounds_toArray, List.set_cons_succ, List.set_cons_zero]; rfl, ?_⟩
  refine M2.mono_val rfl rfl (fun x hD hF => ?_) ?_
  · have hl := run_loadVar_arr (P := Try.prog) x w.heap.size 0 24 (arrOf .u64 8 f) _ (row_range hD.a) Try.underlying24 rfl (by rw [arrOf_size]; exact size24)
    rw [exec_load 24 (.tmp 5) rfl w.heap.size 0 rfl hl]
    exact ⟨Below.refl _ _, rfl, trivial⟩
  apply Exists.intro
  refine ⟨by simp only [Act.put, List.setIfInBounds_toArray, List.set_cons_succ, List.set_cons_zero]; rfl, ?_⟩
  refine M2.mono_val rfl rfl (fun x hD hF => ?_) ?_
  · have hl := run_loadVar_arr (P := Try.prog) x (w.heap.size + 1) 0 24 (arrOf .u64 8 g) _ (row_range hD.b) Try.underlying24 rfl (by rw [arrOf_size]; exact size24)
    rw [exec_load 24 (.tmp 6) rfl (w.heap.size + 1) 0 rfl hl]
    exact ⟨Below.refl _ _, rfl, trivial⟩
  apply Exists.intro
  refine ⟨by simp only [Act.put, List.setIfInBounds_toArray, List.set_cons_succ, List.set_cons_zero]; rfl, ?_⟩
  refine M2.mono_val rfl rfl (fun x hD hF => ?_) ?_
  · go_simp
    refine (order_any f g x).mono ?_
    rintro e y ⟨rfl, hg⟩
    exact ⟨_, rfl, hg, by rw [← HO.out]⟩
  apply Exists.intro
  refine ⟨by simp only [Act.put, List.setIfInBounds_toArray, List.set_cons_succ, List.set_cons_zero]; rfl, ?_⟩
  refine M2.mono_val rfl rfl (fun x hD hF => ?_) ?_
  · have hl := run_loadVar_arr (P := Try.prog) x w.heap.size 0 24 (arrOf .u64 8 f) _ (row_range hD.a) Try.underlying24 rfl (by rw [arrOf_size]; exact size24)
    rw [exec_load 24 (.tmp 5) rfl w.heap.size 0 rfl hl]
    exact ⟨Below.refl _ _, rfl, trivial⟩
  apply Exists.intro
  refine ⟨by simp only [Act.put, List.setIfInBounds_toArray, List.set_cons_succ, List.set_cons_zero]; rfl, ?_⟩
  refine M2.mono_val rfl rfl (fun x hD hF => ?_) ?_
  · have hl := run_loadVar_arr (P := Try.prog) x (w.heap.size + 1) 0 24 (arrOf .u64 8 g) _ (row_range hD.b) Try.underlying24 rfl (by rw [arrOf_size]; exact size24)
    rw [exec_load 24 (.tmp 6) rfl (w.heap.size + 1) 0 rfl hl]
    exact ⟨Below.refl _ _, rfl, trivial⟩
  apply Exists.intro
  refine ⟨by simp only [Act.put, List.setIfInBounds_toArray, List.set_cons_succ, List.set_cons_zero]; rfl, ?_⟩
  refine M2.mono_val rfl rfl (fun x hD hF => ?_) ?_
  · go_simp
    refine (orderR_any f g x).mono ?_
    rintro e y ⟨rfl, hg⟩
    exact ⟨_, rfl, hg, by rw [← HO.out]⟩
  apply Exists.intro
  refine ⟨by simp only [Act.put, List.setIfInBounds_toArray, List.set_cons_succ, List.set_cons_zero]; rfl, ?_⟩
  iterate 3
    refine M2.mono_pure rfl rfl ?_
    apply Exists.intro
    refine ⟨fun x => ?_, ?_⟩
    · go_simp
      rfl
    apply Exists.intro
    refine ⟨by simp only [Act.put, List.setIfInBounds_toArray, List.set_cons_succ, List.set_cons_zero]; rfl, ?_⟩
  refine M2.mono_nil ?_
  intro x hD hF
  have HB := Lib.hid hD.below
  clear hD hF HI5
  go_simp
  go_wp2_with fail
  go_ret
  exact ⟨rfl, HB.out⟩
end Go.Proofs.Ytlakienebicahaa
