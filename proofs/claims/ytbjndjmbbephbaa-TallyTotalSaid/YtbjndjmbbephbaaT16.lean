/- The law TallyTotal of layer 5, walked. -/
import Derived.Test.YtbjndjmbbephbaaT15
import Derived.Test.YtbjndjmbbephbaaFront
namespace Go.Proofs.Ytbjndjmbbephbaa
open Go.RowKit

def tot (f : Nat → Nat) : Nat := Tal.sum (list8 f)
theorem sum_le_sum : ∀ (l : List Nat) (f g : Nat → Nat), (∀ i ∈ l, f i ≤ g i) → (l.map f).sum ≤ (l.map g).sum
  | [], _, _, _ => Nat.le_refl _
  | i :: l, f, g, h => by
    have h1 := h i (by simp)
    have h2 := sum_le_sum l f g fun j hj => h j (by simp [hj])
    simp only [List.map_cons, List.sum_cons]
    omega
theorem tot_mono {f g : Nat → Nat} (h : ∀ i, i < 8 → f i ≤ g i) : tot f ≤ tot g := by
  have := sum_le_sum (List.range 8) f g fun i hi => h i (List.mem_range.1 hi)
  unfold tot list8 Tal.sum
  omega
theorem tot_le (f : Nat → Nat) : tot f ≤ 4611686018427387904 := Tal.sum_le _
theorem tot_join1 (f g : Nat → Nat) : tot f ≤ tot (cmax f g) := tot_mono fun i _ => by unfold cmax; omega
theorem tot_join2 (f g : Nat → Nat) : tot g ≤ tot (cmax f g) := tot_mono fun i _ => by unfold cmax; omega
theorem tot_join3 (f g : Nat → Nat) : tot (half f) ≤ tot (half (cmax f g)) := tot_mono fun i _ => by unfold half cmax; omega
theorem tot_join4 (f g : Nat → Nat) : tot (half g) ≤ tot (half (cmax f g)) := tot_mono fun i _ => by unfold half cmax; omega
theorem tot_one {i n : Nat} (hi : i < 8) (hn : n < 65536) : tot (Tal.plusAt (Tal.plusAt k0 i n) (8 + i) 0) = n ∧ tot (half (Tal.plusAt (Tal.plusAt k0 i n) (8 + i) 0)) = 0 := by
  rcases (show i = 0 ∨ i = 1 ∨ i = 2 ∨ i = 3 ∨ i = 4 ∨ i = 5 ∨ i = 6 ∨ i = 7 by omega) with rfl | rfl | rfl | rfl | rfl | rfl | rfl | rfl <;>
    (constructor <;> (simp [tot, list8, Tal.sum, Tal.M, Tal.plusAt, k0, half, List.range_succ] <;> omega))
theorem cnt_one (node : Int) (n : Nat) (hn : n < 65536) : (∃ z, Tal.cnt k0 node n = (z, 11)) ∨ ∃ d, Tal.cnt k0 node n = (d, 0) ∧ tot d = n ∧ tot (half d) = 0 := by
  by_cases h : 1 ≤ node ∧ node ≤ 8
  · obtain ⟨i, rfl⟩ : ∃ i : Nat, node = (i : Int) + 1 := ⟨(node - 1).toNat, by omega⟩
    have hu : Tal.up (n : Int) = n := by simp [Tal.up]
    have hd : Tal.down (n : Int) = 0 := by simp [Tal.down]
    refine .inr ⟨_, Tal.cnt_ok (by omega) (by rw [hu]; show ¬ (_ < 0 + n); omega) (by rw [hd]; show ¬ (_ < 0 + 0); omega), ?_⟩
    rw [hu, hd]
    exact tot_one (by omega) hn
  · exact .inl ⟨_, Tal.cnt_node h⟩
theorem built40_n (n : Nat) : Try.prog.built 40 [(0, .int .u64 (n : Int))] = some #[.int .u64 (n : Int), .int .u64 0] := by kernel_rfl
/-- Two boxed counters. -/
structure V2 (w : World) (f g : Nat → Nat) (x : World) : Prop where
  a : x.heap[w.heap.size]? = some (.cells (arrOf .u64 16 f) 26 (0, 0))
  b : x.heap[w.heap.size + 1]? = some (.cells (arrOf .u64 16 g) 26 (0, 0))
  below : Below w.heap.size w x
theorem V2.then_ {w x y : World} {f g : Nat → Nat} (hb : Below x.heap.size x y) (I : V2 w f g x) : V2 w f g y :=
  ⟨(hb.block _ (lt_of_row I.a)).trans I.a, (hb.block _ (lt_of_row I.b)).trans I.b, I.below.trans (hb.mono I.below.size)⟩
theorem V2.drew {w x : World} {f g : Nat → Nat} (I : V2 w f g x) : V2 w f g x.drew := ⟨I.a, I.b, ⟨I.below.os, I.below.tape, I.below.output, I.below.size, I.below.block⟩⟩
theorem V2.start (w : World) (f g : Nat → Nat) : V2 w f g ((w.alloc (.cells (arrOf .u64 16 f) 26)).alloc (.cells (arrOf .u64 16 g) 26)) := by
  have I := One.start w (arrOf .u64 16 f) (arrOf .u64 16 g) 26 26
  exact ⟨I.a, I.r, I.below⟩
/-- A new tally of noughts. -/
def PN (w : World) (v : Value) (x : World) : Prop := ∃ b, v = .pointer (some ⟨b, 0, none⟩) ∧ w.heap.size + 2 ≤ b ∧ x.heap[b]? = some (.cells #[.int .u64 0, .int .u64 0] 40 (0, 0))
theorem PN.up {w : World} {v : Value} {x y : World} (h : Below x.heap.size x y) : PN w v x → PN w v y := fun ⟨b, e, hb, hr⟩ => ⟨b, e, hb, (h.block _ (lt_of_row hr)).trans hr⟩
theorem PN.new {w x : World} {f g : Nat → Nat} (I : V2 w f g x) : PN w (.pointer (some ⟨x.heap.size, 0, none⟩)) (x.alloc (.cells #[.int .u64 0, .int .u64 0] 40)) := ⟨_, rfl, by have := lt_of_row I.b; omega, heap_alloc_new _ _⟩
/-- .. and three tallies. -/
structure T3 (w : World) (b7 b8 b9 : Nat) (a b c d e f : Nat) (x : World) : Prop where
  a : x.heap[b7]? = some (.cells #[.int .u64 (a : Int), .int .u64 (b : Int)] 40 (0, 0))
  b : x.heap[b8]? = some (.cells #[.int .u64 (c : Int), .int .u64 (d : Int)] 40 (0, 0))
  c : x.heap[b9]? = some (.cells #[.int .u64 (e : Int), .int .u64 (f : Int)] 40 (0, 0))
  below : Below w.heap.size w x

set_option maxRecDepth 100000 in
set_option maxHeartbeats 8000000 in
theorem law_total (f g : Nat → Nat) (node : Int) (n : Nat) (w : World) (hn : n < 65536) :
    Calls Try.prog 6 #[ctrV f, ctrV g, .int .i64 node, .int .u16 (n : Int)] w fun e w' => e = .returned (.bool true) ∧ Below w.heap.size w w' := by
  have HI0 := Lib.hid (V2.start w f g)
  have HN := Lib.hid hn
  clear hn
  have s26 : ∀ {f : Nat → Nat}, Hid ((Try.prog.info? 26).map (·.size) = some (arrOf .u64 16 f).size) := fun {f} => by rw [arrOf_size]; exact size26
  have ss : ∀ {f g : Nat → Nat}, Hid ((arrOf .u64 16 f).size = (arrOf .u64 16 g).size) := fun {f g} => by rw [arrOf_size, arrOf_size]; exact rfl
  have s40 : ∀ {x y : Int}, Hid ((Try.prog.info? 40).map (·.size) = some (#[.int .u64 x, .int .u64 y] : Array Value).size) := fun {x y} => pair_size x y
  have o2 : ∀ {x y : Int}, Hid ((#[.int .u64 x, .int .u64 y] : Array Value).all (·.oneCell') = true) := fun {x y} => two_one _ _ rfl rfl
  have z2 : ∀ {a b x y : Int}, Hid ((#[.int .u64 a, .int .u64 b] : Array Value).size = (#[.int .u64 x, .int .u64 y] : Array Value).size) := fun {a b x y} => rfl
  go_enter Try.func6, Try.ntmps6
  go_wp2_with fail
  generalize (w.alloc (.cells (arrOf .u64 16 f) 26)).alloc (.cells (arrOf .u64 16 g) 26) = w1 at *
  refine M3.wp_region_front 11 [(8, 9), (9, 10), (10, 11)] (fun _ x y => Below x.heap.size x y) (fun _ x => V2 w f g x) (fun x => V2 w f g x)
    [(0, .val (ctrV f) fun _ => True), (1, .val (ctrV g) fun _ => True), (2, .val (ctrV (cmax f g)) fun _ => True), (3, .val (tallyV (tot (cmax f g)) (tot (half (cmax f g)))) fun _ => True), (4, .val (ctrV f) fun _ => True), (5, .val (tallyV (tot f) (tot (half f))) fun _ => True), (6, .val (ctrV g) fun _ => True), (7, .val (tallyV (tot g) (tot (half g))) fun _ => True), (8, .mem (PN w)), (9, .mem (PN w)), (10, .mem (PN w))] (by kernel_rfl) (by kernel_rfl) (by kernel_rfl) (by kernel_rfl) (of_decide_eq_true (by kernel_rfl)) ?_ ?_ (fun _ _ _ hb => hb.size) (fun _ _ _ hb h => V2.then_ hb h) (fun _ _ _ _ _ hb h => V2.then_ hb h) ?_ HI0.out.drew (fun _ => HI0.out.drew) ?_
  · intro p hp o ho ev x
    simp only [List.mem_cons, List.mem_nil_iff, or_false] at hp
    rcases hp with rfl | rfl | rfl
    all_goals
      have ho' := Option.some.inj ho
      subst ho'
      refine ⟨x.alloc (.cells #[.int .u64 0, .int .u64 0] 40), ?_, by simp⟩
      go_simp
  · intro p hp
    simp only [List.mem_cons, List.mem_nil_iff, or_false] at hp
    rcases hp with rfl | rfl | rfl <;> (simp)
  · intro z hz
    simp only [List.mem_cons, List.mem_nil_iff, or_false] at hz
    rcases hz with rfl | rfl | rfl | rfl | rfl | rfl | rfl | rfl | rfl | rfl | rfl <;> first
      | exact fun _ _ _ _ _ _ => trivial
      | exact fun j v x y _ hr => PN.up hr
  refine M2.mono_val rfl rfl (fun x hD hF => ?_) ?_
  · have hl := run_loadVar_arr (P := Try.prog) x (w.heap.size) 0 26 _ _ (range_all hD.a) Try.underlying26 rfl (by rw [arrOf_size]; exact size26)
    rw [exec_load 26 (.tmp 4) rfl (w.heap.size) 0 rfl hl]
    exact ⟨Below.refl _ _, rfl, trivial⟩
  apply Exists.intro
  refine ⟨by simp only [Act.put, List.setIfInBounds_toArray, List.set_cons_succ, List.set_cons_zero]; rfl, ?_⟩
  refine M2.mono_val rfl rfl (fun x hD hF => ?_) ?_
  · have hl := run_loadVar_arr (P := Try.prog) x (w.heap.size + 1) 0 26 _ _ (range_all hD.b) Try.underlying26 rfl (by rw [arrOf_size]; exact size26)
    rw [exec_load 26 (.tmp 5) rfl (w.heap.size + 1) 0 rfl hl]
    exact ⟨Below.refl _ _, rfl, trivial⟩
  apply Exists.intro
  refine ⟨by simp only [Act.put, List.setIfInBounds_toArray, List.set_cons_succ, List.set_cons_zero]; rfl, ?_⟩
  refine M2.mono_val rfl rfl (fun x hD hF => ?_) ?_
  · go_simp
    refine (tjoin_any f g x).mono ?_
    rintro e y ⟨rfl, hg⟩
    exact ⟨_, rfl, hg, rfl⟩
  apply Exists.intro
  refine ⟨by simp only [Act.put, List.setIfInBounds_toArray, List.set_cons_succ, List.set_cons_zero]; rfl, ?_⟩
  refine M2.mono_val rfl rfl (fun x hD hF => ?_) ?_
  · go_simp
    refine (ttotal_any (cmax f g) x).mono ?_
    rintro e y ⟨rfl, hg⟩
    exact ⟨_, rfl, hg, rfl⟩
  apply Exists.intro
  refine ⟨by simp only [Act.put, List.setIfInBounds_toArray, List.set_cons_succ, List.set_cons_zero]; rfl, ?_⟩
  refine M2.mono_val rfl rfl (fun x hD hF => ?_) ?_
  · have hl := run_loadVar_arr (P := Try.prog) x (w.heap.size) 0 26 _ _ (range_all hD.a) Try.underlying26 rfl (by rw [arrOf_size]; exact size26)
    rw [exec_load 26 (.tmp 4) rfl (w.heap.size) 0 rfl hl]
    exact ⟨Below.refl _ _, rfl, trivial⟩
  apply Exists.intro
  refine ⟨by simp only [Act.put, List.setIfInBounds_toArray, List.set_cons_succ, List.set_cons_zero]; rfl, ?_⟩
  refine M2.mono_val rfl rfl (fun x hD hF => ?_) ?_
  · go_simp
    refine (ttotal_any f x).mono ?_
    rintro e y ⟨rfl, hg⟩
    exact ⟨_, rfl, hg, rfl⟩
  apply Exists.intro
  refine ⟨by simp only [Act.put, List.setIfInBounds_toArray, List.set_cons_succ, List.set_cons_zero]; rfl, ?_⟩
  refine M2.mono_val rfl rfl (fun x hD hF => ?_) ?_
  · have hl := run_loadVar_arr (P := Try.prog) x (w.heap.size + 1) 0 26 _ _ (range_all hD.b) Try.underlying26 rfl (by rw [arrOf_size]; exact size26)
    rw [exec_load 26 (.tmp 5) rfl (w.heap.size + 1) 0 rfl hl]
    exact ⟨Below.refl _ _, rfl, trivial⟩
  apply Exists.intro
  refine ⟨by simp only [Act.put, List.setIfInBounds_toArray, List.set_cons_succ, List.set_cons_zero]; rfl, ?_⟩
  refine M2.mono_val rfl rfl (fun x hD hF => ?_) ?_
  · go_simp
    refine (ttotal_any g x).mono ?_
    rintro e y ⟨rfl, hg⟩
    exact ⟨_, rfl, hg, rfl⟩
  apply Exists.intro
  refine ⟨by simp only [Act.put, List.setIfInBounds_toArray, List.set_cons_succ, List.set_cons_zero]; rfl, ?_⟩
  refine M2.mono_mem rfl rfl (fun x hD hF => ?_) (fun v9 => ?_)
  · go_simp
    exact ⟨below1 _ _, PN.new hD⟩
  apply Exists.intro
  refine ⟨by simp only [Act.put, List.setIfInBounds_toArray, List.set_cons_succ, List.set_cons_zero]; rfl, ?_⟩
  refine M2.mono_mem rfl rfl (fun x hD hF => ?_) (fun v10 => ?_)
  · go_simp
    exact ⟨below1 _ _, PN.new hD⟩
  apply Exists.intro
  refine ⟨by simp only [Act.put, List.setIfInBounds_toArray, List.set_cons_succ, List.set_cons_zero]; rfl, ?_⟩
  refine M2.mono_mem rfl rfl (fun x hD hF => ?_) (fun v11 => ?_)
  · go_simp
    exact ⟨below1 _ _, PN.new hD⟩
  apply Exists.intro
  refine ⟨by simp only [Act.put, List.setIfInBounds_toArray, List.set_cons_succ, List.set_cons_zero]; rfl, ?_⟩
  refine M2.mono_nil ?_
  intro w3 hD hF hdist
  have h7 : PN w v9 w3 := (hF 8).1
  have h8 : PN w v10 w3 := (hF 9).1
  have h9 : PN w v11 w3 := (hF 10).1
  have n78 : v9 ≠ v10 := hdist (8, 9) (by simp) (9, 10) (by simp) (by decide)
  have n79 : v9 ≠ v11 := hdist (8, 9) (by simp) (10, 11) (by simp) (by decide)
  have n89 : v10 ≠ v11 := hdist (9, 10) (by simp) (10, 11) (by simp) (by decide)
  obtain ⟨b7, rfl, hb7, z7⟩ := h7
  obtain ⟨b8, rfl, hb8, z8⟩ := h8
  obtain ⟨b9, rfl, hb9, z9⟩ := h9
  have m78 : b7 ≠ b8 := fun e => n78 (by rw [e])
  have m79 : b7 ≠ b9 := fun e => n79 (by rw [e])
  have m89 : b8 ≠ b9 := fun e => n89 (by rw [e])
  have l1 := tot_join1 f g
  have l2 := tot_join2 f g
  have l3 := tot_join3 f g
  have l4 := tot_join4 f g
  have l5 := tot_le (cmax f g)
  have l6 := tot_le (half (cmax f g))
  obtain ⟨a, ha⟩ : ∃ a, a = tot (cmax f g) := ⟨_, rfl⟩
  obtain ⟨b, hb⟩ : ∃ b, b = tot (half (cmax f g)) := ⟨_, rfl⟩
  obtain ⟨c, hc⟩ : ∃ c, c = tot f := ⟨_, rfl⟩
  obtain ⟨d, hd⟩ : ∃ d, d = tot (half f) := ⟨_, rfl⟩
  obtain ⟨e, he⟩ : ∃ e, e = tot g := ⟨_, rfl⟩
  obtain ⟨q, hq⟩ : ∃ q, q = tot (half g) := ⟨_, rfl⟩
  rw [← ha, ← hc] at l1
  rw [← ha, ← he] at l2
  rw [← hb, ← hd] at l3
  rw [← hb, ← hq] at l4
  rw [← ha] at l5
  rw [← hb] at l6
  have e8 : (w3.setRow b7 #[.int .u64 (a : Int), .int .u64 (b : Int)]).heap[b8]? = _ := (setRow_other _ b7 b8 _ (by omega)).trans z8
  have e9 : ((w3.setRow b7 #[.int .u64 (a : Int), .int .u64 (b : Int)]).setRow b8 #[.int .u64 (c : Int), .int .u64 (d : Int)]).heap[b9]? = _ := (setRow_other _ b8 b9 _ (by omega)).trans ((setRow_other _ b7 b9 _ (by omega)).trans z9)
  have HL : Hid (T3 w b7 b8 b9 a b c d e q (((w3.setRow b7 #[.int .u64 (a : Int), .int .u64 (b : Int)]).setRow b8 #[.int .u64 (c : Int), .int .u64 (d : Int)]).setRow b9 #[.int .u64 (e : Int), .int .u64 (q : Int)])) :=
    ⟨(setRow_other _ b9 b7 _ (by omega)).trans ((setRow_other _ b8 b7 _ (by omega)).trans (setRow_heap _ _ _ _ _ _ z7)), (setRow_other _ b9 b8 _ (by omega)).trans (setRow_heap _ _ _ _ _ _ e8), setRow_heap _ _ _ _ _ _ e9, below_setRow' (below_setRow' (below_setRow' hD.below (by omega) _) (by omega) _) (by omega) _⟩
  rw [← ha, ← hb, ← hc, ← hd, ← he, ← hq]
  refine wpList_store_row rfl 40 _ _ rfl b7 #[.int .u64 (a : Int), .int .u64 (b : Int)] rfl rfl 40 _ z7 s40.out z2.out o2.out ?_
  refine wpList_store_row rfl 40 _ _ rfl b8 #[.int .u64 (c : Int), .int .u64 (d : Int)] rfl rfl 40 _ e8 s40.out z2.out o2.out ?_
  refine wpList_store_row rfl 40 _ _ rfl b9 #[.int .u64 (e : Int), .int .u64 (q : Int)] rfl rfl 40 _ e9 s40.out z2.out o2.out ?_
  clear hD hF hdist n78 n79 n89 m78 m79 m89 z7 z8 z9 hb7 hb8 hb9 e8 e9 ha hb hc hd he hq
  generalize ((w3.setRow b7 #[.int .u64 (a : Int), .int .u64 (b : Int)]).setRow b8 #[.int .u64 (c : Int), .int .u64 (d : Int)]).setRow b9 #[.int .u64 (e : Int), .int .u64 (q : Int)] = w4 at *
  go_simp
  have i1 : ¬ ((a : Int) < (c : Int)) := by omega
  have i2 : ¬ ((a : Int) < (e : Int)) := by omega
  have i3 : ¬ ((b : Int) < (d : Int)) := by omega
  have i4 : ¬ ((b : Int) < (q : Int)) := by omega
  have c1 : w4.cell? ⟨b7, 0, none⟩ = some (.int .u64 (a : Int)) := by rw [cell_of_row _ _ _ _ _ _ HL.out.a]; rfl
  have c2 : w4.cell? ⟨b7, 1, none⟩ = some (.int .u64 (b : Int)) := by rw [cell_of_row _ _ _ _ _ _ HL.out.a]; rfl
  have c3 : w4.cell? ⟨b8, 0, none⟩ = some (.int .u64 (c : Int)) := by rw [cell_of_row _ _ _ _ _ _ HL.out.b]; rfl
  have c4 : w4.cell? ⟨b8, 1, none⟩ = some (.int .u64 (d : Int)) := by rw [cell_of_row _ _ _ _ _ _ HL.out.b]; rfl
  have c5 : w4.cell? ⟨b9, 0, none⟩ = some (.int .u64 (e : Int)) := by rw [cell_of_row _ _ _ _ _ _ HL.out.c]; rfl
  have c6 : w4.cell? ⟨b9, 1, none⟩ = some (.int .u64 (q : Int)) := by rw [cell_of_row _ _ _ _ _ _ HL.out.c]; rfl
  have HR := Lib.hid (show decide (a ≤ 4611686018427387904 ∧ b ≤ 4611686018427387904) = true by rw [decide_eq_true_eq]; exact ⟨l5, l6⟩)
  have HA : Hid (_ = _) := HL.out.a
  clear l1 l2 l3 l4 l5 l6
  go_wp2_with (first
    | (refine wpList_load_w 40 _ rfl rfl b7 rfl 40 #[.int .u64 (a : Int), .int .u64 (b : Int)] (0, 0) _ HA.out Try.underlying40 rfl s40.out ?_))
  have HB4 := Lib.hid HL.out.below
  clear HA HL c1 c2 c3 c4 c5 c6 i1 i2 i3 i4
  refine (right_any a b w4).mono ?_
  rintro e1 w5 ⟨rfl, hb⟩
  rw [HR.out]
  have HB5 := Lib.hid (HB4.out.trans (hb.mono HB4.out.size))
  have HB0 := Lib.hid built26_0
  have eN : IntKind.i64.wrap (n : Int) = (n : Int) := by have := HN.out; rw [IntKind.wrap_i64]; omega
  clear hb HB4 HR
  go_wp2_with (refine wpList_built rfl 26 _ rfl [] rfl _ HB0.out ?_)
  refine (tcount_any k0 node n w5 (fun _ _ => by show (0 : Nat) < _; omega) (by omega) (by have := HN.out; omega)).mono ?_
  rintro e1 w6 ⟨rfl, hb⟩
  have HB6 := Lib.hid (HB5.out.trans (hb.mono HB5.out.size))
  clear hb HB5 HB0 eN
  rcases cnt_one node n HN.out with ⟨d1, hc⟩ | ⟨d1, hc, t1, t2⟩
  · rw [hc]
    clear hc
    have hN := Lib.hid (zero_row16 w6 26)
    have HB7 := Lib.hid (HB6.out.alloc HB6.out.size (.cells (arrOf .u64 16 d1) 26))
    clear HB6
    go_wp2_with (refine wpList_store_row rfl 26 _ _ rfl w6.heap.size (arrOf .u64 16 d1) rfl rfl 26 _ hN.out s26.out ss.out (arrOf_one _ _ _) ?_; rw [set_z16])
    generalize w6.alloc (.cells (arrOf .u64 16 d1) 26) = w7 at *
    refine (alive_any w7).mono ?_
    rintro e1 w8 ⟨rfl, hb⟩
    have HB8 := Lib.hid (HB7.out.trans (hb.mono HB7.out.size))
    clear hb HB7
    go_wp2
    go_ret
    exact ⟨rfl, HB8.out⟩
  · rw [hc]
    clear hc
    have HT1 := Lib.hid t1
    have HT2 := Lib.hid t2
    have eN : IntKind.u64.wrap (n : Int) = (n : Int) := by have := HN.out; rw [IntKind.wrap_u64]; omega
    clear t1 t2
    have hN := Lib.hid (zero_row16 w6 26)
    have HB7 := Lib.hid (HB6.out.alloc HB6.out.size (.cells (arrOf .u64 16 d1) 26))
    have HC7 : Hid ((w6.alloc (.cells (arrOf .u64 16 d1) 26)).heap[w6.heap.size]? = some (.cells (arrOf .u64 16 d1) 26 (0, 0))) := heap_alloc_new _ _
    clear HB6
    go_wp2_with (refine wpList_store_row rfl 26 _ _ rfl w6.heap.size (arrOf .u64 16 d1) rfl rfl 26 _ hN.out s26.out ss.out (arrOf_one _ _ _) ?_; rw [set_z16])
    generalize w6.alloc (.cells (arrOf .u64 16 d1) 26) = w7 at *
    generalize w6.heap.size = b6 at *
    clear hN
    refine (alive_any w7).mono ?_
    rintro e1 w8 ⟨rfl, hb⟩
    have HB8 := Lib.hid (HB7.out.trans (hb.mono HB7.out.size))
    have HC8 : Hid (_ = _) := (hb.block _ (lt_of_row HC7.out)).trans HC7.out
    clear hb HB7 HC7
    go_wp2_with (refine wpList_load_w 26 _ rfl rfl b6 rfl 26 (arrOf .u64 16 d1) (0, 0) _ HC8.out Try.underlying26 rfl s26.out ?_)
    refine (ttotal_any d1 w8).mono ?_
    rintro e1 w9 ⟨rfl, hb⟩
    rw [show Tal.sum (list8 d1) = n from HT1.out, show Tal.sum (list8 (half d1)) = 0 from HT2.out]
    have HB9 := Lib.hid (HB8.out.trans (hb.mono HB8.out.size))
    have HC9 : Hid (_ = _) := (hb.block _ (lt_of_row HC8.out)).trans HC8.out
    have HBu := Lib.hid (built40_n n)
    clear hb HB8 HC8
    go_wp2_with (first
      | (refine wpList_built_w 40 _ rfl rfl [(0, .int .u64 (n : Int))] rfl _ HBu.out ?_)
      | (refine wpList_load_w 26 _ rfl rfl b6 rfl 26 (arrOf .u64 16 d1) (0, 0) _ HC9.out Try.underlying26 rfl s26.out ?_))
    refine (ttotal_any d1 w9).mono ?_
    rintro e1 wa ⟨rfl, hb⟩
    rw [show Tal.sum (list8 d1) = n from HT1.out, show Tal.sum (list8 (half d1)) = 0 from HT2.out]
    have HBa := Lib.hid (HB9.out.trans (hb.mono HB9.out.size))
    clear hb HB9 HC9 HBu
    go_wp2_with fail
    refine (value_any n 0 wa (by have := HN.out; omega)).mono ?_
    rintro e1 wb ⟨rfl, hb⟩
    rw [Nat.sub_zero]
    have HBb := Lib.hid (HBa.out.trans (hb.mono HBa.out.size))
    clear hb HBa
    go_wp2
    go_ret
    exact ⟨rfl, HBb.out⟩
end Go.Proofs.Ytbjndjmbbephbaa
