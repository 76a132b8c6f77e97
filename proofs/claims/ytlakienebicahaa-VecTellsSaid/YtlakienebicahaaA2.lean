/- Join of vec, over a slice of vectors. -/
import Derived.Test.YtlakienebicahaaA1
namespace Go.Proofs.Ytlakienebicahaa
open Go.RowKit

/-- A slice of vectors; its block (where it has an element) meets 'ok'. -/
structure Vecs (w : World) (ok : Nat → Prop) (A : Option Addr) (ls : List (Nat → Nat)) : Prop where
  at_ : 0 < ls.length → ∃ b o, A = some ⟨b, o, none⟩ ∧ ok b ∧ ∀ j, j < ls.length → rangeA w b (o + j * 8) (arrOf .u64 8 (ls.getD j fun _ => 0))
theorem Vecs.keep {w w' : World} {ok : Nat → Prop} {A : Option Addr} {ls : List (Nat → Nat)} (h : Vecs w ok A ls) (hk : ∀ b j, ok b → b < w.heap.size → w'.cell? ⟨b, j, none⟩ = w.cell? ⟨b, j, none⟩) : Vecs w' ok A ls :=
  ⟨fun hp => by
    obtain ⟨b, o, e, hb, hc⟩ := h.at_ hp
    refine ⟨b, o, e, hb, fun j hj i v hv => ?_⟩
    have h1 := hc j hj i v hv
    rw [hk b _ hb (World.block_lt_of_cell? w _ h1)]
    exact h1⟩
theorem Vecs.below {w w' : World} {B : Nat} {A : Option Addr} {ls : List (Nat → Nat)} (h : Vecs w (· < B) A ls) (hg : Below B w w') : Vecs w' (· < B) A ls :=
  h.keep fun b j hb _ => World.cell?_of_block (w := w) (a := ⟨b, j, none⟩) (hg.block b hb)

/-- Of each node the greatest number. -/
def joinAll (ls : List (Nat → Nat)) : Nat → Nat := ls.foldl (fun f g i => max (f i) (g i)) fun _ => 0
theorem joinAll_snoc (ls : List (Nat → Nat)) (g : Nat → Nat) : joinAll (ls ++ [g]) = fun i => max (joinAll ls i) (g i) := by simp [joinAll]
theorem joinAll_take (ls : List (Nat → Nat)) {j : Nat} (h : j < ls.length) : joinAll (ls.take (j + 1)) = fun i => max (joinAll (ls.take j) i) (ls.getD j (fun _ => 0) i) := by
  rw [List.take_add_one, List.getD_eq_getElem?_getD, List.getElem?_eq_getElem h]
  exact joinAll_snoc _ _

structure JInv (w : World) (f : Nat → Nat) (wr : World) : Prop where
  zero : wr.rowIs w.heap.size 24 8 (fun _ => .int .u64 0)
  most : wr.rowIs (w.heap.size + 1) 24 8 (fun i => .int .u64 ((f i : Nat) : Int))
  below : Below w.heap.size w wr
def mid (f g : Nat → Nat) (i j : Nat) : Nat := if j < i then max (f j) (g j) else f j
theorem JInv.congr {w wr : World} {f g : Nat → Nat} (h : JInv w f wr) (e : ∀ i, i < 8 → f i = g i) : JInv w g wr := ⟨h.zero, h.most.congr fun i hi => by rw [e i hi], h.below⟩
theorem JInv.step {w wr : World} {f g : Nat → Nat} {i : Nat} (h : JInv w (mid f g i) wr) {x : Int} (hx : x = ((max (f i) (g i) : Nat) : Int)) :
    JInv w (mid f g (i + 1)) (wr.setCell ⟨w.heap.size + 1, i, none⟩ (.int .u64 x)) := by
  subst hx
  refine ⟨h.zero.setOther (by simp) _, (h.most.set i _).congr fun j hj => ?_, h.below.setCell (by simp) _⟩
  by_cases e : j = i
  · subst e
    simp [mid]
  · simp only [if_neg e, mid]
    by_cases hl : j < i
    · rw [if_pos hl, if_pos (by omega)]
    · rw [if_neg hl, if_neg (by omega)]
theorem JInv.alloc {w wr : World} {f : Nat → Nat} (h : JInv w f wr) (o : Obj) : JInv w f (wr.alloc o) := ⟨h.zero.alloc _, h.most.alloc _, h.below.alloc h.below.size _⟩
theorem JInv.start (w : World) : JInv w (fun _ => 0) ((w.alloc (.cells (Array.replicate 8 (.int .u64 0)) 24)).alloc (.cells (Array.replicate 8 (.int .u64 0)) 24)) := by
  have hz : ∀ i, i < (Array.replicate 8 (Value.int .u64 0)).size → (Array.replicate 8 (Value.int .u64 0))[i]? = some ((fun _ : Nat => Value.int .u64 0) i) := by intro i hi; rw [Array.getElem?_eq_getElem hi]; simp
  refine ⟨?_, ?_, below2 _ _ _⟩
  · have h := World.rowIs_alloc w (Array.replicate 8 (.int .u64 0)) 24 _ hz
    simpa using h.alloc _
  · have h := World.rowIs_alloc (w.alloc (.cells (Array.replicate 8 (.int .u64 0)) 24)) (Array.replicate 8 (.int .u64 0)) 24 _ hz
    simpa using h

set_option maxHeartbeats 1000000 in
theorem join_any (ls : List (Nat → Nat)) (c : Nat) (A : Option Addr) (w : World) (hv : Vecs w (· < w.heap.size) A ls) (hm : ls.length ≤ 9223372036854775807) :
    Calls Try.prog 19 #[.slice A ls.length c] w fun e w' => e = .returned (vecV (joinAll ls)) ∧ Below w.heap.size w w' := by
  have HV := Lib.hid hv
  clear hv
  go_enter Try.func19, Try.ntmps19
  go_wp2
  have HI0 := Lib.hid (JInv.start w)
  have s24 : ∀ {f : Nat → Nat}, Hid ((Try.prog.info? 24).map (·.size) = some (arrOf .u64 8 f).size) := fun {f} => by rw [arrOf_size]; exact size24
  have ss : ∀ {f g : Nat → Nat}, Hid ((arrOf .u64 8 f).size = (arrOf .u64 8 g).size) := fun {f g} => by rw [arrOf_size, arrOf_size]; exact rfl
  go_loopw [10] (fun v wr => ∃ j : Nat, j ≤ ls.length ∧ v = .int .i64 j ∧ Hid (JInv w (joinAll (ls.take j)) wr)) (fun v _ => ls.length - (intOf v).toNat)
  case atStart => exact ⟨0, by omega, rfl, HI0⟩
  case round =>
    clear HI0
    obtain ⟨j, hj, rfl, HI⟩ := hrel
    by_cases hlt : j < ls.length
    · obtain ⟨b, o, hA, hr⟩ : ∃ b o, A = some ⟨b, o, none⟩ ∧ Hid (rangeA wr b (o + j * 8) (arrOf .u64 8 (ls.getD j fun _ => 0))) := by
        obtain ⟨b, o, e, _, hr⟩ := (HV.out.below HI.out.below).at_ (by omega)
        exact ⟨b, o, e, hr j hlt⟩
      subst hA
      obtain ⟨f, hf⟩ : ∃ f, f = ls.getD j (fun _ => 0) := ⟨_, rfl⟩
      rw [← hf] at hr
      have HF := Lib.hid hf
      clear hf
      go_wp2_with (first
        | (refine wpList_load_arr rfl 24 _ rfl b (o + j * 8) rfl (arrOf .u64 8 f) _ hr.out Try.underlying24 rfl s24.out ?_)
        | (refine wpList_store_row rfl 24 _ _ rfl wr.heap.size (arrOf .u64 8 f) rfl rfl 24 _ (heap_alloc_new _ _) s24.out (by rw [arrOf_size]; rfl) (arrOf_one _ _ _) ?_; rw [World.setRow_alloc_new])
        | (refine wpList_load_row rfl 24 _ rfl wr.heap.size rfl 24 (arrOf .u64 8 f) (0, 0) _ (heap_alloc_new _ _) Try.underlying24 rfl s24.out ?_))
      have HI1 := Lib.hid (HI.out.alloc (.cells (arrOf .u64 8 f) 24))
      have hE : ∀ i, joinAll (ls.take (j + 1)) i = max (joinAll (ls.take j) i) (f i) := fun i => by rw [joinAll_take ls hlt, HF.out]
      have HE := Lib.hid hE
      clear hr HI hE
      obtain ⟨g, hg⟩ : ∃ g, g = joinAll (ls.take j) := ⟨_, rfl⟩
      rw [← hg] at HI1 HE
      clear hg
      generalize hw1 : wr.alloc (.cells (arrOf .u64 8 f) 24) = w1 at *
      clear hw1
      go_loopw [15] (fun v wx => ∃ i : Nat, i ≤ 8 ∧ v = .int .i64 i ∧ Hid (JInv w (mid g f i) wx)) (fun v _ => 8 - (intOf v).toNat)
      case atStart => exact ⟨0, by omega, rfl, HI1.out.congr fun i _ => by simp [mid]⟩
      case round =>
        clear HI1
        obtain ⟨i, hi, rfl, HI⟩ := hrel
        by_cases hl8 : i < 8
        · have c1 := HI.out.most.cell hl8
          have f1 := HI.out.most.frozen i
          have hix := fun W => run_index_arr (P := Try.prog) 24 22 8 Try.underlying24 size22 .u64 f i hl8 agg22 W
          have e1 : mid g f i i = g i := by simp [mid]
          rw [e1] at c1
          go_wp2
          go_roundw
          case rel => exact ⟨i + 1, by omega, by go_num, HI.out.step (by split <;> omega)⟩
          case measure => simp [intOf]; omega
        · obtain rfl : i = 8 := by omega
          go_wp2
          go_roundw
          case rel => exact ⟨j + 1, by omega, by go_num, HI.out.congr fun i hi => by rw [HE.out i]; simp [mid, hi]⟩
          case measure => simp [intOf]; omega
    · obtain rfl : j = ls.length := by omega
      have hz0 := Lib.hid (row_arr (f := fun _ => 0) HI.out.zero)
      have hz := Lib.hid (row_arr HI.out.most)
      have HB := Lib.hid HI.out.below
      rw [List.take_length] at hz
      clear HI
      go_wp2_with (first
        | (refine wpList_load_row rfl 24 _ rfl (w.heap.size + 1) rfl 24 _ (0, 0) _ hz.out Try.underlying24 rfl s24.out ?_)
        | (refine wpList_store_row rfl 24 _ _ rfl w.heap.size (arrOf .u64 8 (joinAll ls)) rfl rfl 24 _ hz0.out s24.out ss.out (arrOf_one _ _ _) ?_)
        | (refine bodyPost_ret (results_cell_row Try.results19 _ _ w.heap.size 24 _ (0, 0) _ rfl (setRow_heap _ _ _ _ _ _ hz0.out) Try.underlying24 rfl s24.out) rfl ⟨rfl, below_setRow' HB.out (Nat.le_refl _) _⟩))

theorem row24 {w : World} {b : Nat} {f : Nat → Nat} (h : w.rowIs b 24 8 (fun i => .int .u64 ((f i : Nat) : Int))) : w.heap[b]? = some (.cells (arrOf .u64 8 f) 24 (0, 0)) := row_arr h

/-- Two boxed vectors and a result of noughts; the first turns. -/
structure MInv (w : World) (f g : Nat → Nat) (wr : World) : Prop where
  a : wr.rowIs w.heap.size 24 8 (fun i => .int .u64 ((f i : Nat) : Int))
  b : wr.rowIs (w.heap.size + 1) 24 8 (fun i => .int .u64 ((g i : Nat) : Int))
  zero : wr.rowIs (w.heap.size + 1 + 1) 24 8 (fun _ => .int .u64 0)
  below : Below w.heap.size w wr
theorem zero_row (w : World) : (w.alloc (.cells #[.int .u64 0, .int .u64 0, .int .u64 0, .int .u64 0, .int .u64 0, .int .u64 0, .int .u64 0, .int .u64 0] 24)).rowIs w.heap.size 24 8 (fun _ => .int .u64 0) := by
  refine World.rowIs_alloc w #[.int .u64 0, .int .u64 0, .int .u64 0, .int .u64 0, .int .u64 0, .int .u64 0, .int .u64 0, .int .u64 0] 24 (fun _ => .int .u64 0) fun i hi => ?_
  match i, hi with
  | 0, _ => rfl
  | 1, _ => rfl
  | 2, _ => rfl
  | 3, _ => rfl
  | 4, _ => rfl
  | 5, _ => rfl
  | 6, _ => rfl
  | 7, _ => rfl
theorem MInv.start (w : World) (f g : Nat → Nat) : MInv w f g (((w.alloc (.cells (arrOf .u64 8 f) 24)).alloc (.cells (arrOf .u64 8 g) 24)).alloc (.cells #[.int .u64 0, .int .u64 0, .int .u64 0, .int .u64 0, .int .u64 0, .int .u64 0, .int .u64 0, .int .u64 0] 24)) := by
  refine ⟨((vec_row w f).alloc _).alloc _, ?_, ?_, (below2 _ _ _).alloc (by simp; omega) _⟩
  · have h := vec_row (w.alloc (.cells (arrOf .u64 8 f) 24)) g
    simpa using h.alloc _
  · have h := zero_row ((w.alloc (.cells (arrOf .u64 8 f) 24)).alloc (.cells (arrOf .u64 8 g) 24))
    simpa using h
def midMin (f g : Nat → Nat) (i j : Nat) : Nat := if j < i then min (f j) (g j) else f j
theorem MInv.step {w wr : World} {f g : Nat → Nat} {i : Nat} (h : MInv w (midMin f g i) g wr) {x : Int} (hx : x = ((min (f i) (g i) : Nat) : Int)) :
    MInv w (midMin f g (i + 1)) g (wr.setCell ⟨w.heap.size, i, none⟩ (.int .u64 x)) := by
  subst hx
  refine ⟨(h.a.set i _).congr fun j hj => ?_, h.b.setOther (by simp) _, h.zero.setOther (by simp; omega) _, h.below.setCell (by simp) _⟩
  by_cases e : j = i
  · subst e
    simp [midMin]
  · simp only [if_neg e, midMin]
    by_cases hl : j < i
    · rw [if_pos hl, if_pos (by omega)]
    · rw [if_neg hl, if_neg (by omega)]
theorem MInv.congr {w wr : World} {f f' g : Nat → Nat} (h : MInv w f g wr) (e : ∀ i, i < 8 → f i = f' i) : MInv w f' g wr := ⟨h.a.congr fun i hi => by rw [e i hi], h.b, h.zero, h.below⟩

set_option maxHeartbeats 1000000 in
theorem meet_any (f g : Nat → Nat) (w : World) : Calls Try.prog 21 #[vecV f, vecV g] w fun e w' => e = .returned (vecV fun i => min (f i) (g i)) ∧ Below w.heap.size w w' := by
  have HI0 := Lib.hid (MInv.start w f g)
  have s24 : ∀ {f : Nat → Nat}, Hid ((Try.prog.info? 24).map (·.size) = some (arrOf .u64 8 f).size) := fun {f} => by rw [arrOf_size]; exact size24
  have ss : ∀ {f g : Nat → Nat}, Hid ((arrOf .u64 8 f).size = (arrOf .u64 8 g).size) := fun {f g} => by rw [arrOf_size, arrOf_size]; exact rfl
  go_enter Try.func21, Try.ntmps21
  go_wp2_with (refine wpList_load_row rfl 24 _ rfl (w.heap.size + 1) rfl 24 (arrOf .u64 8 g) (0, 0) _ (row24 HI0.out.b) Try.underlying24 rfl s24.out ?_)
  go_loopw [8] (fun v wx => ∃ i : Nat, i ≤ 8 ∧ v = .int .i64 i ∧ Hid (MInv w (midMin f g i) g wx)) (fun v _ => 8 - (intOf v).toNat)
  case atStart => exact ⟨0, by omega, rfl, HI0.out.congr fun i _ => by simp [midMin]⟩
  case round =>
    clear HI0
    obtain ⟨i, hi, rfl, HI⟩ := hrel
    by_cases hl8 : i < 8
    · have c1 := HI.out.a.cell hl8
      have f1 := HI.out.a.frozen i
      have hix := fun W => run_index_arr (P := Try.prog) 24 22 8 Try.underlying24 size22 .u64 g i hl8 agg22 W
      have e1 : midMin f g i i = f i := by simp [midMin]
      rw [e1] at c1
      go_wp2
      go_roundw
      case rel => exact ⟨i + 1, by omega, by go_num, HI.out.step (by split <;> omega)⟩
      case measure => simp [intOf]; omega
    · obtain rfl : i = 8 := by omega
      have e8 : ∀ i, i < 8 → midMin f g 8 i = min (f i) (g i) := fun i hi => by simp [midMin, hi]
      have ha := Lib.hid (row24 (HI.out.congr e8).a)
      have hz0 := Lib.hid (row24 (f := fun _ => 0) HI.out.zero)
      have HB := Lib.hid HI.out.below
      clear HI
      go_wp2_with (first
        | (refine wpList_load_row rfl 24 _ rfl w.heap.size rfl 24 _ (0, 0) _ ha.out Try.underlying24 rfl s24.out ?_)
        | (refine wpList_store_row rfl 24 _ _ rfl (w.heap.size + 1 + 1) (arrOf .u64 8 fun i => min (f i) (g i)) rfl rfl 24 _ hz0.out s24.out ss.out (arrOf_one _ _ _) ?_)
        | (refine bodyPost_ret (results_cell_row Try.results21 _ _ (w.heap.size + 1 + 1) 24 _ (0, 0) _ rfl (setRow_heap _ _ _ _ _ _ hz0.out) Try.underlying24 rfl s24.out) rfl ⟨rfl, below_setRow' HB.out (by omega) _⟩))

/-- The reference's Join and Meet: a, b boxed, a result of noughts, and out. -/
structure OInv (w : World) (f g h : Nat → Nat) (wr : World) : Prop where
  a : wr.rowIs w.heap.size 24 8 (fun i => .int .u64 ((f i : Nat) : Int))
  b : wr.rowIs (w.heap.size + 1) 24 8 (fun i => .int .u64 ((g i : Nat) : Int))
  zero : wr.rowIs (w.heap.size + 1 + 1) 24 8 (fun _ => .int .u64 0)
  out_ : wr.rowIs (w.heap.size + 1 + 1 + 1) 24 8 (fun i => .int .u64 ((h i : Nat) : Int))
  below : Below w.heap.size w wr
theorem OInv.start (w : World) (f g : Nat → Nat) : OInv w f g f ((((w.alloc (.cells (arrOf .u64 8 f) 24)).alloc (.cells (arrOf .u64 8 g) 24)).alloc (.cells #[.int .u64 0, .int .u64 0, .int .u64 0, .int .u64 0, .int .u64 0, .int .u64 0, .int .u64 0, .int .u64 0] 24)).alloc (.cells (arrOf .u64 8 f) 24)) := by
  have h := MInv.start w f g
  refine ⟨h.a.alloc _, h.b.alloc _, h.zero.alloc _, ?_, h.below.alloc h.below.size _⟩
  simpa using vec_row (((w.alloc (.cells (arrOf .u64 8 f) 24)).alloc (.cells (arrOf .u64 8 g) 24)).alloc (.cells #[.int .u64 0, .int .u64 0, .int .u64 0, .int .u64 0, .int .u64 0, .int .u64 0, .int .u64 0, .int .u64 0] 24)) f
def midOf (p f : Nat → Nat) (i j : Nat) : Nat := if j < i then p j else f j
theorem midOf_next {p f : Nat → Nat} {i j : Nat} (h : j = i → p j = f j) : midOf p f i j = midOf p f (i + 1) j := by
  unfold midOf
  by_cases e : j = i
  · rw [if_neg (by omega), if_pos (by omega), h e]
  · by_cases hl : j < i
    · rw [if_pos hl, if_pos (by omega)]
    · rw [if_neg hl, if_neg (by omega)]
theorem OInv.congr {w wr : World} {f g h h' : Nat → Nat} (I : OInv w f g h wr) (e : ∀ i, i < 8 → h i = h' i) : OInv w f g h' wr := ⟨I.a, I.b, I.zero, I.out_.congr fun i hi => by rw [e i hi], I.below⟩
theorem OInv.step {w wr : World} {f g p q : Nat → Nat} {i : Nat} (I : OInv w f g (midOf p q i) wr) {x : Int} (hx : x = ((p i : Nat) : Int)) :
    OInv w f g (midOf p q (i + 1)) (wr.setCell ⟨w.heap.size + 1 + 1 + 1, i, none⟩ (.int .u64 x)) := by
  subst hx
  refine ⟨I.a.setOther (by simp; omega) _, I.b.setOther (by simp) _, I.zero.setOther (by simp) _, (I.out_.set i _).congr fun j hj => ?_, I.below.setCell (by simp; omega) _⟩
  by_cases e : j = i
  · subst e
    simp [midOf]
  · rw [if_neg e, midOf_next (fun h => absurd h e)]
theorem OInv.drewN {w wr : World} {f g h : Nat → Nat} (I : OInv w f g h wr) (n : Nat) : OInv w f g h (wr.drewN n) := ⟨I.a, I.b, I.zero, I.out_, ⟨I.below.os, I.below.tape, I.below.output, I.below.size, I.below.block⟩⟩
theorem OInv.drew {w wr : World} {f g h : Nat → Nat} (I : OInv w f g h wr) : OInv w f g h wr.drew := I.drewN 1

theorem lit_size (f : Nat → Nat) : (#[.int .u64 0, .int .u64 0, .int .u64 0, .int .u64 0, .int .u64 0, .int .u64 0, .int .u64 0, .int .u64 0] : Array Value).size = (arrOf .u64 8 f).size := by rw [arrOf_size]; rfl
theorem size3 (w : World) (o1 o2 o3 : Obj) : (((w.alloc o1).alloc o2).alloc o3).heap.size = w.heap.size + 1 + 1 + 1 := by simp
theorem new3 (w : World) (o1 o2 o3 o4 : Obj) : ((((w.alloc o1).alloc o2).alloc o3).alloc o4).heap[w.heap.size + 1 + 1 + 1]? = some o4 := by
  rw [← size3 w o1 o2 o3]; exact heap_alloc_new _ _
theorem set3 (w : World) (o1 o2 o3 : Obj) (c c' : Array Value) (t : TypeId) : ((((w.alloc o1).alloc o2).alloc o3).alloc (.cells c t)).setRow (w.heap.size + 1 + 1 + 1) c' = (((w.alloc o1).alloc o2).alloc o3).alloc (.cells c' t) := by
  rw [← size3 w o1 o2 o3]; exact World.setRow_alloc_new _ _ _ _

set_option maxHeartbeats 1000000 in
theorem joinR_any (f g : Nat → Nat) (w : World) : Calls Try.prog 20 #[vecV f, vecV g] w fun e w' => e = .returned (vecV fun i => max (f i) (g i)) ∧ Below w.heap.size w w' := by
  have HI0 := Lib.hid (OInv.start w f g)
  have hN := Lib.hid (new3 w (.cells (arrOf .u64 8 f) 24) (.cells (arrOf .u64 8 g) 24) (.cells #[.int .u64 0, .int .u64 0, .int .u64 0, .int .u64 0, .int .u64 0, .int .u64 0, .int .u64 0, .int .u64 0] 24) (.cells #[.int .u64 0, .int .u64 0, .int .u64 0, .int .u64 0, .int .u64 0, .int .u64 0, .int .u64 0, .int .u64 0] 24))
  have hZs := Lib.hid (lit_size f)
  have hL := Lib.hid (row24 (MInv.start w f g).a)
  have s24 : ∀ {f : Nat → Nat}, Hid ((Try.prog.info? 24).map (·.size) = some (arrOf .u64 8 f).size) := fun {f} => by rw [arrOf_size]; exact size24
  have ss : ∀ {f g : Nat → Nat}, Hid ((arrOf .u64 8 f).size = (arrOf .u64 8 g).size) := fun {f g} => by rw [arrOf_size, arrOf_size]; exact rfl
  go_enter Try.func20, Try.ntmps20
  go_wp2_with (first
    | (refine wpList_load_row rfl 24 _ rfl w.heap.size rfl 24 (arrOf .u64 8 f) (0, 0) _ hL.out Try.underlying24 rfl s24.out ?_)
    | (refine wpList_store_row rfl 24 _ _ rfl (w.heap.size + 1 + 1 + 1) (arrOf .u64 8 f) rfl rfl 24 _ hN.out s24.out hZs.out (arrOf_one _ _ _) ?_; rw [set3]))
  generalize ((((w.alloc (.cells (arrOf .u64 8 f) 24)).alloc (.cells (arrOf .u64 8 g) 24)).alloc (.cells #[.int .u64 0, .int .u64 0, .int .u64 0, .int .u64 0, .int .u64 0, .int .u64 0, .int .u64 0, .int .u64 0] 24)).alloc (.cells (arrOf .u64 8 f) 24)) = w1 at *
  go_loopw [6] (fun v wx => ∃ i : Nat, i ≤ 8 ∧ v = .int .i64 i ∧ Hid (OInv w f g (midOf (fun i => max (f i) (g i)) f i) wx)) (fun v _ => 8 - (intOf v).toNat)
  case atStart => exact ⟨0, by omega, rfl, HI0.out.congr fun i _ => by simp [midOf]⟩
  case round =>
    clear HI0
    obtain ⟨i, hi, rfl, HI⟩ := hrel
    by_cases hl8 : i < 8
    · have c1 := HI.out.a.cell hl8
      have c2 := HI.out.b.cell hl8
      have f1 := HI.out.out_.frozen i
      have c3 := HI.out.out_.cell hl8
      by_cases hc : f i < g i
      · have hci : (f i : Int) < (g i : Int) := by omega
        go_wp2
        go_region
        go_wp2
        go_roundw
        case rel => exact ⟨i + 1, by omega, by go_num, (HI.out.drew.step (by omega))⟩
        case measure => simp [intOf]; omega
      · have hci : ¬ ((f i : Int) < (g i : Int)) := by omega
        go_wp2
        go_region
        go_wp2
        go_roundw
        case rel => exact ⟨i + 1, by omega, by go_num, HI.out.drew.congr fun j _ => midOf_next (by rintro rfl; omega)⟩
        case measure => simp [intOf]; omega
    · obtain rfl : i = 8 := by omega
      have e8 : ∀ i, i < 8 → midOf (fun i => max (f i) (g i)) f 8 i = max (f i) (g i) := fun i hi => by simp [midOf, hi]
      have ha := Lib.hid (row24 (HI.out.congr e8).out_)
      have hz0 := Lib.hid (row24 (f := fun _ => 0) HI.out.zero)
      have HB := Lib.hid HI.out.below
      clear HI
      go_wp2_with (first
        | (refine wpList_load_row rfl 24 _ rfl (w.heap.size + 1 + 1 + 1) rfl 24 _ (0, 0) _ ha.out Try.underlying24 rfl s24.out ?_)
        | (refine wpList_store_row rfl 24 _ _ rfl (w.heap.size + 1 + 1) (arrOf .u64 8 fun i => max (f i) (g i)) rfl rfl 24 _ hz0.out s24.out ss.out (arrOf_one _ _ _) ?_)
        | (refine bodyPost_ret (results_cell_row Try.results20 _ _ (w.heap.size + 1 + 1) 24 _ (0, 0) _ rfl (setRow_heap _ _ _ _ _ _ hz0.out) Try.underlying24 rfl s24.out) rfl ⟨rfl, below_setRow' HB.out (by omega) _⟩))

set_option maxHeartbeats 1000000 in
theorem meetR_any (f g : Nat → Nat) (w : World) : Calls Try.prog 22 #[vecV f, vecV g] w fun e w' => e = .returned (vecV fun i => min (f i) (g i)) ∧ Below w.heap.size w w' := by
  have HI0 := Lib.hid (OInv.start w f g)
  have hN := Lib.hid (new3 w (.cells (arrOf .u64 8 f) 24) (.cells (arrOf .u64 8 g) 24) (.cells #[.int .u64 0, .int .u64 0, .int .u64 0, .int .u64 0, .int .u64 0, .int .u64 0, .int .u64 0, .int .u64 0] 24) (.cells #[.int .u64 0, .int .u64 0, .int .u64 0, .int .u64 0, .int .u64 0, .int .u64 0, .int .u64 0, .int .u64 0] 24))
  have hZs := Lib.hid (lit_size f)
  have hL := Lib.hid (row24 (MInv.start w f g).a)
  have s24 : ∀ {f : Nat → Nat}, Hid ((Try.prog.info? 24).map (·.size) = some (arrOf .u64 8 f).size) := fun {f} => by rw [arrOf_size]; exact size24
  have ss : ∀ {f g : Nat → Nat}, Hid ((arrOf .u64 8 f).size = (arrOf .u64 8 g).size) := fun {f g} => by rw [arrOf_size, arrOf_size]; exact rfl
  go_enter Try.func22, Try.ntmps22
  go_wp2_with (first
    | (refine wpList_load_row rfl 24 _ rfl w.heap.size rfl 24 (arrOf .u64 8 f) (0, 0) _ hL.out Try.underlying24 rfl s24.out ?_)
    | (refine wpList_store_row rfl 24 _ _ rfl (w.heap.size + 1 + 1 + 1) (arrOf .u64 8 f) rfl rfl 24 _ hN.out s24.out hZs.out (arrOf_one _ _ _) ?_; rw [set3]))
  generalize ((((w.alloc (.cells (arrOf .u64 8 f) 24)).alloc (.cells (arrOf .u64 8 g) 24)).alloc (.cells #[.int .u64 0, .int .u64 0, .int .u64 0, .int .u64 0, .int .u64 0, .int .u64 0, .int .u64 0, .int .u64 0] 24)).alloc (.cells (arrOf .u64 8 f) 24)) = w1 at *
  go_loopw [6] (fun v wx => ∃ i : Nat, i ≤ 8 ∧ v = .int .i64 i ∧ Hid (OInv w f g (midOf (fun i => min (f i) (g i)) f i) wx)) (fun v _ => 8 - (intOf v).toNat)
  case atStart => exact ⟨0, by omega, rfl, HI0.out.congr fun i _ => by simp [midOf]⟩
  case round =>
    clear HI0
    obtain ⟨i, hi, rfl, HI⟩ := hrel
    by_cases hl8 : i < 8
    · have c1 := HI.out.a.cell hl8
      have c2 := HI.out.b.cell hl8
      have f1 := HI.out.out_.frozen i
      have c3 := HI.out.out_.cell hl8
      by_cases hc : g i < f i
      · have hci : (g i : Int) < (f i : Int) := by omega
        go_wp2
        go_region
        go_wp2
        go_roundw
        case rel => exact ⟨i + 1, by omega, by go_num, (HI.out.drew.step (by omega))⟩
        case measure => simp [intOf]; omega
      · have hci : ¬ ((g i : Int) < (f i : Int)) := by omega
        go_wp2
        go_region
        go_wp2
        go_roundw
        case rel => exact ⟨i + 1, by omega, by go_num, HI.out.drew.congr fun j _ => midOf_next (by rintro rfl; omega)⟩
        case measure => simp [intOf]; omega
    · obtain rfl : i = 8 := by omega
      have e8 : ∀ i, i < 8 → midOf (fun i => min (f i) (g i)) f 8 i = min (f i) (g i) := fun i hi => by simp [midOf, hi]
      have ha := Lib.hid (row24 (HI.out.congr e8).out_)
      have hz0 := Lib.hid (row24 (f := fun _ => 0) HI.out.zero)
      have HB := Lib.hid HI.out.below
      clear HI
      go_wp2_with (first
        | (refine wpList_load_row rfl 24 _ rfl (w.heap.size + 1 + 1 + 1) rfl 24 _ (0, 0) _ ha.out Try.underlying24 rfl s24.out ?_)
        | (refine wpList_store_row rfl 24 _ _ rfl (w.heap.size + 1 + 1) (arrOf .u64 8 fun i => min (f i) (g i)) rfl rfl 24 _ hz0.out s24.out ss.out (arrOf_one _ _ _) ?_)
        | (refine bodyPost_ret (results_cell_row Try.results22 _ _ (w.heap.size + 1 + 1) 24 _ (0, 0) _ rfl (setRow_heap _ _ _ _ _ _ hz0.out) Try.underlying24 rfl s24.out) rfl ⟨rfl, below_setRow' HB.out (by omega) _⟩))
end Go.Proofs.Ytlakienebicahaa
