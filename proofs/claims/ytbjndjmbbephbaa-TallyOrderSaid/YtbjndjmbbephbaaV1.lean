/- Join of vec, over a slice of vectors; small lemmas on arrays (from the texts of layer 3). -/
import Derived.Test.YtbjndjmbbephbaaRows
import Derived.Test.YtbjndjmbbephbaaEq
namespace Go.Proofs.Ytbjndjmbbephbaa
open Go.RowKit

theorem below1 (w : World) (o : Obj) : Below w.heap.size w (w.alloc o) := (Below.refl _ _).alloc (Nat.le_refl _) _
theorem below2 (w : World) (o p : Obj) : Below w.heap.size w ((w.alloc o).alloc p) := (below1 w o).alloc (by simp) _
theorem ret_bool {a b : Bool} (h : a = b) : Ending.returned (.bool a) = .returned (.bool b) := by rw [h]

/-- The vector whose numbers are f. -/
abbrev vecV (f : Nat → Nat) : Value := .agg (arrOf .u64 8 f)
theorem run_index_arr {P : Program} (t e : TypeId) (L : Nat) (hu : P.underlying t = some (.array L e)) (hs : (P.info? e).map (·.size) = some 1) (k : IntKind) (f : Nat → Nat) (i : Nat) (hi : i < L) (hag : ∀ w, (isAgg e).run P w = .ok false w) (w : World) :
    (Instr.index t (.agg (arrOf k L f)) (.int .i64 (i : Int))).run P w = .ok (.int k ((f i : Nat) : Int)) w := by
  cases hq : P.info? e with
  | none => simp [hq] at hs
  | some j =>
    have hj : j.size = 1 := by simpa [hq] using hs
    have hg := arrOf_get k f hi
    simp [Instr.index, Sem.run_bind, run_underlying hu w, Result.andThen, asIntOf, hi, sizeOf, typeInfo, hq, hj, part, hg, hag]
theorem agg22 (w : World) : (isAgg 22).run Try.prog w = .ok false w := by kernel_rfl
theorem size22 : (Try.prog.info? 22).map (·.size) = some 1 := by kernel_rfl
theorem size24 : (Try.prog.info? 24).map (·.size) = some 8 := by kernel_rfl
theorem vec_row (w : World) (f : Nat → Nat) : (w.alloc (.cells (arrOf .u64 8 f) 24)).rowIs w.heap.size 24 8 (fun i => .int .u64 ((f i : Nat) : Int)) := arr_row (heap_alloc_new _ _)
/-- A slice of vectors; its block (where it has an element) meets 'ok'. -/
structure Vecs (w : World) (ok : Nat → Prop) (A : Option Addr) (ls : List (Nat → Nat)) : Prop where
  at_ : 0 < ls.length → ∃ b o, A = some ⟨b, o, none⟩ ∧ ok b ∧ ∀ j, j < ls.length → rangeA w b (o + j * 8) (arrOf .u64 8 (ls.getD j fun _ => 0))
theorem Vecs.keep {w w' : World} {ok : Nat → Prop} {A : Option Addr} {ls : List (Nat → Nat)} (h : Vecs w ok A ls) (hk : ∀ b j, ok b → b < w.heap.size → w'.cell? ⟨b, j, none⟩ = w.cell? ⟨b, j, none⟩) : Vecs w' ok A ls :=
  ⟨fun hp => by
    obtain ⟨b, o, e, hb, hc⟩ := h.at_ hp
    refine ⟨b, o, e, hb, fun j hj i v hv => ?_⟩
    have h1 := hc j hj i v hv
    rw [hk b _ hb (World.block_lt_of_cell? w _ h1)]
    exact h1⟩
theorem Vecs.below {w w' : World} {B : Nat} {A : Option Addr} {ls : List (Nat → Nat)} (h : Vecs w (· < B) A ls) (hg : Below B w w') : Vecs w' (· < B) A ls :=
  h.keep fun b j hb _ => World.cell?_of_block (w := w) (a := ⟨b, j, none⟩) (hg.block b hb)

/-- Of each node the greatest number. -/
def joinAll (ls : List (Nat → Nat)) : Nat → Nat := ls.foldl (fun f g i => max (f i) (g i)) fun _ => 0
theorem joinAll_snoc (ls : List (Nat → Nat)) (g : Nat → Nat) : joinAll (ls ++ [g]) = fun i => max (joinAll ls i) (g i) := by simp [joinAll]
theorem joinAll_take (ls : List (Nat → Nat)) {j : Nat} (h : j < ls.length) : joinAll (ls.take (j + 1)) = fun i => max (joinAll (ls.take j) i) (ls.getD j (fun _ => 0) i) := by
  rw [List.take_add_one, List.getD_eq_getElem?_getD, List.getElem?_eq_getElem h]
  exact joinAll_snoc _ _

structure JInv (w : World) (f : Nat → Nat) (wr : World) : Prop where
  zero : wr.rowIs w.heap.size 24 8 (fun _ => .int .u64 0)
  most : wr.rowIs (w.heap.size + 1) 24 8 (fun i => .int .u64 ((f i : Nat) : Int))
  below : Below w.heap.size w wr
def mid (f g : Nat → Nat) (i j : Nat) : Nat := if j < i then max (f j) (g j) else f j
theorem JInv.congr {w wr : World} {f g : Nat → Nat} (h : JInv w f wr) (e : ∀ i, i < 8 → f i = g i) : JInv w g wr := ⟨h.zero, h.most.congr fun i hi => by rw [e i hi], h.below⟩
theorem JInv.step {w wr : World} {f g : Nat → Nat} {i : Nat} (h : JInv w (mid f g i) wr) {x : Int} (hx : x = ((max (f i) (g i) : Nat) : Int)) :
    JInv w (mid f g (i + 1)) (wr.setCell ⟨w.heap.size + 1, i, none⟩ (.int .u64 x)) := by
  subst hx
  refine ⟨h.zero.setOther (by simp) _, (h.most.set i _).congr fun j hj => ?_, h.below.setCell (by simp) _⟩
  by_cases e : j = i
  · subst e
    simp [mid]
  · simp only [if_neg e, mid]
    by_cases hl : j < i
    · rw [if_pos hl, if_pos (by omega)]
    · rw [if_neg hl, if_neg (by omega)]
theorem JInv.alloc {w wr : World} {f : Nat → Nat} (h : JInv w f wr) (o : Obj) : JInv w f (wr.alloc o) := ⟨h.zero.alloc _, h.most.alloc _, h.below.alloc h.below.size _⟩
theorem JInv.start (w : World) : JInv w (fun _ => 0) ((w.alloc (.cells (Array.replicate 8 (.int .u64 0)) 24)).alloc (.cells (Array.replicate 8 (.int .u64 0)) 24)) := by
  have hz : ∀ i, i < (Array.replicate 8 (Value.int .u64 0)).size → (Array.replicate 8 (Value.int .u64 0))[i]? = some ((fun _ : Nat => Value.int .u64 0) i) := by intro i hi; rw [Array.getElem?_eq_getElem hi]; simp
  refine ⟨?_, ?_, below2 _ _ _⟩
  · have h := World.rowIs_alloc w (Array.replicate 8 (.int .u64 0)) 24 _ hz
    simpa using h.alloc _
  · have h := World.rowIs_alloc (w.alloc (.cells (Array.replicate 8 (.int .u64 0)) 24)) (Array.replicate 8 (.int .u64 0)) 24 _ hz
    simpa using h

set_option maxHeartbeats 1000000 in
theorem join_any (ls : List (Nat → Nat)) (c : Nat) (A : Option Addr) (w : World) (hv : Vecs w (· < w.heap.size) A ls) (hm : ls.length ≤ 9223372036854775807) :
    Calls Try.prog 22 #[.slice A ls.length c] w fun e w' => e = .returned (vecV (joinAll ls)) ∧ Below w.heap.size w w' := by
  have HV := Lib.hid hv
  clear hv
  go_enter Try.func22, Try.ntmps22
  go_wp2
  have HI0 := Lib.hid (JInv.start w)
  have s24 : ∀ {f : Nat → Nat}, Hid ((Try.prog.info? 24).map (·.size) = some (arrOf .u64 8 f).size) := fun {f} => by rw [arrOf_size]; exact size24
  have ss : ∀ {f g : Nat → Nat}, Hid ((arrOf .u64 8 f).size = (arrOf .u64 8 g).size) := fun {f g} => by rw [arrOf_size, arrOf_size]; exact rfl
  go_loopw [10] (fun v wr => ∃ j : Nat, j ≤ ls.length ∧ v = .int .i64 j ∧ Hid (JInv w (joinAll (ls.take j)) wr)) (fun v _ => ls.length - (intOf v).toNat)
  case atStart => exact ⟨0, by omega, rfl, HI0⟩
  case round =>
    clear HI0
    obtain ⟨j, hj, rfl, HI⟩ := hrel
    by_cases hlt : j < ls.length
    · obtain ⟨b, o, hA, hr⟩ : ∃ b o, A = some ⟨b, o, none⟩ ∧ Hid (rangeA wr b (o + j * 8) (arrOf .u64 8 (ls.getD j fun _ => 0))) := by
        obtain ⟨b, o, e, _, hr⟩ := (HV.out.below HI.out.below).at_ (by omega)
        exact ⟨b, o, e, hr j hlt⟩
      subst hA
      obtain ⟨f, hf⟩ : ∃ f, f = ls.getD j (fun _ => 0) := ⟨_, rfl⟩
      rw [← hf] at hr
      have HF := Lib.hid hf
      clear hf
      go_wp2_with (first
        | (refine wpList_load_arr rfl 24 _ rfl b (o + j * 8) rfl (arrOf .u64 8 f) _ hr.out Try.underlying24 rfl s24.out ?_)
        | (refine wpList_store_row rfl 24 _ _ rfl wr.heap.size (arrOf .u64 8 f) rfl rfl 24 _ (heap_alloc_new _ _) s24.out (by rw [arrOf_size]; rfl) (arrOf_one _ _ _) ?_; rw [World.setRow_alloc_new])
        | (refine wpList_load_row rfl 24 _ rfl wr.heap.size rfl 24 (arrOf .u64 8 f) (0, 0) _ (heap_alloc_new _ _) Try.underlying24 rfl s24.out ?_))
      have HI1 := Lib.hid (HI.out.alloc (.cells (arrOf .u64 8 f) 24))
      have hE : ∀ i, joinAll (ls.take (j + 1)) i = max (joinAll (ls.take j) i) (f i) := fun i => by rw [joinAll_take ls hlt, HF.out]
      have HE := Lib.hid hE
      clear hr HI hE
      obtain ⟨g, hg⟩ : ∃ g, g = joinAll (ls.take j) := ⟨_, rfl⟩
      rw [← hg] at HI1 HE
      clear hg
      generalize hw1 : wr.alloc (.cells (arrOf .u64 8 f) 24) = w1 at *
      clear hw1
      go_loopw [15] (fun v wx => ∃ i : Nat, i ≤ 8 ∧ v = .int .i64 i ∧ Hid (JInv w (mid g f i) wx)) (fun v _ => 8 - (intOf v).toNat)
      case atStart => exact ⟨0, by omega, rfl, HI1.out.congr fun i _ => by simp [mid]⟩
      case round =>
        clear HI1
        obtain ⟨i, hi, rfl, HI⟩ := hrel
        by_cases hl8 : i < 8
        · have c1 := HI.out.most.cell hl8
          have f1 := HI.out.most.frozen i
          have hix := fun W => run_index_arr (P := Try.prog) 24 22 8 Try.underlying24 size22 .u64 f i hl8 agg22 W
          have e1 : mid g f i i = g i := by simp [mid]
          rw [e1] at c1
          go_wp2
          go_roundw
          case rel => exact ⟨i + 1, by omega, by go_num, HI.out.step (by split <;> omega)⟩
          case measure => simp [intOf]; omega
        · obtain rfl : i = 8 := by omega
          go_wp2
          go_roundw
          case rel => exact ⟨j + 1, by omega, by go_num, HI.out.congr fun i hi => by rw [HE.out i]; simp [mid, hi]⟩
          case measure => simp [intOf]; omega
    · obtain rfl : j = ls.length := by omega
      have hz0 := Lib.hid (row_arr (f := fun _ => 0) HI.out.zero)
      have hz := Lib.hid (row_arr HI.out.most)
      have HB := Lib.hid HI.out.below
      rw [List.take_length] at hz
      clear HI
      go_wp2_with (first
        | (refine wpList_load_row rfl 24 _ rfl (w.heap.size + 1) rfl 24 _ (0, 0) _ hz.out Try.underlying24 rfl s24.out ?_)
        | (refine wpList_store_row rfl 24 _ _ rfl w.heap.size (arrOf .u64 8 (joinAll ls)) rfl rfl 24 _ hz0.out s24.out ss.out (arrOf_one _ _ _) ?_)
        | (refine bodyPost_ret (results_cell_row Try.results22 _ _ w.heap.size 24 _ (0, 0) _ rfl (setRow_heap _ _ _ _ _ _ hz0.out) Try.underlying24 rfl s24.out) rfl ⟨rfl, below_setRow' HB.out (Nat.le_refl _) _⟩))

theorem row24 {w : World} {b : Nat} {f : Nat → Nat} (h : w.rowIs b 24 8 (fun i => .int .u64 ((f i : Nat) : Int))) : w.heap[b]? = some (.cells (arrOf .u64 8 f) 24 (0, 0)) := row_arr h

theorem zero_row (w : World) : (w.alloc (.cells #[.int .u64 0, .int .u64 0, .int .u64 0, .int .u64 0, .int .u64 0, .int .u64 0, .int .u64 0, .int .u64 0] 24)).rowIs w.heap.size 24 8 (fun _ => .int .u64 0) := by
  refine World.rowIs_alloc w #[.int .u64 0, .int .u64 0, .int .u64 0, .int .u64 0, .int .u64 0, .int .u64 0, .int .u64 0, .int .u64 0] 24 (fun _ => .int .u64 0) fun i hi => ?_
  match i, hi with
  | 0, _ => rfl
  | 1, _ => rfl
  | 2, _ => rfl
  | 3, _ => rfl
  | 4, _ => rfl
  | 5, _ => rfl
  | 6, _ => rfl
  | 7, _ => rfl
theorem arr8 (f : Nat → Nat) : arrOf .u64 8 f = #[.int .u64 (f 0 : Int), .int .u64 (f 1 : Int), .int .u64 (f 2 : Int), .int .u64 (f 3 : Int), .int .u64 (f 4 : Int), .int .u64 (f 5 : Int), .int .u64 (f 6 : Int), .int .u64 (f 7 : Int)] := rfl
def cells16 (f g : Nat → Nat) : Array Value := arrOf .u64 16 fun i => if i < 8 then f i else g (i - 8)
theorem run_two (f g : Nat → Nat) (x : World) : (Instr.buildSlice 64 2 #[(0, .agg (arrOf .u64 8 f)), (1, .agg (arrOf .u64 8 g))]).run Try.prog x = .ok (.slice (some ⟨x.heap.size, 0, none⟩) 2 2) (x.alloc (.cells (cells16 f g) 24)) := by
  have e : cells16 f g = #[.int .u64 (f 0 : Int), .int .u64 (f 1 : Int), .int .u64 (f 2 : Int), .int .u64 (f 3 : Int), .int .u64 (f 4 : Int), .int .u64 (f 5 : Int), .int .u64 (f 6 : Int), .int .u64 (f 7 : Int), .int .u64 (g 0 : Int), .int .u64 (g 1 : Int), .int .u64 (g 2 : Int), .int .u64 (g 3 : Int), .int .u64 (g 4 : Int), .int .u64 (g 5 : Int), .int .u64 (g 6 : Int), .int .u64 (g 7 : Int)] := rfl
  rw [e, arr8, arr8]
  go_simp
theorem exec_build {P : Program} {ev : Operand → Value} {o : Oper} {w w' : World} {v : Value} (t : TypeId) (n : Nat) (ps : Array (Nat × Operand)) (ho : o.op = .buildSlice t n ps) (vs : Array (Nat × Value)) (hv : ps.map (fun p => (p.1, ev p.2)) = vs)
    (h : (Instr.buildSlice t n vs).run P w = .ok v w') : (execOp ev o).run P w = .ok (.value v) w' := by
  unfold execOp
  simp only [ho, hv, Sem.run_bind, h, Result.andThen_ok, Sem.run_pure]

/-- A slice of vectors as a value. -/
def PV (ls : List (Nat → Nat)) (v : Value) (x : World) : Prop := ∃ A c, v = .slice A ls.length c ∧ Vecs x (· < x.heap.size) A ls
theorem PV.up {ls : List (Nat → Nat)} {v : Value} {x y : World} (h : Below x.heap.size x y) : PV ls v x → PV ls v y := fun ⟨A, c, e, hv⟩ => ⟨A, c, e, ⟨fun hp => by
  obtain ⟨b, o, e, hb, hr⟩ := (hv.below h).at_ hp
  exact ⟨b, o, e, Nat.lt_of_lt_of_le hb h.size, hr⟩⟩⟩
theorem pv_two (f g : Nat → Nat) (x : World) : PV [f, g] (.slice (some ⟨x.heap.size, 0, none⟩) 2 2) (x.alloc (.cells (cells16 f g) 24)) := by
  refine ⟨_, 2, rfl, ⟨fun _ => ⟨_, _, rfl, by simp, fun j hj => rangeA_arr fun i hi => ?_⟩⟩⟩
  rw [cell_of_row _ _ _ _ _ _ (heap_alloc_new _ _), cells16, arrOf_get _ _ (by simp at hj; omega)]
  match j, hj with
  | 0, _ => simp [hi]
  | 1, _ =>
    have : ¬ (8 + i < 8) := by omega
    simp [this]
theorem join_pv {f g : Nat → Nat} {v : Value} {x : World} (h : PV [f, g] v x) : Calls Try.prog 22 #[v] x fun e w' => e = .returned (vecV fun i => max (f i) (g i)) ∧ Below x.heap.size x w' := by
  obtain ⟨A, c, rfl, hv⟩ := h
  refine (join_any [f, g] c A x hv (by simp)).mono ?_
  rintro e y ⟨rfl, hg⟩
  refine ⟨?_, hg⟩
  rw [show joinAll [f, g] = fun i => max (f i) (g i) by funext i; simp [joinAll]]
theorem exec_load {P : Program} {ev : Operand → Value} {o : Oper} {w w' : World} {v : Value} (ty : TypeId) (x : Operand) (ho : o.op = .load ty x) (b off : Nat) (hx : ev x = .pointer (some ⟨b, off, none⟩))
    (hl : (loadVar ty ⟨b, off, none⟩).run P w = .ok v w') : (execOp ev o).run P w = .ok (.value v) w' := by
  unfold execOp
  simp only [ho, hx, Instr.loadAt, Instr.sureAddr, Sem.run_bind, Sem.run_pure, Result.andThen_ok, hl]

theorem results_cell_tmp {P : Program} {fn : Func} {p q : Tmp} {ty : TypeId} (h : fn.results = #[.cell p ty, .tmp q]) (tmps : Array Value) (w : World) (g : Nat) (t : TypeId) (cs : Array Value) (fr : Nat × Nat) (d : TypeDesc)
    (hp : tmps.getD p undef = .pointer (some ⟨g, 0, none⟩)) (hg : w.heap[g]? = some (.cells cs t fr))
    (hu : P.underlying ty = some d) (hd : (match d with | .struct _ | .array _ _ => true | _ => false) = true) (hi : (P.info? ty).map (·.size) = some cs.size) {v : Value} (hv : tmps.getD q undef = v) :
    (results fn tmps).run P w = .ok (.tuple #[.agg cs, v]) w := by
  have hp' : tmps[p]?.getD undef = .pointer (some ⟨g, 0, none⟩) := by simpa using hp
  have hv' : tmps[q]?.getD undef = v := by simpa using hv
  simp [results, h, hp', hv', asAddr, run_loadVar_row w g t ty cs fr d hg hu hd hi]

theorem two_one (x : Value) (y : Value) (hx : x.oneCell' = true) (hy : y.oneCell' = true) : (#[x, y] : Array Value).all (·.oneCell') = true := by simp [hx, hy]
theorem wpList_built {P : Program} {ops : Array Oper} {rest : List Oper} {o : Oper} {a : Act} {w : World} {Q : Exit → Act → World → Prop} (hg : o.guard = none) (t : TypeId) (parts : Array (Nat × Operand)) (ho : o.op = .build t parts)
    (vals : List (Nat × Value)) (hv : parts.toList.map (fun (i, x) => (i, a.eval x)) = vals) (R : Array Value) (hR : P.built t vals = some R)
    (h : wpList P ops Q rest (a.put o.dst (.agg R)) w) : wpList P ops Q (o :: rest) a w := by
  have e : (parts.map fun (i, x) => (i, a.eval x)).toList = vals := by rw [Array.toList_map]; exact hv
  refine wpList_build hg t parts ho (by rw [e, hR]; rfl) ?_
  rw [e, hR]
  exact h
theorem wpList_wanted {P : Program} {ops : Array Oper} {rest : List Oper} {o : Oper} {a : Act} {w : World} {Q : Exit → Act → World → Prop} (hw : Region.wanted o (yielded ops a.tmps) = true)
    (h : ∀ K : Act → World → Prop, (∀ a w, wpList P ops Q rest a w → K a w) → o.wp P a w K Q) : wpList P ops Q (o :: rest) a w :=
  wpList_step fun K hK => by rw [if_pos hw]; exact h K hK
theorem wpList_load_w {P : Program} {ops : Array Oper} {rest : List Oper} {o : Oper} {a : Act} {w : World} {Q : Exit → Act → World → Prop} (ty : TypeId) (x : Operand) (ho : o.op = .load ty x) (hgd : Region.wanted o (yielded ops a.tmps) = true)
    (g : Nat) (hx : a.eval x = .pointer (some ⟨g, 0, none⟩)) (t : TypeId) (cs : Array Value) (fr : Nat × Nat) (d : TypeDesc) (hg : w.heap[g]? = some (.cells cs t fr))
    (hu : P.underlying ty = some d) (hd : (match d with | .struct _ | .array _ _ => true | _ => false) = true) (hi : (P.info? ty).map (·.size) = some cs.size)
    (h : wpList P ops Q rest (a.put o.dst (.agg cs)) w) : wpList P ops Q (o :: rest) a w :=
  wpList_wanted hgd fun _ hK => wp_load_row ty x ho g hx t cs fr d hg hu hd hi (hK _ _ h)
theorem wpList_built_w {P : Program} {ops : Array Oper} {rest : List Oper} {o : Oper} {a : Act} {w : World} {Q : Exit → Act → World → Prop} (t : TypeId) (parts : Array (Nat × Operand)) (ho : o.op = .build t parts) (hw : Region.wanted o (yielded ops a.tmps) = true)
    (vals : List (Nat × Value)) (hv : parts.toList.map (fun (i, x) => (i, a.eval x)) = vals) (R : Array Value) (hR : P.built t vals = some R)
    (h : wpList P ops Q rest (a.put o.dst (.agg R)) w) : wpList P ops Q (o :: rest) a w := by
  have e : (parts.map fun (i, x) => (i, a.eval x)).toList = vals := by rw [Array.toList_map]; exact hv
  refine wpList_wanted hw fun _ hK => wp_build t parts ho (by rw [e, hR]; rfl) ?_
  rw [e, hR]
  exact hK _ _ h
end Go.Proofs.Ytbjndjmbbephbaa
