/- The law's own 'alive'. -/
import Derived.Test.YtlakienebicahaaA6
namespace Go.Proofs.Ytlakienebicahaa
open Go.RowKit

theorem wpList_built {P : Program} {ops : Array Oper} {rest : List Oper} {o : Oper} {a : Act} {w : World} {Q : Exit → Act → World → Prop} (hg : o.guard = none) (t : TypeId) (parts : Array (Nat × Operand)) (ho : o.op = .build t parts)
    (vals : List (Nat × Value)) (hv : parts.toList.map (fun (i, x) => (i, a.eval x)) = vals) (R : Array Value) (hR : P.built t vals = some R)
    (h : wpList P ops Q rest (a.put o.dst (.agg R)) w) : wpList P ops Q (o :: rest) a w := by
  have e : (parts.map fun (i, x) => (i, a.eval x)).toList = vals := by rw [Array.toList_map]; exact hv
  refine wpList_build hg t parts ho (by rw [e, hR]; rfl) ?_
  rw [e, hR]
  exact h
theorem wpList_wanted {P : Program} {ops : Array Oper} {rest : List Oper} {o : Oper} {a : Act} {w : World} {Q : Exit → Act → World → Prop} (hw : Region.wanted o (yielded ops a.tmps) = true)
    (h : ∀ K : Act → World → Prop, (∀ a w, wpList P ops Q rest a w → K a w) → o.wp P a w K Q) : wpList P ops Q (o :: rest) a w :=
  wpList_step fun K hK => by rw [if_pos hw]; exact h K hK
theorem wpList_load_w {P : Program} {ops : Array Oper} {rest : List Oper} {o : Oper} {a : Act} {w : World} {Q : Exit → Act → World → Prop} (ty : TypeId) (x : Operand) (ho : o.op = .load ty x) (hgd : Region.wanted o (yielded ops a.tmps) = true)
    (g : Nat) (hx : a.eval x = .pointer (some ⟨g, 0, none⟩)) (t : TypeId) (cs : Array Value) (fr : Nat × Nat) (d : TypeDesc) (hg : w.heap[g]? = some (.cells cs t fr))
    (hu : P.underlying ty = some d) (hd : (match d with | .struct _ | .array _ _ => true | _ => false) = true) (hi : (P.info? ty).map (·.size) = some cs.size)
    (h : wpList P ops Q rest (a.put o.dst (.agg cs)) w) : wpList P ops Q (o :: rest) a w :=
  wpList_wanted hgd fun _ hK => wp_load_row ty x ho g hx t cs fr d hg hu hd hi (hK _ _ h)
theorem wpList_built_w {P : Program} {ops : Array Oper} {rest : List Oper} {o : Oper} {a : Act} {w : World} {Q : Exit → Act → World → Prop} (t : TypeId) (parts : Array (Nat × Operand)) (ho : o.op = .build t parts) (hw : Region.wanted o (yielded ops a.tmps) = true)
    (vals : List (Nat × Value)) (hv : parts.toList.map (fun (i, x) => (i, a.eval x)) = vals) (R : Array Value) (hR : P.built t vals = some R)
    (h : wpList P ops Q rest (a.put o.dst (.agg R)) w) : wpList P ops Q (o :: rest) a w := by
  have e : (parts.map fun (i, x) => (i, a.eval x)).toList = vals := by rw [Array.toList_map]; exact hv
  refine wpList_wanted hw fun _ hK => wp_build t parts ho (by rw [e, hR]; rfl) ?_
  rw [e, hR]
  exact hK _ _ h
theorem wpList_two {ops : Array Oper} {rest : List Oper} {o : Oper} {a : Act} {w : World} {Q : Exit → Act → World → Prop} (hgd : o.guard = none) (x y : Operand) (ho : o.op = .buildSlice 49 2 #[(0, x), (1, y)]) (f g : Nat → Nat) (hx : a.eval x = vecV f) (hy : a.eval y = vecV g)
    (h : wpList Try.prog ops Q rest (a.put o.dst (.slice (some ⟨w.heap.size, 0, none⟩) 2 2)) (w.alloc (.cells (cells16 f g) 24))) : wpList Try.prog ops Q (o :: rest) a w :=
  wpList_plain hgd fun _ hK => by
    unfold Oper.wp
    rw [exec_build 49 2 _ ho #[(0, vecV f), (1, vecV g)] (by simp only [List.map_toArray, List.map_cons, List.map_nil, hx, hy]) (run_two f g w)]
    exact hK _ _ h

def k1 (i : Nat) : Nat := [1, 0, 2, 0, 0, 0, 0, 0].getD i 0
def k2 (i : Nat) : Nat := [0, 3, 0, 0, 0, 0, 0, 0].getD i 0
def k3 (i : Nat) : Nat := [1, 3, 2, 0, 0, 0, 0, 0].getD i 0
def k4 (i : Nat) : Nat := [18446744073709551615, 0, 0, 0, 0, 0, 0, 0].getD i 0
def k5 (i : Nat) : Nat := [1, 0, 0, 0, 0, 0, 0, 0].getD i 0
theorem b1 : Try.prog.built 24 [(0, .int .u64 1), (1, .int .u64 0), (2, .int .u64 2)] = some (arrOf .u64 8 k1) := by kernel_rfl
theorem b2 : Try.prog.built 24 [(0, .int .u64 0), (1, .int .u64 3)] = some (arrOf .u64 8 k2) := by kernel_rfl
theorem b3 : Try.prog.built 24 [(0, .int .u64 1), (1, .int .u64 3), (2, .int .u64 2)] = some (arrOf .u64 8 k3) := by kernel_rfl
theorem b4 : Try.prog.built 24 [(0, .int .u64 18446744073709551615)] = some (arrOf .u64 8 k4) := by kernel_rfl
theorem b5 : Try.prog.built 24 [(0, .int .u64 1)] = some (arrOf .u64 8 k5) := by kernel_rfl
theorem max12 : (fun i => max (k1 i) (k2 i)) = k3 := by
  funext i
  rcases i with _ | _ | _ | _ | _ | _ | _ | _ | i <;> rfl

structure AInv (w : World) (b1 : Nat) (x : World) : Prop where
  v : x.rowIs b1 24 8 (fun i => .int .u64 ((k3 i : Nat) : Int))
  below : Below w.heap.size w x
theorem AInv.then_ {w x y : World} {b : Nat} (hb : Below x.heap.size x y) (h : AInv w b x) : AInv w b y := ⟨row_below h.v hb h.v.lt, h.below.trans (hb.mono h.below.size)⟩

set_option maxRecDepth 100000 in
set_option maxHeartbeats 2000000 in
theorem alive_any (w : World) : Calls Try.prog 18 #[] w fun e w' => e = .returned (.bool true) ∧ Below w.heap.size w w' := by
  have s24 : ∀ {f : Nat → Nat}, Hid ((Try.prog.info? 24).map (·.size) = some (arrOf .u64 8 f).size) := fun {f} => by rw [arrOf_size]; exact size24
  have hb1 := Lib.hid b1
  have hb2 := Lib.hid b2
  have hJ := (join_pv (pv_two k1 k2 w)).mono (R' := fun e w' => e = .returned (vecV k3) ∧ Below w.heap.size w w') (by
    rintro e y ⟨rfl, hg⟩
    rw [max12]
    exact ⟨rfl, (below1 _ _).trans (hg.mono (below1 w (.cells (cells16 k1 k2) 24)).size)⟩)
  have HJ := Lib.hid hJ
  clear hJ
  go_enter Try.func18, Try.ntmps18
  go_wp2_with (first
    | (refine wpList_built rfl 24 _ rfl [(0, .int .u64 1), (1, .int .u64 0), (2, .int .u64 2)] rfl (arrOf .u64 8 k1) hb1.out ?_)
    | (refine wpList_built rfl 24 _ rfl [(0, .int .u64 0), (1, .int .u64 3)] rfl (arrOf .u64 8 k2) hb2.out ?_)
    | (refine wpList_two rfl _ _ rfl k1 k2 rfl rfl ?_)
    | (go_at_call 19; refine HJ.out.mono ?_; rintro e w1 ⟨rfl, hb⟩; have HB1 := Lib.hid hb; clear hb)
    | (refine wpList_store_row rfl 24 _ _ rfl w1.heap.size (arrOf .u64 8 k3) rfl rfl 24 _ (heap_alloc_new _ _) s24.out (by rw [arrOf_size]; rfl) (arrOf_one _ _ _) ?_; rw [World.setRow_alloc_new])
    | (refine wpList_load_row rfl 24 _ rfl w1.heap.size rfl 24 (arrOf .u64 8 k3) (0, 0) _ (heap_alloc_new _ _) Try.underlying24 rfl s24.out ?_))
  have HA : Hid (AInv w w1.heap.size (w1.alloc (.cells (arrOf .u64 8 k3) 24))) := ⟨vec_row w1 k3, HB1.out.alloc HB1.out.size _⟩
  generalize w1.alloc (.cells (arrOf .u64 8 k3) 24) = w2 at *
  generalize w1.heap.size = b at *
  clear HB1 HJ hb1 hb2
  refine (next_any k3 2 w2 (by decide)).mono ?_
  rintro e w3 ⟨rfl, hb⟩
  rw [show Vec.next k3 2 = (2, 4, 0) by decide]
  have HA3 := Lib.hid (HA.out.then_ hb)
  clear hb HA
  have hr3 := Lib.hid (row24 (HA3.out.then_ (below1 w3 (.cells #[.int .i64 2, .int .u64 4] 26))).v)
  go_wp2_with (refine wpList_load_row rfl 24 _ rfl b rfl 24 (arrOf .u64 8 k3) (0, 0) _ hr3.out Try.underlying24 rfl s24.out ?_)
  have hD : Hid (DotAt (w3.alloc (.cells #[.int .i64 2, .int .u64 4] 26)) w3.heap.size 26 2 4) := DotAt.new w3 26 2 4
  have HA4 := Lib.hid (HA3.out.then_ (below1 w3 (.cells #[.int .i64 2, .int .u64 4] 26)))
  generalize w3.alloc (.cells #[.int .i64 2, .int .u64 4] 26) = w4 at *
  generalize w3.heap.size = d at *
  clear HA3 hr3
  refine (next_any k3 9 w4 (by decide)).mono ?_
  rintro e w5 ⟨rfl, hb⟩
  rw [show Vec.next k3 9 = (0, 0, 11) by decide]
  have HA5 := Lib.hid (HA4.out.then_ hb)
  have hD5 := Lib.hid (hD.out.below hb hD.out.lt)
  clear hb HA4 hD
  have hb4 := Lib.hid b4
  go_wp2_with (refine wpList_built rfl 24 _ rfl [(0, .int .u64 18446744073709551615)] rfl (arrOf .u64 8 k4) hb4.out ?_)
  have HA6 := Lib.hid (HA5.out.then_ (below1 w5 (.cells #[.int .i64 0, .int .u64 0] 26)))
  have hD6 := Lib.hid (hD5.out.below (below1 w5 (.cells #[.int .i64 0, .int .u64 0] 26)) hD5.out.lt)
  generalize w5.alloc (.cells #[.int .i64 0, .int .u64 0] 26) = w6 at *
  generalize w5.heap.size = b' at *
  clear HA5 hD5 hb4
  refine (next_any k4 1 w6 (by decide)).mono ?_
  rintro e w7 ⟨rfl, hb⟩
  rw [show Vec.next k4 1 = (0, 0, 13) by decide]
  have HA7 := Lib.hid ((HA6.out.then_ hb).then_ (below1 w7 (.cells #[.int .i64 0, .int .u64 0] 26)))
  have hD7 := Lib.hid ((hD6.out.below hb hD6.out.lt).below (below1 w7 (.cells #[.int .i64 0, .int .u64 0] 26)) (hD6.out.below hb hD6.out.lt).lt)
  clear hb HA6 hD6
  have hb3 := Lib.hid b3
  have hb5 := Lib.hid b5
  have hr7 := Lib.hid (row24 HA7.out.v)
  have he := eq_vec k3 k3
  rw [show Vec.same k3 k3 = true by decide] at he
  have hdn7 := hD7.out.node
  have hdk7 := hD7.out.num
  go_wp2_with (first
    | (refine wpList_built rfl 24 _ rfl [(0, .int .u64 1), (1, .int .u64 3), (2, .int .u64 2)] rfl (arrOf .u64 8 k3) hb3.out ?_)
    | (refine wpList_built_w 24 _ rfl rfl [(0, .int .u64 1)] rfl (arrOf .u64 8 k5) hb5.out ?_)
    | (refine wpList_load_w 24 _ rfl rfl b rfl 24 (arrOf .u64 8 k3) (0, 0) _ hr7.out Try.underlying24 rfl s24.out ?_))
  refine (has_any k3 2 3 _).mono ?_
  rintro e w8 ⟨rfl, hb⟩
  rw [show Vec.has k3 2 3 = true by decide]
  have HA8 := Lib.hid (HA7.out.then_ hb)
  have hD8 := Lib.hid (hD7.out.below hb hD7.out.lt)
  have hr8 := Lib.hid (row24 HA8.out.v)
  have hdn8 := hD8.out.node
  have hdk8 := hD8.out.num
  clear hb HA7 hD7 hdn7 hdk7 hr7
  go_wp2_with (first
    | (refine wpList_load_w 24 _ rfl rfl b rfl 24 (arrOf .u64 8 k3) (0, 0) _ hr8.out Try.underlying24 rfl s24.out ?_)
    | (refine wpList_built_w 24 _ rfl rfl [(0, .int .u64 1)] rfl (arrOf .u64 8 k5) hb5.out ?_))
  refine (has_any k3 2 4 _).mono ?_
  rintro e w9 ⟨rfl, hb⟩
  rw [show Vec.has k3 2 4 = false by decide]
  have HA9 := Lib.hid (HA8.out.then_ hb)
  have hD9 := Lib.hid (hD8.out.below hb hD8.out.lt)
  have hr9 := Lib.hid (row24 HA9.out.v)
  have hdn9 := hD9.out.node
  have hdk9 := hD9.out.num
  clear hb HA8 hD8 hdn8 hdk8 hr8
  go_wp2_with (first
    | (refine wpList_load_w 24 _ rfl rfl b rfl 24 (arrOf .u64 8 k3) (0, 0) _ hr9.out Try.underlying24 rfl s24.out ?_)
    | (refine wpList_built_w 24 _ rfl rfl [(0, .int .u64 1)] rfl (arrOf .u64 8 k5) hb5.out ?_))
  refine (order_any k3 k5 _).mono ?_
  rintro e w10 ⟨rfl, hb⟩
  rw [show Vec.order k3 k5 = 1 by decide]
  have HA10 := Lib.hid (HA9.out.then_ hb)
  have hD10 := Lib.hid (hD9.out.below hb hD9.out.lt)
  have hr10 := Lib.hid (row24 HA10.out.v)
  have hdn10 := hD10.out.node
  have hdk10 := hD10.out.num
  clear hb HA9 hD9 hdn9 hdk9 hr9
  go_wp2_with (first
    | (refine wpList_load_w 24 _ rfl rfl b rfl 24 (arrOf .u64 8 k3) (0, 0) _ hr10.out Try.underlying24 rfl s24.out ?_)
    | (refine wpList_built_w 24 _ rfl rfl [(0, .int .u64 1)] rfl (arrOf .u64 8 k5) hb5.out ?_))
  refine (less_any 1 9 2 4 _).mono ?_
  rintro e w11 ⟨rfl, hb⟩
  rw [show Vec.less 1 9 2 4 = true by decide]
  have HA11 := Lib.hid (HA10.out.then_ hb)
  have hD11 := Lib.hid (hD10.out.below hb hD10.out.lt)
  have hr11 := Lib.hid (row24 HA11.out.v)
  have hdn11 := hD11.out.node
  have hdk11 := hD11.out.num
  clear hb HA10 hD10 hdn10 hdk10 hr10
  go_wp2_with fail
  go_ret
  exact ⟨rfl, HA11.out.below⟩
end Go.Proofs.Ytlakienebicahaa
