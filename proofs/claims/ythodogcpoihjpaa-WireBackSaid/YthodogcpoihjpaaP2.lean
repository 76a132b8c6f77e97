/- put, by kind. -/
import Derived.Test.YthodogcpoihjpaaP1
namespace Go.Proofs.Ythodogcpoihjpaa
open Go.RowKit
theorem told_dig {w w' : World} {C : Array Value} {d : Nat → Nat} (hb : w'.heap[w.heap.size]? = some (.cells C 34 (0, 0))) (hd : ∀ j, j < 32 → C[5 + j]? = some (.int .u8 ((d j : Nat) : Int))) (h : ∀ j, d j < 256) : Told w w' (.returned (.slice (some ⟨w.heap.size, 5, none⟩) 32 32)) (digB d) := by
  refine ⟨some ⟨w.heap.size, 5, none⟩, 32, by rw [dig_len], ?_, fun e => by cases e⟩
  refine ⟨fun x hx => by simp only [digB, List.mem_map] at hx; obtain ⟨i, _, rfl⟩ := hx; exact h i, fun _ => ⟨_, _, rfl, ⟨Nat.le_refl _, (Array.getElem?_eq_some_iff.1 hb).1⟩, fun j hj => ?_⟩⟩
  have h32 : j < 32 := by simpa [digB] using hj
  rw [cell_in hb (hd j h32)]
  simp [digB, List.getD_eq_getElem?_getD, h32]
theorem sl30_5 (b : Nat) (w : World) : (Instr.sliceAt 30 (.pointer (some ⟨b, 5, none⟩)) none none none).run Try.prog w = .ok (.slice (some ⟨b, 5, none⟩) 32 32) w := by
  go_simp
theorem textB_lt (ts : List Nat) (h : ∀ z, z ∈ ts → z < 256) : ∀ z, z ∈ textB ts → z < 256 := fun z hz => by
  rw [textB, List.mem_append] at hz
  rcases hz with hz | hz
  · exact numB_lt _ _ hz
  · exact h z hz
theorem told_grow {w w' w'' : World} {e : Ending} {zs : List Nat} (h : Told w w' e zs) (hb : Below w'.heap.size w' w'') : Told w w'' e zs := by
  obtain ⟨A, c, he, hB, hn⟩ := h
  refine ⟨A, c, he, ⟨hB.lt, fun hp => ?_⟩, hn⟩
  obtain ⟨b, o, e, hb2, hc⟩ := hB.at_ hp
  exact ⟨b, o, e, ⟨hb2.1, Nat.lt_of_lt_of_le hb2.2 hb.size⟩, fun j hj => (World.cell?_of_block (w := w') (a := ⟨b, o + j, none⟩) (hb.block b hb2.2)).trans (hc j hj)⟩
theorem size32v {f : Nat → Nat} : (Try.prog.info? 32).map (·.size) = some (arrOf .u64 8 f).size := by rw [arrOf_size]; exact size32
theorem size30d {f : Nat → Nat} : (Try.prog.info? 30).map (·.size) = some (arrOf .u8 32 f).size := by rw [arrOf_size]; exact size30
set_option maxRecDepth 100000 in
set_option maxHeartbeats 1000000 in
theorem put_int (C : Array Value) {i m : Int} {n : Nat} {A : Option Addr} {ts : List Nat} {c : Nat} {d f : Nat → Nat} (w : World) (B : Nat) (W : Nat) (v : Value) (xs : List Nat) (h : PartC C 1 i m n A ts c d f) (ho : PartOk w B i n A ts c d f) (hB : B ≤ w.heap.size) (hw : WAt w B W v xs) (hs : xs.length ≤ 800000) :
    Calls Try.prog 7 #[.pointer (some ⟨W, 0, none⟩), .agg C] w fun e w' => Told w w' e (numB (zz i)) ∧ ∃ v', WAt w' B W v' (xs ++ numB (zz i)) ∧ Turn w w' W v.ownBlock v'.ownBlock := by
  have hb := heap_alloc_new w (.cells C 34)
  have c0 := cell_in hb h.kind
  have HB := Lib.hid (below1 w (.cells C 34))
  have HB0 := Lib.hid (HB.out.mono hB)
  have HW := Lib.hid (hw.below HB.out)
  have HW0 := Lib.hid hw
  have hz := h.size
  have HP := Lib.hid h
  have HO := Lib.hid ho
  have HH := Lib.hid hb
  have HBB := Lib.hid hB
  have c3 := cell_in hb h.int_
  clear h ho hb hB hw
  go_enter Try.func7, Try.ntmps7
  go_wp2_with fail
  refine (int_any i _ B W v xs HO.out.lo HO.out.hi HW.out (by omega)).mono ?_
  rintro e w1 ⟨rfl, v1, hw1, ht1⟩
  have HW1 := Lib.hid hw1
  have HT1 := Lib.hid ht1
  have HK : Hid (w1.heap[w.heap.size]? = some (.cells C 34 (0, 0))) := (ht1.block w.heap.size (by rw [alloc_size]; omega) (by have := HW0.out.lt; omega) (fun e => by have := HW0.out.own.lt _ e; omega)).trans HH.out
  have HBW : Hid (Below B w w1) := HB0.out.trans (HT1.out.below HW0.out.le HW0.out.blk (Nat.le_trans HBB.out HB.out.size))
  have HX1 : Hid (PartOk w1 w1.heap.size i n A ts c d f) := Lib.hid (let q := HO.out.below HBW.out; ⟨q.lo, q.hi, q.num, q.text.weak (fun b _ hl => hl), q.none_, q.dig, q.vec⟩)
  clear hw1 ht1
  have c3' : w1.cell? ⟨w.heap.size, 1, none⟩ = some (.int .i64 i) := cell_in HK.out HP.out.int_
  go_wp2_with fail
  refine (intR_any i w1 HO.out.lo HO.out.hi).mono ?_
  rintro e w2 ⟨u, rfl, ho2, hb2⟩
  have HO2 := Lib.hid ho2
  have HB2 := Lib.hid hb2
  clear ho2 hb2
  go_wp2_with fail
  go_ret
  exact ⟨told_own HO2.out (Nat.le_trans HB.out.size HT1.out.size) (numB_lt _), v1, HW1.out.below HB2.out, ((Turn.of_below HB.out).trans HT1.out).trans (Turn.of_below HB2.out)⟩
set_option maxRecDepth 100000 in
set_option maxHeartbeats 1000000 in
theorem putN_int (C : Array Value) {i m : Int} {n : Nat} {A : Option Addr} {ts : List Nat} {c : Nat} {d f : Nat → Nat} (w : World) (B : Nat) (h : PartC C 1 i m n A ts c d f) (ho : PartOk w B i n A ts c d f) (hB : B ≤ w.heap.size) :
    Calls Try.prog 7 #[.pointer none, .agg C] w fun e w' => Told w w' e (numB (zz i)) ∧ Below w.heap.size w w' := by
  have hb := heap_alloc_new w (.cells C 34)
  have c0 := cell_in hb h.kind
  have HB := Lib.hid (below1 w (.cells C 34))
  have HB0 := Lib.hid (HB.out.mono hB)
  have hz := h.size
  have HP := Lib.hid h
  have HO := Lib.hid ho
  have HH := Lib.hid hb
  have HBB := Lib.hid hB
  have c3 := cell_in hb h.int_
  clear h ho hb hB
  go_enter Try.func7, Try.ntmps7
  go_wp2_with fail
  refine (int_nil i _ HO.out.lo HO.out.hi).mono ?_
  rintro e w1 ⟨rfl, ew⟩
  obtain rfl := ew.symm
  have HK : Hid ((w.alloc (.cells C 34)).heap[w.heap.size]? = some (.cells C 34 (0, 0))) := HH
  have HT1 : Hid (Below (w.alloc (.cells C 34)).heap.size (w.alloc (.cells C 34)) (w.alloc (.cells C 34))) := Lib.hid (Below.refl _ _)
  have HBW : Hid (Below w.heap.size w (w.alloc (.cells C 34))) := HB.out.trans (HT1.out.mono HB.out.size)
  have HX1 : Hid (PartOk (w.alloc (.cells C 34)) (w.alloc (.cells C 34)).heap.size i n A ts c d f) := Lib.hid (let q := HO.out.below (HBW.out.mono HBB.out); ⟨q.lo, q.hi, q.num, q.text.weak (fun b _ hl => hl), q.none_, q.dig, q.vec⟩)
  have c3' : (w.alloc (.cells C 34)).cell? ⟨w.heap.size, 1, none⟩ = some (.int .i64 i) := cell_in HK.out HP.out.int_
  go_wp2_with fail
  refine (intR_any i (w.alloc (.cells C 34)) HO.out.lo HO.out.hi).mono ?_
  rintro e w2 ⟨u, rfl, ho2, hb2⟩
  have HO2 := Lib.hid ho2
  have HB2 := Lib.hid hb2
  clear ho2 hb2
  go_wp2_with fail
  go_ret
  exact ⟨told_own HO2.out HBW.out.size (numB_lt _), HBW.out.trans (HB2.out.mono HBW.out.size)⟩
set_option maxRecDepth 100000 in
set_option maxHeartbeats 1000000 in
theorem put_text (C : Array Value) {i m : Int} {n : Nat} {A : Option Addr} {ts : List Nat} {c : Nat} {d f : Nat → Nat} (w : World) (B : Nat) (W : Nat) (v : Value) (xs : List Nat) (h : PartC C 2 i m n A ts c d f) (ho : PartOk w B i n A ts c d f) (hB : B ≤ w.heap.size) (htl : ts.length ≤ 500) (hw : WAt w B W v xs) (hs : xs.length ≤ 800000) :
    Calls Try.prog 7 #[.pointer (some ⟨W, 0, none⟩), .agg C] w fun e w' => Told w w' e (textB ts) ∧ ∃ v', WAt w' B W v' (xs ++ textB ts) ∧ Turn w w' W v.ownBlock v'.ownBlock := by
  have hb := heap_alloc_new w (.cells C 34)
  have c0 := cell_in hb h.kind
  have HB := Lib.hid (below1 w (.cells C 34))
  have HB0 := Lib.hid (HB.out.mono hB)
  have HW := Lib.hid (hw.below HB.out)
  have HW0 := Lib.hid hw
  have HTL := Lib.hid htl
  clear htl
  have hz := h.size
  have HP := Lib.hid h
  have HO := Lib.hid ho
  have HH := Lib.hid hb
  have HBB := Lib.hid hB
  have c3 := cell_in hb h.text
  clear h ho hb hB hw
  go_enter Try.func7, Try.ntmps7
  go_wp2_with fail
  refine (text_any ts c A _ B W v xs (· < B) (HO.out.below HB0.out).text (fun b hb _ => ⟨by have := HW0.out.le; omega, fun e => by have := (HW0.out.own.lt _ e).1; omega⟩) HO.out.none_ (by have := HTL.out; omega) HW.out (by omega)).mono ?_
  rintro e w1 ⟨rfl, v1, hw1, ht1⟩
  have HW1 := Lib.hid hw1
  have HT1 := Lib.hid ht1
  have HK : Hid (w1.heap[w.heap.size]? = some (.cells C 34 (0, 0))) := (ht1.block w.heap.size (by rw [alloc_size]; omega) (by have := HW0.out.lt; omega) (fun e => by have := HW0.out.own.lt _ e; omega)).trans HH.out
  have HBW : Hid (Below B w w1) := HB0.out.trans (HT1.out.below HW0.out.le HW0.out.blk (Nat.le_trans HBB.out HB.out.size))
  have HX1 : Hid (PartOk w1 w1.heap.size i n A ts c d f) := Lib.hid (let q := HO.out.below HBW.out; ⟨q.lo, q.hi, q.num, q.text.weak (fun b _ hl => hl), q.none_, q.dig, q.vec⟩)
  clear hw1 ht1
  have c3' : w1.cell? ⟨w.heap.size, 4, none⟩ = some (.slice A ts.length c) := cell_in HK.out HP.out.text
  go_wp2_with fail
  refine (textR_any ts c A w1 (HX1.out.text.weak (fun b hb hl => hl)) HO.out.none_ (by have := HTL.out; omega)).mono ?_
  rintro e w2 ⟨u, rfl, ho2, hb2⟩
  have HO2 := Lib.hid ho2
  have HB2 := Lib.hid hb2
  clear ho2 hb2
  go_wp2_with fail
  go_ret
  exact ⟨told_own HO2.out (Nat.le_trans HB.out.size HT1.out.size) (textB_lt ts HO.out.text.lt), v1, HW1.out.below HB2.out, ((Turn.of_below HB.out).trans HT1.out).trans (Turn.of_below HB2.out)⟩
set_option maxRecDepth 100000 in
set_option maxHeartbeats 1000000 in
theorem putN_text (C : Array Value) {i m : Int} {n : Nat} {A : Option Addr} {ts : List Nat} {c : Nat} {d f : Nat → Nat} (w : World) (B : Nat) (h : PartC C 2 i m n A ts c d f) (ho : PartOk w B i n A ts c d f) (hB : B ≤ w.heap.size) (htl : ts.length ≤ 500) :
    Calls Try.prog 7 #[.pointer none, .agg C] w fun e w' => Told w w' e (textB ts) ∧ Below w.heap.size w w' := by
  have hb := heap_alloc_new w (.cells C 34)
  have c0 := cell_in hb h.kind
  have HB := Lib.hid (below1 w (.cells C 34))
  have HB0 := Lib.hid (HB.out.mono hB)
  have HTL := Lib.hid htl
  clear htl
  have hz := h.size
  have HP := Lib.hid h
  have HO := Lib.hid ho
  have HH := Lib.hid hb
  have HBB := Lib.hid hB
  have c3 := cell_in hb h.text
  clear h ho hb hB
  go_enter Try.func7, Try.ntmps7
  go_wp2_with fail
  refine (text_nil A ts.length c _).mono ?_
  rintro e w1 ⟨rfl, ew⟩
  obtain rfl := ew.symm
  have HK : Hid ((w.alloc (.cells C 34)).heap[w.heap.size]? = some (.cells C 34 (0, 0))) := HH
  have HT1 : Hid (Below (w.alloc (.cells C 34)).heap.size (w.alloc (.cells C 34)) (w.alloc (.cells C 34))) := Lib.hid (Below.refl _ _)
  have HBW : Hid (Below w.heap.size w (w.alloc (.cells C 34))) := HB.out.trans (HT1.out.mono HB.out.size)
  have HX1 : Hid (PartOk (w.alloc (.cells C 34)) (w.alloc (.cells C 34)).heap.size i n A ts c d f) := Lib.hid (let q := HO.out.below (HBW.out.mono HBB.out); ⟨q.lo, q.hi, q.num, q.text.weak (fun b _ hl => hl), q.none_, q.dig, q.vec⟩)
  have c3' : (w.alloc (.cells C 34)).cell? ⟨w.heap.size, 4, none⟩ = some (.slice A ts.length c) := cell_in HK.out HP.out.text
  go_wp2_with fail
  refine (textR_any ts c A (w.alloc (.cells C 34)) (HX1.out.text.weak (fun b hb hl => hl)) HO.out.none_ (by have := HTL.out; omega)).mono ?_
  rintro e w2 ⟨u, rfl, ho2, hb2⟩
  have HO2 := Lib.hid ho2
  have HB2 := Lib.hid hb2
  clear ho2 hb2
  go_wp2_with fail
  go_ret
  exact ⟨told_own HO2.out HBW.out.size (textB_lt ts HO.out.text.lt), HBW.out.trans (HB2.out.mono HBW.out.size)⟩
set_option maxRecDepth 100000 in
set_option maxHeartbeats 1000000 in
theorem put_vec (C : Array Value) {i m : Int} {n : Nat} {A : Option Addr} {ts : List Nat} {c : Nat} {d f : Nat → Nat} (w : World) (B : Nat) (W : Nat) (v : Value) (xs : List Nat) (h : PartC C 4 i m n A ts c d f) (ho : PartOk w B i n A ts c d f) (hB : B ≤ w.heap.size) (hw : WAt w B W v xs) (hs : xs.length ≤ 800000) :
    Calls Try.prog 7 #[.pointer (some ⟨W, 0, none⟩), .agg C] w fun e w' => Told w w' e (vecB f 8) ∧ ∃ v', WAt w' B W v' (xs ++ vecB f 8) ∧ Turn w w' W v.ownBlock v'.ownBlock := by
  have hb := heap_alloc_new w (.cells C 34)
  have c0 := cell_in hb h.kind
  have HB := Lib.hid (below1 w (.cells C 34))
  have HB0 := Lib.hid (HB.out.mono hB)
  have HW := Lib.hid (hw.below HB.out)
  have HW0 := Lib.hid hw
  have hz := h.size
  have HP := Lib.hid h
  have HO := Lib.hid ho
  have HH := Lib.hid hb
  have HBB := Lib.hid hB
  have hra : Hid (rangeA (w.alloc (.cells C 34)) w.heap.size 37 (arrOf .u64 8 f)) := Lib.hid (rangeA_arr fun j hj => cell_in hb (h.vec j hj))
  clear h ho hb hB hw
  go_enter Try.func7, Try.ntmps7
  go_wp2_with (refine wpList_load_arr rfl 32 _ rfl w.heap.size 37 rfl (arrOf .u64 8 f) _ hra.out Try.underlying32 rfl size32v ?_)
  refine (vec_any f _ B W v xs HO.out.vec HW.out (by omega)).mono ?_
  rintro e w1 ⟨rfl, v1, hw1, ht1⟩
  have HW1 := Lib.hid hw1
  have HT1 := Lib.hid ht1
  have HK : Hid (w1.heap[w.heap.size]? = some (.cells C 34 (0, 0))) := (ht1.block w.heap.size (by rw [alloc_size]; omega) (by have := HW0.out.lt; omega) (fun e => by have := HW0.out.own.lt _ e; omega)).trans HH.out
  have HBW : Hid (Below B w w1) := HB0.out.trans (HT1.out.below HW0.out.le HW0.out.blk (Nat.le_trans HBB.out HB.out.size))
  have HX1 : Hid (PartOk w1 w1.heap.size i n A ts c d f) := Lib.hid (let q := HO.out.below HBW.out; ⟨q.lo, q.hi, q.num, q.text.weak (fun b _ hl => hl), q.none_, q.dig, q.vec⟩)
  clear hw1 ht1
  have hra1 : Hid (rangeA w1 w.heap.size 37 (arrOf .u64 8 f)) := Lib.hid (rangeA_arr fun j hj => cell_in HK.out (HP.out.vec j hj))
  go_wp2_with (refine wpList_load_arr rfl 32 _ rfl w.heap.size 37 rfl (arrOf .u64 8 f) _ hra1.out Try.underlying32 rfl size32v ?_)
  refine (vecR_any f w1 HO.out.vec).mono ?_
  rintro e w2 ⟨u, rfl, ho2, hb2⟩
  have HO2 := Lib.hid ho2
  have HB2 := Lib.hid hb2
  clear ho2 hb2
  go_wp2_with fail
  go_ret
  exact ⟨told_own HO2.out (Nat.le_trans HB.out.size HT1.out.size) (vecB_lt f 8), v1, HW1.out.below HB2.out, ((Turn.of_below HB.out).trans HT1.out).trans (Turn.of_below HB2.out)⟩
set_option maxRecDepth 100000 in
set_option maxHeartbeats 1000000 in
theorem putN_vec (C : Array Value) {i m : Int} {n : Nat} {A : Option Addr} {ts : List Nat} {c : Nat} {d f : Nat → Nat} (w : World) (B : Nat) (h : PartC C 4 i m n A ts c d f) (ho : PartOk w B i n A ts c d f) (hB : B ≤ w.heap.size) :
    Calls Try.prog 7 #[.pointer none, .agg C] w fun e w' => Told w w' e (vecB f 8) ∧ Below w.heap.size w w' := by
  have hb := heap_alloc_new w (.cells C 34)
  have c0 := cell_in hb h.kind
  have HB := Lib.hid (below1 w (.cells C 34))
  have HB0 := Lib.hid (HB.out.mono hB)
  have hz := h.size
  have HP := Lib.hid h
  have HO := Lib.hid ho
  have HH := Lib.hid hb
  have HBB := Lib.hid hB
  have hra : Hid (rangeA (w.alloc (.cells C 34)) w.heap.size 37 (arrOf .u64 8 f)) := Lib.hid (rangeA_arr fun j hj => cell_in hb (h.vec j hj))
  clear h ho hb hB
  go_enter Try.func7, Try.ntmps7
  go_wp2_with (refine wpList_load_arr rfl 32 _ rfl w.heap.size 37 rfl (arrOf .u64 8 f) _ hra.out Try.underlying32 rfl size32v ?_)
  refine (vec_nil f _ HO.out.vec).mono ?_
  rintro e w1 ⟨rfl, ht1⟩
  have HT1 := Lib.hid ht1
  have HK : Hid (w1.heap[w.heap.size]? = some (.cells C 34 (0, 0))) := (ht1.block w.heap.size (by rw [alloc_size]; omega)).trans HH.out
  clear ht1
  have HBW : Hid (Below w.heap.size w w1) := HB.out.trans (HT1.out.mono HB.out.size)
  have HX1 : Hid (PartOk w1 w1.heap.size i n A ts c d f) := Lib.hid (let q := HO.out.below (HBW.out.mono HBB.out); ⟨q.lo, q.hi, q.num, q.text.weak (fun b _ hl => hl), q.none_, q.dig, q.vec⟩)
  have hra1 : Hid (rangeA w1 w.heap.size 37 (arrOf .u64 8 f)) := Lib.hid (rangeA_arr fun j hj => cell_in HK.out (HP.out.vec j hj))
  go_wp2_with (refine wpList_load_arr rfl 32 _ rfl w.heap.size 37 rfl (arrOf .u64 8 f) _ hra1.out Try.underlying32 rfl size32v ?_)
  refine (vecR_any f w1 HO.out.vec).mono ?_
  rintro e w2 ⟨u, rfl, ho2, hb2⟩
  have HO2 := Lib.hid ho2
  have HB2 := Lib.hid hb2
  clear ho2 hb2
  go_wp2_with fail
  go_ret
  exact ⟨told_own HO2.out HBW.out.size (vecB_lt f 8), HBW.out.trans (HB2.out.mono HBW.out.size)⟩
set_option maxRecDepth 100000 in
set_option maxHeartbeats 1000000 in
theorem put_dig (C : Array Value) {i m : Int} {n : Nat} {A : Option Addr} {ts : List Nat} {c : Nat} {d f : Nat → Nat} (w : World) (B : Nat) (W : Nat) (v : Value) (xs : List Nat) (h : PartC C 3 i m n A ts c d f) (ho : PartOk w B i n A ts c d f) (hB : B ≤ w.heap.size) (hw : WAt w B W v xs) (hs : xs.length ≤ 800000) :
    Calls Try.prog 7 #[.pointer (some ⟨W, 0, none⟩), .agg C] w fun e w' => Told w w' e (digB d) ∧ ∃ v', WAt w' B W v' (xs ++ digB d) ∧ Turn w w' W v.ownBlock v'.ownBlock := by
  have hb := heap_alloc_new w (.cells C 34)
  have c0 := cell_in hb h.kind
  have HB := Lib.hid (below1 w (.cells C 34))
  have HB0 := Lib.hid (HB.out.mono hB)
  have HW := Lib.hid (hw.below HB.out)
  have HW0 := Lib.hid hw
  have hz := h.size
  have HP := Lib.hid h
  have HO := Lib.hid ho
  have HH := Lib.hid hb
  have HBB := Lib.hid hB
  have hra : Hid (rangeA (w.alloc (.cells C 34)) w.heap.size 5 (arrOf .u8 32 d)) := Lib.hid (rangeA_arr fun j hj => cell_in hb (h.dig j hj))
  clear h ho hb hB hw
  go_enter Try.func7, Try.ntmps7
  go_wp2_with (refine wpList_load_arr rfl 30 _ rfl w.heap.size 5 rfl (arrOf .u8 32 d) _ hra.out Try.underlying30 rfl size30d ?_)
  refine (digest_any d _ B W v xs HO.out.dig HW.out (by omega)).mono ?_
  rintro e w1 ⟨rfl, v1, hw1, ht1⟩
  have HW1 := Lib.hid hw1
  have HT1 := Lib.hid ht1
  have HK : Hid (w1.heap[w.heap.size]? = some (.cells C 34 (0, 0))) := (ht1.block w.heap.size (by rw [alloc_size]; omega) (by have := HW0.out.lt; omega) (fun e => by have := HW0.out.own.lt _ e; omega)).trans HH.out
  have HBW : Hid (Below B w w1) := HB0.out.trans (HT1.out.below HW0.out.le HW0.out.blk (Nat.le_trans HBB.out HB.out.size))
  have HX1 : Hid (PartOk w1 w1.heap.size i n A ts c d f) := Lib.hid (let q := HO.out.below HBW.out; ⟨q.lo, q.hi, q.num, q.text.weak (fun b _ hl => hl), q.none_, q.dig, q.vec⟩)
  clear hw1 ht1
  have hsl := fun x => sl30_5 w.heap.size x
  go_wp2_with fail
  go_ret
  exact ⟨told_dig HK.out HP.out.dig HO.out.dig, v1, HW1.out, (Turn.of_below HB.out).trans HT1.out⟩
set_option maxRecDepth 100000 in
set_option maxHeartbeats 1000000 in
theorem putN_dig (C : Array Value) {i m : Int} {n : Nat} {A : Option Addr} {ts : List Nat} {c : Nat} {d f : Nat → Nat} (w : World) (B : Nat) (h : PartC C 3 i m n A ts c d f) (ho : PartOk w B i n A ts c d f) (hB : B ≤ w.heap.size) :
    Calls Try.prog 7 #[.pointer none, .agg C] w fun e w' => Told w w' e (digB d) ∧ Below w.heap.size w w' := by
  have hb := heap_alloc_new w (.cells C 34)
  have c0 := cell_in hb h.kind
  have HB := Lib.hid (below1 w (.cells C 34))
  have HB0 := Lib.hid (HB.out.mono hB)
  have hz := h.size
  have HP := Lib.hid h
  have HO := Lib.hid ho
  have HH := Lib.hid hb
  have HBB := Lib.hid hB
  have hra : Hid (rangeA (w.alloc (.cells C 34)) w.heap.size 5 (arrOf .u8 32 d)) := Lib.hid (rangeA_arr fun j hj => cell_in hb (h.dig j hj))
  clear h ho hb hB
  go_enter Try.func7, Try.ntmps7
  go_wp2_with (refine wpList_load_arr rfl 30 _ rfl w.heap.size 5 rfl (arrOf .u8 32 d) _ hra.out Try.underlying30 rfl size30d ?_)
  refine (digest_nil d _).mono ?_
  rintro e w1 ⟨rfl, ht1⟩
  have HT1 := Lib.hid ht1
  have HK : Hid (w1.heap[w.heap.size]? = some (.cells C 34 (0, 0))) := (ht1.block w.heap.size (by rw [alloc_size]; omega)).trans HH.out
  clear ht1
  have HBW : Hid (Below w.heap.size w w1) := HB.out.trans (HT1.out.mono HB.out.size)
  have HX1 : Hid (PartOk w1 w1.heap.size i n A ts c d f) := Lib.hid (let q := HO.out.below (HBW.out.mono HBB.out); ⟨q.lo, q.hi, q.num, q.text.weak (fun b _ hl => hl), q.none_, q.dig, q.vec⟩)
  have hsl := fun x => sl30_5 w.heap.size x
  go_wp2_with fail
  go_ret
  exact ⟨told_dig HK.out HP.out.dig HO.out.dig, HBW.out⟩
set_option maxRecDepth 100000 in
set_option maxHeartbeats 1000000 in
theorem putN_num0 (C : Array Value) {i m : Int} {n : Nat} {A : Option Addr} {ts : List Nat} {c : Nat} {d f : Nat → Nat} (w : World) (B : Nat) (h : PartC C 0 i m n A ts c d f) (ho : PartOk w B i n A ts c d f) (hB : B ≤ w.heap.size) :
    Calls Try.prog 7 #[.pointer none, .agg C] w fun e w' => Told w w' e (numB n) ∧ Below w.heap.size w w' := by
  have hb := heap_alloc_new w (.cells C 34)
  have c0 := cell_in hb h.kind
  have HB := Lib.hid (below1 w (.cells C 34))
  have HB0 := Lib.hid (HB.out.mono hB)
  have hz := h.size
  have HP := Lib.hid h
  have HO := Lib.hid ho
  have HH := Lib.hid hb
  have HBB := Lib.hid hB
  have c3 := cell_in hb h.num
  clear h ho hb hB
  go_enter Try.func7, Try.ntmps7
  go_wp2_with fail
  refine (num_nil n _).mono ?_
  rintro e w1 ⟨rfl, ew⟩
  obtain rfl := ew.symm
  have HK : Hid ((w.alloc (.cells C 34)).heap[w.heap.size]? = some (.cells C 34 (0, 0))) := HH
  have HT1 : Hid (Below (w.alloc (.cells C 34)).heap.size (w.alloc (.cells C 34)) (w.alloc (.cells C 34))) := Lib.hid (Below.refl _ _)
  have HBW : Hid (Below w.heap.size w (w.alloc (.cells C 34))) := HB.out.trans (HT1.out.mono HB.out.size)
  have HX1 : Hid (PartOk (w.alloc (.cells C 34)) (w.alloc (.cells C 34)).heap.size i n A ts c d f) := Lib.hid (let q := HO.out.below (HBW.out.mono HBB.out); ⟨q.lo, q.hi, q.num, q.text.weak (fun b _ hl => hl), q.none_, q.dig, q.vec⟩)
  have c3' : (w.alloc (.cells C 34)).cell? ⟨w.heap.size, 3, none⟩ = some (.int .u64 (n : Int)) := cell_in HK.out HP.out.num
  go_wp2_with fail
  refine (numR_any n (w.alloc (.cells C 34)) HO.out.num).mono ?_
  rintro e w2 ⟨u, rfl, ho2, hb2⟩
  have HO2 := Lib.hid ho2
  have HB2 := Lib.hid hb2
  clear ho2 hb2
  go_wp2_with fail
  go_ret
  exact ⟨told_own HO2.out HBW.out.size (numB_lt _), HBW.out.trans (HB2.out.mono HBW.out.size)⟩
set_option maxRecDepth 100000 in
set_option maxHeartbeats 1000000 in
theorem putN_num5 (C : Array Value) {i m : Int} {n : Nat} {A : Option Addr} {ts : List Nat} {c : Nat} {d f : Nat → Nat} (w : World) (B : Nat) (h : PartC C 5 i m n A ts c d f) (ho : PartOk w B i n A ts c d f) (hB : B ≤ w.heap.size) :
    Calls Try.prog 7 #[.pointer none, .agg C] w fun e w' => Told w w' e (numB n) ∧ Below w.heap.size w w' := by
  have hb := heap_alloc_new w (.cells C 34)
  have c0 := cell_in hb h.kind
  have HB := Lib.hid (below1 w (.cells C 34))
  have HB0 := Lib.hid (HB.out.mono hB)
  have hz := h.size
  have HP := Lib.hid h
  have HO := Lib.hid ho
  have HH := Lib.hid hb
  have HBB := Lib.hid hB
  have c3 := cell_in hb h.num
  clear h ho hb hB
  go_enter Try.func7, Try.ntmps7
  go_wp2_with fail
  refine (num_nil n _).mono ?_
  rintro e w1 ⟨rfl, ew⟩
  obtain rfl := ew.symm
  have HK : Hid ((w.alloc (.cells C 34)).heap[w.heap.size]? = some (.cells C 34 (0, 0))) := HH
  have HT1 : Hid (Below (w.alloc (.cells C 34)).heap.size (w.alloc (.cells C 34)) (w.alloc (.cells C 34))) := Lib.hid (Below.refl _ _)
  have HBW : Hid (Below w.heap.size w (w.alloc (.cells C 34))) := HB.out.trans (HT1.out.mono HB.out.size)
  have HX1 : Hid (PartOk (w.alloc (.cells C 34)) (w.alloc (.cells C 34)).heap.size i n A ts c d f) := Lib.hid (let q := HO.out.below (HBW.out.mono HBB.out); ⟨q.lo, q.hi, q.num, q.text.weak (fun b _ hl => hl), q.none_, q.dig, q.vec⟩)
  have c3' : (w.alloc (.cells C 34)).cell? ⟨w.heap.size, 3, none⟩ = some (.int .u64 (n : Int)) := cell_in HK.out HP.out.num
  go_wp2_with fail
  refine (numR_any n (w.alloc (.cells C 34)) HO.out.num).mono ?_
  rintro e w2 ⟨u, rfl, ho2, hb2⟩
  have HO2 := Lib.hid ho2
  have HB2 := Lib.hid hb2
  clear ho2 hb2
  go_wp2_with fail
  go_ret
  exact ⟨told_own HO2.out HBW.out.size (numB_lt _), HBW.out.trans (HB2.out.mono HBW.out.size)⟩
set_option maxRecDepth 100000 in
theorem put_other (k : Int) (P : Value) (hk : k ≠ 0 ∧ k ≠ 5 ∧ k ≠ 1 ∧ k ≠ 2 ∧ k ≠ 3 ∧ k ≠ 4) (C : Array Value) {i m : Int} {n : Nat} {A : Option Addr} {ts : List Nat} {c : Nat} {d f : Nat → Nat} (w : World) (h : PartC C k i m n A ts c d f) :
    Calls Try.prog 7 #[P, .agg C] w fun e w' => Told w w' e [] ∧ Below w.heap.size w w' := by
  have c0 := cell_in (heap_alloc_new w (.cells C 34)) h.kind
  have HB := Lib.hid (below1 w (.cells C 34))
  have hz := h.size
  obtain ⟨k0, k5, k1, k2, k3, k4⟩ := hk
  clear h
  go_enter Try.func7, Try.ntmps7
  go_wp2
  go_ret
  exact ⟨⟨none, 0, rfl, ⟨fun _ h => (by cases h), fun h => (by cases h)⟩, fun _ => rfl⟩, HB.out⟩
end Go.Proofs.Ythodogcpoihjpaa
