/- The law's own 'alive'. -/
import Derived.Test.YthodogcpoihjpaaR4
import Derived.Laws.BytesArg
import Derived.Lib.SlBytesConst
namespace Go.Proofs.Ythodogcpoihjpaa
open Go.RowKit
theorem lit_bytes (w : World) (xs : List Nat) (m : Nat × Nat) (hx : ∀ x, x ∈ xs → x < 256) : Bytes (w.alloc (.cells (ints8 xs).toArray 5 m)) (fun b => b = w.heap.size) (some ⟨w.heap.size, 0, none⟩) xs := by
  refine ⟨hx, fun _ => ⟨_, _, rfl, rfl, fun j hj => ?_⟩⟩
  rw [Nat.zero_add]
  unfold World.cell?
  rw [heap_alloc_new]
  simp [ints8, List.getD_eq_getElem?_getD, hj]
theorem RAt.drew {x : World} {R : Nat} {A : Option Addr} {c : Nat} {bs : List Nat} {at_ : Nat} {e : Int} (h : RAt x R A c bs at_ e) : RAt x.drew R A c bs at_ e := ⟨h.row, ⟨h.by_.lt, h.by_.at_⟩, h.le, h.cap, h.some_⟩
theorem below_drew {B : Nat} {x y : World} (h : Below B x y) : Below B x y.drew := ⟨h.os, h.tape, h.output, h.size, h.block⟩
def b8 : List Nat := [2, 1, 44, 1, 1, 1, 1, 97]
theorem alloc_size (w : World) (o : Obj) : (w.alloc o).heap.size = w.heap.size + 1 := Array.size_push _
theorem strb8 : strOfNums (b8.map fun n : Nat => (n : Int)) = ⟨#[2, 1, 44, 1, 1, 1, 1, 97]⟩ := by kernel_rfl
theorem str97 : strOfNums (([97] : List Nat).map fun n : Nat => (n : Int)) = ⟨#[97]⟩ := by kernel_rfl
theorem zz1 : zz (-1) = 1 := by decide
theorem b8_eq : (([] ++ numB 300) ++ numB 1) ++ textB [97] = b8 := by decide
theorem grown_below {x y : World} {R B : Nat} (h : x.grownBy y (some R)) (hB : B ≤ x.heap.size) (hR : B ≤ R) : Below B x y := (Below.refl B x).grown h hB (fun k e => by cases e; exact hR)
theorem conv_any {w : World} {ok : Nat → Prop} {A : Option Addr} {xs : List Nat} {c : Nat} (h : Bytes w ok A xs) (hn' : A ≠ none → 0 < xs.length) : (convert 24 9 (.slice A xs.length c)).run Try.prog w = .ok (.string (strOfNums (xs.map fun n : Nat => (n : Int)))) w := by
  by_cases h0 : 0 < xs.length
  · obtain ⟨b, o, e, _, hc⟩ := h.at_ h0
    subst e
    refine run_convert_bytes_arg w 24 5 rfl rfl b o xs.length c (xs.map fun n : Nat => (n : Int)) (by simp) (fun i hi => ?_) 9 rfl
    rw [hc i hi]
    simp [List.getD_eq_getElem?_getD, hi]
  · have : xs = [] := List.eq_nil_of_length_eq_zero (by omega)
    subst this
    cases A with
    | none => exact run_convert_bytes_nil w 24 5 rfl rfl _ _ 9 rfl
    | some a => exact absurd (hn' (by simp)) (by simp)
set_option maxRecDepth 100000 in
set_option maxHeartbeats 4000000 in
theorem alive_any (w : World) : Calls Try.prog 6 #[] w fun e w' => e = .returned (.bool true) ∧ Below w.heap.size w w' := by
  have HW0 : Hid (WAt (w.alloc (.cells #[.slice none 0 0] 26)) w.heap.size w.heap.size (.slice none 0 0) []) := ⟨heap_alloc_new _ _, World.ownsRow_nil _ _ _ _, Nat.le_refl _⟩
  have HB0 := Lib.hid (below1 w (.cells #[.slice none 0 0] 26))
  have kc : ∀ (w : World) (C : Array Value) (n c : Nat), (convert 24 24 (.slice (some ⟨w.heap.size, 0, none⟩) n c)).run Try.prog (w.alloc (.cells C 5)) = .ok (.slice (some ⟨w.heap.size, 0, none⟩) n c) (w.alloc (.cells C 5 (C.size, C.size + 1))) := fun w C n c => Lib.run_convert_bytes_const w 24 5 C n c rfl rfl
  go_enter Try.func6, Try.ntmps6
  go_wp2_with fail
  refine (num_any 300 _ w.heap.size w.heap.size _ [] (by decide) HW0.out (by simp)).mono ?_
  rintro e w1 ⟨rfl, v1, hw1, ht1⟩
  have HW1 := Lib.hid hw1
  have HB1 := Lib.hid (HB0.out.trans (ht1.below (Nat.le_refl _) HW0.out.blk HW0.out.base_le))
  clear hw1 ht1 HW0 HB0
  go_wp2_with fail
  refine (int_any (-1) w1 w.heap.size w.heap.size v1 _ (by decide) (by decide) HW1.out (by decide)).mono ?_
  rintro e w2 ⟨rfl, v2, hw2, ht2⟩
  rw [zz1] at hw2
  have HW2 := Lib.hid (hw2.below (below1 w2 (.cells #[.int .u8 97] 5 (1, 2))))
  have HB2 := Lib.hid ((HB1.out.trans (ht2.below (Nat.le_refl _) HW1.out.blk HW1.out.base_le)).trans ((below1 w2 (.cells #[.int .u8 97] 5 (1, 2))).mono hw2.base_le))
  have HL2 : Hid (Bytes (w2.alloc (.cells #[.int .u8 97] 5 (1, 2))) (fun b => b = w2.heap.size) (some ⟨w2.heap.size, 0, none⟩) [97]) := lit_bytes w2 [97] _ (by decide)
  have HN2 : Hid (w.heap.size ≠ w2.heap.size ∧ v2.ownBlock ≠ some w2.heap.size) := ⟨by have := hw2.lt; omega, fun e => by have := (hw2.own.lt _ e).2; omega⟩
  clear hw2 ht2 HW1 HB1
  go_wp2_with fail
  refine (text_any [97] 1 (some ⟨w2.heap.size, 0, none⟩) _ w.heap.size w.heap.size v2 _ _ HL2.out (fun b hb _ => by subst hb; exact ⟨fun e => HN2.out.1 e.symm, HN2.out.2⟩) (fun h => by cases h) (by decide) HW2.out (by decide)).mono ?_
  rintro e w3 ⟨rfl, v3, hw3, ht3⟩
  rw [b8_eq] at hw3
  have HW3 := Lib.hid hw3
  have HB3 := Lib.hid (HB2.out.trans (ht3.below (Nat.le_refl _) HW2.out.blk HW2.out.base_le))
  clear hw3 ht3 HW2 HB2 HL2 HN2
  go_wp2_with fail
  refine (bytes_any w3 _ _ v3 b8 HW3.out (by decide) (by decide)).mono ?_
  rintro e w4 ⟨u, rfl, ho, hb4⟩
  obtain ⟨A4, c4, rfl, hn4, hy4⟩ := own_bytes ho (by decide)
  have HB4 := Lib.hid (HB3.out.trans (hb4.mono HB3.out.size))
  have HY4 := Lib.hid hy4
  have HN4 := Lib.hid hn4
  clear ho hb4 hy4 hn4 HW3 HB3
  have l8 : b8.length = 8 := rfl
  go_wp2_with fail
  refine (from_any b8 c4 A4 w4 HY4.out (by decide)).mono ?_
  rintro e w5 ⟨R, A5, c5, rfl, hr5, hb5, hle5⟩
  have HR5 := Lib.hid hr5
  have HB5 := Lib.hid (HB4.out.trans (hb5.mono HB4.out.size))
  have HY5 := Lib.hid (HY4.out.below hb5)
  have HS5 := Lib.hid hb5.size
  have HE5 := Lib.hid hle5
  have HB5S := Lib.hid (HB4.out.size)
  clear hr5 hb5 hle5 HB4 HY4
  go_simp
  go_wp2_with fail
  have HE0 : Hid (w.heap.size ≤ R) := Nat.le_trans HB5S.out HE5.out
  have HD5 := Lib.hid HR5.out.drew
  go_region_with (first
    | (go_at_call 11; refine (rnum_ok 300 _ R A5 c5 b8 [1, 1, 1, 1, 97] 0 (by decide) HD5.out (by decide) rfl).mono ?_; rintro e w6 ⟨rfl, hr6, hg6⟩)
    | (go_at_call 13; refine (rint_ok (-1) _ R A5 c5 b8 [1, 1, 97] 3 (by decide) (by decide) hr6 (by decide) rfl).mono ?_; rintro e w7 ⟨rfl, hr7, hg7⟩)
    | (go_at_call 15; refine (rtext_ok [97] 5 _ R A5 c5 b8 [] 5 (by decide) (by decide) hr7 (by decide) rfl).mono ?_; rintro e w8 ⟨v8, rfl, ho8, hr8, hg8⟩; obtain ⟨A8, c8, rfl, hn8, hy8⟩ := own_bytes ho8 (by decide); have kv : (convert 24 9 (.slice A8 1 c8)).run Try.prog w8 = .ok (.string ⟨#[97]⟩) w8 := (conv_any (c := c8) hy8 (fun _ => by decide)).trans (by rw [str97])))
  have hG := only_trans (only_trans hg6 hg7) hg8
  have HR8 := Lib.hid hr8
  have HB8 := Lib.hid (below_only (below_drew HB5.out) hG (below_drew HB5.out).size HE0.out)
  have HY8 : Hid (Bytes w8 (· < w8.heap.size) A4 b8) := by
    refine ⟨HY5.out.lt, fun hp => ?_⟩
    obtain ⟨b, o, e, hb, hc⟩ := HY5.out.at_ hp
    refine ⟨b, o, e, Nat.lt_of_lt_of_le (Nat.lt_of_lt_of_le hb HS5.out) hG.size, fun j hj => ?_⟩
    rw [← hc j hj]
    exact World.cell?_of_block (w := w5) (a := ⟨b, o + j, none⟩) (hG.block b (Nat.lt_of_lt_of_le hb HS5.out) (fun h => by have := HE5.out; cases h; exact absurd hb (by omega)))
  clear hr6 hg6 hr7 hg7 hr8 hg8 HR5 HB5 HD5 ho8 hy8 kv hn8 hG HY5 HE5 HE0 HS5
  have HL9 : Hid (Bytes (w8.alloc (.cells #[.int .u8 2, .int .u8 0, .int .u8 5] 5)) (· < (w8.alloc (.cells #[.int .u8 2, .int .u8 0, .int .u8 5] 5)).heap.size) (some ⟨w8.heap.size, 0, none⟩) [2, 0, 5]) := (lit_bytes w8 [2, 0, 5] _ (by decide)).weak (fun b _ h => h)
  go_wp2_with fail
  refine (from_any [2, 0, 5] 3 (some ⟨w8.heap.size, 0, none⟩) _ HL9.out (by decide)).mono ?_
  rintro e w9 ⟨X, A9, c9, rfl, hr9, hb9, hle9⟩
  have HR9 := Lib.hid hr9
  have hz9 : w8.heap.size + 1 ≤ X := by rw [← alloc_size w8]; exact hle9
  have hB9 : Below w8.heap.size w8 w9 := (below1 w8 _).trans (hb9.mono (by rw [alloc_size]; exact Nat.le_succ _))
  have HB9 := Lib.hid hB9
  have HZ9 := Lib.hid hz9
  clear hr9 hb9 hle9 HL9 hz9 hB9
  go_wp2_with fail
  refine (rnum_zero 2 w9 X A9 c9 [2, 0, 5] [5] 0 (by decide) (by decide) HR9.out (by decide) rfl (by decide)).mono ?_
  rintro e w10 ⟨rfl, hr10, hg10⟩
  have hB10 : Below w8.heap.size w8 w10 := below_only HB9.out hg10 HB9.out.size (by have := HZ9.out; omega)
  have HX10 := Lib.hid hr10
  have HR10 := Lib.hid (HR8.out.only hB10)
  have HB10 := Lib.hid (HB8.out.trans (hB10.mono HB8.out.size))
  have HY10 : Hid (Bytes w10 (· < w8.heap.size) A4 b8) := HY8.out.below hB10
  have kb : (convert 24 9 (.slice A4 8 c4)).run Try.prog w10 = .ok (.string ⟨#[2, 1, 44, 1, 1, 1, 1, 97]⟩) w10 := (conv_any (c := c4) HY10.out (fun _ => by decide)).trans (by rw [strb8])
  clear hr10 hg10 hB10 HR8 HB8 HY8 HR9 HB9 HZ9 HY10
  go_wp2_with fail
  refine (end_any w10 R A5 c5 b8 8 0 HR10.out (by decide)).mono ?_
  rintro e w11 ⟨rfl, hb11⟩
  have HX11 := Lib.hid (HX10.out.only hb11)
  have HB11 := Lib.hid (HB10.out.trans (hb11.mono HB10.out.size))
  have e0 : (if (0 : Int) = 0 then (if 8 < b8.length then (2 : Int) else 0) else 0) = 0 := by decide
  rw [e0]
  clear hb11 HR10 HX10 HB10 e0
  go_wp2_with fail
  refine (end_any w11 X A9 c9 [2, 0, 5] _ 3 HX11.out (by decide)).mono ?_
  rintro e w12 ⟨rfl, hb12⟩
  have HB12 := Lib.hid (HB11.out.trans (hb12.mono HB11.out.size))
  have e3 : ∀ n : Nat, (if (3 : Int) = 0 then (if n < ([2, 0, 5] : List Nat).length then (2 : Int) else 0) else 3) = 3 := fun n => by simp
  rw [e3]
  clear hb12 HX11 HB11 e3
  have HL13 : Hid (Bytes (w12.alloc (.cells #[.int .u8 9] 5)) (· < (w12.alloc (.cells #[.int .u8 9] 5)).heap.size) (some ⟨w12.heap.size, 0, none⟩) [9]) := (lit_bytes w12 [9] _ (by decide)).weak (fun b _ h => h)
  go_wp2_with fail
  refine (from_any [9] 1 (some ⟨w12.heap.size, 0, none⟩) _ HL13.out (by decide)).mono ?_
  rintro e w13 ⟨Y, A13, c13, rfl, hr13, hb13, hle13⟩
  have HR13 := Lib.hid hr13
  have HB13 := Lib.hid ((HB12.out.trans ((below1 w12 (.cells #[.int .u8 9] 5)).mono HB12.out.size)).trans (hb13.mono (Nat.le_trans HB12.out.size (by rw [alloc_size]; exact Nat.le_succ _))))
  clear hr13 hb13 hle13 HL13 HB12
  go_wp2_with fail
  refine (end_any w13 Y A13 c13 [9] 0 0 HR13.out (by decide)).mono ?_
  rintro e w14 ⟨rfl, hb14⟩
  have HB14 := Lib.hid (HB13.out.trans (hb14.mono HB13.out.size))
  have e2 : (if (0 : Int) = 0 then (if 0 < ([9] : List Nat).length then (2 : Int) else 0) else 0) = 2 := by decide
  rw [e2]
  clear hb14 HR13 HB13 e2
  go_wp2_with fail
  go_ret
  exact ⟨rfl, HB14.out⟩
end Go.Proofs.Ythodogcpoihjpaa
