/- The law's got, at bytes that may be cut. -/
import Derived.Test.YthodogcpoihjpaaS4
import Derived.Test.YthodogcpoihjpaaW2
namespace Go.Proofs.Ythodogcpoihjpaa
open Go.RowKit
theorem Cut.only {R : Nat} {A : Option Addr} {c : Nat} {bs zs : List Nat} {x y : World} (h : Cut R A c bs zs x) (hb : Below x.heap.size x y) : Cut R A c bs zs y := h.far h fun k hk => hb.block k hk
theorem conv_dig (w : World) (g : Nat → Nat) (hg : ∀ j, g j < 256) : (convert 24 9 (.slice (some ⟨w.heap.size, 0, none⟩) 32 32)).run Try.prog (w.alloc (.cells (arrOf .u8 32 g) 30)) = .ok (.string (strOfNums ((digB g).map fun n : Nat => (n : Int)))) (w.alloc (.cells (arrOf .u8 32 g) 30)) := by
  have h := conv_any (c := 32) (dig_bytes w g hg) (fun _ => by rw [dig_len]; omega)
  rw [dig_len] at h
  exact h
set_option maxRecDepth 100000 in
set_option maxHeartbeats 1000000 in
theorem got_num (C : Array Value) {i m : Int} {n : Nat} {A : Option Addr} {ts : List Nat} {c : Nat} {d f : Nat → Nat} (w : World) (B R : Nat) (A0 : Option Addr) (c0 : Nat) (bs T : List Nat) (h : PartC C 0 i m n A ts c d f) (ho : PartOk w B i n A ts c d f) (hc : Cut R A0 c0 bs (numB n ++ T) w) (hs : bs.length ≤ 1000000) :
    Calls Try.prog 21 #[.pointer (some ⟨R, 0, none⟩), .agg C] w fun e w' => (∃ s, e = .returned (.string s)) ∧ Cut R A0 c0 bs T w' ∧ w.grownBy w' (some R) := by
  have hb := heap_alloc_new w (.cells C 34)
  have ck := cell_in hb h.kind
  have HB := Lib.hid (below1 w (.cells C 34))
  have HC1 := Lib.hid (hc.only HB.out)
  have hz := h.size
  have HO := Lib.hid ho
  have HRC := Lib.hid (rnum_cut n T _ R A0 c0 bs HO.out.num HC1.out hs)
  clear h ho hc hb HC1
  go_enter Try.func21, Try.ntmps21
  go_wp2_with fail
  refine HRC.out.mono ?_
  rintro e w1 ⟨m2, hm2, rfl, hc, hg⟩
  have HC2 := Lib.hid hc
  have HG2 := Lib.hid (only_trans (only_below HB.out (some R)) hg)
  have HF := Lib.hid (numR_any m2 w1 hm2)
  clear hc hg HRC ck
  go_wp2_with fail
  refine HF.out.mono ?_
  rintro e w2 ⟨u, rfl, ho2, hb2⟩
  have kc := own_conv ho2 (numB_lt _)
  have HC3 := Lib.hid (HC2.out.only hb2)
  have HG3 := Lib.hid (only_below_trans HG2.out hb2)
  clear ho2 hb2 HC2 HG2 HF
  go_wp2_with fail
  go_ret
  exact ⟨⟨_, rfl⟩, HC3.out, HG3.out⟩
set_option maxRecDepth 100000 in
set_option maxHeartbeats 1000000 in
theorem got_int (C : Array Value) {i m : Int} {n : Nat} {A : Option Addr} {ts : List Nat} {c : Nat} {d f : Nat → Nat} (w : World) (B R : Nat) (A0 : Option Addr) (c0 : Nat) (bs T : List Nat) (h : PartC C 1 i m n A ts c d f) (ho : PartOk w B i n A ts c d f) (hi1 : -4611686018427387904 ≤ i) (hi2 : i ≤ 4611686018427387904) (hc : Cut R A0 c0 bs (numB (zz i) ++ T) w) (hs : bs.length ≤ 1000000) :
    Calls Try.prog 21 #[.pointer (some ⟨R, 0, none⟩), .agg C] w fun e w' => (∃ s, e = .returned (.string s)) ∧ Cut R A0 c0 bs T w' ∧ w.grownBy w' (some R) := by
  have hb := heap_alloc_new w (.cells C 34)
  have ck := cell_in hb h.kind
  have HB := Lib.hid (below1 w (.cells C 34))
  have HC1 := Lib.hid (hc.only HB.out)
  have hz := h.size
  have HO := Lib.hid ho
  have HRC := Lib.hid (rint_cut i T _ R A0 c0 bs hi1 hi2 HC1.out hs)
  clear h ho hc hb HC1
  go_enter Try.func21, Try.ntmps21
  go_wp2_with fail
  refine HRC.out.mono ?_
  rintro e w1 ⟨m2, hm2, hm3, rfl, hc, hg⟩
  have HC2 := Lib.hid hc
  have HG2 := Lib.hid (only_trans (only_below HB.out (some R)) hg)
  have HF := Lib.hid (intR_any m2 w1 hm2 hm3)
  clear hc hg HRC ck
  go_wp2_with fail
  refine HF.out.mono ?_
  rintro e w2 ⟨u, rfl, ho2, hb2⟩
  have kc := own_conv ho2 (numB_lt _)
  have HC3 := Lib.hid (HC2.out.only hb2)
  have HG3 := Lib.hid (only_below_trans HG2.out hb2)
  clear ho2 hb2 HC2 HG2 HF
  go_wp2_with fail
  go_ret
  exact ⟨⟨_, rfl⟩, HC3.out, HG3.out⟩
set_option maxRecDepth 100000 in
set_option maxHeartbeats 1000000 in
theorem got_vec (C : Array Value) {i m : Int} {n : Nat} {A : Option Addr} {ts : List Nat} {c : Nat} {d f : Nat → Nat} (w : World) (B R : Nat) (A0 : Option Addr) (c0 : Nat) (bs T : List Nat) (h : PartC C 4 i m n A ts c d f) (ho : PartOk w B i n A ts c d f) (hc : Cut R A0 c0 bs (vecB f 8 ++ T) w) (hs : bs.length ≤ 1000000) :
    Calls Try.prog 21 #[.pointer (some ⟨R, 0, none⟩), .agg C] w fun e w' => (∃ s, e = .returned (.string s)) ∧ Cut R A0 c0 bs T w' ∧ w.grownBy w' (some R) := by
  have hb := heap_alloc_new w (.cells C 34)
  have ck := cell_in hb h.kind
  have HB := Lib.hid (below1 w (.cells C 34))
  have HC1 := Lib.hid (hc.only HB.out)
  have hz := h.size
  have HO := Lib.hid ho
  have HRC := Lib.hid (rvec_cut f T _ R A0 c0 bs HO.out.vec HC1.out hs)
  clear h ho hc hb HC1
  go_enter Try.func21, Try.ntmps21
  go_wp2_with fail
  refine HRC.out.mono ?_
  rintro e w1 ⟨g2, hg2, rfl, hc, hg⟩
  have HC2 := Lib.hid hc
  have HG2 := Lib.hid (only_trans (only_below HB.out (some R)) hg)
  have HF := Lib.hid (vecR_any g2 w1 (fun j _ => hg2 j))
  clear hc hg HRC ck
  go_wp2_with fail
  refine HF.out.mono ?_
  rintro e w2 ⟨u, rfl, ho2, hb2⟩
  have kc := own_conv ho2 (vecB_lt _ 8)
  have HC3 := Lib.hid (HC2.out.only hb2)
  have HG3 := Lib.hid (only_below_trans HG2.out hb2)
  clear ho2 hb2 HC2 HG2 HF
  go_wp2_with fail
  go_ret
  exact ⟨⟨_, rfl⟩, HC3.out, HG3.out⟩
set_option maxRecDepth 100000 in
set_option maxHeartbeats 1000000 in
theorem got_text (C : Array Value) {i m : Int} {n : Nat} {A : Option Addr} {ts : List Nat} {c : Nat} {d f : Nat → Nat} (w : World) (B R : Nat) (A0 : Option Addr) (c0 : Nat) (bs T : List Nat) (h : PartC C 2 i m n A ts c d f) (ho : PartOk w B i n A ts c d f) (htl : ts.length ≤ 500) (hm1 : (ts.length : Int) ≤ m) (hm2 : m ≤ 9223372036854775807) (hc : Cut R A0 c0 bs (textB ts ++ T) w) (hs : bs.length ≤ 1000000) :
    Calls Try.prog 21 #[.pointer (some ⟨R, 0, none⟩), .agg C] w fun e w' => (∃ s, e = .returned (.string s)) ∧ Cut R A0 c0 bs T w' ∧ w.grownBy w' (some R) := by
  have hb := heap_alloc_new w (.cells C 34)
  have ck := cell_in hb h.kind
  have HB := Lib.hid (below1 w (.cells C 34))
  have HC1 := Lib.hid (hc.only HB.out)
  have hz := h.size
  have HO := Lib.hid ho
  have cm := cell_in hb h.most
  have HRC := Lib.hid (rtext_cut ts m T _ R A0 c0 bs htl hm1 hm2 HO.out.text.lt HC1.out hs)
  clear h ho hc hb HC1
  go_enter Try.func21, Try.ntmps21
  go_wp2_with fail
  refine HRC.out.mono ?_
  rintro e w1 ⟨v2, xs2, rfl, hx2, ho2, hc, hg⟩
  have HC2 := Lib.hid hc
  have HG2 := Lib.hid (only_trans (only_below HB.out (some R)) hg)
  have kc := own_conv ho2 hx2
  clear hc hg HRC ck ho2
  go_wp2_with fail
  go_ret
  exact ⟨⟨_, rfl⟩, HC2.out, HG2.out⟩
set_option maxRecDepth 100000 in
set_option maxHeartbeats 1000000 in
theorem got_dig (C : Array Value) {i m : Int} {n : Nat} {A : Option Addr} {ts : List Nat} {c : Nat} {d f : Nat → Nat} (w : World) (B R : Nat) (A0 : Option Addr) (c0 : Nat) (bs T : List Nat) (h : PartC C 3 i m n A ts c d f) (ho : PartOk w B i n A ts c d f) (hc : Cut R A0 c0 bs (digB d ++ T) w) (hs : bs.length ≤ 1000000) :
    Calls Try.prog 21 #[.pointer (some ⟨R, 0, none⟩), .agg C] w fun e w' => (∃ s, e = .returned (.string s)) ∧ Cut R A0 c0 bs T w' ∧ w.grownBy w' (some R) := by
  have hb := heap_alloc_new w (.cells C 34)
  have ck := cell_in hb h.kind
  have HB := Lib.hid (below1 w (.cells C 34))
  have HC1 := Lib.hid (hc.only HB.out)
  have hz := h.size
  have HO := Lib.hid ho
  have HRC := Lib.hid (rdig_cut d T _ R A0 c0 bs HO.out.dig HC1.out hs)
  clear h ho hc hb HC1
  go_enter Try.func21, Try.ntmps21
  go_wp2_with fail
  refine HRC.out.mono ?_
  rintro e w1 ⟨g2, hg2, rfl, hc, hg⟩
  have HC2 := Lib.hid hc
  have HG2 := Lib.hid (only_trans (only_below HB.out (some R)) hg)
  have kc := conv_dig w1 g2 hg2
  have hsl := fun x => sl30 w1.heap.size x
  have HBA := Lib.hid (below1 w1 (.cells (arrOf .u8 32 g2) 30))
  clear hc hg HRC ck
  go_wp2_with (refine wpList_store_row rfl 30 _ _ rfl w1.heap.size (arrOf .u8 32 g2) rfl rfl 30 _ (heap_alloc_new _ _) size30e (by rw [arrOf_size]; rfl) (arrOf_one _ _ _) ?_; rw [World.setRow_alloc_new])
  go_ret
  exact ⟨⟨_, rfl⟩, HC2.out.only HBA.out, only_below_trans HG2.out HBA.out⟩
end Go.Proofs.Ythodogcpoihjpaa
