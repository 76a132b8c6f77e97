/- The law's parts: Great, put. -/
import Derived.Test.YthodogcpoihjpaaA7
namespace Go.Proofs.Ythodogcpoihjpaa
open Go.RowKit

/-- A part: its cells. -/
structure PartC (C : Array Value) (k i m : Int) (n : Nat) (A : Option Addr) (ts : List Nat) (c : Nat) (d f : Nat → Nat) : Prop where
  size : C.size = 45
  kind : C[0]? = some (.int .i64 k)
  int_ : C[1]? = some (.int .i64 i)
  most : C[2]? = some (.int .i64 m)
  num : C[3]? = some (.int .u64 (n : Int))
  text : C[4]? = some (.slice A ts.length c)
  dig : ∀ j, j < 32 → C[5 + j]? = some (.int .u8 ((d j : Nat) : Int))
  vec : ∀ j, j < 8 → C[37 + j]? = some (.int .u64 ((f j : Nat) : Int))
/-- What it may hold. -/
structure PartOk (x : World) (B : Nat) (i : Int) (n : Nat) (A : Option Addr) (ts : List Nat) (c : Nat) (d f : Nat → Nat) : Prop where
  lo : -9223372036854775808 ≤ i
  hi : i ≤ 9223372036854775807
  num : n < 18446744073709551616
  text : Bytes x (· < B) A ts
  none_ : A = none → c = 0
  dig : ∀ j, d j < 256
  vec : ∀ j, j < 8 → f j < 18446744073709551616
theorem PartOk.below {x y : World} {B : Nat} {i : Int} {n : Nat} {A : Option Addr} {ts : List Nat} {c : Nat} {d f : Nat → Nat} (h : PartOk x B i n A ts c d f) (hb : Below B x y) : PartOk y B i n A ts c d f :=
  ⟨h.lo, h.hi, h.num, h.text.below hb, h.none_, h.dig, h.vec⟩
theorem cell_in {x : World} {b : Nat} {C : Array Value} {t : TypeId} {fr : Nat × Nat} {j : Nat} {v : Value} (h : x.heap[b]? = some (.cells C t fr)) (hc : C[j]? = some v) : x.cell? ⟨b, j, none⟩ = some v := by
  unfold World.cell?
  rw [h]
  exact hc

theorem great_any (C : Array Value) {k i m : Int} {n : Nat} {A : Option Addr} {ts : List Nat} {c : Nat} {d f : Nat → Nat} (w : World) (h : PartC C k i m n A ts c d f) (hl : ts.length ≤ maxLen) :
    Calls Try.prog 5 #[.agg C] w fun e w' => e = .returned (.bool (decide (500 < ts.length))) ∧ Below w.heap.size w w' := by
  have c4 := cell_in (heap_alloc_new w (.cells C 34)) h.text
  have HB := Lib.hid (below1 w (.cells C 34))
  have e1 : ((500 : Int) < (ts.length : Int)) ↔ 500 < ts.length := by omega
  have HE := Lib.hid e1
  have hz := h.size
  clear h e1
  go_enter Try.func5, Try.ntmps5
  go_wp2
  go_ret
  exact ⟨by simp [HE.out], HB.out⟩
/-- The bytes of a part. -/
def partB (k i : Int) (n : Nat) (ts : List Nat) (d f : Nat → Nat) : List Nat :=
  if k = 0 ∨ k = 5 then numB n else if k = 1 then numB (zz i) else if k = 2 then textB ts else if k = 3 then digB d else if k = 4 then vecB f 8 else []
/-- What put says: new bytes. -/
def Told (w w' : World) (e : Ending) (zs : List Nat) : Prop := ∃ A c, e = .returned (.slice A zs.length c) ∧ Bytes w' (fun b => w.heap.size ≤ b ∧ b < w'.heap.size) A zs ∧ (A = none → c = 0)
theorem told_own {w w1 w' : World} {v : Value} {n : Nat} {zs : List Nat} (h : w'.ownsRow w1.heap.size 5 1 v n (ints8 zs)) (hw : w.heap.size ≤ w1.heap.size) (hz : ∀ z, z ∈ zs → z < 256) : Told w w' (.returned v) zs := by
  obtain ⟨A, c, rfl, hn, hb⟩ := own_bytes h hz
  refine ⟨A, c, rfl, ?_, hn⟩
  refine ⟨hb.lt, fun hp => ?_⟩
  obtain ⟨b, o, e, hlt, hc⟩ := hb.at_ hp
  subst e
  refine ⟨b, o, rfl, ⟨?_, hlt⟩, hc⟩
  have := (h.lt b rfl).1
  omega
set_option maxRecDepth 100000 in
theorem put_num (k : Int) (hk : k = 0 ∨ k = 5) (C : Array Value) {i m : Int} {n : Nat} {A : Option Addr} {ts : List Nat} {c : Nat} {d f : Nat → Nat} (w : World) (B W : Nat) (v : Value) (xs : List Nat) (h : PartC C k i m n A ts c d f) (ho : PartOk w B i n A ts c d f) (hw : WAt w B W v xs) (hs : xs.length ≤ 800000) :
    Calls Try.prog 7 #[.pointer (some ⟨W, 0, none⟩), .agg C] w fun e w' => Told w w' e (numB n) ∧ ∃ v', WAt w' B W v' (xs ++ numB n) ∧ Turn w w' W v.ownBlock v'.ownBlock := by
  have hb := heap_alloc_new w (.cells C 34)
  have c0 := cell_in hb h.kind
  have c3 := cell_in hb h.num
  have HB := Lib.hid (below1 w (.cells C 34))
  have HW := Lib.hid (hw.below HB.out)
  have HW0 := Lib.hid hw
  have hz := h.size
  have HP := Lib.hid h
  have HO := Lib.hid ho
  have HH := Lib.hid hb
  clear h ho hw hb
  rcases hk with rfl | rfl
  all_goals
    go_enter Try.func7, Try.ntmps7
    go_wp2_with fail
    refine (num_any n _ B W v xs HO.out.num HW.out (by omega)).mono ?_
    rintro e w1 ⟨rfl, v1, hw1, ht1⟩
    have c3' : w1.cell? ⟨w.heap.size, 3, none⟩ = some (.int .u64 (n : Int)) := cell_in ((ht1.block w.heap.size (by rw [alloc_size]; omega) (by have := HW0.out.lt; omega) (fun e => by have := HW0.out.own.lt _ e; omega)).trans HH.out) HP.out.num
    have HW1 := Lib.hid hw1
    have HT1 := Lib.hid ht1
    clear hw1 ht1
    go_wp2_with fail
    refine (numR_any n w1 HO.out.num).mono ?_
    rintro e w2 ⟨u, rfl, ho2, hb2⟩
    have HO2 := Lib.hid ho2
    have HB2 := Lib.hid hb2
    clear ho2 hb2
    go_wp2_with fail
    go_ret
    exact ⟨told_own HO2.out (Nat.le_trans HB.out.size HT1.out.size) (numB_lt _), v1, HW1.out.below HB2.out, ((Turn.of_below HB.out).trans HT1.out).trans (Turn.of_below HB2.out)⟩
end Go.Proofs.Ythodogcpoihjpaa
