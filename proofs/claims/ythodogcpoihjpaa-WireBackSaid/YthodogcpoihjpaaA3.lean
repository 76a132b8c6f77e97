/- Bytes in new memory; the reference's whole numbers, texts, vectors. -/
import Derived.Test.YthodogcpoihjpaaA2
import Derived.OwnWalk
namespace Go.Proofs.Ythodogcpoihjpaa
open Go.RowKit

theorem size5 : (Try.prog.info? 5).map (·.size) = some 1 := by kernel_rfl
theorem bytes_cells {w : World} {ok : Nat → Prop} {ad : Addr} {xs : List Nat} (h : Bytes w ok (some ad) xs) (hp : 0 < xs.length) : ∀ j v, (ints8 xs)[j]? = some v → w.cell? (ad.add j) = some v := fun j v hv => by
  obtain ⟨b, o, e, _, hc⟩ := h.at_ hp
  injection e with e
  subst e
  have hj : j < xs.length := by
    have := (List.getElem?_eq_some_iff.1 hv).1
    rwa [ints8_length] at this
  rw [Go.WideShapes.add_plain, hc j hj]
  simp only [ints8, List.getElem?_map, List.getElem?_eq_getElem hj, Option.map_some] at hv
  rw [← hv]
  simp [List.getD_eq_getElem?_getD, hj]
theorem ints8_one (xs : List Nat) : ∀ v ∈ ints8 xs, v.oneCell' = true := fun v hv => by
  simp only [ints8, List.mem_map] at hv
  obtain ⟨y, _, rfl⟩ := hv
  rfl

theorem full_cells {w : World} {base g n : Nat} {l : List Value} (h : w.ownsRow base 5 1 (.slice (some ⟨g, 0, none⟩) n n) n l) : ∃ cur, Hid (w.heap[g]? = some (.cells cur 5 (0, 0))) ∧ Hid (cur.size = n) := by
  rcases h.2 with ⟨hv, _⟩ | ⟨g', cap, cur, hv, _, hg, _, _, hcs, _⟩
  · cases hv
  injection hv with hv1 _ hv2
  injection hv1 with hv1
  injection hv1 with hv1
  subst hv1 hv2
  exact ⟨cur, hg, by show _ = _; omega⟩
set_option maxHeartbeats 1000000 in
theorem fresh_any (xs : List Nat) (c : Nat) (A : Option Addr) (w : World) (hx : Bytes w (· < w.heap.size) A xs) (hs : xs.length ≤ 1000000) :
    Calls Try.prog 26 #[.slice A xs.length c] w fun e w' => ∃ v, e = .returned v ∧ w'.ownsRow w.heap.size 5 1 v xs.length (ints8 xs) ∧ Below w.heap.size w w' := by
  have HX := Lib.hid hx
  clear hx
  obtain ⟨i, hi, hz, hsz, hby⟩ := info_parts info5
  have HI := Lib.hid hi
  have HZ := Lib.hid hz
  have HS := Lib.hid hsz
  have HBY := Lib.hid hby
  clear hi hz hsz hby
  obtain ⟨n, hn⟩ : ∃ n, n = xs.length := ⟨_, rfl⟩
  have b2 : Hid (i.bytes * n ≤ 281474976710656) := by show _ ≤ _; rw [HBY.out]; omega
  have b3 : Hid (n ≤ maxLen) := by show n ≤ maxLen; unfold maxLen; omega
  rw [← hn] at hs ⊢
  have HN := Lib.hid hn
  clear hn
  have HL : Hid (∀ w1 : World, w.grownBy w1 none → Below w.heap.size w w1) := fun _ h => (Below.refl _ _).grown h (Nat.le_refl _) (fun k hk => by cases hk)
  by_cases h0 : n = 0
  · subst h0
    go_enter Try.func26, Try.ntmps26
    go_wp2_with (first
      | (refine wpList_make_full _ rfl (.tmp 5) (.tmp 5) 24 rfl w.heap.size 5 i _ 1 Try.underlying24 HI.out HZ.out HS.out .i64 .i64 _ _ 0 rfl rfl rfl rfl b2.out b3.out (Nat.le_refl _) ?_; intro w1 ho1 hg1; obtain ⟨cur, HC, HSZ⟩ := full_cells ho1; have HB1 := Lib.hid (HL.out _ hg1); clear ho1 hg1)
      | (refine wpList_copy_nothing rfl (.tmp 7) (.tmp 8) 24 24 rfl 5 Try.underlying24 size5 _ _ _ _ _ _ rfl rfl rfl ?_))
    go_ret
    have hxs : xs = [] := List.length_eq_zero_iff.1 HN.out.symm
    subst hxs
    exact ⟨_, rfl, ⟨rfl, .inr ⟨w.heap.size, 0, cur, rfl, Nat.le_refl _, HC.out, Nat.le_refl _, Nat.zero_le _, by simpa using HSZ.out, rfl⟩⟩, HB1.out⟩
  · obtain ⟨b, o, hA, _, _⟩ := HX.out.at_ (by have := HN.out; omega)
    subst hA
    have hone := Lib.hid (ints8_one xs)
    have hlen : Hid ((ints8 xs).length = Nat.min n n) := by show _ = _; rw [ints8_length, HN.out]; exact (Nat.min_self _).symm
    go_enter Try.func26, Try.ntmps26
    go_wp2_with (first
      | (refine wpList_make_full _ rfl (.tmp 5) (.tmp 5) 24 rfl w.heap.size 5 i _ 1 Try.underlying24 HI.out HZ.out HS.out .i64 .i64 _ _ n rfl rfl rfl rfl b2.out b3.out (Nat.le_refl _) ?_; intro w1 ho1 hg1; obtain ⟨cur, HC, HSZ⟩ := full_cells ho1; have HB1 := Lib.hid (HL.out _ hg1); clear ho1 hg1; have hfit : Hid (0 + (ints8 xs).length ≤ cur.size) := (by show _ ≤ _; rw [ints8_length, HSZ.out, HN.out]; omega); have HCL := Lib.hid (bytes_cells (HX.out.below HB1.out) (by have := HN.out; omega)))
      | (refine wpList_copy_own rfl (.tmp 7) (.tmp 8) 24 24 rfl 5 Try.underlying24 size5 w.heap.size 0 n n ⟨b, o, none⟩ n c rfl rfl cur 5 HC.out (ints8 xs) hlen.out HCL.out hfit.out hone.out ?_))
    go_ret
    have hN := HN.out
    have hS := HSZ.out
    refine ⟨_, rfl, ?_, below_setRow' HB1.out (Nat.le_refl _) _⟩
    have e : ints8 xs ++ cur.toList.drop (ints8 xs).length = ints8 xs := by
      rw [List.drop_eq_nil_of_le (by rw [ints8_length]; simp; omega), List.append_nil]
    rw [e]
    refine ⟨by rw [ints8_length]; omega, .inr ⟨w.heap.size, n, (ints8 xs).toArray, rfl, Nat.le_refl _, setRow_heap _ _ _ _ _ _ HC.out, by omega, by unfold maxLen; omega, by simp [ints8_length]; omega, ?_⟩⟩
    rw [List.take_of_length_le (by simp [ints8_length]; omega)]

theorem own_weak {w : World} {b B : Nat} {v : Value} {n : Nat} {l : List Value} (h : w.ownsRow B 5 1 v n l) (hb : b ≤ B) : w.ownsRow b 5 1 v n l :=
  ⟨h.1, h.2.imp id fun ⟨g, cap, cur, h1, h2, h3⟩ => ⟨g, cap, cur, h1, Nat.le_trans hb h2, h3⟩⟩
/-- Twice a whole number, or, below 0, twice what it is below, less 1. -/
def zz (n : Int) : Nat := if 0 ≤ n then 2 * n.toNat else 2 * (-(n + 1)).toNat + 1
theorem zz_lt {n : Int} (h1 : -9223372036854775808 ≤ n) (h2 : n ≤ 9223372036854775807) : zz n < 18446744073709551616 := by
  unfold zz
  split <;> omega
set_option maxHeartbeats 1000000 in
theorem intR_any (n : Int) (w : World) (h1 : -9223372036854775808 ≤ n) (h2 : n ≤ 9223372036854775807) :
    Calls Try.prog 23 #[.int .i64 n] w fun e w' => ∃ v, e = .returned v ∧ w'.ownsRow w.heap.size 5 1 v (numB (zz n)).length (ints8 (numB (zz n))) ∧ Below w.heap.size w w' := by
  obtain ⟨Z, hZ⟩ : ∃ Z, Z = zz n := ⟨_, rfl⟩
  have hl := zz_lt h1 h2
  rw [← hZ] at hl ⊢
  have HZ := Lib.hid hZ
  have HC := Lib.hid (numR_any Z w hl)
  by_cases h0 : 0 ≤ n
  · have e1 : IntKind.u64.wrap n = n := by rw [IntKind.wrap_u64]; omega
    have e2 : IntKind.u64.wrap (2 * n) = (Z : Int) := by rw [IntKind.wrap_u64, hZ, zz, if_pos h0]; omega
    clear hZ
    go_enter Try.func23, Try.ntmps23
    go_wp2_with (go_at_call 22; refine HC.out.mono ?_; rintro e w1 ⟨v, rfl, hb⟩; have HB := Lib.hid hb; clear hb)
    go_ret
    exact ⟨v, rfl, HB.out⟩
  · have e7 : 2 * -(n + 1) + 1 = (Z : Int) := by rw [hZ, zz, if_neg h0]; omega
    have E7 := Lib.hid e7
    clear hZ e7
    have h0' : n < 0 := by omega
    go_enter Try.func23, Try.ntmps23
    go_wp2_with fail
    rw [E7.out]
    refine HC.out.mono ?_
    rintro e w1 ⟨v, rfl, hb⟩
    have HB := Lib.hid hb
    clear hb
    go_wp2_with fail
    go_ret
    exact ⟨v, rfl, HB.out⟩

theorem num_len (n : Nat) : (numB n).length ≤ 9 := by
  have := be_len8 n
  rw [numB, List.length_cons]
  omega
/-- A text as it is written. -/
def textB (xs : List Nat) : List Nat := numB xs.length ++ xs
set_option maxHeartbeats 1000000 in
theorem textR_any (xs : List Nat) (c : Nat) (A : Option Addr) (w : World) (hx : Bytes w (· < w.heap.size) A xs) (hn : A = none → c = 0) (hs : xs.length ≤ 900000) :
    Calls Try.prog 24 #[.slice A xs.length c] w fun e w' => ∃ v, e = .returned v ∧ w'.ownsRow w.heap.size 5 1 v (textB xs).length (ints8 (textB xs)) ∧ Below w.heap.size w w' := by
  have HX := Lib.hid hx
  have HNN := Lib.hid hn
  clear hx hn
  obtain ⟨n, hnn⟩ : ∃ n, n = xs.length := ⟨_, rfl⟩
  have HC := Lib.hid (numR_any n w (by omega))
  have HN := Lib.hid hnn
  have hl := num_len n
  clear hnn
  go_enter Try.func24, Try.ntmps24
  go_wp2_with fail
  rw [← HN.out]
  refine HC.out.mono ?_
  rintro e w1 ⟨v, rfl, ho, hb⟩
  have HO := Lib.hid ho
  have HB := Lib.hid hb
  clear ho hb
  rw [HN.out]
  go_wp2_with (refine wpList_append_bytes rfl (.tmp 6) (.tmp 7) rfl w.heap.size _ (numB n).length (numB n) rfl HO.out A xs c (· < w.heap.size) rfl (HX.out.below HB.out) HNN.out (by omega) HB.out.size ?_; intro v1 w2 H1 B1)
  go_ret
  refine ⟨v1, rfl, ?_, HB.out.trans B1.out⟩
  have h := H1.out
  rw [textB, List.length_append, ← HN.out]
  rw [← HN.out] at h
  exact h

/-- A vector's numbers as they are written. -/
def vecB (f : Nat → Nat) (k : Nat) : List Nat := (List.range k).flatMap fun i => numB (f i)
theorem vecB_succ (f : Nat → Nat) (k : Nat) : vecB f (k + 1) = vecB f k ++ numB (f k) := by
  simp [vecB, List.range_succ, List.flatMap_append]
theorem vecB_len (f : Nat → Nat) : ∀ k, (vecB f k).length ≤ 9 * k
  | 0 => by simp [vecB]
  | k + 1 => by
    rw [vecB_succ, List.length_append]
    have := vecB_len f k
    have := num_len (f k)
    omega
theorem size32 : (Try.prog.info? 32).map (·.size) = some 8 := by kernel_rfl
theorem vec_row (w : World) (f : Nat → Nat) : (w.alloc (.cells (arrOf .u64 8 f) 32)).rowIs w.heap.size 32 8 (fun i => .int .u64 ((f i : Nat) : Int)) := arr_row (heap_alloc_new _ _)
structure VInv (w : World) (f : Nat → Nat) (k : Nat) (v : Value) (wr : World) : Prop where
  row : wr.rowIs w.heap.size 32 8 (fun i => .int .u64 ((f i : Nat) : Int))
  own : wr.ownsRow (w.heap.size + 1) 5 1 v (vecB f k).length (ints8 (vecB f k))
  below : Below w.heap.size w wr
  lt : w.heap.size + 1 ≤ wr.heap.size
theorem vecB_lt (f : Nat → Nat) (k : Nat) : ∀ z, z ∈ vecB f k → z < 256 := fun z hz => by
  simp only [vecB, List.mem_flatMap] at hz
  obtain ⟨i, _, hi⟩ := hz
  exact numB_lt _ z hi
set_option maxHeartbeats 2000000 in
theorem vecR_any (f : Nat → Nat) (w : World) (hf : ∀ i, i < 8 → f i < 18446744073709551616) :
    Calls Try.prog 25 #[.agg (arrOf .u64 8 f)] w fun e w' => ∃ v, e = .returned v ∧ w'.ownsRow w.heap.size 5 1 v (vecB f 8).length (ints8 (vecB f 8)) ∧ Below w.heap.size w w' := by
  have HF := Lib.hid hf
  clear hf
  have HI0 : Hid (VInv w f 0 (.slice none 0 0) (w.alloc (.cells (arrOf .u64 8 f) 32))) := ⟨vec_row w f, World.ownsRow_nil _ _ _ _, below1 _ _, by simp⟩
  go_enter Try.func25, Try.ntmps25
  go_wp2
  generalize w.alloc (.cells (arrOf .u64 8 f) 32) = w0 at *
  go_loopw [3, 4] (fun v a wr => ∃ (k : Nat), k ≤ 8 ∧ a = .int .i64 (k : Int) ∧ Hid (VInv w f k v wr)) (fun _ a _ => 8 - (intOf a).toNat)
  case atStart => exact ⟨0, by omega, rfl, HI0⟩
  case round =>
    clear HI0
    obtain ⟨k, hk, rfl, HI⟩ := hrel
    by_cases hlt : k < 8
    · have c1 := HI.out.row.cell hlt
      have hlen := vecB_len f k
      have hlen2 := num_len (f k)
      go_wp2_with fail
      refine (numR_any (f k) wr (HF.out k hlt)).mono ?_
      rintro e w1 ⟨v2, rfl, ho, hb⟩
      obtain ⟨A2, c2, rfl, hn2, hby2⟩ := own_bytes ho (numB_lt _)
      have OW := Lib.hid (own_keep HI.out.own fun j _ hj => hb.block j hj)
      have HB1 := Lib.hid hb
      have HN2 := Lib.hid hn2
      have HY2 := Lib.hid hby2
      have HLT : Hid (w.heap.size + 1 ≤ w1.heap.size) := Nat.le_trans HI.out.lt hb.size
      clear ho hb hn2 hby2 c1
      go_wp2_with (refine wpList_append_bytes rfl (.tmp 9) (.tmp 13) rfl (w.heap.size + 1) _ (vecB f k).length (vecB f k) rfl OW.out A2 (numB (f k)) c2 (· < w1.heap.size) rfl HY2.out HN2.out (by omega) HLT.out ?_; intro v3 w3 H3 B3)
      go_roundw
      case rel =>
        refine ⟨k + 1, by omega, by go_num, row_below (row_below HI.out.row HB1.out HI.out.row.lt) B3.out (by omega), ?_, (then2 HI.out.below HB1.out).trans (B3.out.mono (by omega)), Nat.le_trans HLT.out B3.out.size⟩
        have h := H3.out
        rw [vecB_succ, List.length_append]
        exact h
      case measure => simp [intOf]; omega
    · obtain rfl : k = 8 := by omega
      go_wp2
      go_ret
      exact ⟨_, rfl, own_weak HI.out.own (by omega), HI.out.below⟩
end Go.Proofs.Ythodogcpoihjpaa
