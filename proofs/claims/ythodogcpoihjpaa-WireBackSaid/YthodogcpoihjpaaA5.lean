/- The writer's Int, Text, Vec, Bytes. -/
import Derived.Test.YthodogcpoihjpaaA4
namespace Go.Proofs.Ythodogcpoihjpaa
open Go.RowKit

set_option maxHeartbeats 1000000 in
theorem int_nil (n : Int) (w : World) (h1 : -9223372036854775808 ≤ n) (h2 : n ≤ 9223372036854775807) : Calls Try.prog 12 #[.pointer none, .int .i64 n] w fun e w' => e = .returned (.tuple #[]) ∧ w' = w := by
  obtain ⟨Z, hZ⟩ : ∃ Z, Z = zz n := ⟨_, rfl⟩
  have HC := Lib.hid (num_nil Z w)
  by_cases h0 : 0 ≤ n
  · have e1 : n * 2 = (Z : Int) := by rw [hZ, zz, if_pos h0]; omega
    have E1 := Lib.hid e1
    clear hZ e1
    go_enter Try.func12, Try.ntmps12
    go_wp2_with fail
    rw [E1.out]
    refine HC.out.mono ?_
    rintro e w1 ⟨rfl, ew⟩
    obtain rfl := ew.symm
    go_wp2_with fail
    exact bodyPost_ret (results_none Try.results12 _ _ _) rfl ⟨rfl, rfl⟩
  · have e7 : -(n + 1) * 2 + 1 = (Z : Int) := by rw [hZ, zz, if_neg h0]; omega
    have E7 := Lib.hid e7
    clear hZ e7
    have h0' : n < 0 := by omega
    go_enter Try.func12, Try.ntmps12
    go_wp2_with fail
    rw [E7.out]
    refine HC.out.mono ?_
    rintro e w1 ⟨rfl, ew⟩
    obtain rfl := ew.symm
    go_wp2_with fail
    go_end0
    exact ⟨rfl, rfl⟩
set_option maxHeartbeats 1000000 in
theorem int_any (n : Int) (w : World) (base W : Nat) (v : Value) (xs : List Nat) (h1 : -9223372036854775808 ≤ n) (h2 : n ≤ 9223372036854775807) (hw : WAt w base W v xs) (hs : xs.length ≤ 900000) :
    Calls Try.prog 12 #[.pointer (some ⟨W, 0, none⟩), .int .i64 n] w fun e w' => e = .returned (.tuple #[]) ∧ ∃ v', WAt w' base W v' (xs ++ numB (zz n)) ∧ Turn w w' W v.ownBlock v'.ownBlock := by
  obtain ⟨Z, hZ⟩ : ∃ Z, Z = zz n := ⟨_, rfl⟩
  have hl := zz_lt h1 h2
  rw [← hZ] at hl ⊢
  have HC := Lib.hid (num_any Z w base W v xs hl hw hs)
  clear hw
  by_cases h0 : 0 ≤ n
  · have e1 : n * 2 = (Z : Int) := by rw [hZ, zz, if_pos h0]; omega
    have E1 := Lib.hid e1
    clear hZ e1
    go_enter Try.func12, Try.ntmps12
    go_wp2_with fail
    rw [E1.out]
    refine HC.out.mono ?_
    rintro e w1 ⟨rfl, hr⟩
    have HR := Lib.hid hr
    clear hr
    go_wp2_with fail
    exact bodyPost_ret (results_none Try.results12 _ _ _) rfl ⟨rfl, HR.out⟩
  · have e7 : -(n + 1) * 2 + 1 = (Z : Int) := by rw [hZ, zz, if_neg h0]; omega
    have E7 := Lib.hid e7
    clear hZ e7
    have h0' : n < 0 := by omega
    go_enter Try.func12, Try.ntmps12
    go_wp2_with fail
    rw [E7.out]
    refine HC.out.mono ?_
    rintro e w1 ⟨rfl, hr⟩
    have HR := Lib.hid hr
    clear hr
    go_wp2_with fail
    go_end0
    exact ⟨rfl, HR.out⟩

theorem own_slice {w : World} {base : Nat} {v : Value} {n : Nat} {l : List Value} (h : w.ownsRow base 5 1 v n l) : ∃ A c, v = .slice A n c := by
  rcases h.2 with ⟨e, h0⟩ | ⟨g, cap, cur, e, _⟩
  · exact ⟨none, 0, by rw [e, h0]⟩
  · exact ⟨_, _, e⟩
theorem text_nil (A : Option Addr) (n c : Nat) (w : World) : Calls Try.prog 14 #[.pointer none, .slice A n c] w fun e w' => e = .returned (.tuple #[]) ∧ w' = w := by
  go_enter Try.func14, Try.ntmps14
  go_wp2
  exact bodyPost_ret (results_none Try.results14 _ _ _) rfl ⟨rfl, rfl⟩
set_option maxRecDepth 100000 in
set_option maxHeartbeats 2000000 in
theorem text_any (ts : List Nat) (c : Nat) (A : Option Addr) (w : World) (base W : Nat) (v : Value) (xs : List Nat) (ok : Nat → Prop) (hb : Bytes w ok A ts) (hok : ∀ b, ok b → b < w.heap.size → b ≠ W ∧ v.ownBlock ≠ some b) (hn : A = none → c = 0) (ht : ts.length ≤ 50000)
    (hw : WAt w base W v xs) (hs : xs.length ≤ 900000) :
    Calls Try.prog 14 #[.pointer (some ⟨W, 0, none⟩), .slice A ts.length c] w fun e w' => e = .returned (.tuple #[]) ∧ ∃ v', WAt w' base W v' (xs ++ textB ts) ∧ Turn w w' W v.ownBlock v'.ownBlock := by
  have HT := Lib.hid hb
  have HN := Lib.hid hn
  have HO := Lib.hid hok
  obtain ⟨n, hnn⟩ : ∃ n, n = ts.length := ⟨_, rfl⟩
  have HC := Lib.hid (num_any n w base W v xs (by omega) hw hs)
  have HL := Lib.hid hnn
  clear hnn hw hb hn hok
  go_enter Try.func14, Try.ntmps14
  go_wp2_with fail
  rw [← HL.out]
  refine HC.out.mono ?_
  rintro e w1 ⟨rfl, v1, hw1, ht1⟩
  have HW1 := Lib.hid hw1
  have HT1 := Lib.hid ht1
  have hl1 : (xs ++ numB n).length ≤ 900010 := by have := num_len n; rw [List.length_append]; omega
  clear ht1
  obtain ⟨ys, hys⟩ : ∃ ys, ys = xs ++ numB n := ⟨_, rfl⟩
  rw [← hys] at HW1 hw1 hl1
  have HYS := Lib.hid hys
  clear hys
  obtain ⟨A1, c1, rfl⟩ := hw1.slice
  have c0 := hw1.cell
  have f0 := hw1.frozen
  have HB1 : Hid (Bytes w1 ok A ts) := HT.out.keep fun b j hb hlt => World.cell?_of_block (w := w) (a := ⟨b, j, none⟩) (HT1.out.block b hlt (HO.out b hb hlt).1 (HO.out b hb hlt).2)
  clear hw1
  rw [HL.out]
  go_wp2_with (refine wpList_append_turn rfl (.tmp 15) (.tmp 16) rfl base _ ys.length ys rfl HW1.out.own A ts c ok rfl HB1.out HN.out (by omega) HW1.out.base_le ?_
               intro v3 w3 H3 G3 N3
               have R3 := Lib.hid (HW1.out.next H3.out G3.out N3.out)
               have c4 : w3.cell? ⟨W, 0, none⟩ = some (.slice A1 ys.length c1) := (World.cell?_of_block (w := w1) (a := ⟨W, 0, none⟩) (G3.out.block W HW1.out.lt (fun e => HW1.out.ne e.symm))).trans HW1.out.cell
               have f4 : w3.frozen? ⟨W, 0, none⟩ = false := (World.frozen?_of_block (w := w1) (a := ⟨W, 0, none⟩) (G3.out.block W HW1.out.lt (fun e => HW1.out.ne e.symm))).trans HW1.out.frozen
               obtain ⟨A3, c3, rfl⟩ : ∃ A3 c3, v3 = .slice A3 (ys.length + ts.length) c3 := own_slice H3.out)
  go_end0
  refine ⟨rfl, _, ?_, HT1.out.trans R3.out.2⟩
  have h := R3.out.1
  have e : ys ++ ts = xs ++ textB ts := by rw [HYS.out, List.append_assoc, HL.out]; rfl
  rw [e] at h
  exact h

theorem size30 : (Try.prog.info? 30).map (·.size) = some 32 := by kernel_rfl
theorem run_index_arr {P : Program} (t e : TypeId) (L : Nat) (hu : P.underlying t = some (.array L e)) (hs : (P.info? e).map (·.size) = some 1) (k : IntKind) (f : Nat → Nat) (i : Nat) (hi : i < L) (hag : ∀ w, (isAgg e).run P w = .ok false w) (w : World) :
    (Instr.index t (.agg (arrOf k L f)) (.int .i64 (i : Int))).run P w = .ok (.int k ((f i : Nat) : Int)) w := by
  cases hq : P.info? e with
  | none => simp [hq] at hs
  | some j =>
    have hj : j.size = 1 := by simpa [hq] using hs
    have hg := arrOf_get k f hi
    simp [Instr.index, Sem.run_bind, run_underlying hu w, Result.andThen, asIntOf, hi, sizeOf, typeInfo, hq, hj, part, hg, hag]
theorem agg28 (w : World) : (isAgg 28).run Try.prog w = .ok false w := by kernel_rfl
theorem size28 : (Try.prog.info? 28).map (·.size) = some 1 := by kernel_rfl
set_option maxHeartbeats 1000000 in
theorem vec_nil (f : Nat → Nat) (w : World) (hf : ∀ i, i < 8 → f i < 18446744073709551616) : Calls Try.prog 18 #[.pointer none, .agg (arrOf .u64 8 f)] w fun e w' => e = .returned (.tuple #[]) ∧ Below w.heap.size w w' := by
  have hl := Lib.hid (row_arr (vec_row w f))
  have s32 : ∀ {f : Nat → Nat}, Hid ((Try.prog.info? 32).map (·.size) = some (arrOf .u64 8 f).size) := fun {f} => by rw [arrOf_size]; exact size32
  have HB := Lib.hid (below1 w (.cells (arrOf .u64 8 f) 32))
  go_enter Try.func18, Try.ntmps18
  go_wp2_with (refine wpList_load_row rfl 32 _ rfl w.heap.size rfl 32 (arrOf .u64 8 f) (0, 0) _ hl.out Try.underlying32 rfl s32.out ?_)
  generalize w.alloc (.cells (arrOf .u64 8 f) 32) = w1 at *
  go_loopw [7] (fun v wx => ∃ i : Nat, i ≤ 8 ∧ v = .int .i64 i ∧ Hid (wx = w1)) (fun v _ => 8 - (intOf v).toNat)
  case atStart => exact ⟨0, by omega, rfl, rfl⟩
  case round =>
    obtain ⟨i, hi, rfl, HW⟩ := hrel
    by_cases hlt : i < 8
    · have hix := fun W => run_index_arr (P := Try.prog) 32 28 8 Try.underlying32 size28 .u64 f i hlt agg28 W
      have HC := Lib.hid (num_nil (f i) wr)
      go_wp2_with (go_at_call 10; refine HC.out.mono ?_; rintro e w' ⟨rfl, ew⟩; obtain rfl := ew.symm)
      go_roundw
      case rel => exact ⟨i + 1, by omega, by go_num, HW⟩
      case measure => simp [intOf]; omega
    · obtain rfl : i = 8 := by omega
      go_wp2
      go_end0
      exact ⟨rfl, by rw [HW.out]; exact HB.out⟩
/-- What the loop keeps. -/
structure VInv2 (w : World) (base W : Nat) (b0 : Option Nat) (xs : List Nat) (f : Nat → Nat) (i : Nat) (v : Value) (wr : World) : Prop where
  at_ : WAt wr base W v (xs ++ vecB f i)
  turn : Turn w wr W b0 v.ownBlock
set_option maxRecDepth 100000 in
set_option maxHeartbeats 2000000 in
theorem vec_any (f : Nat → Nat) (w : World) (base W : Nat) (v : Value) (xs : List Nat) (hf : ∀ i, i < 8 → f i < 18446744073709551616) (hw : WAt w base W v xs) (hs : xs.length ≤ 800000) :
    Calls Try.prog 18 #[.pointer (some ⟨W, 0, none⟩), .agg (arrOf .u64 8 f)] w fun e w' => e = .returned (.tuple #[]) ∧ ∃ v', WAt w' base W v' (xs ++ vecB f 8) ∧ Turn w w' W v.ownBlock v'.ownBlock := by
  have HF := Lib.hid hf
  have hl := Lib.hid (row_arr (vec_row w f))
  have s32 : ∀ {f : Nat → Nat}, Hid ((Try.prog.info? 32).map (·.size) = some (arrOf .u64 8 f).size) := fun {f} => by rw [arrOf_size]; exact size32
  have HI0 : Hid (VInv2 w base W v.ownBlock xs f 0 v (w.alloc (.cells (arrOf .u64 8 f) 32))) := ⟨by simpa [vecB] using hw.below (below1 w _), Turn.of_below (below1 w _)⟩
  clear hf hw
  go_enter Try.func18, Try.ntmps18
  go_wp2_with (refine wpList_load_row rfl 32 _ rfl w.heap.size rfl 32 (arrOf .u64 8 f) (0, 0) _ hl.out Try.underlying32 rfl s32.out ?_)
  generalize w.alloc (.cells (arrOf .u64 8 f) 32) = w1 at *
  go_loopw [7] (fun a wx => ∃ i : Nat, i ≤ 8 ∧ a = .int .i64 i ∧ Hid (∃ u, VInv2 w base W v.ownBlock xs f i u wx)) (fun v _ => 8 - (intOf v).toNat)
  case atStart => exact ⟨0, by omega, rfl, ⟨_, HI0⟩⟩
  case round =>
    clear HI0
    obtain ⟨i, hi, rfl, HI⟩ := hrel
    by_cases hlt : i < 8
    · have hix := fun W => run_index_arr (P := Try.prog) 32 28 8 Try.underlying32 size28 .u64 f i hlt agg28 W
      obtain ⟨u, hI⟩ := HI.out
      have HU := Lib.hid hI
      have HC := Lib.hid (num_any (f i) wr base W u _ (HF.out i hlt) hI.at_ (by have := vecB_len f i; rw [List.length_append]; omega))
      clear hI HI
      go_wp2_with (go_at_call 10; refine HC.out.mono ?_; rintro e w' ⟨rfl, v2, hw2, ht2⟩; have HW2 := Lib.hid hw2; have HT2 := Lib.hid ht2; clear hw2 ht2)
      go_roundw
      case rel =>
        refine ⟨i + 1, by omega, by go_num, v2, ?_, HU.out.turn.trans HT2.out⟩
        rw [vecB_succ, ← List.append_assoc]
        exact HW2.out
      case measure => simp [intOf]; omega
    · obtain rfl : i = 8 := by omega
      obtain ⟨u, hI⟩ := HI.out
      have HU := Lib.hid hI
      clear hI
      go_wp2
      go_end0
      exact ⟨rfl, u, HU.out.at_, HU.out.turn⟩

theorem bytes_nil (w : World) : Calls Try.prog 8 #[.pointer none] w fun e w' => e = .returned (.slice none 0 0) ∧ w' = w := by
  go_enter Try.func8, Try.ntmps8
  go_wp2
  go_ret
  exact ⟨rfl, rfl⟩
set_option maxHeartbeats 1000000 in
theorem bytes_any (w : World) (base W : Nat) (v : Value) (xs : List Nat) (hw : WAt w base W v xs) (hz : ∀ z, z ∈ xs → z < 256) (hs : xs.length ≤ 1000000) :
    Calls Try.prog 8 #[.pointer (some ⟨W, 0, none⟩)] w fun e w' => ∃ u, e = .returned u ∧ w'.ownsRow w.heap.size 5 1 u xs.length (ints8 xs) ∧ Below w.heap.size w w' := by
  obtain ⟨A, c, rfl, hn, hb⟩ := own_bytes hw.own hz
  have HC := Lib.hid (fresh_any xs c A w hb hs)
  have c0 := hw.cell
  clear hw hb
  go_enter Try.func8, Try.ntmps8
  go_wp2_with (go_at_call 26; refine HC.out.mono ?_; rintro e w1 ⟨u, rfl, hr⟩; have HR := Lib.hid hr; clear hr)
  go_ret
  exact ⟨u, rfl, HR.out⟩
end Go.Proofs.Ythodogcpoihjpaa
