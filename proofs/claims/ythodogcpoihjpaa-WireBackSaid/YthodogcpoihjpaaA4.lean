/- The writer's Num. -/
import Derived.Test.YthodogcpoihjpaaTurn
import Derived.Test.YthodogcpoihjpaaA1
import Derived.Deep.Cut
namespace Go.Proofs.Ythodogcpoihjpaa
open Go.RowKit
theorem num_nil (n : Nat) (w : World) : Calls Try.prog 10 #[.pointer none, .int .u64 (n : Int)] w fun e w' => e = .returned (.tuple #[]) ∧ w' = w := by
  go_enter Try.func10, Try.ntmps10
  go_wp2
  exact bodyPost_ret (results_none Try.results10 _ _ _) rfl ⟨rfl, rfl⟩
theorem bytes_one (w : World) (y : Nat) (hy : y < 256) : Bytes (w.alloc (.cells #[.int .u8 (y : Int)] 5)) (fun _ => True) (some ⟨w.heap.size, 0, none⟩) [y] := by
  refine ⟨fun x hx => by rw [List.mem_singleton] at hx; omega, fun _ => ⟨_, _, rfl, trivial, fun j hj => ?_⟩⟩
  rw [Nat.zero_add, cell_of_row _ _ _ _ _ _ (heap_alloc_new _ _)]
  match j, hj with
  | 0, _ => rfl
theorem WAt.slice {x : World} {base W : Nat} {v : Value} {xs : List Nat} (h : WAt x base W v xs) : ∃ A c, v = .slice A xs.length c := by
  rcases h.own.2 with ⟨e, h0⟩ | ⟨g, cap, cur, e, _⟩
  · exact ⟨none, 0, by rw [e, h0]⟩
  · exact ⟨_, _, e⟩
theorem take_next (n m : Nat) (h : n < 18446744073709551616) (hm : m + 1 ≤ (be n).length) : (be n).take ((be n).length - (m + 1)) ++ [n / 256 ^ m % 256] = (be n).take ((be n).length - m) := by
  rw [← be_get m n h (by omega), show (be n).length - m = ((be n).length - (m + 1)) + 1 by omega, List.take_add_one, show (be n).length - (m + 1) = (be n).length - 1 - m by omega, List.getD_eq_getElem?_getD, List.getElem?_eq_getElem (by omega)]
  rfl
/-- What the loop keeps: m bytes are left. -/
structure NInv (w : World) (base W : Nat) (b0 : Option Nat) (xs : List Nat) (n m : Nat) (v : Value) (wr : World) : Prop where
  at_ : WAt wr base W v (xs ++ [(be n).length] ++ (be n).take ((be n).length - m))
  turn : Turn w wr W b0 v.ownBlock
set_option maxRecDepth 100000 in
set_option maxHeartbeats 2000000 in
theorem num_any (n : Nat) (w : World) (base W : Nat) (v : Value) (xs : List Nat) (h : n < 18446744073709551616) (hw : WAt w base W v xs) (hs : xs.length ≤ 900000) :
    Calls Try.prog 10 #[.pointer (some ⟨W, 0, none⟩), .int .u64 (n : Int)] w fun e w' => e = .returned (.tuple #[]) ∧ ∃ v', WAt w' base W v' (xs ++ numB n) ∧ Turn w w' W v.ownBlock v'.ownBlock := by
  have HW := Lib.hid hw
  have hk8 := be_len8 n
  have hbl := be_length n h
  obtain ⟨L, hL⟩ : ∃ L, L = (be n).length := ⟨_, rfl⟩
  rw [← hL] at hk8 hbl
  have HC := Lib.hid (len64_any n w h)
  obtain ⟨bl, hb⟩ : ∃ bl, bl = Lib.bitLen n := ⟨_, rfl⟩
  rw [← hb] at hbl HC
  clear hb
  have eI : ((bl : Int) + 7) / 8 = (L : Int) := by omega
  have eU : IntKind.u8.wrap (L : Int) = (L : Int) := by rw [IntKind.wrap_u8]; omega
  have blb : bl ≤ 64 := by omega
  have HL := Lib.hid hL
  clear hL hbl
  have c0 := hw.cell
  have f0 := hw.frozen
  clear hw
  obtain ⟨A, c, rfl⟩ := HW.out.slice
  have HX := Lib.hid (HW.out.below (below1 w (.cells #[.int .u8 (L : Int)] 5)))
  have HB1 := Lib.hid (bytes_one w L (by omega))
  have S0 := Lib.hid HX.out.base_le
  go_enter Try.func10, Try.ntmps10
  go_upto_region 2 with (go_at_call 27; refine HC.out.mono ?_; rintro e w' ⟨rfl, ew⟩; obtain rfl := ew.symm)
  rw [eI]
  go_wp2_with (first
    | (refine wpList_append_turn rfl (.tmp 15) (.tmp 18) rfl base _ xs.length xs rfl HX.out.own (some ⟨w.heap.size, 0, none⟩) [L] 1 (fun _ => True) rfl HB1.out (fun h => by cases h) (by simp; omega) S0.out ?_
       intro v1 w1 H1 G1 N1
       obtain ⟨g1, cap1, rfl⟩ := owns_slice H1.out (by simp)
       have R1 := Lib.hid (HX.out.next H1.out G1.out N1.out)
       have c1 : w1.cell? ⟨W, 0, none⟩ = some (.slice A xs.length c) := (World.cell?_of_block (w := w.alloc (.cells #[.int .u8 (L : Int)] 5)) (a := ⟨W, 0, none⟩) (G1.out.block W HX.out.lt (fun e => HX.out.ne e.symm))).trans HX.out.cell
       have f1 : w1.frozen? ⟨W, 0, none⟩ = false := (World.frozen?_of_block (w := w.alloc (.cells #[.int .u8 (L : Int)] 5)) (a := ⟨W, 0, none⟩) (G1.out.block W HX.out.lt (fun e => HX.out.ne e.symm))).trans HX.out.frozen))
  have HI0 : Hid (NInv w base W (Value.ownBlock (.slice A xs.length c)) xs n L (.slice (some ⟨g1, 0, none⟩) (xs.length + [L].length) cap1) (w1.setCell ⟨W, 0, none⟩ (.slice (some ⟨g1, 0, none⟩) (xs.length + [L].length) cap1))) := by
    refine ⟨?_, (Turn.of_below (below1 w _)).trans R1.out.2⟩
    have h := R1.out.1
    rw [HL.out] at h ⊢
    simpa using h
  have HN := Lib.hid h
  have hxl : xs.length ≤ 900000 := hs
  clear R1 c1 f1 H1 G1 N1 HX HB1 S0 c0 f0 HW HC blb eI eU h hs
  have l1 : xs.length + [L].length = xs.length + 1 := rfl
  rw [l1] at HI0
  generalize w1.setCell ⟨W, 0, none⟩ (.slice (some ⟨g1, 0, none⟩) (xs.length + 1) cap1) = w2 at *
  go_loopw [4] (fun a wr => ∃ (m : Nat), m ≤ L ∧ a = .int .i64 (m : Int) ∧ Hid (∃ v, NInv w base W (Value.ownBlock (.slice A xs.length c)) xs n m v wr)) (fun a _ => (intOf a).toNat)
  case atStart => exact ⟨L, Nat.le_refl _, rfl, ⟨_, HI0⟩⟩
  case round =>
    clear HI0
    obtain ⟨m, hm, rfl, HI⟩ := hrel
    by_cases h0 : 0 < m
    · have h0' : (0 : Int) < (m : Int) := by omega
      obtain ⟨k, rfl⟩ : ∃ k, m = k + 1 := ⟨m - 1, by omega⟩
      obtain ⟨v, hI⟩ := HI.out
      obtain ⟨ys, hys⟩ : ∃ ys, ys = xs ++ [(be n).length] ++ (be n).take ((be n).length - (k + 1)) := ⟨_, rfl⟩
      have hat := hI.at_
      rw [← hys] at hat
      have HTU := Lib.hid hI.turn
      have hyl : ys.length ≤ 900010 := by
        rw [hys, List.length_append, List.length_append, List.length_take]
        simp only [List.length_cons, List.length_nil]
        have := be_len8 n
        omega
      have HYS := Lib.hid hys
      clear hys hI HI
      obtain ⟨A2, c2, rfl⟩ := hat.slice
      have c3 := hat.cell
      have f3 := hat.frozen
      obtain ⟨y, hy⟩ : ∃ y, y = n / 256 ^ k % 256 := ⟨_, rfl⟩
      have hy2 : y < 256 := by omega
      have ey : IntKind.u8.wrap ((n : Int) / 2 ^ (8 * (k : Int)).toNat) = (y : Int) := by
        have e1 : ((n : Int) / 2 ^ (8 * k)) = ((n / 2 ^ (8 * k) : Nat) : Int) := by rw [Int.natCast_ediv, Int.natCast_pow]; rfl
        rw [IntKind.wrap_u8, hy, show (8 * (k : Int)).toNat = 8 * k by omega, e1, show (2 : Nat) ^ (8 * k) = 256 ^ k by rw [Nat.pow_mul]]
        omega
      have HY := Lib.hid hy
      have HX0 : Hid (WAt (wr.alloc (.cells #[.int .u8 (y : Int)] 5)).drew base W (.slice A2 ys.length c2) ys) := by
        have h := hat.below (below1 wr (.cells #[.int .u8 (y : Int)] 5))
        exact ⟨h.row, h.own, h.le⟩
      have HB0 : Hid (Bytes (wr.alloc (.cells #[.int .u8 (y : Int)] 5)).drew (fun _ => True) (some ⟨wr.heap.size, 0, none⟩) [y]) := by
        have h := bytes_one wr y hy2
        exact ⟨h.lt, h.at_⟩
      have SB := Lib.hid HX0.out.base_le
      have HTW : Hid (Turn wr (wr.alloc (.cells #[.int .u8 (y : Int)] 5)).drew W (Value.ownBlock (.slice A2 ys.length c2)) (Value.ownBlock (.slice A2 ys.length c2))) := by
        have h := below1 wr (.cells #[.int .u8 (y : Int)] 5)
        exact Turn.of_below ⟨h.os, h.tape, h.output, h.size, h.block⟩
      have c5 : (wr.alloc (.cells #[.int .u8 (y : Int)] 5)).cell? ⟨W, 0, none⟩ = some (.slice A2 ys.length c2) := (hat.below (below1 wr (.cells #[.int .u8 (y : Int)] 5))).cell
      have f5 : (wr.alloc (.cells #[.int .u8 (y : Int)] 5)).frozen? ⟨W, 0, none⟩ = false := (hat.below (below1 wr (.cells #[.int .u8 (y : Int)] 5))).frozen
      clear hy hat
      have w8 : IntKind.i64.wrap (8 * (k : Int)) = 8 * (k : Int) := IntWalk.i64_in _ (by omega)
      have s0 : 0 ≤ 8 * (k : Int) := by omega
      have s1 : 8 * (k : Int) < 64 := by omega
      go_wp2_with fail
      go_region_law (
        refine step_append_turn rfl (.tmp 30) (.tmp 36) rfl base _ ys.length ys rfl HX0.out.own (some ⟨wr.heap.size, 0, none⟩) [y] 1 (fun _ => True) rfl HB0.out (fun h => by cases h) (by simp; omega) SB.out ?_
        intro v3 w3 H3 G3 N3
        obtain ⟨g3, cap3, rfl⟩ := owns_slice H3.out (by simp)
        have R3 := Lib.hid (HX0.out.next H3.out G3.out N3.out)
        have c4 : w3.cell? ⟨W, 0, none⟩ = some (.slice A2 ys.length c2) := (World.cell?_of_block (w := (wr.alloc (.cells #[.int .u8 (y : Int)] 5)).drew) (a := ⟨W, 0, none⟩) (G3.out.block W HX0.out.lt (fun e => HX0.out.ne e.symm))).trans HX0.out.cell
        have f4 : w3.frozen? ⟨W, 0, none⟩ = false := (World.frozen?_of_block (w := (wr.alloc (.cells #[.int .u8 (y : Int)] 5)).drew) (a := ⟨W, 0, none⟩) (G3.out.block W HX0.out.lt (fun e => HX0.out.ne e.symm))).trans HX0.out.frozen)
      all_goals
        go_wp2_with fail
        go_roundw
        case rel =>
          refine ⟨k, by omega, by go_num, _, ?_, HTU.out.trans (HTW.out.trans R3.out.2)⟩
          have h := R3.out.1
          have hk : k + 1 ≤ (be n).length := by rw [← HL.out]; exact hm
          have e : ys ++ [y] = xs ++ [(be n).length] ++ (be n).take ((be n).length - k) := by
            rw [HYS.out, HY.out, List.append_assoc, take_next n k HN.out hk]
          rw [e] at h
          exact h
        case measure => simp [intOf]
    · obtain rfl : m = 0 := by omega
      go_wp2
      obtain ⟨v, hI⟩ := HI.out
      have h := hI.at_
      rw [Nat.sub_zero, List.take_length, List.append_assoc] at h
      go_end0
      exact ⟨rfl, v, h, hI.turn⟩
end Go.Proofs.Ythodogcpoihjpaa
