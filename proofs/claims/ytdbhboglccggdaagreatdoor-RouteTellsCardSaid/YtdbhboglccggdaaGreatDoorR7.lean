/- All points of a membership. -/
import Derived.Test.YtdbhboglccggdaaGreatDoorR6
set_option maxRecDepth 100000
set_option linter.unusedVariables false
set_option linter.unusedSimpArgs false
namespace Go.Proofs.YtdbhboglccggdaaGreatDoor
open Go.RowKit
theorem raw_step {f : Nat → Nat → Nat} {V d : Nat} (h : 1 ≤ d) : Ring.raw f V d = Ring.raw f V (d - 1) ++ Ring.ofNode f V d := by
  obtain ⟨k, rfl⟩ : ∃ k, d = k + 1 := ⟨d - 1, by omega⟩
  rfl
theorem ofNode_take {f : Nat → Nat → Nat} {V d i : Nat} (h : i < V) : (Ring.ofNode f V d).take (i + 1) = (Ring.ofNode f V d).take i ++ [(f d i, d)] := by
  have hl : i < (Ring.ofNode f V d).length := by simp [Ring.ofNode]; exact h
  rw [List.take_succ_eq_append_getElem hl]
  congr 2
  simp [Ring.ofNode]
theorem ofNode_all {f : Nat → Nat → Nat} {V d : Nat} : (Ring.ofNode f V d).take V = Ring.ofNode f V d := List.take_of_length_le (by simp [Ring.ofNode])
theorem ofNode_length {f : Nat → Nat → Nat} {V d : Nat} : (Ring.ofNode f V d).length = V := by simp [Ring.ofNode]
structure PI (w : World) (N V : Nat) (v : Value) (ls : List Pt) (x : World) : Prop where
  own : x.ownsRow (w.heap.size + 1) 101 2 v ls.length (pts2 ls)
  c0 : x.cell? ⟨w.heap.size, 0, none⟩ = some (.int .i64 ((N : Nat) : Int))
  c1 : x.cell? ⟨w.heap.size, 1, none⟩ = some (.int .i64 ((V : Nat) : Int))
  below : Below w.heap.size w x
  tabs : Tabs x
  le : w.heap.size + 1 ≤ x.heap.size
theorem PI.next {w : World} {N V : Nat} {v v' : Value} {ls ls' : List Pt} {x y : World} (h : PI w N V v ls x) (hb : Below (w.heap.size + 1) x y) (ho : y.ownsRow (w.heap.size + 1) 101 2 v' ls'.length (pts2 ls')) (h2 : 2 ≤ w.heap.size) : PI w N V v' ls' y := by
  have hl := h.le
  refine ⟨ho, ?_, ?_, h.below.trans (hb.mono (by omega)), h.tabs.of_blocks (hb.block 0 (by omega)) (hb.block 1 (by omega)) (Nat.le_trans h.tabs.two hb.size), Nat.le_trans hl hb.size⟩
  · exact (World.cell?_of_block (w := x) (a := ⟨w.heap.size, 0, none⟩) (hb.block w.heap.size (by omega))).trans h.c0
  · exact (World.cell?_of_block (w := x) (a := ⟨w.heap.size, 1, none⟩) (hb.block w.heap.size (by omega))).trans h.c1
theorem PI.grow {w : World} {N V : Nat} {v : Value} {ls : List Pt} {x y : World} (h : PI w N V v ls x) (hb : Below x.heap.size x y) (h2 : 2 ≤ w.heap.size) : PI w N V v ls y :=
  h.next (hb.mono h.le) (h.own.kept (row := none) ⟨hb.os, hb.tape, hb.output, hb.size, fun k hk _ => hb.block k hk⟩ (by cases hv : v.ownBlock <;> simp)) h2
set_option maxHeartbeats 4000000 in
theorem pointsOf_any (N V : Nat) (R : Int) (hN : N ≤ 8) (hV : V ≤ 16) (w : World) (ht : Tabs w) :
    Calls Tryz.prog 64 #[.agg #[.int .i64 (N : Int), .int .i64 (V : Int), .int .i64 R]] w fun e w' => ∃ A c, e = .returned (.slice A (Ring.pts ptAt V N).length c) ∧ (Ring.pts ptAt V N).length ≤ c ∧ PRow w' (fun b => w.heap.size ≤ b) A (Ring.pts ptAt V N) ∧ Below w.heap.size w w' := by
  have H2 : Hid (2 ≤ w.heap.size) := ht.two
  obtain ⟨M, hM⟩ : ∃ M, M = N * V := ⟨_, rfl⟩
  have hM2 : M ≤ 1000 := by
    have := Nat.mul_le_mul hN hV
    omega
  have HM := Lib.hid hM
  have E1 : IntKind.i64.wrap ((N : Int) * (V : Int)) = (M : Int) := by
    rw [show (N : Int) * (V : Int) = ((N * V : Nat) : Int) by rw [Int.natCast_mul], ← hM, IntWalk.i64_in _ (by omega)]
  have hb0 := (Below.refl w.heap.size w).alloc (Nat.le_refl _) (.cells #[.int .i64 (N : Int), .int .i64 (V : Int), .int .i64 R] 23)
  have HPI : Hid (∀ w2 v, Below (w.heap.size + 1) (w.alloc (.cells #[.int .i64 (N : Int), .int .i64 (V : Int), .int .i64 R] 23)) w2 → w2.ownsRow (w.heap.size + 1) 101 2 v 0 [] → PI w N V v [] w2) := Lib.hid (fun w2 v hb ho => by
    have hx : (w.alloc (.cells #[.int .i64 (N : Int), .int .i64 (V : Int), .int .i64 R] 23)).heap[w.heap.size]? = _ := heap_alloc_new _ _
    have hx2 := (hb.block w.heap.size (by omega)).trans hx
    have hbb := hb0.trans (hb.mono (by omega))
    exact ⟨ho, by rw [cell_of_row _ _ _ _ _ _ hx2]; rfl, by rw [cell_of_row _ _ _ _ _ _ hx2]; rfl, hbb, ht.below hbb, by have := hb.size; simp at this; omega⟩)
  have hmk := run_make0 (P := Tryz.prog) (w.alloc (.cells #[.int .i64 (N : Int), .int .i64 (V : Int), .int .i64 R] 23)) 69 101 (.agg #[.int .u64 0, .int .i64 0]) 2 16 Tryz.underlying69 info79 M (by omega) (by omega)
  have HO := Lib.hid (made_own (w := w.alloc (.cells #[.int .i64 (N : Int), .int .i64 (V : Int), .int .i64 R] 23)) (e := 101) (s := 2) (n := M) (z := .agg #[.int .u64 0, .int .i64 0]) (by omega) rfl)
  obtain ⟨Z, hZ⟩ : ∃ Z, Z = madeCells (Value.agg #[.int .u64 0, .int .i64 0]).cells (M * 2) := ⟨_, rfl⟩
  rw [← hZ] at hmk HO
  rw [World.size_alloc] at hmk HO
  clear ht hM hZ hb0
  go_enter Tryz.func64, Tryz.ntmps64
  go_wp2_with fail
  have HI0 : Hid (PI w N V (.slice (some ⟨w.heap.size + 1, 0, none⟩) 0 M) [] ((w.alloc (.cells #[.int .i64 (N : Int), .int .i64 (V : Int), .int .i64 R] 23)).alloc (.cells Z 101))) := Lib.hid (HPI.out _ _ ((Below.refl _ _).alloc (by simp) _) HO.out)
  clear HPI HO hmk
  generalize (w.alloc (.cells #[.int .i64 (N : Int), .int .i64 (V : Int), .int .i64 R] 23)).alloc (.cells Z 101) = w2 at *
  go_loopw [3, 4] (fun v nv x => ∃ d : Nat, 1 ≤ d ∧ d ≤ N + 1 ∧ nv = .int .i64 d ∧ Hid (PI w N V v (Ring.raw ptAt V (d - 1)) x)) (fun _ nv _ => N + 1 - (intOf nv).toNat)
  case atStart => exact ⟨1, by omega, by omega, rfl, HI0⟩
  case round =>
    clear HI0
    obtain ⟨d, hd1, hd, rfl, HI⟩ := hrel
    have hc0 := HI.out.c0
    have hc1 := HI.out.c1
    by_cases hlt : d ≤ N
    · have hlt' : (d : Int) ≤ (N : Int) := by omega
      have HI0 := HI
      rw [show Ring.raw ptAt V (d - 1) = Ring.raw ptAt V (d - 1) ++ (Ring.ofNode ptAt V d).take 0 by rw [List.take_zero, List.append_nil]] at HI0
      go_wp2_with fail
      go_loopw [3, 20] (fun v iv x => ∃ i : Nat, i ≤ V ∧ iv = .int .i64 i ∧ Hid (PI w N V v (Ring.raw ptAt V (d - 1) ++ (Ring.ofNode ptAt V d).take i) x)) (fun _ iv _ => V - (intOf iv).toNat)
      case atStart => exact ⟨0, by omega, rfl, HI0⟩
      case round =>
        clear HI HI0 hc0 hc1
        obtain ⟨i, hi, rfl, HI⟩ := hrel
        by_cases hlt2 : i < V
        · have hlt2' : (i : Int) < (V : Int) := by omega
          obtain ⟨ls, hls⟩ : ∃ ls, ls = Ring.raw ptAt V (d - 1) ++ (Ring.ofNode ptAt V d).take i := ⟨_, rfl⟩
          have HN : Hid (Ring.raw ptAt V (d - 1) ++ (Ring.ofNode ptAt V d).take (i + 1) = ls ++ [(ptAt d i, d)]) := Lib.hid (by rw [ofNode_take hlt2, hls, List.append_assoc])
          have HL : Hid (ls.length ≤ 1000) := Lib.hid (by
            rw [hls, List.length_append, Ring.raw_length, List.length_take, ofNode_length]
            have h1 : (d - 1) * V ≤ 8 * 16 := Nat.mul_le_mul (by omega) hV
            omega)
          rw [← hls] at HI
          clear hls
          have HCP : Hid (∀ x, Tabs x → Calls Tryz.prog 83 #[.int .i64 (d : Int), .int .i64 (i : Int)] x fun e w' => e = .returned (.int .u64 ((ptAt d i : Nat) : Int)) ∧ Below x.heap.size x w') := Lib.hid (fun x hx => pointAt_any d i (by omega) (by omega) x hx)
          obtain ⟨p, hp⟩ : ∃ p, p = ptAt d i := ⟨_, rfl⟩
          rw [← hp] at HCP HN
          clear hp
          go_wp2_with (first
            | (go_at_call 83; refine (HCP.out _ HI.out.tabs).mono ?_; rintro e w3 ⟨rfl, hb3⟩; have HI2 := Lib.hid (HI.out.grow hb3 H2.out); clear hb3)
            | (refine wpList_append_pt rfl (.tmp 23) (.tmp 29) 69 rfl (w.heap.size + 1) 101 (.agg #[.int .u64 0, .int .i64 0]) 16 Tryz.underlying69 info79 rfl _ ls.length (pts2 ls) rfl HI2.out.own (p, d) 101 rfl (by have := HL.out; unfold maxLen; omega) (by have := HL.out; omega) HI2.out.le ?_; intro v' w5 hown hbel))
          have HI3 : Hid (PI w N V v' (ls ++ [(p, d)]) w5) := Lib.hid (HI2.out.next hbel.out (by rw [pts2_append, pts2_one, List.length_append]; exact hown.out) H2.out)
          clear hown hbel
          go_roundw
          case rel => exact ⟨i + 1, by omega, by go_num, by rw [HN.out]; exact HI3⟩
          case measure => simp [intOf]; omega
        · obtain rfl : i = V := by omega
          rw [ofNode_all, ← raw_step hd1] at HI
          go_wp2_with fail
          go_roundw
          case rel => exact ⟨d + 1, by omega, by omega, by go_num, HI⟩
          case measure => simp [intOf]; omega
    · obtain rfl : d = N + 1 := by omega
      rw [show N + 1 - 1 = N by omega] at HI
      have hlt' : ¬ ((N + 1 : Nat) : Int) ≤ (N : Int) := by omega
      have HC := Lib.hid (inOrder_any (Ring.raw ptAt V N) _ (w.heap.size + 1) wr HI.out.own HI.out.le (by
        rw [Ring.raw_length, ← HM.out]; omega))
      go_wp2_with (go_at_call 84; refine HC.out.mono ?_; rintro e w6 ⟨rfl, A, c, rfl, hc, hp, hb⟩; have HP := Lib.hid hp; have HB := Lib.hid hb; have HC2 := Lib.hid hc; clear hp hb hc)
      go_ret
      refine ⟨A, c, ?_, ?_, HP.out.weak (fun b hb _ => by omega), HI.out.below.trans (HB.out.mono (by omega))⟩
      · rw [Ring.pts_length, ← Ring.raw_length ptAt V N]; rfl
      · rw [Ring.pts_length, ← Ring.raw_length ptAt V N]; exact HC2.out
end Go.Proofs.YtdbhboglccggdaaGreatDoor
