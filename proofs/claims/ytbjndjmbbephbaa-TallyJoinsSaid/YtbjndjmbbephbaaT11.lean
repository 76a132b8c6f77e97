/- Count of tally. -/
import Derived.Test.YtbjndjmbbephbaaT10
namespace Go.Proofs.Ytbjndjmbbephbaa
open Go.RowKit

namespace Tal
def plusAt (h : Nat → Nat) (i U : Nat) : Nat → Nat := fun j => if j = i then h j + U else h j
def cnt (h : Nat → Nat) (node n : Int) : (Nat → Nat) × Int :=
  if 1 ≤ node ∧ node ≤ 8 then
    if 18446744073709551615 < h (node - 1).toNat + up n ∨ 18446744073709551615 < h (8 + (node - 1).toNat) + down n then (fun _ => 0, 13)
    else (plusAt (plusAt h (node - 1).toNat (up n)) (8 + (node - 1).toNat) (down n), 0)
  else (fun _ => 0, 11)
theorem cnt_node {h : Nat → Nat} {node n : Int} (hn : ¬ (1 ≤ node ∧ node ≤ 8)) : cnt h node n = (fun _ => 0, 11) := if_neg hn
theorem cnt_over {h : Nat → Nat} {i : Nat} {n : Int} (hi : i < 8) (ho : 18446744073709551615 < h i + up n ∨ 18446744073709551615 < h (8 + i) + down n) : cnt h ((i : Int) + 1) n = (fun _ => 0, 13) := by
  have e : ((i : Int) + 1 - 1).toNat = i := by omega
  unfold cnt
  rw [if_pos (by omega), e, if_pos ho]
theorem cnt_ok {h : Nat → Nat} {i : Nat} {n : Int} (hi : i < 8) (ho : ¬ (18446744073709551615 < h i + up n)) (hd : ¬ (18446744073709551615 < h (8 + i) + down n)) : cnt h ((i : Int) + 1) n = (plusAt (plusAt h i (up n)) (8 + i) (down n), 0) := by
  have e : ((i : Int) + 1 - 1).toNat = i := by omega
  unfold cnt
  rw [if_pos (by omega), e, if_neg (by omega)]
end Tal
abbrev cntV (p : (Nat → Nat) × Int) : Value := .tuple #[ctrV p.1, .int .i64 p.2]
theorem ret_cnt {p q : (Nat → Nat) × Int} (h : p = q) : Ending.returned (.tuple #[.agg (arrOf .u64 16 p.1), .int .i64 p.2]) = .returned (cntV q) := by rw [h]
theorem built26_0 : Try.prog.built 26 [] = some (arrOf .u64 16 fun _ => 0) := by kernel_rfl
theorem built30_0 : Try.prog.built 30 [] = some (arrOf .u64 16 fun _ => 0) := by kernel_rfl
theorem zero_row16 (w : World) (t : TypeId) : (w.alloc (.cells #[.int .u64 0, .int .u64 0, .int .u64 0, .int .u64 0, .int .u64 0, .int .u64 0, .int .u64 0, .int .u64 0, .int .u64 0, .int .u64 0, .int .u64 0, .int .u64 0, .int .u64 0, .int .u64 0, .int .u64 0, .int .u64 0] t)).heap[w.heap.size]? = some (.cells (arrOf .u64 16 fun _ => 0) t (0, 0)) := heap_alloc_new _ _
theorem index55_0 (n : Int) (w : World) : (Instr.index 55 (.agg (arrOf .u64 2 (Tal.szs n))) (.int .i64 ((0 : Nat) : Int))).run Try.prog w = .ok (.int .u64 ((Tal.up n : Nat) : Int)) w := by kernel_rfl
theorem index55_1 (n : Int) (w : World) : (Instr.index 55 (.agg (arrOf .u64 2 (Tal.szs n))) (.int .i64 ((1 : Nat) : Int))).run Try.prog w = .ok (.int .u64 ((Tal.down n : Nat) : Int)) w := by kernel_rfl

def gj (h : Nat → Nat) (i U D j : Nat) : Nat → Nat := if j = 0 then h else if j = 1 then Tal.plusAt h i U else Tal.plusAt (Tal.plusAt h i U) (8 + i) D
/-- A boxed counter, a result of noughts, the counts. -/
structure NInv (w : World) (h g : Nat → Nat) (b : Nat) (x : World) : Prop where
  a : x.heap[w.heap.size]? = some (.cells (arrOf .u64 16 h) 26 (0, 0))
  r : x.heap[w.heap.size + 1]? = some (.cells (arrOf .u64 16 fun _ => 0) 26 (0, 0))
  c : x.rowIs b 53 16 (fun j => .int .u64 ((g j : Nat) : Int))
  far : w.heap.size + 1 < b
  below : Below w.heap.size w x
theorem NInv.step {w x : World} {h g : Nat → Nat} {b q U : Nat} {v : Int} (I : NInv w h g b x) (hv : v = ((g q + U : Nat) : Int)) : NInv w h (Tal.plusAt g q U) b (x.setCell ⟨b, q, none⟩ (.int .u64 v)) := by
  subst hv
  have hf := I.far
  refine ⟨(Below.heap_setCell _ _ _ _ (by simp; omega)).trans I.a, (Below.heap_setCell _ _ _ _ (by simp; omega)).trans I.r, (I.c.set q _).congr fun j hj => ?_, hf, I.below.setCell (by simp; omega) _⟩
  by_cases e : j = q
  · subst e; simp [Tal.plusAt]
  · simp [Tal.plusAt, e]

theorem NInv.then_ {w x y : World} {h g : Nat → Nat} {b : Nat} (hb : Below x.heap.size x y) (I : NInv w h g b x) : NInv w h g b y :=
  ⟨(hb.block _ (lt_of_row I.a)).trans I.a, (hb.block _ (lt_of_row I.r)).trans I.r, row_below I.c hb I.c.lt, I.far, I.below.trans (hb.mono I.below.size)⟩
theorem set_z16 (w : World) (t : TypeId) (cs : Array Value) : (w.alloc (.cells #[.int .u64 0, .int .u64 0, .int .u64 0, .int .u64 0, .int .u64 0, .int .u64 0, .int .u64 0, .int .u64 0, .int .u64 0, .int .u64 0, .int .u64 0, .int .u64 0, .int .u64 0, .int .u64 0, .int .u64 0, .int .u64 0] t)).setRow w.heap.size cs = w.alloc (.cells cs t) := World.setRow_alloc_new _ _ _ _
set_option maxRecDepth 100000 in
set_option maxHeartbeats 4000000 in
theorem tcount_any (h : Nat → Nat) (node n : Int) (w : World) (hh : ∀ i, i < 16 → h i < 18446744073709551616) (h1 : -9223372036854775808 ≤ n) (h2 : n ≤ 9223372036854775807) :
    Calls Try.prog 7 #[ctrV h, .int .i64 node, .int .i64 n] w fun e w' => e = .returned (cntV (Tal.cnt h node n)) ∧ Below w.heap.size w w' := by
  have HI0 : One w (arrOf .u64 16 h) 26 (arrOf .u64 16 fun _ => 0) 26 ((w.alloc (.cells (arrOf .u64 16 h) 26)).alloc (.cells #[.int .u64 0, .int .u64 0, .int .u64 0, .int .u64 0, .int .u64 0, .int .u64 0, .int .u64 0, .int .u64 0, .int .u64 0, .int .u64 0, .int .u64 0, .int .u64 0, .int .u64 0, .int .u64 0, .int .u64 0, .int .u64 0] 26)) := One.start w (arrOf .u64 16 h) (arrOf .u64 16 fun _ => 0) 26 26
  have HL := Lib.hid HI0.a
  have HR := Lib.hid HI0.r
  have HS := Lib.hid HI0
  have s26 : ∀ {f : Nat → Nat}, Hid ((Try.prog.info? 26).map (·.size) = some (arrOf .u64 16 f).size) := fun {f} => by rw [arrOf_size]; exact size26
  have s53 : ∀ {f : Nat → Nat}, Hid ((Try.prog.info? 53).map (·.size) = some (arrOf .u64 16 f).size) := fun {f} => by rw [arrOf_size]; exact size53
  have ss : ∀ {f g : Nat → Nat}, Hid ((arrOf .u64 16 f).size = (arrOf .u64 16 g).size) := fun {f g} => by rw [arrOf_size, arrOf_size]; exact rfl
  have zs := Lib.hid (z16_size h)
  have HB0 := Lib.hid built26_0
  have HH := Lib.hid hh
  have H1 := Lib.hid h1
  have H2 := Lib.hid h2
  clear HI0 hh h1 h2
  have bad : ¬ (1 ≤ node ∧ node ≤ 8) → Hid (Ending.returned (.tuple #[.agg (arrOf .u64 16 fun _ => 0), .int .i64 11]) = .returned (cntV (Tal.cnt h node n))) := fun hn => by
    show _ = _; rw [Tal.cnt_node hn]
  by_cases n1 : 1 ≤ node
  · by_cases n2 : node ≤ 8
    · clear bad
      obtain ⟨i, rfl⟩ : ∃ i : Nat, node = (i : Int) + 1 := ⟨(node - 1).toNat, by omega⟩
      have hi : i < 8 := by omega
      clear n1
      go_enter Try.func7, Try.ntmps7
      go_wp2_with (refine wpList_load_row rfl 26 _ rfl w.heap.size rfl 26 (arrOf .u64 16 h) (0, 0) _ HL.out Try.underlying26 rfl s26.out ?_)
      generalize (w.alloc (.cells (arrOf .u64 16 h) 26)).alloc (.cells #[.int .u64 0, .int .u64 0, .int .u64 0, .int .u64 0, .int .u64 0, .int .u64 0, .int .u64 0, .int .u64 0, .int .u64 0, .int .u64 0, .int .u64 0, .int .u64 0, .int .u64 0, .int .u64 0, .int .u64 0, .int .u64 0] 26) = w1 at *
      refine (vectors_any h w1).mono ?_
      rintro e w2 ⟨rfl, hb⟩
      have HS2 := Lib.hid (HS.out.then_ hb)
      clear hb HS HL HR
      have hZ := Lib.hid (zero_row16 w2 53)
      have hfar := HS2.out.r
      have HI3 : Hid (NInv w h h w2.heap.size (w2.alloc (.cells (arrOf .u64 16 h) 53))) :=
        ⟨(HS2.out.then_ (below1 _ _)).a, (HS2.out.then_ (below1 _ _)).r, arr_row (heap_alloc_new _ _), lt_of_row hfar, (HS2.out.then_ (below1 _ _)).below⟩
      clear hfar
      go_wp2_with (refine wpList_store_row rfl 53 _ _ rfl w2.heap.size (arrOf .u64 16 h) rfl rfl 53 _ hZ.out s53.out ss.out (arrOf_one _ _ _) ?_; rw [set_z16])
      generalize w2.alloc (.cells (arrOf .u64 16 h) 53) = w3 at *
      obtain ⟨b, hb⟩ : ∃ b, b = w2.heap.size := ⟨_, rfl⟩
      rw [← hb] at HI3 ⊢
      clear hb hZ HS2 w2
      refine (sizes_any n w3 H1.out H2.out).mono ?_
      rintro e w4 ⟨rfl, hb⟩
      have HI4 := Lib.hid (HI3.out.then_ hb)
      clear hb HI3
      obtain ⟨U, hU⟩ : ∃ U, U = Tal.up n := ⟨_, rfl⟩
      obtain ⟨D, hD⟩ : ∃ D, D = Tal.down n := ⟨_, rfl⟩
      have HUb : U ≤ 9223372036854775807 := by have := H2.out; rw [hU]; simp only [Tal.up]; omega
      have HDb : D ≤ 9223372036854775808 := by have := H1.out; rw [hD]; simp only [Tal.down]; omega
      have HX0 : Hid (∀ w, (Instr.index 55 (.agg (arrOf .u64 2 (Tal.szs n))) (.int .i64 ((0 : Nat) : Int))).run Try.prog w = .ok (.int .u64 (U : Int)) w) := by rw [hU]; exact index55_0 n
      have HX1 : Hid (∀ w, (Instr.index 55 (.agg (arrOf .u64 2 (Tal.szs n))) (.int .i64 ((1 : Nat) : Int))).run Try.prog w = .ok (.int .u64 (D : Int)) w) := by rw [hD]; exact index55_1 n
      obtain ⟨A2, hA2⟩ : ∃ A2, A2 = arrOf .u64 2 (Tal.szs n) := ⟨_, rfl⟩
      rw [← hA2] at HX0 HX1 ⊢
      clear hA2
      obtain ⟨x, hx⟩ : ∃ x, x = h i := ⟨_, rfl⟩
      obtain ⟨y, hy⟩ : ∃ y, y = h (8 + i) := ⟨_, rfl⟩
      have hxb : x < 18446744073709551616 := by rw [hx]; exact HH.out _ (by omega)
      have hyb : y < 18446744073709551616 := by rw [hy]; exact HH.out _ (by omega)
      have over : 18446744073709551615 < x + U ∨ 18446744073709551615 < y + D → Hid (Ending.returned (.tuple #[.agg (arrOf .u64 16 fun _ => 0), .int .i64 13]) = .returned (cntV (Tal.cnt h ((i : Int) + 1) n))) := fun ho => by
        show _ = _; rw [Tal.cnt_over hi (by rw [← hx, ← hy, ← hU, ← hD]; exact ho)]
      have fine : ¬ (18446744073709551615 < x + U) → ¬ (18446744073709551615 < y + D) → Hid (Ending.returned (.tuple #[.agg (arrOf .u64 16 (Tal.plusAt (Tal.plusAt h i U) (8 + i) D)), .int .i64 0]) = .returned (cntV (Tal.cnt h ((i : Int) + 1) n))) := fun ho hd => by
        show _ = _; rw [Tal.cnt_ok hi (by rw [← hx, ← hU]; exact ho) (by rw [← hy, ← hD]; exact hd), hU, hD]
      have OV := Lib.hid over
      have FI := Lib.hid fine
      have HX := Lib.hid hx
      have HY := Lib.hid hy
      have eW : IntKind.i64.wrap ((i : Int) + 1 - 1) = (i : Int) := by rw [IntKind.wrap_i64]; omega
      have eX : IntKind.u64.wrap (18446744073709551615 - (x : Int)) = 18446744073709551615 - (x : Int) := by rw [IntKind.wrap_u64]; omega
      have eY : IntKind.u64.wrap (18446744073709551615 - (y : Int)) = 18446744073709551615 - (y : Int) := by rw [IntKind.wrap_u64]; omega
      clear over fine hx hy hU hD w1 H1 H2 HH
      go_wp2_with fail
      go_loopw [23] (fun v wx => ∃ j : Nat, j ≤ 2 ∧ v = .int .i64 j ∧ Hid (NInv w h (gj h i U D j) b wx) ∧ Hid (0 < j → ¬ (18446744073709551615 < x + U)) ∧ Hid (1 < j → ¬ (18446744073709551615 < y + D))) (fun v _ => 2 - (intOf v).toNat)
      case atStart => exact ⟨0, by omega, rfl, HI4, fun h => absurd h (by omega), fun h => absurd h (by omega)⟩
      case round =>
        clear HI4
        obtain ⟨j, hj, rfl, HI, HA1, HA2⟩ := hrel
        rcases (show j = 0 ∨ j = 1 ∨ j = 2 by omega) with rfl | rfl | rfl
        · have HI : NInv w h h b wr := by simpa [gj] using HI.out
          have hg : h i = x := HX.out.symm
          have c1 : wr.cell? ⟨b, i, none⟩ = some (.int .u64 (x : Int)) := by have h2 := HI.c.cell (i := i) (by omega); rw [hg] at h2; exact h2
          have f1 : wr.frozen? ⟨b, i, none⟩ = false := HI.c.frozen _
          have HR := Lib.hid HI.r
          have HB := Lib.hid HI.below
          by_cases ho : 18446744073709551615 < x + U
          · have HE := OV.out (.inl ho)
            have hoi : 18446744073709551615 - (x : Int) < (U : Int) := by omega
            have HO := Lib.hid ho
            clear ho HI hg
            go_wp2_with (first
              | (refine wpList_index rfl 55 _ _ rfl (v := .agg A2) (u := .int .i64 ((0 : Nat) : Int)) rfl rfl (HX0.out _) ?_)
              | (refine wpList_built rfl 26 _ rfl [] rfl _ HB0.out ?_)
              | (refine wpList_store_row rfl 26 _ _ rfl (w.heap.size + 1) (arrOf .u64 16 fun _ => 0) rfl rfl 26 _ HR.out s26.out ss.out (arrOf_one _ _ _) ?_)
              | (refine bodyPost_ret (results_cell_tmp Try.results7 _ _ (w.heap.size + 1) 26 _ (0, 0) _ rfl (setRow_heap _ _ _ _ _ _ HR.out) Try.underlying26 rfl s26.out rfl) rfl ⟨HE.out, below_setRow' HB.out (by omega) _⟩))
          · have hoi : ¬ (18446744073709551615 - (x : Int) < (U : Int)) := by omega
            have eS : IntKind.u64.wrap ((x : Int) + (U : Int)) = ((x + U : Nat) : Int) := by rw [IntKind.wrap_u64]; omega
            have HO := Lib.hid (HI.step (q := i) (U := U) (v := ((x + U : Nat) : Int)) (by rw [hg]))
            have HF := Lib.hid ho
            clear ho HI hg
            go_wp2_with (refine wpList_index rfl 55 _ _ rfl (v := .agg A2) (u := .int .i64 ((0 : Nat) : Int)) rfl rfl (HX0.out _) ?_)
            go_roundw
            case rel => exact ⟨1, by omega, by first | rfl | go_num, by simpa [gj] using HO, fun _ => HF.out, fun h => by omega⟩
            case measure => simp [intOf]
        · have HI : NInv w h (Tal.plusAt h i U) b wr := by simpa [gj] using HI.out
          have hg : Tal.plusAt h i U (8 + i) = y := by rw [HY.out, Tal.plusAt, if_neg (by omega)]
          have c1 : wr.cell? ⟨b, (8 + i), none⟩ = some (.int .u64 (y : Int)) := by have h2 := HI.c.cell (i := (8 + i)) (by omega); rw [hg] at h2; exact h2
          have f1 : wr.frozen? ⟨b, (8 + i), none⟩ = false := HI.c.frozen _
          have HR := Lib.hid HI.r
          have HB := Lib.hid HI.below
          by_cases ho : 18446744073709551615 < y + D
          · have HE := OV.out (.inr ho)
            have hoi : 18446744073709551615 - (y : Int) < (D : Int) := by omega
            have HO := Lib.hid ho
            clear ho HI hg
            go_wp2_with (first
              | (refine wpList_index rfl 55 _ _ rfl (v := .agg A2) (u := .int .i64 ((1 : Nat) : Int)) rfl rfl (HX1.out _) ?_)
              | (refine wpList_built rfl 26 _ rfl [] rfl _ HB0.out ?_)
              | (refine wpList_store_row rfl 26 _ _ rfl (w.heap.size + 1) (arrOf .u64 16 fun _ => 0) rfl rfl 26 _ HR.out s26.out ss.out (arrOf_one _ _ _) ?_)
              | (refine bodyPost_ret (results_cell_tmp Try.results7 _ _ (w.heap.size + 1) 26 _ (0, 0) _ rfl (setRow_heap _ _ _ _ _ _ HR.out) Try.underlying26 rfl s26.out rfl) rfl ⟨HE.out, below_setRow' HB.out (by omega) _⟩))
          · have hoi : ¬ (18446744073709551615 - (y : Int) < (D : Int)) := by omega
            have eS : IntKind.u64.wrap ((y : Int) + (D : Int)) = ((y + D : Nat) : Int) := by rw [IntKind.wrap_u64]; omega
            have HO := Lib.hid (HI.step (q := (8 + i)) (U := D) (v := ((y + D : Nat) : Int)) (by rw [hg]))
            have HF := Lib.hid ho
            clear ho HI hg
            go_wp2_with (refine wpList_index rfl 55 _ _ rfl (v := .agg A2) (u := .int .i64 ((1 : Nat) : Int)) rfl rfl (HX1.out _) ?_)
            go_roundw
            case rel => exact ⟨2, by omega, by first | rfl | go_num, by simpa [gj] using HO, fun _ => HA1.out (by omega), fun _ => HF.out⟩
            case measure => simp [intOf]
        · have HI : NInv w h (Tal.plusAt (Tal.plusAt h i U) (8 + i) D) b wr := by simpa [gj] using HI.out
          have HE := FI.out (HA1.out (by omega)) (HA2.out (by omega))
          obtain ⟨G, hG⟩ : ∃ G, G = Tal.plusAt (Tal.plusAt h i U) (8 + i) D := ⟨_, rfl⟩
          rw [← hG] at HI HE
          have HQ : Hid (wr.heap[b]? = some (.cells (arrOf .u64 16 G) 53 (0, 0))) := row_arr HI.c
          have HLo := Lib.hid (range_lo HQ.out)
          have HHi := Lib.hid (range_hi HQ.out)
          have HBu := Lib.hid (built26 G)
          have HR := Lib.hid HI.r
          have HB := Lib.hid HI.below
          have s24 : ∀ {f : Nat → Nat}, Hid ((Try.prog.info? 24).map (·.size) = some (arrOf .u64 8 f).size) := fun {f} => by rw [arrOf_size]; exact size24
          clear HI hG HA1 HA2
          go_wp2_with (first
            | (refine wpList_load_arr rfl 24 _ rfl b 0 rfl (arrOf .u64 8 G) _ HLo.out Try.underlying24 rfl s24.out ?_)
            | (refine wpList_load_arr rfl 24 _ rfl b 8 rfl (arrOf .u64 8 (half G)) _ HHi.out Try.underlying24 rfl s24.out ?_)
            | (refine wpList_built rfl 26 _ rfl [(0, vecV G), (1, vecV (half G))] rfl _ HBu.out ?_)
            | (refine wpList_store_row rfl 26 _ _ rfl (w.heap.size + 1) (arrOf .u64 16 G) rfl rfl 26 _ HR.out s26.out ss.out (arrOf_one _ _ _) ?_)
            | (refine bodyPost_ret (results_cell_tmp Try.results7 _ _ (w.heap.size + 1) 26 _ (0, 0) _ rfl (setRow_heap _ _ _ _ _ _ HR.out) Try.underlying26 rfl s26.out rfl) rfl ⟨HE.out, below_setRow' HB.out (by omega) _⟩))
    · have n2' : 8 < node := by omega
      have HE := bad (by omega)
      clear bad
      go_enter Try.func7, Try.ntmps7
      go_wp2_with (first
        | (refine wpList_built rfl 26 _ rfl [] rfl _ HB0.out ?_)
        | (refine wpList_store_row rfl 26 _ _ rfl (w.heap.size + 1) (arrOf .u64 16 fun _ => 0) rfl rfl 26 _ HR.out s26.out ss.out (arrOf_one _ _ _) ?_)
        | (refine bodyPost_ret (results_cell_tmp Try.results7 _ _ (w.heap.size + 1) 26 _ (0, 0) _ rfl (setRow_heap _ _ _ _ _ _ HR.out) Try.underlying26 rfl s26.out rfl) rfl ⟨HE.out, below_setRow' HS.out.below (by omega) _⟩))
  · have n1' : node < 1 := by omega
    have HE := bad (by omega)
    clear bad
    go_enter Try.func7, Try.ntmps7
    go_wp2_with (first
      | (refine wpList_built rfl 26 _ rfl [] rfl _ HB0.out ?_)
      | (refine wpList_store_row rfl 26 _ _ rfl (w.heap.size + 1) (arrOf .u64 16 fun _ => 0) rfl rfl 26 _ HR.out s26.out ss.out (arrOf_one _ _ _) ?_)
      | (refine bodyPost_ret (results_cell_tmp Try.results7 _ _ (w.heap.size + 1) 26 _ (0, 0) _ rfl (setRow_heap _ _ _ _ _ _ HR.out) Try.underlying26 rfl s26.out rfl) rfl ⟨HE.out, below_setRow' HS.out.below (by omega) _⟩))
end Go.Proofs.Ytbjndjmbbephbaa
