/- The contract of the reference's digest. -/
import Derived.Test.YtdbhboglccggdaaGreatDoorSB5
set_option linter.unusedVariables false
set_option linter.unusedSimpArgs false
namespace Go.Proofs.YtdbhboglccggdaaGreatDoor
open Go.RowKit
theorem size24 : (Tryz.prog.info? 93).map (·.size) = some 32 := by kernel_rfl
theorem info24 : (Tryz.prog.info? 93).map (fun i => (i.zero, i.size)) = some (some (.agg (arrOf .u8 32 fun _ => 0)), 32) := by kernel_rfl
def iarr : Array Value := arrOf .u64 8 initSt.h
def ivals : List (Nat × Value) := (List.range 8).map fun i => (i, .int .u64 ((initSt.h i : Nat) : Int))
theorem built46 : Tryz.prog.built 105 ivals = some iarr := by kernel_rfl
theorem step_load_row {P : Program} {ops : Array Oper} {o : Oper} {a : Act} {w : World} {K : Act → World → Prop} {Q : Exit → Act → World → Prop} {E : Prop} (hgd : o.guard = none) (ty : TypeId) (x : Operand) (ho : o.op = .load ty x)
    (g : Nat) (hx : a.eval x = .pointer (some ⟨g, 0, none⟩)) (t : TypeId) (cs : Array Value) (fr : Nat × Nat) (d : TypeDesc) (hg : w.heap[g]? = some (.cells cs t fr))
    (hu : P.underlying ty = some d) (hd : (match d with | .struct _ | .array _ _ => true | _ => false) = true) (hi : (P.info? ty).map (·.size) = some cs.size)
    (h : K (a.put o.dst (.agg cs)) w) : if Region.wanted o (yielded ops a.tmps) = true then Oper.wp P o a w K Q else E := by
  have hw : Region.wanted o (yielded ops a.tmps) = true := by simp [Region.wanted, hgd]
  rw [if_pos hw]
  exact wp_load_row ty x ho g hx t cs fr d hg hu hd hi h
theorem step_store_row {P : Program} {ops : Array Oper} {o : Oper} {a : Act} {w : World} {K : Act → World → Prop} {Q : Exit → Act → World → Prop} {E : Prop} (hgd : o.guard = none) (ty : TypeId) (x y : Operand) (ho : o.op = .store ty x y)
    (g : Nat) (cells : Array Value) (hx : a.eval x = .pointer (some ⟨g, 0, none⟩)) (hy : a.eval y = .agg cells)
    (t : TypeId) (old : Array Value) (hg : w.heap[g]? = some (.cells old t (0, 0))) (hi : (P.info? ty).map (·.size) = some cells.size)
    (hold : old.size = cells.size) (h1 : cells.all (·.oneCell') = true)
    (h : K (a.put o.dst undef) (w.setRow g cells)) : if Region.wanted o (yielded ops a.tmps) = true then Oper.wp P o a w K Q else E := by
  have hw : Region.wanted o (yielded ops a.tmps) = true := by simp [Region.wanted, hgd]
  rw [if_pos hw]
  exact wp_store_row ty x y ho g cells hx hy t old hg hi hold h1 h
structure SInv (w : World) (P : List Nat) (v : Value) (k : Nat) (wr : World) : Prop where
  h : wr.rowIs (w.heap.size + 1) 105 8 (fun j => .int .u64 (((stK P k).h j : Nat) : Int))
  z : wr.rowIs w.heap.size 93 32 (fun _ => .int .u8 ((0 : Nat) : Int))
  own : wr.ownsRow (w.heap.size + 1 + 1) 5 1 v P.length (ints8 P)
  below : Below w.heap.size w wr
theorem own_cell {w : World} {base : Nat} {g N cap : Nat} {P : List Nat} (h : w.ownsRow base 5 1 (.slice (some ⟨g, 0, none⟩) N cap) N (ints8 P)) {i : Nat} (hi : i < P.length) : w.cell? ⟨g, i, none⟩ = some (.int .u8 ((P.getD i 0 : Nat) : Int)) := by
  have hl := h.1
  rw [ints8_length] at hl
  rcases h.2 with ⟨hv, _⟩ | ⟨g', cap', cur, hv, _, hg, _, _, _, ht⟩
  · cases hv
  · injection hv with hv _ _
    injection hv with hv
    injection hv with hv
    subst hv
    have hi' : i < N * 1 := by omega
    have h1 : cur[i]? = some (.int .u8 ((P.getD i 0 : Nat) : Int)) := by
      have h2 : (cur.toList.take (N * 1))[i]? = (ints8 P)[i]? := by rw [ht]
      rw [List.getElem?_take, if_pos hi'] at h2
      rw [← Array.getElem?_toList, h2]
      simp [ints8, List.getD_eq_getElem?_getD, hi]
    rw [cell_of_row _ _ _ _ _ _ hg, h1]
theorem own_keep {a b : World} {base : Nat} {e : TypeId} {v : Value} {n : Nat} {l : List Value} (h : a.ownsRow base e 1 v n l) (hk : ∀ k, base ≤ k → k < a.heap.size → b.heap[k]? = a.heap[k]?) : b.ownsRow base e 1 v n l := by
  refine ⟨h.1, ?_⟩
  rcases h.2 with h0 | ⟨g, cap, cur, hv, hb, hg, hr⟩
  · exact .inl h0
  · refine .inr ⟨g, cap, cur, hv, hb, ?_, hr⟩
    have hlt : g < a.heap.size := by
      rcases Nat.lt_or_ge g a.heap.size with h1 | h1
      · exact h1
      · rw [Array.getElem?_eq_none h1] at hg
        cases hg
    rw [hk g hb hlt]
    exact hg
theorem SInv.block {w : World} {P : List Nat} {v : Value} {k : Nat} {wr w2 : World} {G : Nat → Nat} (x : SInv w P v k wr) (hb : Below wr.heap.size wr.drew w2) (hG : G = (stK P (k + 1)).h) :
    SInv w P v (k + 1) ((((((((w2.setCell ⟨w.heap.size + 1, 0, none⟩ (.int .u64 ((G 0 : Nat) : Int))).setCell ⟨w.heap.size + 1, 1, none⟩ (.int .u64 ((G 1 : Nat) : Int))).setCell ⟨w.heap.size + 1, 2, none⟩ (.int .u64 ((G 2 : Nat) : Int))).setCell ⟨w.heap.size + 1, 3, none⟩ (.int .u64 ((G 3 : Nat) : Int))).setCell ⟨w.heap.size + 1, 4, none⟩ (.int .u64 ((G 4 : Nat) : Int))).setCell ⟨w.heap.size + 1, 5, none⟩ (.int .u64 ((G 5 : Nat) : Int))).setCell ⟨w.heap.size + 1, 6, none⟩ (.int .u64 ((G 6 : Nat) : Int))).setCell ⟨w.heap.size + 1, 7, none⟩ (.int .u64 ((G 7 : Nat) : Int))) := by
  have hd : ∀ j, j < wr.heap.size → w2.heap[j]? = wr.heap[j]? := fun j hj => hb.block j hj
  have h0 : ∀ j, j ≠ w.heap.size + 1 → ((((((((w2.setCell ⟨w.heap.size + 1, 0, none⟩ (.int .u64 ((G 0 : Nat) : Int))).setCell ⟨w.heap.size + 1, 1, none⟩ (.int .u64 ((G 1 : Nat) : Int))).setCell ⟨w.heap.size + 1, 2, none⟩ (.int .u64 ((G 2 : Nat) : Int))).setCell ⟨w.heap.size + 1, 3, none⟩ (.int .u64 ((G 3 : Nat) : Int))).setCell ⟨w.heap.size + 1, 4, none⟩ (.int .u64 ((G 4 : Nat) : Int))).setCell ⟨w.heap.size + 1, 5, none⟩ (.int .u64 ((G 5 : Nat) : Int))).setCell ⟨w.heap.size + 1, 6, none⟩ (.int .u64 ((G 6 : Nat) : Int))).setCell ⟨w.heap.size + 1, 7, none⟩ (.int .u64 ((G 7 : Nat) : Int))).heap[j]? = w2.heap[j]? := fun j hj => by
    rw [Below.heap_setCell _ _ _ _ hj, Below.heap_setCell _ _ _ _ hj, Below.heap_setCell _ _ _ _ hj, Below.heap_setCell _ _ _ _ hj, Below.heap_setCell _ _ _ _ hj, Below.heap_setCell _ _ _ _ hj, Below.heap_setCell _ _ _ _ hj, Below.heap_setCell _ _ _ _ hj]
  have hr : w2.rowIs (w.heap.size + 1) 105 8 (fun j => .int .u64 (((stK P k).h j : Nat) : Int)) := row_below (show wr.drew.rowIs _ _ _ _ from x.h) hb x.h.lt
  refine ⟨((((((((hr.set 0 _).set 1 _).set 2 _).set 3 _).set 4 _).set 5 _).set 6 _).set 7 _).congr fun i hi => ?_, x.z.of_block ((h0 _ (by omega)).trans (hd _ x.z.lt)), own_keep x.own fun j h1 h2 => (h0 _ (by omega)).trans (hd j h2), ?_⟩
  · subst hG
    match i, hi with
    | 0, _ => rfl
    | 1, _ => rfl
    | 2, _ => rfl
    | 3, _ => rfl
    | 4, _ => rfl
    | 5, _ => rfl
    | 6, _ => rfl
    | 7, _ => rfl
  · have hbb : Below w.heap.size w w2 := x.below.drew.trans (hb.mono x.below.size)
    exact (((((((hbb.setCell (by simp) _).setCell (by simp) _).setCell (by simp) _).setCell (by simp) _).setCell (by simp) _).setCell (by simp) _).setCell (by simp) _).setCell (by simp) _
def outF (F : Nat → Nat) (j i : Nat) : Nat := if i < j then bytesOf F i else 0
theorem out_step {wx : World} {O : Nat} {F : Nat → Nat} {j : Nat} (h : wx.rowIs O 93 32 (fun i => .int .u8 ((outF F j i : Nat) : Int))) {v : Int} (hv : v = ((bytesOf F j : Nat) : Int)) :
    (wx.setCell ⟨O, j, none⟩ (.int .u8 v)).rowIs O 93 32 (fun i => .int .u8 ((outF F (j + 1) i : Nat) : Int)) := by
  subst hv
  refine (h.set j _).congr fun i _ => ?_
  unfold outF
  by_cases e : i = j
  · subst e
    simp
  · simp only [if_neg e]
    by_cases hl : i < j
    · rw [if_pos hl, if_pos (by omega)]
    · rw [if_neg hl, if_neg (by omega)]
set_option maxRecDepth 100000 in
set_option maxHeartbeats 2000000 in
theorem rsum_any (xs : List Nat) (c : Nat) (A : Option Addr) (w : World) (hx : Bytes w (· < w.heap.size) A xs) (hn : A = none → c = 0) (hs : xs.length ≤ 2000) :
    Calls Tryz.prog 56 #[.slice A xs.length c] w fun e w' => e = .returned (.agg (arrOf .u8 32 (sha xs))) ∧ Below w.heap.size w w' := by
  have HX := Lib.hid hx
  have HN := Lib.hid hn
  clear hx hn
  have hz24 := (zero_of_info info24).1
  have hz46 := (zero_of_info info46).1
  obtain ⟨Z, hZ⟩ : ∃ Z, Z = arrOf .u8 32 (fun _ => 0) := ⟨_, rfl⟩
  obtain ⟨Y, hY⟩ : ∃ Y, Y = arrOf .u64 8 (fun _ => 0) := ⟨_, rfl⟩
  rw [← hZ] at hz24
  rw [← hY] at hz46
  have HZ := Lib.hid hZ
  have s46 : Hid ((Tryz.prog.info? 105).map (·.size) = some iarr.size) := by unfold iarr; rw [arrOf_size]; exact size46
  have o46 : Hid (iarr.all (·.oneCell') = true) := arrOf_one _ _ _
  have YS : Hid (Y.size = iarr.size) := by rw [hY]; unfold iarr; rw [arrOf_size, arrOf_size]; exact rfl
  clear hZ hY
  have HB : Hid (Below w.heap.size w (((w.alloc (.cells Z 93)).alloc (.cells Y 105)).setRow (w.heap.size + 1) iarr)) := below_setRow' (((Below.refl _ _).alloc (Nat.le_refl _) _).alloc (by simp) _) (by omega) _
  go_enter Tryz.func56, Tryz.ntmps56
  go_wp2_with (first
    | (refine wpList_built rfl 105 _ rfl ivals (by kernel_rfl) iarr built46 ?_)
    | (refine wpList_store_row rfl 105 _ _ rfl (w.heap.size + 1) iarr rfl rfl 105 _ (heap_alloc2_new w _ _) s46.out YS.out o46.out ?_)
    | (go_at_call 68; refine (pad_any xs c A _ ((HX.out.below HB.out).weak fun b hb _ => by simp; omega) HN.out hs).mono ?_; rintro e w1 ⟨v1, N, rfl, hN, ho1, hb1⟩; have HO1 := Lib.hid ho1; have HB1 := Lib.hid hb1; have HNN := Lib.hid hN; clear ho1 hb1 hN))
  obtain ⟨P, hP⟩ : ∃ P, P = padded xs := ⟨_, rfl⟩
  have hPN : N = P.length := by rw [hP, padded_length, HNN.out, padTail_length]
  obtain ⟨nb, hnb⟩ : ∃ nb, P.length = 64 * nb := ⟨P.length / 64, by rw [hP, padded_length]; omega⟩
  have hPs : nb ≤ 40 := by
    have := padded_length xs
    rw [← hP] at this
    omega
  have HPN : Hid (P.length = 64 * nb) := hnb
  subst hPN
  have HPP : Hid (xs ++ padTail (xs.length % 64) xs.length = P) := by rw [hP]; exact rfl
  have hnb0 : 0 < P.length := by rw [hP, padded_length]; omega
  obtain ⟨g, cap, rfl⟩ := owns_slice HO1.out hnb0
  have HP := Lib.hid hP
  have HPB : Hid (∀ y, y ∈ P → y < 256) := fun y hy => by
    rw [hP] at hy
    rcases List.mem_append.1 hy with h | h
    · exact HX.out.lt y h
    · obtain ⟨j, _, rfl⟩ := List.mem_map.1 h
      exact tailF_lt _ _ _ _
  have HI : Hid (SInv w P (.slice (some ⟨g, 0, none⟩) P.length cap) 0 w1) := by
    have hz0 : (((w.alloc (.cells Z 93)).alloc (.cells Y 105)).setRow (w.heap.size + 1) iarr).heap.size = w.heap.size + 1 + 1 := by simp
    have hb := HB1.out
    have ho := HO1.out
    rw [hz0] at hb ho
    refine ⟨(arr_row (k := .u64) (f := initSt.h) ?_).congr fun i _ => by simp [stK], arr_row (k := .u8) (f := fun _ => 0) ?_, ?_, HB.out.trans (hb.mono (by omega))⟩
    · rw [hb.block _ (by omega)]
      exact setRow_heap _ _ _ _ _ _ (heap_alloc2_new w _ _)
    · rw [hb.block _ (by omega), setRow_other _ _ _ _ (by omega), ← HZ.out]
      exact heap_alloc2_old w _ _
    · rw [HPP.out] at ho
      exact ho
  clear HNN HO1 HB1 hP hz24 hz46 s46 o46 YS HB hnb hnb0
  go_loopw [5] (fun v wr => ∃ k : Nat, k ≤ nb ∧ v = .int .i64 ((64 * k : Nat) : Int) ∧ Hid (SInv w P (.slice (some ⟨g, 0, none⟩) P.length cap) k wr)) (fun v _ => 64 * nb - (intOf v).toNat)
  case atStart => exact ⟨0, by omega, rfl, HI⟩
  case round =>
    clear HI
    obtain ⟨k, hk, rfl, HI⟩ := hrel
    by_cases hlt : k < nb
    · have hltP : 64 * k < P.length := by have := HPN.out; omega
      have hfit : 64 * (k + 1) ≤ P.length := by have := HPN.out; omega
      obtain ⟨F, hF⟩ : ∃ F : Nat → Nat, F = (stK P k).h := ⟨_, rfl⟩
      obtain ⟨G, hG⟩ : ∃ G : Nat → Nat, G = (stK P (k + 1)).h := ⟨_, rfl⟩
      have HRF : Hid (wr.rowIs (w.heap.size + 1) 105 8 (fun j => .int .u64 ((F j : Nat) : Int))) := by rw [hF]; exact HI.out.h
      have HNX : Hid (Calls Tryz.prog 69 #[.agg #[.int .u64 ((F 0 : Nat) : Int), .int .u64 ((F 1 : Nat) : Int), .int .u64 ((F 2 : Nat) : Int), .int .u64 ((F 3 : Nat) : Int), .int .u64 ((F 4 : Nat) : Int), .int .u64 ((F 5 : Nat) : Int), .int .u64 ((F 6 : Nat) : Int), .int .u64 ((F 7 : Nat) : Int)], .slice (some ⟨g, 64 * k, none⟩) 64 (cap - 64 * k)] wr.drew fun e w' => e = .returned (.agg #[.int .u64 ((G 0 : Nat) : Int), .int .u64 ((G 1 : Nat) : Int), .int .u64 ((G 2 : Nat) : Int), .int .u64 ((G 3 : Nat) : Int), .int .u64 ((G 4 : Nat) : Int), .int .u64 ((G 5 : Nat) : Int), .int .u64 ((G 6 : Nat) : Int), .int .u64 ((G 7 : Nat) : Int)]) ∧ Below wr.heap.size wr.drew w') := by
        have hok : (stK P k).Ok := Sha.absorbs_ok _ _ init_ok fun y hy => HPB.out y (List.mem_of_mem_take hy)
        have hcell : ∀ j, j < 64 → wr.drew.cell? ⟨g, 64 * k + j, none⟩ = some (.int .u8 ((Sha.lay (stK P k).b 0 (chunk P k) j : Nat) : Int)) := fun j hj => by
          rw [chunk_get P k _ hj hfit]
          exact own_cell HI.out.own (by omega)
        have h := next_any (stK P k).h (Sha.lay (stK P k).b 0 (chunk P k)) hok.h (fun i => Sha.lay_lt hok.b (fun y hy => HPB.out y (List.mem_of_mem_drop (List.mem_of_mem_take hy))) i) g (64 * k) (cap - 64 * k) wr.drew
          (World.block_lt_of_cell? wr.drew _ (hcell 0 (by omega))) hcell
        rw [← stK_step P k hfit, ← hF, ← hG] at h
        exact h
      have HFG := Lib.hid hG
      clear hF hG
      have c0 : wr.cell? ⟨w.heap.size + 1, 0, none⟩ = some (.int .u64 ((F 0 : Nat) : Int)) := HRF.out.cell (i := 0) (by omega)
      have c1 : wr.cell? ⟨w.heap.size + 1, 1, none⟩ = some (.int .u64 ((F 1 : Nat) : Int)) := HRF.out.cell (i := 1) (by omega)
      have c2 : wr.cell? ⟨w.heap.size + 1, 2, none⟩ = some (.int .u64 ((F 2 : Nat) : Int)) := HRF.out.cell (i := 2) (by omega)
      have c3 : wr.cell? ⟨w.heap.size + 1, 3, none⟩ = some (.int .u64 ((F 3 : Nat) : Int)) := HRF.out.cell (i := 3) (by omega)
      have c4 : wr.cell? ⟨w.heap.size + 1, 4, none⟩ = some (.int .u64 ((F 4 : Nat) : Int)) := HRF.out.cell (i := 4) (by omega)
      have c5 : wr.cell? ⟨w.heap.size + 1, 5, none⟩ = some (.int .u64 ((F 5 : Nat) : Int)) := HRF.out.cell (i := 5) (by omega)
      have c6 : wr.cell? ⟨w.heap.size + 1, 6, none⟩ = some (.int .u64 ((F 6 : Nat) : Int)) := HRF.out.cell (i := 6) (by omega)
      have c7 : wr.cell? ⟨w.heap.size + 1, 7, none⟩ = some (.int .u64 ((F 7 : Nat) : Int)) := HRF.out.cell (i := 7) (by omega)
      have i64 : IntKind.i64.wrap (64 * (k : Int) + 64) = 64 * (k : Int) + 64 := IntWalk.i64_in _ (by omega)
      have hcap : Hid (P.length ≤ cap) := by
        rcases HI.out.own.2 with ⟨hv, _⟩ | ⟨_, _, _, hv, _, _, hc, _⟩
        · cases hv
        · injection hv with _ _ hv
          subst hv
          exact hc
      have hcap' := hcap.out
      have hs1 : (0 : Int) ≤ 64 * (k : Int) + 64 := by omega
      have hs2 : 64 * (k : Int) + 64 ≤ (cap : Int) := by omega
      have hs3 : (0 : Int) ≤ 64 * (k : Int) := by omega
      have hs4 : 64 * (k : Int) ≤ max (64 * (k : Int) + 64) 0 := by omega
      have hs9 : 64 * (k : Int) ≤ 64 * (k : Int) + 64 := by omega
      have hs5 : ¬ cap = 64 * k := by omega
      have hs6 : (64 * (k : Int)).toNat = 64 * k := by omega
      have hs7 : (64 * (k : Int) + 64).toNat = 64 * k + 64 := by omega
      have hs8 : 64 * k + 64 - 64 * k = 64 := by omega
      go_wp2_with fail
      go_region_with (go_at_call 69; refine HNX.out.mono ?_; rintro e w2 ⟨rfl, hb2⟩; have HB2 := Lib.hid hb2; have HR2 : Hid (w2.rowIs (w.heap.size + 1) 105 8 (fun j => .int .u64 ((F j : Nat) : Int))) := row_below (show wr.drew.rowIs _ _ _ _ from HRF.out) hb2 HRF.out.lt; clear hb2; have e0 := HR2.out.cell (i := 0) (by omega); have f0 := HR2.out.frozen 0; have e1 := HR2.out.cell (i := 1) (by omega); have f1 := HR2.out.frozen 1; have e2 := HR2.out.cell (i := 2) (by omega); have f2 := HR2.out.frozen 2; have e3 := HR2.out.cell (i := 3) (by omega); have f3 := HR2.out.frozen 3; have e4 := HR2.out.cell (i := 4) (by omega); have f4 := HR2.out.frozen 4; have e5 := HR2.out.cell (i := 5) (by omega); have f5 := HR2.out.frozen 5; have e6 := HR2.out.cell (i := 6) (by omega); have f6 := HR2.out.frozen 6; have e7 := HR2.out.cell (i := 7) (by omega); have f7 := HR2.out.frozen 7)
      have HI5 := Lib.hid (HI.out.block HB2.out HFG.out)
      go_wp2_with fail
      go_roundw
      case rel => exact ⟨k + 1, by omega, by go_num, HI5⟩
      case measure => simp [intOf]; omega
    · obtain rfl : k = nb := by omega
      clear hk hlt
      have hge : ¬ (64 * k < P.length) := by have := HPN.out; omega
      have HE : Hid (sha xs = bytesOf (stK P k).h) := by
        have h1 := sha_eq xs (by omega) k (by rw [← HP.out]; exact HPN.out.symm)
        rw [HP.out]
        exact h1
      obtain ⟨F, hF⟩ : ∃ F : Nat → Nat, F = (stK P k).h := ⟨_, rfl⟩
      have HRF : Hid (wr.rowIs (w.heap.size + 1) 105 8 (fun j => .int .u64 ((F j : Nat) : Int))) := by rw [hF]; exact HI.out.h
      have HFL : Hid (∀ j, F j < 4294967296) := by
        rw [hF]
        exact (Sha.absorbs_ok _ _ init_ok fun y hy => HPB.out y (List.mem_of_mem_take hy) : (stK P k).Ok).h
      rw [← hF] at HE
      clear hF
      have hz24 := (zero_of_info info24).1
      obtain ⟨Y2, hY2⟩ : ∃ Y2, Y2 = arrOf .u8 32 (fun _ => 0) := ⟨_, rfl⟩
      rw [← hY2] at hz24
      have HY2 := Lib.hid hY2
      clear hY2
      go_wp2_with fail
      have HO : Hid ((wr.alloc (.cells Y2 93)).rowIs wr.heap.size 93 32 (fun i => .int .u8 ((outF F 0 i : Nat) : Int))) := by
        rw [HY2.out]
        exact (arr_row (k := .u8) (f := fun _ => 0) (heap_alloc_new wr _)).congr fun i _ => by simp [outF]
      have HBx : Hid (Below wr.heap.size wr (wr.alloc (.cells Y2 93))) := (Below.refl _ _).alloc (Nat.le_refl _) _
      go_loopw [7] (fun v wx => ∃ j : Nat, j ≤ 32 ∧ v = .int .i64 j ∧ Hid (wx.rowIs wr.heap.size 93 32 (fun i => .int .u8 ((outF F j i : Nat) : Int))) ∧ Hid (Below wr.heap.size wr wx)) (fun v _ => 32 - (intOf v).toNat)
      case atStart => exact ⟨0, by omega, rfl, HO, HBx⟩
      case round =>
        clear HO HBx
        obtain ⟨j, hj, rfl, HO, HBx⟩ := hrel
        by_cases hlt : j < 32
        · have HR2 := Lib.hid (row_below HRF.out HBx.out HRF.out.lt)
          have c1 := HR2.out.cell (i := j / 4) (by omega)
          have c2 := HO.out.cell hlt
          have f2 := HO.out.frozen j
          have b1 := HFL.out (j / 4)
          have q1 : ((j : Int) / 4).toNat = j / 4 := by omega
          have q2 : (j : Int) / 4 < 8 := by omega
          have q3 : (0 : Int) ≤ (j : Int) / 4 := by omega
          have q4 : (0 : Int) ≤ 93 - 8 * ((j : Int) % 4) := by omega
          have q5 : (93 - 8 * ((j : Int) % 4)).toNat = 93 - 8 * (j % 4) := by omega
          go_wp2_with fail
          go_roundw
          case rel =>
            refine ⟨j + 1, by omega, by go_num, out_step HO.out ?_, HBx.out.setCell (by simp) _⟩
            unfold bytesOf
            rw [Int.natCast_emod, Int.natCast_ediv, Int.natCast_pow]
            rfl
          case measure => simp [intOf]; omega
        · obtain rfl : j = 32 := by omega
          clear hj hlt
          have hh := row_arr HO.out
          have hR : arrOf .u8 32 (outF F 32) = arrOf .u8 32 (sha xs) := arrOf_congr fun i hi => by rw [HE.out]; unfold outF; rw [if_pos hi]
          rw [hR] at hh
          obtain ⟨R, hR2⟩ : ∃ R, R = arrOf .u8 32 (sha xs) := ⟨_, rfl⟩
          rw [← hR2] at hh
          have HH := Lib.hid hh
          have HR2 := Lib.hid hR2
          have RS : Hid ((Tryz.prog.info? 93).map (·.size) = some R.size) := by rw [hR2, arrOf_size]; exact size24
          have RO : Hid (R.all (·.oneCell') = true) := by rw [hR2]; exact arrOf_one _ _ _
          have RZ : Hid ((arrOf .u8 32 fun _ => 0).size = R.size) := by rw [hR2, arrOf_size, arrOf_size]; exact rfl
          have HZ0 := Lib.hid (row_arr (f := fun _ => 0) (row_below HI.out.z HBx.out HI.out.z.lt))
          have HBF := Lib.hid (HI.out.below.trans (HBx.out.mono HI.out.below.size))
          clear hh hR hR2 hz24 hge
          go_wp2_with (first
            | (refine wpList_load_row rfl 93 _ rfl _ rfl 93 R (0, 0) _ HH.out Tryz.underlying93 rfl RS.out ?_)
            | (refine wpList_store_row rfl 93 _ _ rfl w.heap.size R rfl rfl 93 _ HZ0.out RS.out RZ.out RO.out ?_)
            | (refine bodyPost_ret (results_cell_row Tryz.results56 _ _ w.heap.size 93 _ (0, 0) _ rfl (setRow_heap _ _ _ _ _ _ HZ0.out) Tryz.underlying93 rfl RS.out) rfl ⟨by rw [HR2.out], below_setRow' HBF.out (by omega) _⟩))
end Go.Proofs.YtdbhboglccggdaaGreatDoor
