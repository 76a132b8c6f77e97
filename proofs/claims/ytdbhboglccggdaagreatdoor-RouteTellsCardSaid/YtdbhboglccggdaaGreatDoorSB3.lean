/- The contract of the reference's step for a block. -/
import Derived.Test.YtdbhboglccggdaaGreatDoorSB2
set_option linter.unusedVariables false
set_option linter.unusedSimpArgs false
namespace Go.Proofs.YtdbhboglccggdaaGreatDoor
open Go.RowKit
structure NInv (w : World) (h b : Nat → Nat) (Kb : Nat) (S : Sha.S8) (tw : Nat) (wr : World) : Prop where
  lo : w.heap.size + 1 + 1 ≤ Kb
  h0 : wr.rowIs w.heap.size 105 8 (fun j => .int .u64 ((h j : Nat) : Int))
  rz : wr.rowIs (w.heap.size + 1) 105 8 (fun _ => .int .u64 ((0 : Nat) : Int))
  kb : wr.rowIs Kb 121 64 (fun j => .int .u64 ((Sha.K.getD j 0 : Nat) : Int))
  wb : wr.rowIs (Kb + 1) 121 64 (fun j => .int .u64 (((Sha.ws b tw).getD j 0 : Nat) : Int))
  vb : wr.rowIs (Kb + 1 + 1) 105 8 (fun j => .int .u64 ((S.at j : Nat) : Int))
  below : Below w.heap.size w wr
theorem NInv.next {w wr w2 : World} {h b : Nat → Nat} {Kb tw : Nat} {S : Sha.S8} (x : NInv w h b Kb S tw wr) (hb : Below wr.heap.size wr w2) : NInv w h b Kb S tw w2 :=
  ⟨x.lo, row_below x.h0 hb x.h0.lt, row_below x.rz hb x.rz.lt, row_below x.kb hb x.kb.lt, row_below x.wb hb x.wb.lt, row_below x.vb hb x.vb.lt, x.below.trans (hb.mono x.below.size)⟩
theorem NInv.drewN {w wr : World} {h b : Nat → Nat} {Kb tw : Nat} {S : Sha.S8} (x : NInv w h b Kb S tw wr) (n : Nat) : NInv w h b Kb S tw (wr.drewN n) :=
  x.next (below_drewN (Below.refl _ _) n)
theorem NInv.word {w wr : World} {h b : Nat → Nat} {Kb t : Nat} {S : Sha.S8} (x : NInv w h b Kb S t wr) (ht : t < 64) :
    NInv w h b Kb S (t + 1) (wr.setCell ⟨Kb + 1, t, none⟩ (.int .u64 (((Sha.ws b (t + 1)).getD t 0 : Nat) : Int))) := by
  have := x.lo
  refine ⟨x.lo, x.h0.setOther (by simp; omega) _, x.rz.setOther (by simp; omega) _, x.kb.setOther (by simp) _, (x.wb.set t _).congr fun i hi => ?_, x.vb.setOther (by simp) _, x.below.setCell (by simp; omega) _⟩
  by_cases e : i = t
  · subst e; simp
  · simp only [if_neg e]
    rcases Nat.lt_or_ge i t with hl | hl
    · rw [Sha.ws_keep b hl (t + 1) (by omega)]
    · rw [List.getD_eq_getElem?_getD, List.getD_eq_getElem?_getD, List.getElem?_eq_none (by rw [Sha.ws_length]; omega), List.getElem?_eq_none (by rw [Sha.ws_length]; omega)]
theorem NInv.start {w w1 : World} {h b : Nat → Nat} {A Z Y : Array Value} (hA : A = arrOf .u64 8 h) (hZ : Z = arrOf .u64 8 fun _ => 0) (hY : Y = arrOf .u64 64 fun _ => 0)
    (hb : Below ((w.alloc (.cells A 105)).alloc (.cells Z 105)).heap.size ((w.alloc (.cells A 105)).alloc (.cells Z 105)) w1) :
    NInv w h b w1.heap.size (Sha.of8 h) 0 ((((w1.alloc (.cells karr 121)).alloc (.cells Y 121)).alloc (.cells Z 105)).setRow (w1.heap.size + 1 + 1) A) := by
  have hl : w.heap.size + 1 + 1 ≤ w1.heap.size := by
    have := hb.size
    simpa using this
  have hz : ((w.alloc (.cells A 105)).alloc (.cells Z 105)).heap.size = w.heap.size + 1 + 1 := by simp
  have hz2 : ((w1.alloc (.cells karr 121)).alloc (.cells Y 121)).heap.size = w1.heap.size + 1 + 1 := by simp
  have hv : (((w1.alloc (.cells karr 121)).alloc (.cells Y 121)).alloc (.cells Z 105)).heap[w1.heap.size + 1 + 1]? = some (.cells Z 105 (0, 0)) := by
    rw [← hz2]; exact heap_alloc_new _ _
  have old : ∀ k, k < w1.heap.size → ((((w1.alloc (.cells karr 121)).alloc (.cells Y 121)).alloc (.cells Z 105)).setRow (w1.heap.size + 1 + 1) A).heap[k]? = w1.heap[k]? := fun k hk => by
    rw [setRow_other _ _ _ _ (by omega), Below.heap_alloc _ _ _ (by rw [hz2]; omega), Below.heap_alloc _ _ _ (by simp; omega), Below.heap_alloc _ _ _ hk]
  refine ⟨hl, arr_row ?_, arr_row ?_, arr_row ?_, ?_, ?_, ?_⟩
  · rw [old _ (by omega), hb.block _ (by omega), ← hA]
    exact heap_alloc2_old w _ _
  · rw [old _ (by omega), hb.block _ (by omega), ← hZ]
    exact heap_alloc2_new w _ _
  · rw [setRow_other _ _ _ _ (by omega), Below.heap_alloc _ _ _ (by rw [hz2]; omega)]
    exact heap_alloc2_old w1 _ _
  · have h1 := arr_row (w := (((w1.alloc (.cells karr 121)).alloc (.cells Y 121)).alloc (.cells Z 105)).setRow (w1.heap.size + 1 + 1) A) (b := w1.heap.size + 1) (t := 121) (n := 64) (k := .u64) (f := fun _ => 0) (by
      rw [setRow_other _ _ _ _ (by omega), Below.heap_alloc _ _ _ (by rw [hz2]; omega), ← hY]
      exact heap_alloc2_new w1 _ _)
    exact h1.congr fun i _ => by simp [Sha.ws]
  · have h1 := arr_row (w := (((w1.alloc (.cells karr 121)).alloc (.cells Y 121)).alloc (.cells Z 105)).setRow (w1.heap.size + 1 + 1) A) (b := w1.heap.size + 1 + 1) (t := 105) (n := 8) (k := .u64) (f := h) (by
      rw [setRow_heap _ _ _ _ _ _ hv, hA])
    exact h1.congr fun i hi => by
      match i, hi with
      | 0, _ => rfl
      | 1, _ => rfl
      | 2, _ => rfl
      | 3, _ => rfl
      | 4, _ => rfl
      | 5, _ => rfl
      | 6, _ => rfl
      | 7, _ => rfl
  · have h0 : Below w.heap.size w w1 := by
      have h1 : Below w.heap.size w ((w.alloc (.cells A 105)).alloc (.cells Z 105)) := ((Below.refl _ _).alloc (Nat.le_refl _) _).alloc (by simp) _
      exact h1.trans (hb.mono (by rw [hz]; omega))
    exact below_setRow' (((h0.alloc (by omega) _).alloc (by simp; omega) _).alloc (by simp; omega) _) (by omega) _
theorem rword_any (b : Nat → Nat) (hb : ∀ i, b i < 256) (t : Nat) (ht : t < 64) (bb oo c B : Nat) (w : World) (hc : ∀ i, i < 64 → w.cell? ⟨bb, oo + i, none⟩ = some (.int .u8 ((b i : Nat) : Int)))
    (hr : w.rowIs B 121 64 (fun i => .int .u64 (((Sha.ws b t).getD i 0 : Nat) : Int))) :
    Calls Tryz.prog 87 #[.slice (some ⟨bb, oo, none⟩) 64 c, .slice (some ⟨B, 0, none⟩) 64 64, .int .i64 t] w fun e w' => e = .returned (.int .u64 (((Sha.ws b (t + 1)).getD t 0 : Nat) : Int)) ∧ Below w.heap.size w w' := by
  by_cases h : t < 16
  · exact rword_head b hb t h bb oo c _ w hc
  · exact rword_tail b hb t (by omega) ht B _ w hr
theorem rturn_s (x : Nat) (k : Int) (w : World) (h : x < 4294967296) (h1 : 1 ≤ k) (h2 : k ≤ 31) :
    Calls Tryz.prog 88 #[.int .u64 x, .int .u64 k] w fun e w' => e = .returned (.int .u64 ((Sha.rot x k.toNat : Nat) : Int)) ∧ w' = w :=
  (rturn_q x k w h h1 h2).mono fun _ _ h => ⟨h.1, h.2.symm⟩

theorem rx1_int (S : Sha.S8) (o : S.Ok) (kt wt : Nat) (k1 : kt < 4294967296) (k2 : wt < 4294967296) :
    (IntKind.u64.wrap (IntKind.u64.wrap (IntKind.u64.wrap (IntKind.u64.wrap ((S.h : Int) + bits BinOp.xor IntKind.u64 (bits BinOp.xor IntKind.u64 ((Sha.rot S.e 6 : Nat) : Int) ((Sha.rot S.e 11 : Nat) : Int)) ((Sha.rot S.e 25 : Nat) : Int))
      + bits BinOp.xor IntKind.u64 (bits BinOp.and IntKind.u64 (S.e : Int) (S.f : Int)) (bits BinOp.and IntKind.u64 (4294967295 - (S.e : Int)) (S.g : Int)))
      + (kt : Int)) + (wt : Int))).tmod 4294967296 = ((Sha.x1 S kt wt : Nat) : Int) := by
  have he := o.e
  have h1 := Sha.xor_lt (Sha.xor_lt (Sha.rot_lt (n := 6) he) (Sha.rot_lt (n := 11) he)) (Sha.rot_lt (n := 25) he)
  have h3 := Sha.and_lt S.f he
  have h4 := Sha.and_lt (x := 4294967295 - S.e) S.g (by omega)
  have h2 := Sha.xor_lt h3 h4
  have h5 := o.h
  have h6 := o.f
  have h7 := o.g
  rw [show (4294967295 - (S.e : Int)) = ((4294967295 - S.e : Nat) : Int) by omega, rxor3_int _ _ _ (Sha.rot_lt he) (Sha.rot_lt he) (Sha.rot_lt he), u64_and_nat _ _ (by omega) (by omega), u64_and_nat _ _ (by omega) (by omega), u64_xor_nat _ _ (by omega) (by omega)]
  unfold Sha.x1
  simp only [IntKind.wrap_u64]
  rw [Int.tmod_eq_emod_of_nonneg (by omega)]
  omega
theorem ry1_int (S : Sha.S8) (o : S.Ok) (x : Nat) (hx : x < 4294967296) :
    (IntKind.u64.wrap (IntKind.u64.wrap ((x : Int) + bits BinOp.xor IntKind.u64 (bits BinOp.xor IntKind.u64 ((Sha.rot S.a 2 : Nat) : Int) ((Sha.rot S.a 13 : Nat) : Int)) ((Sha.rot S.a 22 : Nat) : Int))
      + bits BinOp.xor IntKind.u64 (bits BinOp.xor IntKind.u64 (bits BinOp.and IntKind.u64 (S.a : Int) (S.b : Int)) (bits BinOp.and IntKind.u64 (S.a : Int) (S.c : Int))) (bits BinOp.and IntKind.u64 (S.b : Int) (S.c : Int)))).tmod 4294967296
      = (((x + Sha.y1 S) % 4294967296 : Nat) : Int) := by
  have ha := o.a
  have hb := o.b
  have hc := o.c
  have h1 := Sha.xor_lt (Sha.xor_lt (Sha.rot_lt (n := 2) ha) (Sha.rot_lt (n := 13) ha)) (Sha.rot_lt (n := 22) ha)
  have h2 := Sha.xor_lt (Sha.xor_lt (Sha.and_lt S.b ha) (Sha.and_lt S.c ha)) (Sha.and_lt S.c hb)
  rw [rxor3_int _ _ _ (Sha.rot_lt ha) (Sha.rot_lt ha) (Sha.rot_lt ha), u64_and_nat _ _ (by omega) (by omega), u64_and_nat _ _ (by omega) (by omega), u64_and_nat _ _ (by omega) (by omega),
    rxor3_int _ _ _ (Sha.and_lt _ ha) (Sha.and_lt _ ha) (Sha.and_lt _ hb)]
  unfold Sha.y1
  simp only [IntKind.wrap_u64]
  rw [Int.tmod_eq_emod_of_nonneg (by omega)]
  omega

theorem NInv.turn {w wr : World} {h b : Nat → Nat} {Kb tw : Nat} {S S' : Sha.S8} (x : NInv w h b Kb S tw wr) {v0 v1 v2 v3 v4 v5 v6 v7 : Int} (e0 : v0 = (S'.a : Int)) (e1 : v1 = (S'.b : Int)) (e2 : v2 = (S'.c : Int)) (e3 : v3 = (S'.d : Int))
    (e4 : v4 = (S'.e : Int)) (e5 : v5 = (S'.f : Int)) (e6 : v6 = (S'.g : Int)) (e7 : v7 = (S'.h : Int)) :
    NInv w h b Kb S' tw (wr.setRow (Kb + 1 + 1) #[.int .u64 v0, .int .u64 v1, .int .u64 v2, .int .u64 v3, .int .u64 v4, .int .u64 v5, .int .u64 v6, .int .u64 v7]) := by
  subst e0 e1 e2 e3 e4 e5 e6 e7
  have hl := x.lo
  have old : ∀ (k : Nat) (cs : Array Value), k < Kb + 1 + 1 → (wr.setRow (Kb + 1 + 1) cs).heap[k]? = wr.heap[k]? := fun k cs hk => setRow_other _ _ _ _ (by omega)
  refine ⟨hl, x.h0.of_block (old _ _ (by omega)), x.rz.of_block (old _ _ (by omega)), x.kb.of_block (old _ _ (by omega)), x.wb.of_block (old _ _ (by omega)), ⟨_, setRow_heap _ _ _ _ _ _ (row_arr x.vb), rfl, fun i hi => ?_⟩, below_setRow' x.below (by omega) _⟩
  match i, hi with
  | 0, _ => rfl
  | 1, _ => rfl
  | 2, _ => rfl
  | 3, _ => rfl
  | 4, _ => rfl
  | 5, _ => rfl
  | 6, _ => rfl
  | 7, _ => rfl
structure NInv2 (w : World) (h : Nat → Nat) (Kb : Nat) (S : Sha.S8) (i : Nat) (wr : World) : Prop where
  lo : w.heap.size + 1 + 1 ≤ Kb
  h0 : wr.rowIs w.heap.size 105 8 (fun j => .int .u64 ((addF h S i j : Nat) : Int))
  rz : wr.rowIs (w.heap.size + 1) 105 8 (fun _ => .int .u64 ((0 : Nat) : Int))
  vb : wr.rowIs (Kb + 1 + 1) 105 8 (fun j => .int .u64 ((S.at j : Nat) : Int))
  below : Below w.heap.size w wr
theorem NInv.two {w wr : World} {h b : Nat → Nat} {Kb tw : Nat} {S : Sha.S8} (x : NInv w h b Kb S tw wr) : NInv2 w h Kb S 0 wr :=
  ⟨x.lo, x.h0.congr fun j _ => by simp [addF], x.rz, x.vb, x.below⟩
theorem NInv2.step {w wr : World} {h : Nat → Nat} {Kb i : Nat} {S : Sha.S8} (x : NInv2 w h Kb S i wr) (hi : i < 8) {v : Int} (hv : v = (((h i + S.at i) % 4294967296 : Nat) : Int)) :
    NInv2 w h Kb S (i + 1) (wr.setCell ⟨w.heap.size, i, none⟩ (.int .u64 v)) := by
  subst hv
  have := x.lo
  refine ⟨x.lo, (x.h0.set i _).congr fun j hj => ?_, x.rz.setOther (by simp) _, x.vb.setOther (by simp; omega) _, x.below.setCell (by simp) _⟩
  by_cases e : j = i
  · subst e
    simp only [if_true, addF, if_pos (Nat.lt_succ_self j)]
  · simp only [if_neg e, addF]
    by_cases hl : j < i
    · rw [if_pos hl, if_pos (by omega)]
    · rw [if_neg hl, if_neg (by omega)]
theorem NInv2.drew {w wr : World} {h : Nat → Nat} {Kb i : Nat} {S : Sha.S8} (x : NInv2 w h Kb S i wr) : NInv2 w h Kb S i wr.drew := ⟨x.lo, x.h0.drew, x.rz.drew, x.vb.drew, x.below.drew⟩

theorem all8 (a b c d e f g h : Int) : (#[Value.int .u64 a, .int .u64 b, .int .u64 c, .int .u64 d, .int .u64 e, .int .u64 f, .int .u64 g, .int .u64 h] : Array Value).all (·.oneCell') = true := by simp [Value.oneCell']
theorem size8 (a b c d e f g h : Value) : (Tryz.prog.info? 105).map (·.size) = some (#[a, b, c, d, e, f, g, h] : Array Value).size := size46
theorem wpList_store8 {ops : Array Oper} {rest : List Oper} {o : Oper} {a : Act} {w : World} {Q : Exit → Act → World → Prop} (hgd : o.guard = none) (x y : Operand) (ho : o.op = .store 105 x y)
    (g : Nat) (b c d e f h i j : Int) (hx : a.eval x = .pointer (some ⟨g, 0, none⟩)) (hy : a.eval y = .agg #[.int .u64 b, .int .u64 c, .int .u64 d, .int .u64 e, .int .u64 f, .int .u64 h, .int .u64 i, .int .u64 j])
    (old : Array Value) (hg : w.heap[g]? = some (.cells old 105 (0, 0))) (hold : old.size = 8)
    (hh : wpList Tryz.prog ops Q rest (a.put o.dst undef) (w.setRow g #[.int .u64 b, .int .u64 c, .int .u64 d, .int .u64 e, .int .u64 f, .int .u64 h, .int .u64 i, .int .u64 j])) : wpList Tryz.prog ops Q (o :: rest) a w :=
  wpList_store_row hgd 105 x y ho g _ hx hy 105 old hg (size8 _ _ _ _ _ _ _ _) hold (all8 _ _ _ _ _ _ _ _) hh

set_option maxRecDepth 100000 in
set_option maxHeartbeats 2000000 in
theorem next_any (h b : Nat → Nat) (hh : ∀ i, h i < 4294967296) (hb : ∀ i, b i < 256) (bb oo c : Nat) (w : World) (hbb : bb < w.heap.size) (hc : ∀ i, i < 64 → w.cell? ⟨bb, oo + i, none⟩ = some (.int .u8 ((b i : Nat) : Int))) :
    Calls Tryz.prog 69 #[.agg (arrOf .u64 8 h), .slice (some ⟨bb, oo, none⟩) 64 c] w fun e w' => e = .returned (.agg (arrOf .u64 8 (Sha.mix h b))) ∧ Below w.heap.size w w' := by
  have HC := Lib.hid hc
  obtain ⟨A, hA⟩ : ∃ A, A = arrOf .u64 8 h := ⟨_, rfl⟩
  rw [← hA]
  have HA := Lib.hid hA
  have hz46 := (zero_of_info info46).1
  have hz58 := (zero_of_info info58).1
  obtain ⟨Z, hZ⟩ : ∃ Z, Z = arrOf .u64 8 (fun _ => 0) := ⟨_, rfl⟩
  obtain ⟨Y, hY⟩ : ∃ Y, Y = arrOf .u64 64 (fun _ => 0) := ⟨_, rfl⟩
  rw [← hZ] at hz46
  rw [← hY] at hz58
  have HZ := Lib.hid hZ
  have HY := Lib.hid hY
  have AS : Hid ((Tryz.prog.info? 105).map (·.size) = some A.size) := by rw [hA, arrOf_size]; exact size46
  have AO : Hid (A.all (·.oneCell') = true) := by rw [hA]; exact arrOf_one _ _ _
  have s58 : Hid ((Tryz.prog.info? 121).map (·.size) = some karr.size) := by unfold karr; rw [arrOf_size]; exact size58
  have o58 : Hid (karr.all (·.oneCell') = true) := arrOf_one _ _ _
  have YS : Hid (Y.size = karr.size) := by rw [hY]; unfold karr; rw [arrOf_size, arrOf_size]; exact rfl
  have ZS : Hid (Z.size = A.size) := by rw [hZ, hA, arrOf_size, arrOf_size]; exact rfl
  clear hA hZ hY hc
  go_enter Tryz.func69, Tryz.ntmps69
  go_wp2_with fail
  refine (consts_any _).mono ?_
  rintro e w1 ⟨rfl, hb1⟩
  have HB1 := Lib.hid hb1
  clear hb1
  have HX : Hid (∀ V, Below (w.heap.size + 1 + 1) w1 V → V.heap[w.heap.size]? = some (.cells A 105 (0, 0))) := fun V hV => by
    have h1 := HB1.out.block w.heap.size (by simp; omega)
    rw [hV.block _ (by omega), h1]
    exact heap_alloc2_old w _ _
  have HL : w.heap.size + 1 + 1 ≤ w1.heap.size := by
    have := HB1.out.size
    simpa using this
  have HX2 : Hid ((((w1.alloc (.cells karr 121)).alloc (.cells Y 121))).heap[w.heap.size]? = some (.cells A 105 (0, 0))) :=
    HX.out _ (((Below.refl _ _).alloc HL _).alloc (by simp; omega) _)
  have HV : Hid ((((w1.alloc (.cells karr 121)).alloc (.cells Y 121)).alloc (.cells Z 105)).heap[w1.heap.size + 1 + 1]? = some (.cells Z 105 (0, 0))) := by
    rw [show w1.heap.size + 1 + 1 = ((w1.alloc (.cells karr 121)).alloc (.cells Y 121)).heap.size by simp]; exact heap_alloc_new _ _
  go_wp2_with (first
    | (refine wpList_store_row rfl 121 _ _ rfl w1.heap.size karr rfl rfl 121 _ (heap_alloc_new _ _) s58.out YS.out o58.out ?_; rw [World.setRow_alloc_new])
    | (refine wpList_load_row rfl 105 _ rfl w.heap.size rfl 105 A (0, 0) _ HX2.out Tryz.underlying105 rfl AS.out ?_)
    | (refine wpList_store_row rfl 105 _ _ rfl (w1.heap.size + 1 + 1) A rfl rfl 105 _ HV.out AS.out ZS.out AO.out ?_))
  have HI : Hid (NInv w h b w1.heap.size (Sha.of8 h) 0 ((((w1.alloc (.cells karr 121)).alloc (.cells Y 121)).alloc (.cells Z 105)).setRow (w1.heap.size + 1 + 1) A)) := NInv.start HA.out HZ.out HY.out HB1.out
  clear HV HX2 HX HL YS o58 s58 hz46 hz58 HB1 HY
  generalize ((((w1.alloc (.cells karr 121)).alloc (.cells Y 121)).alloc (.cells Z 105)).setRow (w1.heap.size + 1 + 1) A) = wA at *
  generalize w1.heap.size = Kb at *
  go_loopw [8] (fun v wr => ∃ (t : Nat) (S : Sha.S8), t ≤ 64 ∧ Hid (S = Sha.rnds (Sha.of8 h) (Sha.ws b 64) t) ∧ Hid S.Ok ∧ v = .int .i64 t ∧ Hid (NInv w h b Kb S t wr)) (fun v _ => 64 - (intOf v).toNat)
  case atStart => exact ⟨0, Sha.of8 h, by omega, rfl, Sha.of8_ok (fun i _ => hh i), rfl, HI⟩
  case round =>
    clear HI
    obtain ⟨t, S, ht, HS, HO, rfl, HI⟩ := hrel
    by_cases hlt : t < 64
    · obtain ⟨wt, hwt⟩ : ∃ wt, wt = (Sha.ws b (t + 1)).getD t 0 := ⟨_, rfl⟩
      obtain ⟨kt, hkt⟩ : ∃ kt, kt = Sha.K.getD t 0 := ⟨_, rfl⟩
      have k1 : kt < 4294967296 := by rw [hkt]; exact Sha.K_lt t
      have k2 : wt < 4294967296 := by rw [hwt]; exact Sha.ws_lt hb _ _
      have HWT := Lib.hid hwt
      have HKT := Lib.hid hkt
      clear hkt
      go_wp2_with (go_at_call 87; refine (rword_any b hb t hlt bb oo c (Kb + 1) _ (fun i hi => (World.cell?_of_block (w := w) (a := ⟨bb, oo + i, none⟩) (HI.out.below.block bb hbb)).trans (HC.out i hi)) HI.out.wb).mono ?_; rw [← hwt]; clear hwt; rintro e w2 ⟨rfl, hb2⟩; have HI2 := Lib.hid (HI.out.next hb2); have c4 := HI2.out.wb.cell hlt; have f4 := HI2.out.wb.frozen t; clear hb2)
      have HI3 : Hid (NInv w h b Kb S (t + 1) (w2.setCell ⟨Kb + 1, t, none⟩ (.int .u64 (wt : Int)))) := by
        have := HI2.out.word hlt
        rw [← HWT.out] at this
        exact this
      clear c4 f4 HI2
      generalize (w2.setCell ⟨Kb + 1, t, none⟩ (.int .u64 (wt : Int))) = w3 at *
      clear HI
      have o1 := HO.out.a
      have o2 := HO.out.b
      have o3 := HO.out.c
      have o4 := HO.out.d
      have o5 := HO.out.e
      have o6 := HO.out.f
      have o7 := HO.out.g
      have o8 := HO.out.h
      have c0 : w3.cell? ⟨Kb + 1 + 1, 0, none⟩ = some (.int .u64 (S.a : Int)) := HI3.out.vb.cell (i := 0) (by omega)
      have c1 : w3.cell? ⟨Kb + 1 + 1, 1, none⟩ = some (.int .u64 (S.b : Int)) := HI3.out.vb.cell (i := 1) (by omega)
      have c2 : w3.cell? ⟨Kb + 1 + 1, 2, none⟩ = some (.int .u64 (S.c : Int)) := HI3.out.vb.cell (i := 2) (by omega)
      have c3 : w3.cell? ⟨Kb + 1 + 1, 3, none⟩ = some (.int .u64 (S.d : Int)) := HI3.out.vb.cell (i := 3) (by omega)
      have c4 : w3.cell? ⟨Kb + 1 + 1, 4, none⟩ = some (.int .u64 (S.e : Int)) := HI3.out.vb.cell (i := 4) (by omega)
      have c5 : w3.cell? ⟨Kb + 1 + 1, 5, none⟩ = some (.int .u64 (S.f : Int)) := HI3.out.vb.cell (i := 5) (by omega)
      have c6 : w3.cell? ⟨Kb + 1 + 1, 6, none⟩ = some (.int .u64 (S.g : Int)) := HI3.out.vb.cell (i := 6) (by omega)
      have c7 : w3.cell? ⟨Kb + 1 + 1, 7, none⟩ = some (.int .u64 (S.h : Int)) := HI3.out.vb.cell (i := 7) (by omega)
      have ck : w3.cell? ⟨Kb, t, none⟩ = some (.int .u64 (kt : Int)) := by rw [HKT.out]; exact HI3.out.kb.cell hlt
      have cw : w3.cell? ⟨Kb + 1, t, none⟩ = some (.int .u64 (wt : Int)) := by
        have h1 := HI3.out.wb.cell (i := t) (by omega)
        rw [← HWT.out] at h1
        exact h1
      go_quiet ((go_at_call 88; exact Calls.quiet_of_same (rturn_s _ _ _ o5 (by decide) (by decide))))
      go_wp2_with fail
      go_region
      go_wp2_with fail
      have HI4 : Hid (NInv w h b Kb S (t + 1) (w3.drewN (nq + 1))) := HI3.out.drewN _
      generalize hX : Int.tmod (IntKind.u64.wrap _) 4294967296 = X
      have hX2 : X = ((Sha.x1 S kt wt : Nat) : Int) := by rw [← hX]; exact rx1_int S HO.out kt wt k1 k2
      obtain ⟨x, hx⟩ : ∃ x, x = Sha.x1 S kt wt := ⟨_, rfl⟩
      have hxl : x < 4294967296 := by rw [hx]; unfold Sha.x1; omega
      rw [← hx] at hX2
      have HXX := Lib.hid hx
      clear hX hx
      subst hX2
      clear c0 c1 c2 c3 c4 c5 c6 c7 ck cw HI3
      generalize (w3.drewN (nq + 1)) = w4 at *
      have c0 : w4.cell? ⟨Kb + 1 + 1, 0, none⟩ = some (.int .u64 (S.a : Int)) := HI4.out.vb.cell (i := 0) (by omega)
      have c1 : w4.cell? ⟨Kb + 1 + 1, 1, none⟩ = some (.int .u64 (S.b : Int)) := HI4.out.vb.cell (i := 1) (by omega)
      have c2 : w4.cell? ⟨Kb + 1 + 1, 2, none⟩ = some (.int .u64 (S.c : Int)) := HI4.out.vb.cell (i := 2) (by omega)
      have c3 : w4.cell? ⟨Kb + 1 + 1, 3, none⟩ = some (.int .u64 (S.d : Int)) := HI4.out.vb.cell (i := 3) (by omega)
      have c4 : w4.cell? ⟨Kb + 1 + 1, 4, none⟩ = some (.int .u64 (S.e : Int)) := HI4.out.vb.cell (i := 4) (by omega)
      have c5 : w4.cell? ⟨Kb + 1 + 1, 5, none⟩ = some (.int .u64 (S.f : Int)) := HI4.out.vb.cell (i := 5) (by omega)
      have c6 : w4.cell? ⟨Kb + 1 + 1, 6, none⟩ = some (.int .u64 (S.g : Int)) := HI4.out.vb.cell (i := 6) (by omega)
      have HVB : Hid (w4.heap[Kb + 1 + 1]? = some (.cells (arrOf .u64 8 S.at) 105 (0, 0))) := row_arr HI4.out.vb
      have HOS : Hid ((arrOf .u64 8 S.at).size = 8) := arrOf_size _ _ _
      go_quiet ((go_at_call 88; exact Calls.quiet_of_same (rturn_s _ _ _ o1 (by decide) (by decide))))
      go_wp2_with (first
        | (refine wpList_store8 rfl _ _ rfl (Kb + 1 + 1) _ _ _ _ _ _ _ _ rfl rfl (arrOf .u64 8 S.at) HVB.out HOS.out ?_))
      go_roundw
      case rel =>
        have e1 := HKT.out
        have e2 := HWT.out
        have e3 := HXX.out
        refine ⟨t + 1, Sha.rnd S kt wt, by omega, ?_, Sha.rnd_ok HO.out _ _, by go_num, (HI4.out.drewN _).turn ?_ rfl rfl rfl ?_ rfl rfl rfl⟩
        · show _ = Sha.rnd _ _ _
          rw [e1, e2, HS.out, Sha.ws_keep b (show t < t + 1 by omega) 64 (by omega)]
        · rw [ry1_int S HO.out x hxl, e3]
          rfl
        · simp only [Sha.rnd, ← e3]
          omega
      case measure => simp [intOf]; omega
    · obtain rfl : t = 64 := by omega
      clear ht hlt
      have HI2 : Hid (NInv2 w h Kb S 0 wr) := HI.out.two
      clear HI
      go_wp2_with fail
      go_loopw [14] (fun v wx => ∃ i : Nat, i ≤ 8 ∧ v = .int .i64 i ∧ Hid (NInv2 w h Kb S i wx)) (fun v _ => 8 - (intOf v).toNat)
      case atStart => exact ⟨0, by omega, rfl, HI2⟩
      case round =>
        clear HI2
        obtain ⟨i, hi, rfl, HI⟩ := hrel
        by_cases hlt : i < 8
        · have c1 := HI.out.h0.cell hlt
          have c2 := HI.out.vb.cell hlt
          have f1 := HI.out.h0.frozen i
          have p1 := hh i
          have p2 := S8_at_lt HO.out i
          simp only [addF, Nat.lt_irrefl, if_false] at c1
          go_wp2_with fail
          go_region
          go_wp2_with fail
          go_roundw
          case rel =>
            refine ⟨i + 1, by omega, by go_num, (HI.out.step hlt ?_).drew⟩
            omega
          case measure => simp [intOf]; omega
        · obtain rfl : i = 8 := by omega
          clear hi hlt
          obtain ⟨F, hF⟩ : ∃ F, F = arrOf .u64 8 (Sha.mix h b) := ⟨_, rfl⟩
          have HH : Hid (wr.heap[w.heap.size]? = some (.cells F 105 (0, 0))) := by
            rw [hF]
            refine row_arr (HI.out.h0.congr fun j hj => ?_)
            simp only [addF, if_pos hj, Sha.mix, ← HS.out]
          have HR : Hid (wr.heap[w.heap.size + 1]? = some (.cells (arrOf .u64 8 fun _ => 0) 105 (0, 0))) := row_arr HI.out.rz
          have FS : Hid ((Tryz.prog.info? 105).map (·.size) = some F.size) := by rw [hF, arrOf_size]; exact size46
          have FO : Hid (F.all (·.oneCell') = true) := by rw [hF]; exact arrOf_one _ _ _
          have FZ : Hid ((arrOf .u64 8 fun _ => 0).size = F.size) := by rw [hF, arrOf_size, arrOf_size]; exact rfl
          have HB := Lib.hid HI.out.below
          have HF := Lib.hid hF
          clear HI hF
          go_wp2_with (first
            | (refine wpList_load_row rfl 105 _ rfl w.heap.size rfl 105 F (0, 0) _ HH.out Tryz.underlying105 rfl FS.out ?_)
            | (refine wpList_store_row rfl 105 _ _ rfl (w.heap.size + 1) F rfl rfl 105 _ HR.out FS.out FZ.out FO.out ?_)
            | (refine bodyPost_ret (results_cell_row Tryz.results69 _ _ (w.heap.size + 1) 105 _ (0, 0) _ rfl (setRow_heap _ _ _ _ _ _ HR.out) Tryz.underlying105 rfl FS.out) rfl ⟨by rw [HF.out], below_setRow' HB.out (by omega) _⟩))
end Go.Proofs.YtdbhboglccggdaaGreatDoor
