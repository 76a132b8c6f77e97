/- A ring's points and owners. -/
import Derived.Test.YthcnoblamilpgaaDoorR11
set_option maxRecDepth 100000
set_option linter.unusedVariables false
set_option linter.unusedSimpArgs false
namespace Go.Proofs.YthcnoblamilpgaaDoor
open Go.RowKit
theorem info79z : (Tryd.prog.info? 79).map (fun i => (i.zero, i.size)) = some (some (.agg (ptC (0, 0))), 2) := by kernel_rfl
theorem size79 : (Tryd.prog.info? 79).map (·.size) = some 2 := by kernel_rfl
set_option maxHeartbeats 4000000 in
theorem points_gen (p : Value) (ls : List Pt) (w : World) (Φ : World → Prop) (hΦ : ∀ x y, Below x.heap.size x y → Φ x → Φ y) (hm : ls.length ≤ 1000)
    (hall : Calls Tryd.prog 40 #[p] w fun e w1 => ∃ A c, e = .returned (.slice A ls.length c) ∧ PRow w1 (fun _ => True) A ls ∧ w.heap.size ≤ w1.heap.size ∧ Φ w1) :
    Calls Tryd.prog 25 #[p] w fun e w' => ∃ B c, e = .returned (.slice B ls.length c) ∧ Row .u64 w' (fun b => w.heap.size ≤ b ∧ b < w'.heap.size) B (ls.map (·.1)) ∧ Φ w' := by
  have HALL := Lib.hid hall
  have HPHI := Lib.hid hΦ
  have hz := (zero_of_info info79z).1
  obtain ⟨Z, hZ⟩ : ∃ Z, Z = ptC (0, 0) := ⟨_, rfl⟩
  rw [← hZ] at hz
  have HZS : Hid (∀ q : Pt, Z.size = (ptC q).size) := Lib.hid (fun q => by rw [hZ]; rfl)
  clear hall hΦ hZ
  go_enter Tryd.func25, Tryd.ntmps25
  go_wp2_with fail
  refine HALL.out.mono ?_
  rintro e w1 ⟨A, c, rfl, hrow, hsz, hphi⟩
  have HROW := Lib.hid hrow
  have HSZ := Lib.hid hsz
  have HPH := Lib.hid hphi
  have hmk := run_make_row' (P := Tryd.prog) 44 23 (.int .u64 0) 8 Tryd.underlying44 (by kernel_rfl) rfl .i64 .i64 ls.length (by omega) (by omega) w1
  have HR0 : Hid ((w1.alloc (.cells (madeCells #[.int .u64 0] ls.length) 23)).rowIs w1.heap.size 23 ls.length (fun j => .int .u64 ((if j < 0 then (ls.getD j (0, 0)).1 else 0 : Nat) : Int))) := Lib.hid (World.rowIs_made _ _ _ _)
  have HB0 : Hid (Below w1.heap.size w1 (w1.alloc (.cells (madeCells #[.int .u64 0] ls.length) 23))) := Lib.hid ((Below.refl _ _).alloc (Nat.le_refl _) _)
  obtain ⟨Y, hY⟩ : ∃ Y, Y = madeCells #[Value.int .u64 0] ls.length := ⟨_, rfl⟩
  rw [← hY] at hmk HR0 HB0
  clear hrow hsz hphi HALL hY
  go_wp2_with fail
  clear hmk
  generalize w1.alloc (.cells Y 23) = w2 at *
  obtain ⟨P, hP⟩ : ∃ P, P = w1.heap.size := ⟨_, rfl⟩
  have HP := Lib.hid hP
  rw [← hP] at HR0
  rw [← hP]
  clear hP
  go_loopw [14] (fun v x => ∃ i : Nat, i ≤ ls.length ∧ v = .int .i64 i ∧ Hid (x.rowIs P 23 ls.length (fun j => .int .u64 ((if j < i then (ls.getD j (0, 0)).1 else 0 : Nat) : Int))) ∧ Hid (Below w1.heap.size w1 x)) (fun v _ => ls.length - (intOf v).toNat)
  case atStart => exact ⟨0, by omega, rfl, HR0, HB0⟩
  case round =>
    clear HR0 HB0
    obtain ⟨i, hi, rfl, HR, HB⟩ := hrel
    by_cases hlt : i < ls.length
    · have hlt' : (i : Int) < (ls.length : Int) := by omega
      have hrx := HROW.out.grow HB.out
      obtain ⟨b, o, hA, _, _, hcs⟩ := hrx.at_ (by omega)
      subst hA
      have hc0 := (hcs i hlt).1
      have hc1 := (hcs i hlt).2
      clear hcs
      obtain ⟨q, hq⟩ : ∃ q, q = ls.getD i (0, 0) := ⟨_, rfl⟩
      have HQ := Lib.hid hq
      rw [← hq] at hc0 hc1
      clear hq
      have HRA : Hid (∀ O : Obj, rangeA (wr.alloc O) b (o + i * 2) (ptC q)) := Lib.hid (fun O j v hj => by
        have hbl : b < wr.heap.size := World.block_lt_of_cell? wr _ hc0
        refine (World.cell?_of_block (w := wr) (a := ⟨b, o + i * 2 + j, none⟩) (Below.heap_alloc _ _ _ hbl)).trans ?_
        match j, hj with
        | 0, hj => rw [Nat.add_zero, hc0]; exact hj
        | 1, hj => rw [hc1]; exact hj)
      have HRB : Hid (rangeA wr b (o + i * 2) (ptC q)) := Lib.hid (fun j v hj => by
        match j, hj with
        | 0, hj => rw [Nat.add_zero, hc0]; exact hj
        | 1, hj => rw [hc1]; exact hj)
      have S79 : Hid ((Tryd.prog.info? 79).map (·.size) = some (ptC q).size) := size79
      have O79 : Hid ((ptC q).all (·.oneCell') = true) := Lib.hid (by simp [ptC, Value.oneCell'])
      have HN := Lib.hid (heap_alloc_new wr (.cells Z 79))
      have hbox : (wr.alloc (.cells (ptC q) 79)).cell? ⟨wr.heap.size, 0, none⟩ = some (.int .u64 ((q.1 : Nat) : Int)) := by rw [cell_of_row _ _ _ _ _ _ (heap_alloc_new _ _)]; rfl
      have hpl : P < wr.heap.size := HR.out.lt
      have hcp : (wr.alloc (.cells (ptC q) 79)).cell? ⟨P, i, none⟩ = some (.int .u64 ((if i < i then (ls.getD i (0, 0)).1 else 0 : Nat) : Int)) := (HR.out.alloc _).cell hlt
      have hcz : (wr.alloc (.cells (ptC q) 79)).frozen? ⟨P, i, none⟩ = false := (HR.out.alloc _).frozen i
      have HR2 : Hid (((wr.setCell ⟨P, i, none⟩ (.int .u64 ((q.1 : Nat) : Int))).alloc (.cells (ptC q) 79)).rowIs P 23 ls.length (fun j => .int .u64 ((if j < i + 1 then (ls.getD j (0, 0)).1 else 0 : Nat) : Int))) := Lib.hid (((HR.out.set i _).alloc _).congr fun j hj => by
        by_cases e : j = i
        · subst e
          rw [if_pos rfl, if_pos (by omega), HQ.out]
        · rw [if_neg e]
          by_cases e2 : j < i
          · rw [if_pos e2, if_pos (by omega)]
          · rw [if_neg e2, if_neg (by omega)])
      have HB2 : Hid (Below w1.heap.size w1 ((wr.setCell ⟨P, i, none⟩ (.int .u64 ((q.1 : Nat) : Int))).alloc (.cells (ptC q) 79))) := Lib.hid ((HB.out.setCell (by rw [HP.out]; exact Nat.le_refl _) _).alloc (by have := HB.out.size; simp [World.setCell]; exact this) _)
      obtain ⟨y, hy⟩ : ∃ y, y = q.1 := ⟨_, rfl⟩
      rw [← hy] at hbox HR2 HB2
      clear hc0 hc1 hy
      go_wp2_with (first
        | (refine wpList_load_arr rfl 79 _ rfl b (o + i * 2) rfl (ptC q) _ HRB.out Tryd.underlying79 rfl S79.out ?_)
        | (refine wpList_load_arr rfl 79 _ rfl b (o + i * 2) rfl (ptC q) _ (HRA.out _) Tryd.underlying79 rfl S79.out ?_)
        | (refine wpList_store_row rfl 79 _ _ rfl wr.heap.size (ptC q) rfl rfl 79 _ HN.out S79.out (HZS.out q) O79.out ?_
           rw [World.setRow_alloc_new]))
      go_roundw
      case rel => exact ⟨i + 1, by omega, by go_num, HR2, HB2⟩
      case measure => simp [intOf]; omega
    · obtain rfl : i = ls.length := by omega
      go_wp2_with fail
      go_ret
      refine ⟨some ⟨P, 0, none⟩, ls.length, rfl, ⟨fun hp => ⟨P, 0, rfl, ⟨by rw [HP.out]; exact HSZ.out, HR.out.lt⟩, fun j hj => ?_⟩⟩, HPHI.out _ _ HB.out HPH.out⟩
      rw [List.length_map] at hj
      rw [Nat.zero_add, HR.out.cell hj, if_pos hj, List.getD_eq_getElem?_getD, List.getD_eq_getElem?_getD, List.getElem?_map, List.getElem?_eq_getElem hj]
      rfl
set_option maxHeartbeats 4000000 in
theorem owners_gen (p : Value) (ls : List Pt) (w : World) (Φ : World → Prop) (hΦ : ∀ x y, Below x.heap.size x y → Φ x → Φ y) (hm : ls.length ≤ 1000)
    (hall : Calls Tryd.prog 40 #[p] w fun e w1 => ∃ A c, e = .returned (.slice A ls.length c) ∧ PRow w1 (fun _ => True) A ls ∧ w.heap.size ≤ w1.heap.size ∧ Φ w1) :
    Calls Tryd.prog 27 #[p] w fun e w' => ∃ B c, e = .returned (.slice B ls.length c) ∧ Row .i64 w' (fun b => w.heap.size ≤ b ∧ b < w'.heap.size) B (ls.map (·.2)) ∧ Φ w' := by
  have HALL := Lib.hid hall
  have HPHI := Lib.hid hΦ
  have hz := (zero_of_info info79z).1
  obtain ⟨Z, hZ⟩ : ∃ Z, Z = ptC (0, 0) := ⟨_, rfl⟩
  rw [← hZ] at hz
  have HZS : Hid (∀ q : Pt, Z.size = (ptC q).size) := Lib.hid (fun q => by rw [hZ]; rfl)
  clear hall hΦ hZ
  go_enter Tryd.func27, Tryd.ntmps27
  go_wp2_with fail
  refine HALL.out.mono ?_
  rintro e w1 ⟨A, c, rfl, hrow, hsz, hphi⟩
  have HROW := Lib.hid hrow
  have HSZ := Lib.hid hsz
  have HPH := Lib.hid hphi
  have hmk := run_make_row' (P := Tryd.prog) 45 3 (.int .i64 0) 8 Tryd.underlying45 (by kernel_rfl) rfl .i64 .i64 ls.length (by omega) (by omega) w1
  have HR0 : Hid ((w1.alloc (.cells (madeCells #[.int .i64 0] ls.length) 3)).rowIs w1.heap.size 3 ls.length (fun j => .int .i64 ((if j < 0 then (ls.getD j (0, 0)).2 else 0 : Nat) : Int))) := Lib.hid (World.rowIs_made _ _ _ _)
  have HB0 : Hid (Below w1.heap.size w1 (w1.alloc (.cells (madeCells #[.int .i64 0] ls.length) 3))) := Lib.hid ((Below.refl _ _).alloc (Nat.le_refl _) _)
  obtain ⟨Y, hY⟩ : ∃ Y, Y = madeCells #[Value.int .i64 0] ls.length := ⟨_, rfl⟩
  rw [← hY] at hmk HR0 HB0
  clear hrow hsz hphi HALL hY
  go_wp2_with fail
  clear hmk
  generalize w1.alloc (.cells Y 3) = w2 at *
  obtain ⟨P, hP⟩ : ∃ P, P = w1.heap.size := ⟨_, rfl⟩
  have HP := Lib.hid hP
  rw [← hP] at HR0
  rw [← hP]
  clear hP
  go_loopw [14] (fun v x => ∃ i : Nat, i ≤ ls.length ∧ v = .int .i64 i ∧ Hid (x.rowIs P 3 ls.length (fun j => .int .i64 ((if j < i then (ls.getD j (0, 0)).2 else 0 : Nat) : Int))) ∧ Hid (Below w1.heap.size w1 x)) (fun v _ => ls.length - (intOf v).toNat)
  case atStart => exact ⟨0, by omega, rfl, HR0, HB0⟩
  case round =>
    clear HR0 HB0
    obtain ⟨i, hi, rfl, HR, HB⟩ := hrel
    by_cases hlt : i < ls.length
    · have hlt' : (i : Int) < (ls.length : Int) := by omega
      have hrx := HROW.out.grow HB.out
      obtain ⟨b, o, hA, _, _, hcs⟩ := hrx.at_ (by omega)
      subst hA
      have hc0 := (hcs i hlt).1
      have hc1 := (hcs i hlt).2
      clear hcs
      obtain ⟨q, hq⟩ : ∃ q, q = ls.getD i (0, 0) := ⟨_, rfl⟩
      have HQ := Lib.hid hq
      rw [← hq] at hc0 hc1
      clear hq
      have HRA : Hid (∀ O : Obj, rangeA (wr.alloc O) b (o + i * 2) (ptC q)) := Lib.hid (fun O j v hj => by
        have hbl : b < wr.heap.size := World.block_lt_of_cell? wr _ hc0
        refine (World.cell?_of_block (w := wr) (a := ⟨b, o + i * 2 + j, none⟩) (Below.heap_alloc _ _ _ hbl)).trans ?_
        match j, hj with
        | 0, hj => rw [Nat.add_zero, hc0]; exact hj
        | 1, hj => rw [hc1]; exact hj)
      have HRB : Hid (rangeA wr b (o + i * 2) (ptC q)) := Lib.hid (fun j v hj => by
        match j, hj with
        | 0, hj => rw [Nat.add_zero, hc0]; exact hj
        | 1, hj => rw [hc1]; exact hj)
      have S79 : Hid ((Tryd.prog.info? 79).map (·.size) = some (ptC q).size) := size79
      have O79 : Hid ((ptC q).all (·.oneCell') = true) := Lib.hid (by simp [ptC, Value.oneCell'])
      have HN := Lib.hid (heap_alloc_new wr (.cells Z 79))
      have hbox : (wr.alloc (.cells (ptC q) 79)).cell? ⟨wr.heap.size, 1, none⟩ = some (.int .i64 ((q.2 : Nat) : Int)) := by rw [cell_of_row _ _ _ _ _ _ (heap_alloc_new _ _)]; rfl
      have hpl : P < wr.heap.size := HR.out.lt
      have hcp : (wr.alloc (.cells (ptC q) 79)).cell? ⟨P, i, none⟩ = some (.int .i64 ((if i < i then (ls.getD i (0, 0)).2 else 0 : Nat) : Int)) := (HR.out.alloc _).cell hlt
      have hcz : (wr.alloc (.cells (ptC q) 79)).frozen? ⟨P, i, none⟩ = false := (HR.out.alloc _).frozen i
      have HR2 : Hid (((wr.setCell ⟨P, i, none⟩ (.int .i64 ((q.2 : Nat) : Int))).alloc (.cells (ptC q) 79)).rowIs P 3 ls.length (fun j => .int .i64 ((if j < i + 1 then (ls.getD j (0, 0)).2 else 0 : Nat) : Int))) := Lib.hid (((HR.out.set i _).alloc _).congr fun j hj => by
        by_cases e : j = i
        · subst e
          rw [if_pos rfl, if_pos (by omega), HQ.out]
        · rw [if_neg e]
          by_cases e2 : j < i
          · rw [if_pos e2, if_pos (by omega)]
          · rw [if_neg e2, if_neg (by omega)])
      have HB2 : Hid (Below w1.heap.size w1 ((wr.setCell ⟨P, i, none⟩ (.int .i64 ((q.2 : Nat) : Int))).alloc (.cells (ptC q) 79))) := Lib.hid ((HB.out.setCell (by rw [HP.out]; exact Nat.le_refl _) _).alloc (by have := HB.out.size; simp [World.setCell]; exact this) _)
      obtain ⟨y, hy⟩ : ∃ y, y = q.2 := ⟨_, rfl⟩
      rw [← hy] at hbox HR2 HB2
      clear hc0 hc1 hy
      go_wp2_with (first
        | (refine wpList_load_arr rfl 79 _ rfl b (o + i * 2) rfl (ptC q) _ HRB.out Tryd.underlying79 rfl S79.out ?_)
        | (refine wpList_load_arr rfl 79 _ rfl b (o + i * 2) rfl (ptC q) _ (HRA.out _) Tryd.underlying79 rfl S79.out ?_)
        | (refine wpList_store_row rfl 79 _ _ rfl wr.heap.size (ptC q) rfl rfl 79 _ HN.out S79.out (HZS.out q) O79.out ?_
           rw [World.setRow_alloc_new]))
      go_roundw
      case rel => exact ⟨i + 1, by omega, by go_num, HR2, HB2⟩
      case measure => simp [intOf]; omega
    · obtain rfl : i = ls.length := by omega
      go_wp2_with fail
      go_ret
      refine ⟨some ⟨P, 0, none⟩, ls.length, rfl, ⟨fun hp => ⟨P, 0, rfl, ⟨by rw [HP.out]; exact HSZ.out, HR.out.lt⟩, fun j hj => ?_⟩⟩, HPHI.out _ _ HB.out HPH.out⟩
      rw [List.length_map] at hj
      rw [Nat.zero_add, HR.out.cell hj, if_pos hj, List.getD_eq_getElem?_getD, List.getD_eq_getElem?_getD, List.getElem?_map, List.getElem?_eq_getElem hj]
      rfl
end Go.Proofs.YthcnoblamilpgaaDoor
