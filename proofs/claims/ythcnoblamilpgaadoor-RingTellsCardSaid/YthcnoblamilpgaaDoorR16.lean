/- The law RingGrows. -/
import Derived.Test.YthcnoblamilpgaaDoorR15
set_option maxRecDepth 100000
set_option linter.unusedVariables false
set_option linter.unusedSimpArgs false
namespace Go.Proofs.YthcnoblamilpgaaDoor
open Go.RowKit
theorem wpList_load_w {P : Program} {ops : Array Oper} {rest : List Oper} {o : Oper} {a : Act} {w : World} {Q : Exit → Act → World → Prop} (hgd : Region.wanted o (yielded ops a.tmps) = true) (ty : TypeId) (x : Operand) (ho : o.op = .load ty x)
    (b o' : Nat) (hx : a.eval x = .pointer (some ⟨b, o', none⟩)) (A : Array Value) (d : TypeDesc) (hc : rangeA w b o' A)
    (hu : P.underlying ty = some d) (hd : d.isRow = true) (hi : (P.info? ty).map (·.size) = some A.size)
    (h : wpList P ops Q rest (a.put o.dst (.agg A)) w) : wpList P ops Q (o :: rest) a w :=
  wpList_wanted hgd fun _ hK => by
    unfold Oper.wp execOp
    simp only [ho, hx, Instr.loadAt, Instr.sureAddr, Sem.run_bind, Sem.run_pure, Result.andThen_ok, run_loadVar_arr w b o' ty A d hc hu hd hi]
    exact hK _ _ h
theorem cfg_range {x : World} {b : Nat} {N V R : Int} {fr : Nat × Nat} (h : x.heap[b]? = some (.cells (cfg N V R) 38 fr)) : rangeA x b 0 (cfg N V R) := by
  intro j v hj
  rw [Nat.zero_add, cell_of_row _ _ _ _ _ _ h]
  exact hj
set_option maxHeartbeats 4000000 in
theorem rgrows_out (N V R : Int) (w : World) (ht : Tabs w) (h : N < 1 ∨ 8 ≤ N) : Calls Tryd.prog 7 #[.agg (cfg N V R)] w fun e w' => e = .returned (.bool true) ∧ Below w.heap.size w w' := by
  have HX := Lib.hid (heap_alloc_new w (.cells (cfg N V R) 38))
  have HB := Lib.hid (((Below.refl w.heap.size w).alloc (Nat.le_refl _) (.cells (cfg N V R) 38)).alloc (by simp) (.cells (cfg N V R) 38))
  have HA := Lib.hid (ralive_any _ (ht.below HB.out))
  have HS := Lib.hid (cfg_size N V R)
  have HO := Lib.hid (cfg_one N V R)
  have hz := (zero_of_info info38).1
  obtain ⟨Z, hZ⟩ : ∃ Z, Z = cfg 0 0 0 := ⟨_, rfl⟩
  have HZS : Hid (Z.size = (cfg N V R).size) := by rw [hZ]; exact rfl
  rw [← hZ] at hz
  clear hZ ht
  have c0 : ((w.alloc (.cells (cfg N V R) 38)).alloc (.cells (cfg N V R) 38)).cell? ⟨w.heap.size, 0, none⟩ = some (.int .i64 N) := by
    rw [cell_of_row _ _ _ _ _ _ ((Below.heap_alloc _ _ _ (by simp)).trans HX.out)]
    rfl
  have hn := heap_alloc_new (w.alloc (.cells (cfg N V R) 38)) (.cells Z 38)
  have hsr := World.setRow_alloc_new (w.alloc (.cells (cfg N V R) 38)) Z (cfg N V R) 38
  rw [World.size_alloc] at hn hsr
  have HN := Lib.hid hn
  have HSR := Lib.hid hsr
  clear hn hsr
  rcases (show N < 1 ∨ (¬ N < 1 ∧ 8 ≤ N) by omega) with h1 | ⟨h1, h2⟩
  all_goals
    clear h
    go_enter Tryd.func7, Tryd.ntmps7
    go_wp2_with (first
      | (refine wpList_load_row rfl 38 _ rfl w.heap.size rfl 38 (cfg N V R) (0, 0) _ HX.out Tryd.underlying38 rfl HS.out ?_)
      | (refine wpList_store_row rfl 38 _ _ rfl (w.heap.size + 1) (cfg N V R) rfl rfl 38 _ HN.out HS.out HZS.out HO.out ?_
         rw [HSR.out])
      | (go_at_call 23; refine HA.out.mono ?_; rintro e w1 ⟨rfl, hb⟩; have HB1 := Lib.hid (HB.out.trans (hb.mono HB.out.size)); clear hb))
    go_ret
    exact ⟨rfl, HB1.out⟩
end Go.Proofs.YthcnoblamilpgaaDoor
