/- '==' of two counters. -/
import Derived.Test.YtbjndjmbbephbaaT13
import Derived.ChangeKeysEq
namespace Go.Proofs.Ytbjndjmbbephbaa
open Go.RowKit
def sameC (h k : Nat → Nat) : Bool := (List.range 16).all fun i => decide (h i = k i)
theorem sameC_iff (h k : Nat → Nat) : sameC h k = true ↔ ∀ i, i < 16 → h i = k i := by simp only [sameC, List.all_eq_true, List.mem_range, decide_eq_true_eq]
def same8 (f g : Nat → Nat) : Bool := (List.range 8).all fun i => decide (f i = g i)
theorem same8_iff (f g : Nat → Nat) : same8 f g = true ↔ ∀ i, i < 8 → f i = g i := by simp only [same8, List.all_eq_true, List.mem_range, decide_eq_true_eq]
theorem sameC_half (h k : Nat → Nat) : sameC h k = (same8 h k && same8 (half h) (half k)) := by
  rw [Bool.eq_iff_iff, sameC_iff, Bool.and_eq_true, same8_iff, same8_iff]
  refine ⟨fun e => ⟨fun i hi => e i (by omega), fun i hi => e (8 + i) (by omega)⟩, fun ⟨e1, e2⟩ i hi => ?_⟩
  by_cases hl : i < 8
  · exact e1 i hl
  · have := e2 (i - 8) (by omega)
    unfold half at this
    rwa [show 8 + (i - 8) = i by omega] at this
theorem eq_vecN (d : Nat) (f g : Nat → Nat) (x : World) : (Op.equalIn (d + 1 + 1) 24 (.agg (arrOf .u64 8 f)) (.agg (arrOf .u64 8 g))).run Try.prog x = .ok (same8 f g) x := by
  have hs := size22
  cases hq : Try.prog.info? 22 with
  | none => simp [hq] at hs
  | some j =>
    have hc : Try.prog.cellsOf 22 = 1 := by simp [hq] at hs; simp [Program.cellsOf, hq, hs]
    rw [run_equalIn_array x (d + 1) _ _ Try.underlying24 hq, hc, run_eqItems_arr x d 22 .u64 .u64 Try.underlying22 agg22 8 f g _ (fun i hi => List.mem_range.1 hi)]
    congr 1
    rw [Bool.eq_iff_iff, same8_iff, decide_eq_true_eq]
    simp only [List.mem_range]
theorem part26_0 (h : Nat → Nat) (w : World) : (part 24 (arrOf .u64 16 h) 0).run Try.prog w = .ok (vecV h) w := by kernel_rfl
theorem part26_1 (h : Nat → Nat) (w : World) : (part 24 (arrOf .u64 16 h) 8).run Try.prog w = .ok (vecV (half h)) w := by kernel_rfl
theorem under26 : Try.prog.underlying 26 = some (.struct (Try.prog.fieldsOf 26)) := by kernel_rfl
theorem held26 : Try.prog.stoodInHeld 26 = false := by kernel_rfl
theorem under30 : Try.prog.underlying 30 = some (.struct (Try.prog.fieldsOf 30)) := by kernel_rfl
theorem held30 : Try.prog.stoodInHeld 30 = false := by kernel_rfl
def nto (f : Field) : String × TypeId × Nat := (f.name, f.type, f.offset)
theorem fields26 : (Try.prog.fieldsOf 26).toList.map nto = [("Up", 24, 0), ("Down", 24, 8)] := by kernel_rfl
theorem fields30 : (Try.prog.fieldsOf 30).toList.map nto = [("Up", 24, 0), ("Down", 24, 8)] := by kernel_rfl
theorem eq_fields (fs : List Field) (hf : fs.map nto = [("Up", 24, 0), ("Down", 24, 8)]) (h k : Nat → Nat) (d : Nat) (x : World) : (Op.eqFields (d + 1 + 1) (arrOf .u64 16 h) (arrOf .u64 16 k) fs).run Try.prog x = .ok (sameC h k) x := by
  rcases fs with _ | ⟨f0, _ | ⟨f1, _ | ⟨f2, fs⟩⟩⟩
  · simp at hf
  · simp at hf
  · simp only [List.map_cons, List.map_nil, List.cons.injEq, and_true, nto, Prod.mk.injEq] at hf
    obtain ⟨⟨n0, t0, o0⟩, n1, t1, o1⟩ := hf
    simp only [Op.eqFields, n0, t0, o0, n1, t1, o1]
    rw [if_pos (by decide), if_pos (by decide)]
    simp only [Sem.run_bind, part26_0, part26_1, Result.andThen_ok, eq_vecN]
    rw [sameC_half]
    cases same8 h k
    · simp
    · have e := eq_vecN d (half h) (half k) x
      cases hq : same8 (half h) (half k) <;> (rw [hq] at e; simp [part26_1, Result.andThen_ok, e])
  · simp at hf
theorem eq_ctr26 (h k : Nat → Nat) (x : World) : (Op.equalIn 10000 26 (ctrV h) (ctrV k)).run Try.prog x = .ok (sameC h k) x := by
  rw [show (10000 : Nat) = 9997 + 1 + 1 + 1 by omega, run_equalIn_struct x (9997 + 1 + 1) 26 _ _ under26 held26]
  exact eq_fields _ fields26 h k 9997 x
theorem eq_ctr30 (h k : Nat → Nat) (x : World) : (Op.equalIn 10000 30 (ctrV h) (ctrV k)).run Try.prog x = .ok (sameC h k) x := by
  rw [show (10000 : Nat) = 9997 + 1 + 1 + 1 by omega, run_equalIn_struct x (9997 + 1 + 1) 30 _ _ under30 held30]
  exact eq_fields _ fields30 h k 9997 x
theorem sameC_refl (h : Nat → Nat) : sameC h h = true := (sameC_iff h h).2 fun _ _ => rfl
theorem sameC_of {h k : Nat → Nat} (e : ∀ i, i < 16 → h i = k i) : sameC h k = true := (sameC_iff h k).2 e
theorem exec_eql26 {ev : Operand → Value} {o : Oper} {w : World} (x y : Operand) (ho : o.op = .binOp .eql 26 x y 26) {h k : Nat → Nat} (hx : ev x = ctrV h) (hy : ev y = ctrV k) {r : Bool} (hr : sameC h k = r) : (execOp ev o).run Try.prog w = .ok (.value (.bool r)) w := by
  subst hr
  unfold execOp
  simp only [ho, hx, hy]
  simp [eqGuard, Sem.run_bind, run_eql_struct, eq_ctr26, Result.andThen]
theorem exec_neq26 {ev : Operand → Value} {o : Oper} {w : World} (x y : Operand) (ho : o.op = .binOp .neq 26 x y 26) {h k : Nat → Nat} (hx : ev x = ctrV h) (hy : ev y = ctrV k) {r : Bool} (hr : sameC h k = r) : (execOp ev o).run Try.prog w = .ok (.value (.bool (!r))) w := by
  subst hr
  unfold execOp
  simp only [ho, hx, hy]
  simp [eqGuard, Sem.run_bind, run_neq_struct, eq_ctr26, Result.andThen]
theorem exec_eql30 {ev : Operand → Value} {o : Oper} {w : World} (x y : Operand) (ho : o.op = .binOp .eql 30 x y 30) {h k : Nat → Nat} (hx : ev x = ctrV h) (hy : ev y = ctrV k) {r : Bool} (hr : sameC h k = r) : (execOp ev o).run Try.prog w = .ok (.value (.bool r)) w := by
  subst hr
  unfold execOp
  simp only [ho, hx, hy]
  simp [eqGuard, Sem.run_bind, run_eql_struct, eq_ctr30, Result.andThen]
end Go.Proofs.Ytbjndjmbbephbaa
