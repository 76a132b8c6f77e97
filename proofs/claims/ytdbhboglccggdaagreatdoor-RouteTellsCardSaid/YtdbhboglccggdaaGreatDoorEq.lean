/- '==' between two arrays of integers. -/
import Derived.Test.YtdbhboglccggdaaGreatDoorBase
import Derived.ChangeKeysEq
set_option linter.unusedVariables false
set_option linter.unusedSimpArgs false
namespace Go.Proofs.YtdbhboglccggdaaGreatDoor
open Go.RowKit

theorem run_part_arr {P : Program} (w : World) (e : TypeId) (hag : ∀ w, (isAgg e).run P w = .ok false w) (k : IntKind) (n : Nat) (f : Nat → Nat) (i : Nat) (hi : i < n) : (part e (arrOf k n f) i).run P w = .ok (.int k ((f i : Nat) : Int)) w := by
  have hg := arrOf_get k f hi
  simp [part, Sem.run_bind, hag, Result.andThen, hg]
theorem run_eqItems_arr {P : Program} (w : World) (d : Nat) (e : TypeId) (k k' : IntKind) (hu : P.underlying e = some (.int k')) (hag : ∀ w, (isAgg e).run P w = .ok false w) (n : Nat) (f g : Nat → Nat) :
    ∀ is : List Nat, (∀ i ∈ is, i < n) → (Op.eqItems (d + 1) e 1 (arrOf k n f) (arrOf k n g) is).run P w = .ok (decide (∀ i ∈ is, f i = g i)) w
  | [], _ => by simp [Op.eqItems]
  | i :: is, h => by
    have hi := h i (by simp)
    have ih := run_eqItems_arr w d e k k' hu hag n f g is (fun j hj => h j (by simp [hj]))
    simp only [Op.eqItems, Sem.run_bind, Nat.mul_one, run_part_arr w e hag k n f i hi, run_part_arr w e hag k n g i hi, Result.andThen_ok, run_equalIn_int w d e k k' _ _ hu]
    by_cases hfg : f i = g i
    · have e1 : (((f i : Nat) : Int) == ((g i : Nat) : Int)) = true := by rw [beq_iff_eq]; omega
      rw [e1]
      simp [ih, hfg]
    · have e1 : (((f i : Nat) : Int) == ((g i : Nat) : Int)) = false := by rw [beq_eq_false_iff_ne]; omega
      rw [e1]
      simp [hfg]
theorem run_eql_arr {P : Program} (t e : TypeId) (n : Nat) (k k' : IntKind) (ht : P.underlying t = some (.array n e)) (hu : P.underlying e = some (.int k')) (hs : (P.info? e).map (·.size) = some 1) (hag : ∀ w, (isAgg e).run P w = .ok false w)
    (f g : Nat → Nat) (w : World) : (binOp .eql t (.agg (arrOf k n f)) (.agg (arrOf k n g))).run P w = .ok (.bool (decide (∀ i, i < n → f i = g i))) w := by
  cases hq : P.info? e with
  | none => simp [hq] at hs
  | some j =>
    have hc : P.cellsOf e = 1 := by simp [hq] at hs; simp [Program.cellsOf, hq, hs]
    rw [run_eql_struct, run_equalIn_array w 9999 _ _ ht hq, hc, run_eqItems_arr w 9998 e k k' hu hag n f g _ (fun i hi => List.mem_range.1 hi)]
    simp [Result.andThen, List.mem_range]
theorem run_equalIn_arr {P : Program} (t e : TypeId) (n : Nat) (k k' : IntKind) (ht : P.underlying t = some (.array n e)) (hu : P.underlying e = some (.int k')) (hs : (P.info? e).map (·.size) = some 1) (hag : ∀ w, (isAgg e).run P w = .ok false w)
    (f g : Nat → Nat) (w : World) : (Op.equalIn 10000 t (.agg (arrOf k n f)) (.agg (arrOf k n g))).run P w = .ok (decide (∀ i, i < n → f i = g i)) w := by
  cases hq : P.info? e with
  | none => simp [hq] at hs
  | some j =>
    have hc : P.cellsOf e = 1 := by simp [hq] at hs; simp [Program.cellsOf, hq, hs]
    rw [run_equalIn_array w 9999 _ _ ht hq, hc, run_eqItems_arr w 9998 e k k' hu hag n f g _ (fun i hi => List.mem_range.1 hi)]
    simp [List.mem_range]
end Go.Proofs.YtdbhboglccggdaaGreatDoor
