/- A counter that came in, opened. -/
import Derived.Test.YtbjndjmbbephbaaT6
import Derived.Test.YtbjndjmbbephbaaLaw
import Derived.Deep.Slices
import Derived.Lib.LaidTab
namespace Go.Proofs.Ytbjndjmbbephbaa
open Go.RowKit Go.WideShapes Go.ChangeShapes
theorem cells22 : Try.prog.cellsOf 22 = 1 := by kernel_rfl
theorem cells24 : Try.prog.cellsOf 24 = 8 := by kernel_rfl
theorem cells26 : Try.prog.cellsOf 26 = 16 := by kernel_rfl
theorem cells3 : Try.prog.cellsOf 3 = 1 := by kernel_rfl
section
variable {H : Type} {enc : TypeId × Value → H}
theorem ints_of_array {P : Program} {w : World} {base : Nat} {sp : Nat → Bool} {held : Bool} {fuel : Nat} {t e : TypeId} {k : IntKind} {n : Nat} {cs : List Value} {x : DataW H × List MemPlace} (ht : P.underlying t = some (.array n e)) (he : P.underlying e = some (.int k)) (hce : P.cellsOf e = 1)
    (h : DataW.trod enc P w base sp held fuel t cs = some x) : cs.length = P.cellsOf t ∧ ∀ i, i < n → ∃ z, cs[i]? = some (.int k z) ∧ (Lit.int k z).wf = true := by
  cases fuel with
  | zero => simp [DataW.trod] at h
  | succ fuel =>
    simp only [DataW.trod, ht] at h
    split at h
    · rename_i hl
      obtain ⟨xs, hm, hx⟩ := Option.map_eq_some_iff.1 h
      refine ⟨hl, fun i hi => ?_⟩
      obtain ⟨b, hb, hf⟩ := Lib.mapM_at hm i i (by simp [hi])
      rw [hce, Nat.mul_one] at hf
      obtain ⟨z, hz, _, hw⟩ := DataW.trod_int he hf
      refine ⟨z, ?_, hw⟩
      have := congrArg (fun l : List Value => l[0]?) hz
      simpa [List.getElem?_take, List.getElem?_drop] using this
    · cases h
theorem vec_of_cells {P : Program} {w : World} {base : Nat} {sp : Nat → Bool} {held : Bool} {fuel : Nat} {t e : TypeId} {cs : List Value} {x : DataW H × List MemPlace} (ht : P.underlying t = some (.array 8 e)) (he : P.underlying e = some (.int .u64)) (hce : P.cellsOf e = 1) (hct : P.cellsOf t = 8)
    (h : DataW.trod enc P w base sp held fuel t cs = some x) : ∃ f : Nat → Nat, cs.toArray = arrOf .u64 8 f ∧ ∀ i, i < 8 → f i < 18446744073709551616 := by
  obtain ⟨hl, hz⟩ := ints_of_array ht he hce h
  rw [hct] at hl
  obtain ⟨Z, hZ⟩ := Deep.choose_lt hz
  have hb : ∀ i, i < 8 → 0 ≤ Z i ∧ Z i < 18446744073709551616 := fun i hi => by
    have := (hZ i hi).2
    simp [Lit.wf, IntKind.min, IntKind.max, IntKind.bits, IntKind.signed] at this
    omega
  refine ⟨fun i => (Z i).toNat, arr_ext (by simpa using hl) fun i hi => ?_, fun i hi => by have := hb i hi; show (Z i).toNat < _; omega⟩
  have h1 := (hZ i hi).1
  have h2 := hb i hi
  rw [List.getElem?_toArray, h1]
  congr 2
  omega
theorem open_ctr {W : World} {base : Nat} {v : Value} {d : DataW H} {p : List MemPlace} (hv : Value.okWide Try.prog W .any base 26 v) (h : DataW.Trod enc Try.prog W 0 (fun _ => true) true 26 v d p) :
    ∃ h : Nat → Nat, v = ctrV h ∧ ∀ i, i < 16 → h i < 18446744073709551616 := by
  obtain ⟨cs, rfl, hs⟩ := okWide_struct Try.underlying26 hv
  rw [cells26] at hs
  obtain ⟨fuel, hf⟩ := h
  obtain ⟨y0, y1, m, _, _, h0, h1⟩ := trod_struct2 Try.underlying26 hf
  obtain ⟨f, e0, b0⟩ := vec_of_cells Try.underlying24 Try.underlying22 cells22 cells24 h0
  obtain ⟨g, e1, b1⟩ := vec_of_cells Try.underlying24 Try.underlying22 cells22 cells24 h1
  simp only [Value.cells, cells24] at e0 e1
  refine ⟨fun i => if i < 8 then f i else g (i - 8), ?_, fun i hi => ?_⟩
  · show Value.agg _ = Value.agg _
    congr 1
    refine arr_ext hs fun i hi => ?_
    by_cases hl : i < 8
    · have h2 := arrOf_get .u64 f hl
      rw [← e0] at h2
      simp only [List.drop_zero, List.getElem?_toArray, List.getElem?_take, hl, if_true, Array.getElem?_toList] at h2
      rw [h2, if_pos hl]
    · have h2 := arrOf_get .u64 g (show i - 8 < 8 by omega)
      rw [← e1] at h2
      simp only [List.getElem?_toArray, List.getElem?_take, List.getElem?_drop, show i - 8 < 8 by omega, if_true, Array.getElem?_toList] at h2
      rw [show 8 + (i - 8) = i by omega] at h2
      rw [h2, if_neg hl]
  · by_cases hl : i < 8
    · simp only [hl, if_true]; exact b0 i hl
    · simp only [hl, if_false]; exact b1 (i - 8) (by omega)
end
end Go.Proofs.Ytbjndjmbbephbaa
