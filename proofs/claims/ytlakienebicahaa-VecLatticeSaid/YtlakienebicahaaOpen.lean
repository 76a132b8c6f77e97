/- A vector, a dot, a slice of vectors that came in, opened. -/
import Derived.Test.YtlakienebicahaaA2
import Derived.Test.YtlakienebicahaaLaw
import Derived.Deep.Slices
import Derived.Lib.LaidTab
namespace Go.Proofs.Ytlakienebicahaa
open Go.RowKit Go.WideShapes Go.ChangeShapes
theorem cells22 : Try.prog.cellsOf 22 = 1 := by kernel_rfl
theorem cells24 : Try.prog.cellsOf 24 = 8 := by kernel_rfl
theorem cells26 : Try.prog.cellsOf 26 = 2 := by kernel_rfl
theorem cells3 : Try.prog.cellsOf 3 = 1 := by kernel_rfl
section
variable {H : Type} {enc : TypeId × Value → H}
theorem ints_of_array {P : Program} {w : World} {base : Nat} {sp : Nat → Bool} {held : Bool} {fuel : Nat} {t e : TypeId} {k : IntKind} {n : Nat} {cs : List Value} {x : DataW H × List MemPlace} (ht : P.underlying t = some (.array n e)) (he : P.underlying e = some (.int k)) (hce : P.cellsOf e = 1)
    (h : DataW.trod enc P w base sp held fuel t cs = some x) : cs.length = P.cellsOf t ∧ ∀ i, i < n → ∃ z, cs[i]? = some (.int k z) ∧ (Lit.int k z).wf = true := by
  cases fuel with
  | zero => simp [DataW.trod] at h
  | succ fuel =>
    simp only [DataW.trod, ht] at h
    split at h
    · rename_i hl
      obtain ⟨xs, hm, hx⟩ := Option.map_eq_some_iff.1 h
      refine ⟨hl, fun i hi => ?_⟩
      obtain ⟨b, hb, hf⟩ := Lib.mapM_at hm i i (by simp [hi])
      rw [hce, Nat.mul_one] at hf
      obtain ⟨z, hz, _, hw⟩ := DataW.trod_int he hf
      refine ⟨z, ?_, hw⟩
      have := congrArg (fun l : List Value => l[0]?) hz
      simpa [List.getElem?_take, List.getElem?_drop] using this
    · cases h
theorem vec_of_cells {P : Program} {w : World} {base : Nat} {sp : Nat → Bool} {held : Bool} {fuel : Nat} {t e : TypeId} {cs : List Value} {x : DataW H × List MemPlace} (ht : P.underlying t = some (.array 8 e)) (he : P.underlying e = some (.int .u64)) (hce : P.cellsOf e = 1) (hct : P.cellsOf t = 8)
    (h : DataW.trod enc P w base sp held fuel t cs = some x) : ∃ f : Nat → Nat, cs.toArray = arrOf .u64 8 f ∧ ∀ i, i < 8 → f i < 18446744073709551616 := by
  obtain ⟨hl, hz⟩ := ints_of_array ht he hce h
  rw [hct] at hl
  obtain ⟨Z, hZ⟩ := Deep.choose_lt hz
  have hb : ∀ i, i < 8 → 0 ≤ Z i ∧ Z i < 18446744073709551616 := fun i hi => by
    have := (hZ i hi).2
    simp [Lit.wf, IntKind.min, IntKind.max, IntKind.bits, IntKind.signed] at this
    omega
  refine ⟨fun i => (Z i).toNat, arr_ext (by simpa using hl) fun i hi => ?_, fun i hi => by have := hb i hi; show (Z i).toNat < _; omega⟩
  have h1 := (hZ i hi).1
  have h2 := hb i hi
  rw [List.getElem?_toArray, h1]
  congr 2
  omega
theorem open_vec {W : World} {base : Nat} {v : Value} {d : DataW H} {p : List MemPlace} (hv : Value.okWide Try.prog W .any base 24 v) (h : DataW.Trod enc Try.prog W 0 (fun _ => true) true 24 v d p) :
    ∃ f : Nat → Nat, v = vecV f ∧ ∀ i, i < 8 → f i < 18446744073709551616 := by
  obtain ⟨cs, rfl, _⟩ : ∃ cs, v = .agg cs ∧ cs.size = Try.prog.cellsOf 24 := by
    simp only [Value.okWide, Try.underlying24] at hv
    obtain ⟨cs, h1, h2, _⟩ := hv
    exact ⟨cs, h1, h2⟩
  obtain ⟨fuel, hf⟩ := h
  obtain ⟨f, h1, h2⟩ := vec_of_cells Try.underlying24 Try.underlying22 cells22 cells24 hf
  refine ⟨f, ?_, h2⟩
  show Value.agg cs = .agg _
  rw [← h1]
  rfl
theorem open_dot {W : World} {base : Nat} {v : Value} {d : DataW H} {p : List MemPlace} (hv : Value.okWide Try.prog W .any base 26 v) (h : DataW.Trod enc Try.prog W 0 (fun _ => true) true 26 v d p) :
    ∃ (n : Int) (k : Nat), v = dotV n k := by
  obtain ⟨cs, rfl, hs⟩ := okWide_struct Try.underlying26 hv
  rw [cells26] at hs
  obtain ⟨fuel, hf⟩ := h
  obtain ⟨y0, y1, m, _, _, h0, h1⟩ := trod_struct2 Try.underlying26 hf
  obtain ⟨l⟩ := cs
  match l, hs with
  | [c0, c1], _ =>
    simp only [Value.cells, cells3, cells22, List.drop_zero, List.take_succ_cons, List.take_zero, List.drop_succ_cons] at h0 h1
    obtain ⟨z0, e0, _, _⟩ := DataW.trod_int Try.underlying3 h0
    obtain ⟨z1, e1, _, w1⟩ := DataW.trod_int Try.underlying22 h1
    simp only [List.cons.injEq, and_true] at e0 e1
    subst e0 e1
    have hb : 0 ≤ z1 := by
      have := w1
      simp [Lit.wf, IntKind.min, IntKind.max, IntKind.bits, IntKind.signed] at this
      omega
    exact ⟨z0, z1.toNat, by show _ = Value.agg _; rw [Int.toNat_of_nonneg hb]⟩
theorem open_vecs {W : World} {base : Nat} {v : Value} {d : DataW H} {p : List MemPlace} (hv : Value.okWide Try.prog W .any base 49 v) (h : DataW.Trod enc Try.prog W 0 (fun _ => true) true 49 v d p) :
    ∃ A ls c, v = .slice A ls.length c ∧ Vecs W (· < W.heap.size) A ls ∧ ls.length ≤ maxLen := by
  obtain ⟨a0, len, cap, rfl⟩ := okWide_slice Try.underlying49 hv
  obtain ⟨fuel, hf⟩ := h
  rcases Deep.open_slice Try.underlying49 hf with ⟨hcs, _⟩ | ⟨a, len', cap', m, n, D, Pl, hcs, _, hl, hm, hmm, _, hel⟩
  · simp only [Value.cells, List.cons.injEq, and_true, Value.slice.injEq] at hcs
    obtain ⟨rfl, rfl, rfl⟩ := hcs
    exact ⟨none, [], 0, rfl, ⟨fun h => (by cases h)⟩, by simp [maxLen]⟩
  · simp only [Value.cells, List.cons.injEq, and_true, Value.slice.injEq] at hcs
    obtain ⟨rfl, rfl, rfl⟩ := hcs
    have hlm : len ≤ m := by simp at hmm; omega
    have each : ∀ r, r < len → ∃ f : Nat → Nat, ∀ i, i < 8 → W.cell? ((a.add (r * 8)).add i) = some (.int .u64 (f i)) := fun r hr => by
      obtain ⟨cs', h1, h2⟩ := hel r (by omega)
      rw [cells24] at h1
      obtain ⟨f, h3, _⟩ := vec_of_cells Try.underlying24 Try.underlying22 cells22 cells24 h2
      refine ⟨f, fun i hi => ?_⟩
      have h4 := (World.cells?_some h1).2.2 i hi
      rw [h4]
      have h5 := arrOf_get .u64 f hi
      rw [← h3] at h5
      simpa using h5
    obtain ⟨F, hF⟩ := Deep.choose_lt each
    have hlen : ((List.range len).map F).length = len := by simp
    refine ⟨some a, (List.range len).map F, cap, by rw [hlen], ⟨fun hp => ?_⟩, by rw [hlen]; omega⟩
    rw [hlen] at hp ⊢
    obtain ⟨b, off, spot⟩ := a
    have hspot : spot = none := by simpa [Addr.add] using World.cell?_spot (hF 0 hp 0 (by omega))
    subst hspot
    have hc : ∀ j, j < len → ∀ i, i < 8 → W.cell? ⟨b, off + j * 8 + i, none⟩ = some (.int .u64 (F j i)) := fun j hj i hi => by
      have := hF j hj i hi
      rwa [Go.WideShapes.add_plain, Go.WideShapes.add_plain] at this
    refine ⟨b, off, rfl, World.block_lt_of_cell? W _ (hc 0 hp 0 (by omega)), fun j hj => rangeA_arr fun i hi => ?_⟩
    rw [hc j hj i hi, List.getD_eq_getElem?_getD, List.getElem?_map, List.getElem?_range hj]
    rfl
end
end Go.Proofs.Ytlakienebicahaa
