/- A vector, a dot, a slice of vectors that came in, opened. -/
import Derived.Test.YtnpacjdgbmldlaaD3
import Derived.Test.YtnpacjdgbmldlaaLaw
import Derived.Deep.Slices
import Derived.Lib.LaidTab
namespace Go.Proofs.Ytnpacjdgbmldlaa
open Go.RowKit Go.WideShapes Go.ChangeShapes
set_option maxRecDepth 100000
theorem cellsO23 : Try.prog.cellsOf 23 = 1 := by kernel_rfl
theorem cellsO27 : Try.prog.cellsOf 27 = 8 := by kernel_rfl
theorem cellsO25 : Try.prog.cellsOf 25 = 2 := by kernel_rfl
theorem cellsO3 : Try.prog.cellsOf 3 = 1 := by kernel_rfl
section
variable {H : Type} {enc : TypeId × Value → H}
theorem ints_of_array {P : Program} {w : World} {base : Nat} {sp : Nat → Bool} {held : Bool} {fuel : Nat} {t e : TypeId} {k : IntKind} {n : Nat} {cs : List Value} {x : DataW H × List MemPlace} (ht : P.underlying t = some (.array n e)) (he : P.underlying e = some (.int k)) (hce : P.cellsOf e = 1)
    (h : DataW.trod enc P w base sp held fuel t cs = some x) : cs.length = P.cellsOf t ∧ ∀ i, i < n → ∃ z, cs[i]? = some (.int k z) ∧ (Lit.int k z).wf = true := by
  cases fuel with
  | zero => simp [DataW.trod] at h
  | succ fuel =>
    simp only [DataW.trod, ht] at h
    split at h
    · rename_i hl
      obtain ⟨xs, hm, hx⟩ := Option.map_eq_some_iff.1 h
      refine ⟨hl, fun i hi => ?_⟩
      obtain ⟨b, hb, hf⟩ := Lib.mapM_at hm i i (by simp [hi])
      rw [hce, Nat.mul_one] at hf
      obtain ⟨z, hz, _, hw⟩ := DataW.trod_int he hf
      refine ⟨z, ?_, hw⟩
      have := congrArg (fun l : List Value => l[0]?) hz
      simpa [List.getElem?_take, List.getElem?_drop] using this
    · cases h
theorem vec_of_cells {P : Program} {w : World} {base : Nat} {sp : Nat → Bool} {held : Bool} {fuel : Nat} {t e : TypeId} {cs : List Value} {x : DataW H × List MemPlace} (ht : P.underlying t = some (.array 8 e)) (he : P.underlying e = some (.int .u64)) (hce : P.cellsOf e = 1) (hct : P.cellsOf t = 8)
    (h : DataW.trod enc P w base sp held fuel t cs = some x) : ∃ f : Nat → Nat, cs.toArray = arrOf .u64 8 f ∧ ∀ i, i < 8 → f i < 18446744073709551616 := by
  obtain ⟨hl, hz⟩ := ints_of_array ht he hce h
  rw [hct] at hl
  obtain ⟨Z, hZ⟩ := Deep.choose_lt hz
  have hb : ∀ i, i < 8 → 0 ≤ Z i ∧ Z i < 18446744073709551616 := fun i hi => by
    have := (hZ i hi).2
    simp [Lit.wf, IntKind.min, IntKind.max, IntKind.bits, IntKind.signed] at this
    omega
  refine ⟨fun i => (Z i).toNat, arr_ext (by simpa using hl) fun i hi => ?_, fun i hi => by have := hb i hi; show (Z i).toNat < _; omega⟩
  have h1 := (hZ i hi).1
  have h2 := hb i hi
  rw [List.getElem?_toArray, h1]
  congr 2
  omega
theorem open_vec {W : World} {base : Nat} {v : Value} {d : DataW H} {p : List MemPlace} (hv : Value.okWide Try.prog W .any base 27 v) (h : DataW.Trod enc Try.prog W 0 (fun _ => true) true 27 v d p) :
    ∃ f : Nat → Nat, v = vecV f ∧ ∀ i, i < 8 → f i < 18446744073709551616 := by
  obtain ⟨cs, rfl, _⟩ : ∃ cs, v = .agg cs ∧ cs.size = Try.prog.cellsOf 27 := by
    simp only [Value.okWide, Try.underlying27] at hv
    obtain ⟨cs, h1, h2, _⟩ := hv
    exact ⟨cs, h1, h2⟩
  obtain ⟨fuel, hf⟩ := h
  obtain ⟨f, h1, h2⟩ := vec_of_cells Try.underlying27 Try.underlying23 cellsO23 cellsO27 hf
  refine ⟨f, ?_, h2⟩
  show Value.agg cs = .agg _
  rw [← h1]
  rfl

theorem open_dot {W : World} {base : Nat} {v : Value} {d : DataW H} {p : List MemPlace} (hv : Value.okWide Try.prog W .any base 25 v) (h : DataW.Trod enc Try.prog W 0 (fun _ => true) true 25 v d p) :
    ∃ (n : Int) (k : Nat), v = dotV n k ∧ k < 18446744073709551616 := by
  obtain ⟨cs, rfl, hs⟩ := okWide_struct Try.underlying25 hv
  rw [cellsO25] at hs
  obtain ⟨fuel, hf⟩ := h
  obtain ⟨y0, y1, m, _, _, h0, h1⟩ := trod_struct2 Try.underlying25 hf
  obtain ⟨l⟩ := cs
  match l, hs with
  | [c0, c1], _ =>
    simp only [Value.cells, cellsO3, cellsO23, List.drop_zero, List.take_succ_cons, List.take_zero, List.drop_succ_cons] at h0 h1
    obtain ⟨z0, e0, _, _⟩ := DataW.trod_int Try.underlying3 h0
    obtain ⟨z1, e1, _, w1⟩ := DataW.trod_int Try.underlying23 h1
    simp only [List.cons.injEq, and_true] at e0 e1
    subst e0 e1
    have hb : 0 ≤ z1 ∧ z1 < 18446744073709551616 := by
      have := w1
      simp [Lit.wf, IntKind.min, IntKind.max, IntKind.bits, IntKind.signed] at this
      omega
    exact ⟨z0, z1.toNat, by show _ = Value.agg _; rw [Int.toNat_of_nonneg hb.1], by have := hb.2; omega⟩

theorem dot_of_cells {w : World} {base : Nat} {sp : Nat → Bool} {held : Bool} {fuel : Nat} {cs : List Value} {x : DataW H × List MemPlace} (hs : cs.length = 2) (h : DataW.trod enc Try.prog w base sp held fuel 25 cs = some x) :
    ∃ d : Dt, cs = [.int .i64 d.1, .int .u64 (d.2 : Int)] ∧ d.2 < 18446744073709551616 := by
  obtain ⟨y0, y1, m, _, _, h0, h1⟩ := trod_struct2 Try.underlying25 h
  match cs, hs with
  | [c0, c1], _ =>
    simp only [cellsO3, cellsO23, List.drop_zero, List.take_succ_cons, List.take_zero, List.drop_succ_cons] at h0 h1
    obtain ⟨z0, e0, _, _⟩ := DataW.trod_int Try.underlying3 h0
    obtain ⟨z1, e1, _, w1⟩ := DataW.trod_int Try.underlying23 h1
    simp only [List.cons.injEq, and_true] at e0 e1
    subst e0 e1
    have hb : 0 ≤ z1 ∧ z1 < 18446744073709551616 := by
      have := w1
      simp [Lit.wf, IntKind.min, IntKind.max, IntKind.bits, IntKind.signed] at this
      omega
    exact ⟨(z0, z1.toNat), by simp only; rw [Int.toNat_of_nonneg hb.1], by have := hb.2; simp only; omega⟩

theorem open_dots {W : World} {base : Nat} {v : Value} {d : DataW H} {p : List MemPlace} (hv : Value.okWide Try.prog W .any base 22 v) (h : DataW.Trod enc Try.prog W 0 (fun _ => true) true 22 v d p) :
    ∃ A ls c, v = .slice A ls.length c ∧ Dots W (· < W.heap.size) A ls ∧ ls.length ≤ maxLen ∧ ∀ d ∈ ls, d.2 < 18446744073709551616 := by
  obtain ⟨a0, len, cap, rfl⟩ := okWide_slice Try.underlying22 hv
  obtain ⟨fuel, hf⟩ := h
  rcases Deep.open_slice Try.underlying22 hf with ⟨hcs, _⟩ | ⟨a, len', cap', m, n, D, Pl, hcs, _, hl, hm, hmm, _, hel⟩
  · simp only [Value.cells, List.cons.injEq, and_true, Value.slice.injEq] at hcs
    obtain ⟨rfl, rfl, rfl⟩ := hcs
    exact ⟨none, [], 0, rfl, ⟨fun h => (by cases h)⟩, by simp [maxLen], fun d hd => (by cases hd)⟩
  · simp only [Value.cells, List.cons.injEq, and_true, Value.slice.injEq] at hcs
    obtain ⟨rfl, rfl, rfl⟩ := hcs
    have hlm : len ≤ m := by simp at hmm; omega
    have each : ∀ r, r < len → ∃ d : Dt, (∀ i v, (dotC d)[i]? = some v → W.cell? ((a.add (r * 2)).add i) = some v) ∧ d.2 < 18446744073709551616 := fun r hr => by
      obtain ⟨cs', h1, h2⟩ := hel r (by omega)
      rw [cellsO25] at h1
      have hc := World.cells?_some h1
      obtain ⟨d, h3, h4⟩ := dot_of_cells hc.2.1 h2
      refine ⟨d, fun i v hv => ?_, h4⟩
      have hi : i < 2 := by
        have := Array.getElem?_eq_some_iff.1 hv
        obtain ⟨hlt, _⟩ := this
        simpa using hlt
      have h5 := hc.2.2 i hi
      rw [h5, h3]
      simpa using hv
    obtain ⟨F, hF⟩ := Deep.choose_lt each
    have hlen : ((List.range len).map F).length = len := by simp
    refine ⟨some a, (List.range len).map F, cap, by rw [hlen], ⟨fun hp => ?_⟩, by rw [hlen]; omega, fun d hd => ?_⟩
    · rw [hlen] at hp ⊢
      obtain ⟨b, off, spot⟩ := a
      have hspot : spot = none := by simpa [Addr.add] using World.cell?_spot ((hF 0 hp).1 0 _ rfl)
      subst hspot
      have hc : ∀ j, j < len → ∀ i v, (dotC (F j))[i]? = some v → W.cell? ⟨b, off + j * 2 + i, none⟩ = some v := fun j hj i v hv => by
        have := (hF j hj).1 i v hv
        rwa [Go.WideShapes.add_plain, Go.WideShapes.add_plain] at this
      refine ⟨b, off, rfl, World.block_lt_of_cell? W _ (hc 0 hp 0 _ rfl), fun j hj i v hv => ?_⟩
      rw [List.getD_eq_getElem?_getD, List.getElem?_map, List.getElem?_range hj] at hv
      exact hc j hj i v hv
    · obtain ⟨j, hj, rfl⟩ := List.mem_map.1 hd
      exact (hF j (List.mem_range.1 hj)).2
end
end Go.Proofs.Ytnpacjdgbmldlaa
