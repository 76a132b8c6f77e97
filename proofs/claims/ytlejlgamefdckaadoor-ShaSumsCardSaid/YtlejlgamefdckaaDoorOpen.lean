/- A slice of bytes that came in, opened; a slice of such slices. -/
import Derived.Test.YtlejlgamefdckaaDoorA6
import Derived.Test.YtlejlgamefdckaaDoorLaw
namespace Go.Proofs.YtlejlgamefdckaaDoor
open Go.RowKit Go.WideShapes Go.ChangeShapes
theorem cells5 : Tryd.prog.cellsOf 5 = 1 := by kernel_rfl
section
variable {H : Type} {enc : TypeId × Value → H}
theorem bytes_of_ints {W : World} {a : Addr} {len cap : Nat} {zs : List Int} (hlen : len ≤ cap) (hz : zs.length = cap) (hcell : ∀ i, i < zs.length → W.cell? (a.add i) = some (.int .u8 (zs.getD i 0))) (hw : ∀ n ∈ zs, (Lit.int .u8 n).wf = true) :
    ∃ xs : List Nat, xs.length = len ∧ Bytes W (· < W.heap.size) (some a) xs := by
  have hb : ∀ z, z ∈ zs → 0 ≤ z ∧ z < 256 := fun z hz => by
    have := hw z hz
    simp [Lit.wf, IntKind.min, IntKind.max, IntKind.bits, IntKind.signed] at this
    omega
  refine ⟨(zs.take len).map Int.toNat, by simp; omega, fun x hx => ?_, fun hp => ?_⟩
  · obtain ⟨z, hz, rfl⟩ := List.mem_map.1 hx
    have := hb z (List.mem_of_mem_take hz)
    omega
  · have hl : ((zs.take len).map Int.toNat).length = len := by simp; omega
    rw [hl] at hp ⊢
    obtain ⟨b, off, rfl, hc⟩ := ints_at hcell (by omega)
    refine ⟨b, off, rfl, World.block_lt_of_cell? W _ (hc 0 (by omega)), fun j hj => ?_⟩
    rw [hc j (by omega)]
    have h1 : zs[j]? = some zs[j] := List.getElem?_eq_getElem (by omega)
    have h2 := hb zs[j] (List.getElem_mem _)
    simp only [List.getD_eq_getElem?_getD, List.getElem?_map, List.getElem?_take, if_pos hj, h1, Option.map_some, Option.getD_some]
    congr 2
    omega
theorem open_bytes {W : World} {base : Nat} {v : Value} {d : DataW H} {p : List MemPlace} (hv : Value.okWide Tryd.prog W .any base 22 v) (h : DataW.Trod enc Tryd.prog W 0 (fun _ => true) true 22 v d p) :
    ∃ A xs c, v = .slice A xs.length c ∧ Bytes W (· < W.heap.size) A xs ∧ xs.length ≤ c ∧ xs.length ≤ maxLen := by
  obtain ⟨a0, len, cap, rfl⟩ := okWide_slice Tryd.underlying22 hv
  obtain ⟨fuel, hf⟩ := h
  rcases open_ints Tryd.underlying22 Tryd.underlying5 cells5 hf with ⟨hcs, _⟩ | ⟨a, len', cap', zs, hcs, _, hl, hm, hz, _, hcell, hwz⟩
  · simp only [Value.cells, List.cons.injEq, and_true, Value.slice.injEq] at hcs
    obtain ⟨rfl, rfl, rfl⟩ := hcs
    exact ⟨none, [], 0, rfl, ⟨fun _ h => (by cases h), fun h => (by cases h)⟩, by simp, by simp [maxLen]⟩
  · simp only [Value.cells, List.cons.injEq, and_true, Value.slice.injEq] at hcs
    obtain ⟨rfl, rfl, rfl⟩ := hcs
    obtain ⟨xs, hx, hb⟩ := bytes_of_ints hl (by simpa using hz) hcell hwz
    subst hx
    exact ⟨_, xs, cap, rfl, hb, hl, Nat.le_trans hl hm⟩
end
end Go.Proofs.YtlejlgamefdckaaDoor
