/- A slice of parts that came in, opened. -/
import Derived.Test.YthodogcpoihjpaaW1
import Derived.Test.YthodogcpoihjpaaLaw
import Derived.Deep.Slices
import Derived.Lib.LaidTab
namespace Go.Proofs.Ythodogcpoihjpaa
open Go.RowKit Go.WideShapes Go.ChangeShapes
theorem cells3 : Try.prog.cellsOf 3 = 1 := by kernel_rfl
theorem cells5 : Try.prog.cellsOf 5 = 1 := by kernel_rfl
theorem cells24 : Try.prog.cellsOf 24 = 1 := by kernel_rfl
theorem cells28 : Try.prog.cellsOf 28 = 1 := by kernel_rfl
theorem cells30 : Try.prog.cellsOf 30 = 32 := by kernel_rfl
theorem cells32 : Try.prog.cellsOf 32 = 8 := by kernel_rfl
theorem cells34 : Try.prog.cellsOf 34 = 45 := by kernel_rfl
section
variable {H : Type} {enc : TypeId × Value → H}
theorem bytes_of_ints {W : World} {a : Addr} {len cap : Nat} {zs : List Int} (hlen : len ≤ cap) (hz : zs.length = cap) (hcell : ∀ i, i < zs.length → W.cell? (a.add i) = some (.int .u8 (zs.getD i 0))) (hw : ∀ n ∈ zs, (Lit.int .u8 n).wf = true) :
    ∃ xs : List Nat, xs.length = len ∧ Bytes W (· < W.heap.size) (some a) xs := by
  have hb : ∀ z, z ∈ zs → 0 ≤ z ∧ z < 256 := fun z hz => by
    have := hw z hz
    simp [Lit.wf, IntKind.min, IntKind.max, IntKind.bits, IntKind.signed] at this
    omega
  refine ⟨(zs.take len).map Int.toNat, by simp; omega, fun x hx => ?_, fun hp => ?_⟩
  · obtain ⟨z, hz, rfl⟩ := List.mem_map.1 hx
    have := hb z (List.mem_of_mem_take hz)
    omega
  · have hl : ((zs.take len).map Int.toNat).length = len := by simp; omega
    rw [hl] at hp ⊢
    obtain ⟨b, off, rfl, hc⟩ := ints_at hcell (by omega)
    refine ⟨b, off, rfl, World.block_lt_of_cell? W _ (hc 0 (by omega)), fun j hj => ?_⟩
    rw [hc j (by omega)]
    have h1 : zs[j]? = some zs[j] := List.getElem?_eq_getElem (by omega)
    have h2 := hb zs[j] (List.getElem_mem _)
    simp only [List.getD_eq_getElem?_getD, List.getElem?_map, List.getElem?_take, if_pos hj, h1, Option.map_some, Option.getD_some]
    congr 2
    omega
theorem ints_of_array {P : Program} {w : World} {base : Nat} {sp : Nat → Bool} {held : Bool} {fuel : Nat} {t e : TypeId} {k : IntKind} {n : Nat} {cs : List Value} {x : DataW H × List MemPlace} (ht : P.underlying t = some (.array n e)) (he : P.underlying e = some (.int k)) (hce : P.cellsOf e = 1)
    (h : DataW.trod enc P w base sp held fuel t cs = some x) : cs.length = P.cellsOf t ∧ ∀ i, i < n → ∃ z, cs[i]? = some (.int k z) ∧ (Lit.int k z).wf = true := by
  cases fuel with
  | zero => simp [DataW.trod] at h
  | succ fuel =>
    simp only [DataW.trod, ht] at h
    split at h
    · rename_i hl
      obtain ⟨xs, hm, hx⟩ := Option.map_eq_some_iff.1 h
      refine ⟨hl, fun i hi => ?_⟩
      obtain ⟨b, hb, hf⟩ := Lib.mapM_at hm i i (by simp [hi])
      rw [hce, Nat.mul_one] at hf
      obtain ⟨z, hz, _, hw⟩ := DataW.trod_int he hf
      refine ⟨z, ?_, hw⟩
      have := congrArg (fun l : List Value => l[0]?) hz
      simpa [List.getElem?_take, List.getElem?_drop] using this
    · cases h
theorem one_at {cs : List Value} {o : Nat} {v : Value} (h : (cs.drop o).take 1 = [v]) : cs.toArray[o]? = some v := by
  have := congrArg (fun l : List Value => l[0]?) h
  simpa [List.getElem?_take, List.getElem?_drop] using this
theorem part_of_cells {w : World} {base : Nat} {held : Bool} {fuel : Nat} {cs : List Value} {x : DataW H × List MemPlace}
    (h : DataW.trod enc Try.prog w base (fun _ => true) held fuel 34 cs = some x) : ∃ p : PartR, p.C = cs.toArray ∧ PartC p.C p.k p.i p.m p.n p.A p.ts p.c p.d p.f ∧ PartOk w w.heap.size p.i p.n p.A p.ts p.c p.d p.f ∧ (p.ts.length ≤ maxLen ∧ p.m ≤ 9223372036854775807) := by
  obtain ⟨xs, n, _, _, hlen, hxl, hf⟩ := DataW.trod_struct Try.underlying34 h
  rw [cells34] at hlen
  have hxl : xs.length = 7 := hxl
  have at_ : ∀ j, (hj : j < 7) → xs[j]? = some (xs[j]'(by omega)) := fun j hj => List.getElem?_eq_getElem (by omega)
  have g0 : DataW.trod enc Try.prog w base (fun _ => true) held n 3 ((cs.drop 0).take 1) = xs[0]? := by have this : DataW.trod enc Try.prog w base (fun _ => true) held n 3 ((cs.drop 0).take (Try.prog.cellsOf 3)) = xs[0]? := hf 0 ⟨ "Kind", 3, 0, false, "", "", 0⟩ rfl; rw [cells3] at this; exact this
  have g1 : DataW.trod enc Try.prog w base (fun _ => true) held n 3 ((cs.drop 1).take 1) = xs[1]? := by have this : DataW.trod enc Try.prog w base (fun _ => true) held n 3 ((cs.drop 1).take (Try.prog.cellsOf 3)) = xs[1]? := hf 1 ⟨ "I", 3, 1, false, "", "", 8⟩ rfl; rw [cells3] at this; exact this
  have g2 : DataW.trod enc Try.prog w base (fun _ => true) held n 3 ((cs.drop 2).take 1) = xs[2]? := by have this : DataW.trod enc Try.prog w base (fun _ => true) held n 3 ((cs.drop 2).take (Try.prog.cellsOf 3)) = xs[2]? := hf 2 ⟨ "Most", 3, 2, false, "", "", 16⟩ rfl; rw [cells3] at this; exact this
  have g3 : DataW.trod enc Try.prog w base (fun _ => true) held n 28 ((cs.drop 3).take 1) = xs[3]? := by have this : DataW.trod enc Try.prog w base (fun _ => true) held n 28 ((cs.drop 3).take (Try.prog.cellsOf 28)) = xs[3]? := hf 3 ⟨ "N", 28, 3, false, "", "", 24⟩ rfl; rw [cells28] at this; exact this
  have g4 : DataW.trod enc Try.prog w base (fun _ => true) held n 24 ((cs.drop 4).take 1) = xs[4]? := by have this : DataW.trod enc Try.prog w base (fun _ => true) held n 24 ((cs.drop 4).take (Try.prog.cellsOf 24)) = xs[4]? := hf 4 ⟨ "B", 24, 4, false, "", "", 32⟩ rfl; rw [cells24] at this; exact this
  have g5 : DataW.trod enc Try.prog w base (fun _ => true) held n 30 ((cs.drop 5).take 32) = xs[5]? := by have this : DataW.trod enc Try.prog w base (fun _ => true) held n 30 ((cs.drop 5).take (Try.prog.cellsOf 30)) = xs[5]? := hf 5 ⟨ "D", 30, 5, false, "", "", 56⟩ rfl; rw [cells30] at this; exact this
  have g6 : DataW.trod enc Try.prog w base (fun _ => true) held n 32 ((cs.drop 37).take 8) = xs[6]? := by have this : DataW.trod enc Try.prog w base (fun _ => true) held n 32 ((cs.drop 37).take (Try.prog.cellsOf 32)) = xs[6]? := hf 6 ⟨ "V", 32, 37, false, "", "", 88⟩ rfl; rw [cells32] at this; exact this
  rw [at_ _ (by omega)] at g0 g1 g2 g3 g4 g5 g6
  obtain ⟨z0, e0, _, _⟩ := DataW.trod_int Try.underlying3 g0
  obtain ⟨z1, e1, _, w1⟩ := DataW.trod_int Try.underlying3 g1
  obtain ⟨z2, e2, _, w2⟩ := DataW.trod_int Try.underlying3 g2
  obtain ⟨z3, e3, _, w3⟩ := DataW.trod_int Try.underlying28 g3
  obtain ⟨_, h5⟩ := ints_of_array Try.underlying30 Try.underlying5 cells5 g5
  obtain ⟨_, h6⟩ := ints_of_array Try.underlying32 Try.underlying28 cells28 g6
  obtain ⟨D, hD⟩ := Deep.choose_lt h5
  obtain ⟨F, hF⟩ := Deep.choose_lt h6
  have b1 : -9223372036854775808 ≤ z1 ∧ z1 ≤ 9223372036854775807 := by
    simp [Lit.wf, IntKind.min, IntKind.max, IntKind.bits, IntKind.signed] at w1
    omega
  have b2 : z2 ≤ 9223372036854775807 := by
    simp [Lit.wf, IntKind.min, IntKind.max, IntKind.bits, IntKind.signed] at w2
    omega
  have b3 : 0 ≤ z3 ∧ z3 < 18446744073709551616 := by
    simp [Lit.wf, IntKind.min, IntKind.max, IntKind.bits, IntKind.signed] at w3
    omega
  have bD : ∀ j, j < 32 → 0 ≤ D j ∧ D j < 256 := fun j hj => by
    have := (hD j hj).2
    simp [Lit.wf, IntKind.min, IntKind.max, IntKind.bits, IntKind.signed] at this
    omega
  have bF : ∀ j, j < 8 → 0 ≤ F j ∧ F j < 18446744073709551616 := fun j hj => by
    have := (hF j hj).2
    simp [Lit.wf, IntKind.min, IntKind.max, IntKind.bits, IntKind.signed] at this
    omega
  obtain ⟨A, ts, c, e4, hB, hN, hT⟩ : ∃ A ts c, (cs.drop 4).take 1 = [.slice A ts.length c] ∧ Bytes w (· < w.heap.size) A ts ∧ (A = none → c = 0) ∧ ts.length ≤ maxLen := by
    rcases open_ints Try.underlying24 Try.underlying5 cells5 g4 with ⟨hcs, _⟩ | ⟨a, len', cap', zs, hcs, _, hl, hm, hz, _, hcell, hwz⟩
    · exact ⟨none, [], 0, hcs, ⟨fun _ h => (by cases h), fun h => (by cases h)⟩, fun _ => rfl, by simp [maxLen]⟩
    · obtain ⟨xs, hx, hb⟩ := bytes_of_ints hl (by simpa using hz) hcell hwz
      subst hx
      exact ⟨_, xs, cap', hcs, hb, fun e => (by cases e), Nat.le_trans hl hm⟩
  refine ⟨⟨cs.toArray, z0, z1, z2, z3.toNat, A, ts, c, fun j => if j < 32 then (D j).toNat else 0, fun j => (F j).toNat⟩, rfl, ?_, ?_, ?_⟩
  · refine ⟨by simpa using hlen, one_at e0, one_at e1, one_at e2, ?_, one_at e4, fun j hj => ?_, fun j hj => ?_⟩
    · rw [one_at e3]
      congr 2
      show z3 = ((z3.toNat : Nat) : Int)
      omega
    · have h1 := (hD j hj).1
      rw [List.getElem?_take, if_pos hj, List.getElem?_drop] at h1
      have h2 := bD j hj
      rw [List.getElem?_toArray, h1]
      congr 2
      show D j = (((if j < 32 then (D j).toNat else 0 : Nat)) : Int)
      rw [if_pos hj]
      omega
    · have h1 := (hF j hj).1
      rw [List.getElem?_take, if_pos hj, List.getElem?_drop] at h1
      have h2 := bF j hj
      rw [List.getElem?_toArray, h1]
      congr 2
      show F j = (((F j).toNat : Nat) : Int)
      omega
  · refine ⟨b1.1, b1.2, ?_, hB, hN, fun j => ?_, fun j hj => ?_⟩
    · show z3.toNat < _
      omega
    · show (if j < 32 then (D j).toNat else 0) < 256
      split
      · rename_i hj
        have := bD j hj
        omega
      · omega
    · have := bF j hj
      show (F j).toNat < _
      omega
  · exact ⟨hT, b2⟩
theorem open_parts {W : World} {base : Nat} {v : Value} {d : DataW H} {p : List MemPlace} (hv : Value.okWide Try.prog W .any base 22 v) (h : DataW.Trod enc Try.prog W 0 (fun _ => true) true 22 v d p) :
    ∃ A N c P, v = .slice A N c ∧ PartsAt W W.heap.size N A P ∧ N ≤ maxLen ∧ ∀ j, j < N → (P j).m ≤ 9223372036854775807 := by
  obtain ⟨a0, len, cap, rfl⟩ := okWide_slice Try.underlying22 hv
  obtain ⟨fuel, hf⟩ := h
  rcases Deep.open_slice Try.underlying22 hf with ⟨hcs, _⟩ | ⟨a, len', cap', m, n, D, Pl, hcs, _, hl, hm, hmm, _, hel⟩
  · simp only [Value.cells, List.cons.injEq, and_true, Value.slice.injEq] at hcs
    obtain ⟨rfl, rfl, rfl⟩ := hcs
    exact ⟨none, 0, 0, fun _ => default, rfl, ⟨fun h => (by omega), fun j h => (by omega), fun j h => (by omega), fun j h => (by omega)⟩, by simp [maxLen], fun j h => (by omega)⟩
  · simp only [Value.cells, List.cons.injEq, and_true, Value.slice.injEq] at hcs
    obtain ⟨rfl, rfl, rfl⟩ := hcs
    have hlm : len ≤ m := by simp at hmm; omega
    have each : ∀ r, r < len → ∃ p : PartR, (∀ i v, p.C[i]? = some v → W.cell? ((a.add (r * 45)).add i) = some v) ∧ PartC p.C p.k p.i p.m p.n p.A p.ts p.c p.d p.f ∧ PartOk W W.heap.size p.i p.n p.A p.ts p.c p.d p.f ∧ (p.ts.length ≤ maxLen ∧ p.m ≤ 9223372036854775807) := fun r hr => by
      obtain ⟨cs', h1, h2⟩ := hel r (by omega)
      rw [cells34] at h1
      obtain ⟨p, e, h3, h4, h5⟩ := part_of_cells h2
      refine ⟨p, fun i v hi => ?_, h3, h4, h5⟩
      have hi45 : i < 45 := by
        have := (Array.getElem?_eq_some_iff.1 hi).1
        rw [h3.size] at this
        exact this
      have h6 := (World.cells?_some h1).2.2 i hi45
      rw [h6]
      rw [e] at hi
      simpa using hi
    obtain ⟨P, hP⟩ := Deep.choose_lt each
    refine ⟨some a, len, cap, P, rfl, ⟨fun hp => ?_, fun j hj => (hP j hj).2.1, fun j hj => (hP j hj).2.2.1, fun j hj => (hP j hj).2.2.2.1⟩, by omega, fun j hj => (hP j hj).2.2.2.2⟩
    obtain ⟨b, off, spot⟩ := a
    have hspot : spot = none := by simpa [Addr.add] using World.cell?_spot ((hP 0 hp).1 0 _ (hP 0 hp).2.1.kind)
    subst hspot
    have hc : ∀ j, j < len → ∀ i v, (P j).C[i]? = some v → W.cell? ⟨b, off + j * 45 + i, none⟩ = some v := fun j hj i v hi => by
      have := (hP j hj).1 i v hi
      rwa [Go.WideShapes.add_plain, Go.WideShapes.add_plain] at this
    exact ⟨b, off, rfl, World.block_lt_of_cell? W _ (hc 0 hp 0 _ (hP 0 hp).2.1.kind), fun j hj i v hi => hc j hj i v hi⟩
end
end Go.Proofs.Ythodogcpoihjpaa
