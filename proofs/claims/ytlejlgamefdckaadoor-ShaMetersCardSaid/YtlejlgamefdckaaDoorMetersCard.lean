/- A slice of byte slices that came in, opened. For all bytes the law ShaMeters of layer 1 returns true and its argument reads as it did: the row, and its tied card. No condition on the argument; the two package-level tables are as the program's text lays them. -/
import Derived.Test.YtlejlgamefdckaaDoorTabs
import Derived.Test.YtlejlgamefdckaaDoorMeters
import Derived.Test.YtlejlgamefdckaaDoorOpen
import Derived.Deep.Matrix
namespace Go.Proofs.YtlejlgamefdckaaDoor
open Go.RowKit Go.WideShapes Go.ChangeShapes Go.ChangeAt
instance : Inhabited Piece := ⟨⟨none, 0, []⟩⟩
theorem cells22 : Tryd.prog.cellsOf 22 = 1 := by kernel_rfl
section
variable {H : Type} {enc : TypeId × Value → H}
theorem open_pieces {W : World} {base : Nat} {v : Value} {d : DataW H} {p : List MemPlace} (hv : Value.okWide Tryd.prog W .any base 33 v) (h : DataW.Trod enc Tryd.prog W 0 (fun _ => true) true 33 v d p) :
    ∃ A ls c, v = .slice A ls.length c ∧ Pieces W (· < W.heap.size) A ls ∧ ls.length ≤ maxLen := by
  obtain ⟨a0, len, cap, rfl⟩ := okWide_slice Tryd.underlying33 hv
  obtain ⟨fuel, hf⟩ := h
  rcases Deep.open_int_rows Tryd.underlying33 Tryd.underlying22 Tryd.underlying5 cells22 cells5 hf with ⟨hcs, _⟩ | ⟨a, len', cap', A, L, C, Z, hcs, _, hl, hm, _, hcell⟩
  · simp only [Value.cells, List.cons.injEq, and_true, Value.slice.injEq] at hcs
    obtain ⟨rfl, rfl, rfl⟩ := hcs
    exact ⟨none, [], 0, rfl, ⟨fun _ h => (by cases h), fun h => (by cases h)⟩, by simp [maxLen]⟩
  · simp only [Value.cells, List.cons.injEq, and_true, Value.slice.injEq] at hcs
    obtain ⟨rfl, rfl, rfl⟩ := hcs
    have each : ∀ r, r < len → ∃ q : Piece, W.cell? (a.add r) = some (.slice q.A q.xs.length q.c) ∧ Bytes W (· < W.heap.size) q.A q.xs ∧ q.xs.length ≤ q.c ∧ q.xs.length ≤ maxLen := fun r hr => by
      obtain ⟨h1, h2, h3, h4, h5, h6, h7⟩ := hcell r (by omega)
      cases hA : A r with
      | none =>
        have h0 := h6 hA
        have hL : L r = 0 := by omega
        refine ⟨⟨none, 0, []⟩, by rw [h1, hA, h0, hL]; rfl, ⟨fun _ h => (by cases h), fun h => (by cases h)⟩, by simp, by simp [maxLen]⟩
      | some a' =>
        obtain ⟨xs, hx, hb⟩ := bytes_of_ints (W := W) (a := a') (len := L r) (cap := C r) h2 h4 (fun i hi => (h7 a' hA).2 i (by omega)) h5
        refine ⟨⟨some a', C r, xs⟩, by rw [h1, hA, hx], hb, by show xs.length ≤ C r; omega, by show xs.length ≤ maxLen; omega⟩
    obtain ⟨q, hq⟩ := Deep.choose_lt each
    have hlen : ((List.range len).map q).length = len := by simp
    refine ⟨some a, (List.range len).map q, cap, by rw [hlen], ⟨fun p hp => ?_, fun hp => ?_⟩, by rw [hlen]; omega⟩
    · obtain ⟨r, hr, rfl⟩ := List.mem_map.1 hp
      exact (hq r (List.mem_range.1 hr)).2
    · rw [hlen] at hp
      obtain ⟨b, off, spot⟩ := a
      have hspot : spot = none := by simpa [Addr.add] using World.cell?_spot (hq 0 hp).1
      subst hspot
      have hc : ∀ j, j < len → W.cell? ⟨b, off + j, none⟩ = some (.slice (q j).A (q j).xs.length (q j).c) := fun j hj => by rw [← Go.WideShapes.add_plain]; exact (hq j hj).1
      refine ⟨b, off, rfl, World.block_lt_of_cell? W _ (hc 0 hp), fun j p hj => ?_⟩
      have hj' : j < len := by
        have := (List.getElem?_eq_some_iff.1 hj).1
        simpa using this
      simp only [List.getElem?_map, List.getElem?_range hj', Option.map_some, Option.some.injEq] at hj
      subst hj
      exact hc j hj'
end
namespace ShaMeters

set_option maxRecDepth 100000 in
theorem lifted (os : Os) (started : os.Started) (H : Type) (enc : TypeId × Value → H) :
    ReturnsInHanded {} Tryd.checked os 5 .any (fun w args => (Rows.shaMetersSpec.pre enc Tryd.prog Tryd.f5 [] false w args ∧ laidMetH Tryd.prog laid2 w) ∧ sizedMet enc Tryd.prog Tryd.f5 (OpenSpec.ofChange Rows.shaMetersSpec) false w args)
      (Rows.shaMetersSpec.post enc Tryd.prog Tryd.f5 false true false false) := by
  refine returnsInHanded_of_change_and (C := Tryd.checked) (X := fun w _ => laidMetH Tryd.prog laid2 w) (fun _ _ _ hh h => h.of_heap hh) own started (by kernel_rfl) Tryd.func5
    (ChangeSpec.witness_shaped (enc := enc) (C := Tryd.checked) (os := os) (X := fun w _ => laidMetH Tryd.prog laid2 w) false (World.laidAll Tryd.prog os laid2) #[.slice none 0 0] 8 (World.laidAll_os _ _ _)
      (World.shaped_of_ZipB (by kernel_rfl) (by kernel_rfl)) (by kernel_rfl) (by kernel_rfl) (by kernel_rfl)
      (by rw [MakeChecks.laidMetH_plain _ _ _ (by kernel_rfl)]; exact laidMet_laidAll _ (by kernel_rfl) (by kernel_rfl))) ?_
  intro W base args ds gs before hval0 hW _ _ hL _
  have hval : ∀ (j : Nat) t v, Tryd.f5.params[j]? = some t → args[j]? = some v → Value.okWide Tryd.prog W .any base t v := hval0
  have hW' := hW
  obtain ⟨p, q, hA0, hV, rfl, _, _⟩ := hW
  have hA : DataW.TrodAll enc Tryd.prog W 0 (fun _ => true) true Tryd.f5.params.toList args.toList ds p := hA0
  rw [Tryd.params5] at hA hval
  obtain ⟨v0, d0, rfl, rfl, h0⟩ := trodAll_one hA
  obtain ⟨rfl, rfl⟩ := trodVars_none hV
  obtain ⟨A0, ls, c0, rfl, hx, hm0⟩ := open_pieces (hval 0 33 v0 rfl rfl) h0
  have hm0' := hm0
  unfold maxLen at hm0'
  refine (law_meters ls c0 A0 W (tabs_of_laid hL) hx (by omega)).mono fun e W' h => ?_
  obtain ⟨rfl, hb⟩ := h
  exact ⟨_, rfl, law_post hW' rfl rfl rfl rfl (by kernel_rfl) Tryd.underlying4 laidOut (by rw [Tryd.params5]; intro t ht; simp only [List.mem_cons, List.mem_nil_iff, or_false] at ht; rcases ht with rfl; exact ⟨by kernel_rfl, of_decide_eq_true (by kernel_rfl)⟩) hb⟩

theorem said : Rows.ShaMetersSaid :=
  OpenClaim.holds_of_wide 5 Tryd.f5 rfl rfl rfl rfl rfl rfl rfl ⟨rfl, rfl, rfl, rfl, rfl⟩ rfl rfl rfl rfl rfl (by kernel_rfl) Tryd.func5 (by kernel_rfl)
    (of_decide_eq_true (by kernel_rfl)) (by unfold Func.isWrapper; first | (rw [if_pos (by decide +kernel)]; kernel_rfl) | (rw [if_neg (by decide +kernel)]; exact ⟨rfl, rfl⟩))
    (fun os started H enc _ => lifted os started H enc)
/-- No parameter wants a stand-in; the program's own looks are off. -/
theorem plain (f : FuncId) (fn : Func) (hf : Tryd.pinned.checked.prog.funcNamed "maund/maundlaw01.ShaMeters" = some f) (hfn : Tryd.pinned.checked.prog.funcs[f]? = some fn) :
    false = Tryd.pinned.checked.prog.looks [] ∧ ∀ (j : Nat) t, fn.params[j]? = some t → Tryd.pinned.checked.prog.wantsStandIn t = false := by
  obtain rfl : f = 5 := Option.some.inj ((show Tryd.prog.funcNamed "maund/maundlaw01.ShaMeters" = some 5 by kernel_rfl).symm.trans hf) |>.symm
  obtain rfl : fn = Tryd.f5 := (Option.some.inj (Tryd.func5.symm.trans hfn)).symm
  refine ⟨by kernel_rfl, fun j t ht => ?_⟩
  rw [Tryd.params5] at ht
  obtain rfl : t = 33 := by simpa using Array.mem_of_getElem? ht
  exact (show Tryd.prog.wantsStandIn 33 = false by kernel_rfl)
end ShaMeters
theorem shaMeters_card : Rows.ShaMetersCardSaid :=
  Claim7.holds_tied_plain_at .later [] _ _ _ _ ShaMeters.said (fun _ h => by cases h) (by kernel_rfl) (fun _ h => by cases h) shaMeters_row_tie rfl ⟨rfl, rfl⟩ (by kernel_rfl) rfl ShaMeters.plain (by kernel_rfl)
#print axioms shaMeters_card
end Go.Proofs.YtlejlgamefdckaaDoor
