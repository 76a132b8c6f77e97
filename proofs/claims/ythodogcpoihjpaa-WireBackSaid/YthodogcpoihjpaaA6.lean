/- The writer's Digest. -/
import Derived.Test.YthodogcpoihjpaaA5
namespace Go.Proofs.Ythodogcpoihjpaa
open Go.RowKit
/-- The bytes of a digest. -/
def digB (f : Nat → Nat) : List Nat := (List.range 32).map f
theorem digest_nil (f : Nat → Nat) (w : World) : Calls Try.prog 16 #[.pointer none, .agg (arrOf .u8 32 f)] w fun e w' => e = .returned (.tuple #[]) ∧ Below w.heap.size w w' := by
  have HB := Lib.hid (below1 w (.cells (arrOf .u8 32 f) 30))
  go_enter Try.func16, Try.ntmps16
  go_wp2
  exact bodyPost_ret (results_none Try.results16 _ _ _) rfl ⟨rfl, HB.out⟩
theorem dig_bytes (w : World) (f : Nat → Nat) (hf : ∀ i, f i < 256) : Bytes (w.alloc (.cells (arrOf .u8 32 f) 30)) (fun _ => True) (some ⟨w.heap.size, 0, none⟩) (digB f) := by
  refine ⟨fun x hx => by simp only [digB, List.mem_map] at hx; obtain ⟨i, _, rfl⟩ := hx; exact hf i, fun _ => ⟨_, _, rfl, trivial, fun j hj => ?_⟩⟩
  have h32 : j < 32 := by simpa [digB] using hj
  rw [Nat.zero_add, cell_of_row _ _ _ _ _ _ (heap_alloc_new _ _), arrOf_get .u8 f h32]
  simp [digB, List.getD_eq_getElem?_getD, h32]
theorem dig_len (f : Nat → Nat) : (digB f).length = 32 := by simp [digB]
theorem sl30 (b : Nat) (w : World) : (Instr.sliceAt 30 (.pointer (some ⟨b, 0, none⟩)) none none none).run Try.prog w = .ok (.slice (some ⟨b, 0, none⟩) 32 32) w := by
  go_simp
set_option maxRecDepth 100000 in
set_option maxHeartbeats 2000000 in
theorem digest_any (f : Nat → Nat) (w : World) (base W : Nat) (v : Value) (xs : List Nat) (hf : ∀ i, f i < 256) (hw : WAt w base W v xs) (hs : xs.length ≤ 800000) :
    Calls Try.prog 16 #[.pointer (some ⟨W, 0, none⟩), .agg (arrOf .u8 32 f)] w fun e w' => e = .returned (.tuple #[]) ∧ ∃ v', WAt w' base W v' (xs ++ digB f) ∧ Turn w w' W v.ownBlock v'.ownBlock := by
  obtain ⟨A2, c2, rfl⟩ := hw.slice
  have hat := hw.below (below1 w (.cells (arrOf .u8 32 f) 30))
  have HX0 : Hid (WAt (w.alloc (.cells (arrOf .u8 32 f) 30)).drew base W (.slice A2 xs.length c2) xs) := ⟨hat.row, hat.own, hat.le⟩
  have HB0 : Hid (Bytes (w.alloc (.cells (arrOf .u8 32 f) 30)).drew (fun _ => True) (some ⟨w.heap.size, 0, none⟩) (digB f)) := ⟨(dig_bytes w f hf).lt, (dig_bytes w f hf).at_⟩
  have SB := Lib.hid HX0.out.base_le
  have HTW : Hid (Turn w (w.alloc (.cells (arrOf .u8 32 f) 30)).drew W (Value.ownBlock (.slice A2 xs.length c2)) (Value.ownBlock (.slice A2 xs.length c2))) := by
    have h := below1 w (.cells (arrOf .u8 32 f) 30)
    exact Turn.of_below ⟨h.os, h.tape, h.output, h.size, h.block⟩
  have c5 := hat.cell
  have f5 := hat.frozen
  have hdl := Lib.hid (dig_len f)
  have hsl := fun x => sl30 w.heap.size x
  clear hat hw hf
  go_enter Try.func16, Try.ntmps16
  go_wp2_with fail
  go_region_law (
    refine step_append_turn rfl (.tmp 10) (.tmp 11) rfl base _ xs.length xs rfl HX0.out.own (some ⟨w.heap.size, 0, none⟩) (digB f) 32 (fun _ => True) (by rw [hdl.out]; rfl) HB0.out (fun h => by cases h) (by rw [hdl.out]; omega) SB.out ?_
    intro v3 w3 H3 G3 N3
    obtain ⟨A3, c3, rfl⟩ := own_slice H3.out
    have R3 := Lib.hid (HX0.out.next H3.out G3.out N3.out)
    have c4 : w3.cell? ⟨W, 0, none⟩ = some (.slice A2 xs.length c2) := (World.cell?_of_block (w := (w.alloc (.cells (arrOf .u8 32 f) 30)).drew) (a := ⟨W, 0, none⟩) (G3.out.block W HX0.out.lt (fun e => HX0.out.ne e.symm))).trans HX0.out.cell
    have f4 : w3.frozen? ⟨W, 0, none⟩ = false := (World.frozen?_of_block (w := (w.alloc (.cells (arrOf .u8 32 f) 30)).drew) (a := ⟨W, 0, none⟩) (G3.out.block W HX0.out.lt (fun e => HX0.out.ne e.symm))).trans HX0.out.frozen)
  all_goals
    go_wp2_with fail
    go_end0
    exact ⟨rfl, _, R3.out.1, HTW.out.trans R3.out.2⟩
end Go.Proofs.Ythodogcpoihjpaa
