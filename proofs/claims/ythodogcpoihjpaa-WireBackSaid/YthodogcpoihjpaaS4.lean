/- The reader's Digest at bytes that may be cut. -/
import Derived.Test.YthodogcpoihjpaaS3
namespace Go.Proofs.Ythodogcpoihjpaa
open Go.RowKit
theorem copy_none (x : World) (V : Nat) (ty : TypeId) : (Builtin.copy_ #[24, 24] ty #[.slice (some ⟨V, 0, none⟩) 32 32, .slice none 0 0]).run Try.prog x = .ok (.int .i64 0) x := run_copy_none x 24 24 ty 5 (some ⟨V, 0, none⟩) none 32 32 0 0 Try.underlying24 size5 rfl
set_option maxHeartbeats 1000000 in
theorem rdig_none (w : World) (R : Nat) (A : Option Addr) (c : Nat) (bs : List Nat) (h0 : ∃ a e, RAt w R A c bs a e)
    (h : ∀ x, Below w.heap.size w x → Calls Try.prog 28 #[.pointer (some ⟨R, 0, none⟩), .int .u64 32] x fun r w' => r = .returned (.slice none 0 0) ∧ Bad R A c bs w' ∧ x.grownBy w' (some R)) :
    Calls Try.prog 17 #[.pointer (some ⟨R, 0, none⟩)] w fun r w' => r = .returned (.agg (arrOf .u8 32 fun _ => 0)) ∧ Bad R A c bs w' ∧ w.grownBy w' (some R) := by
  obtain ⟨a0, e0, h0⟩ := h0
  obtain ⟨w0, hw0⟩ : ∃ w0, w0 = (w.alloc (.cells #[.int .u8 0, .int .u8 0, .int .u8 0, .int .u8 0, .int .u8 0, .int .u8 0, .int .u8 0, .int .u8 0, .int .u8 0, .int .u8 0, .int .u8 0, .int .u8 0, .int .u8 0, .int .u8 0, .int .u8 0, .int .u8 0, .int .u8 0, .int .u8 0, .int .u8 0, .int .u8 0, .int .u8 0, .int .u8 0, .int .u8 0, .int .u8 0, .int .u8 0, .int .u8 0, .int .u8 0, .int .u8 0, .int .u8 0, .int .u8 0, .int .u8 0, .int .u8 0] 30)).alloc (.cells #[.int .u8 0, .int .u8 0, .int .u8 0, .int .u8 0, .int .u8 0, .int .u8 0, .int .u8 0, .int .u8 0, .int .u8 0, .int .u8 0, .int .u8 0, .int .u8 0, .int .u8 0, .int .u8 0, .int .u8 0, .int .u8 0, .int .u8 0, .int .u8 0, .int .u8 0, .int .u8 0, .int .u8 0, .int .u8 0, .int .u8 0, .int .u8 0, .int .u8 0, .int .u8 0, .int .u8 0, .int .u8 0, .int .u8 0, .int .u8 0, .int .u8 0, .int .u8 0] 30) := ⟨_, rfl⟩
  have z32 : (#[.int .u8 0, .int .u8 0, .int .u8 0, .int .u8 0, .int .u8 0, .int .u8 0, .int .u8 0, .int .u8 0, .int .u8 0, .int .u8 0, .int .u8 0, .int .u8 0, .int .u8 0, .int .u8 0, .int .u8 0, .int .u8 0, .int .u8 0, .int .u8 0, .int .u8 0, .int .u8 0, .int .u8 0, .int .u8 0, .int .u8 0, .int .u8 0, .int .u8 0, .int .u8 0, .int .u8 0, .int .u8 0, .int .u8 0, .int .u8 0, .int .u8 0, .int .u8 0] : Array Value) = arrOf .u8 32 fun _ => 0 := by kernel_rfl
  have hb0 : Below w.heap.size w w0 := by rw [hw0]; exact (below1 w _).alloc (by rw [show (w.alloc _).heap.size = w.heap.size + 1 from Array.size_push _]; omega) _
  have hv0 : w0.heap[w.heap.size + 1]? = some (.cells (arrOf .u8 32 fun _ => 0) 30 (0, 0)) := by rw [hw0, z32, ← show (w.alloc (.cells (arrOf .u8 32 fun _ => 0) 30)).heap.size = w.heap.size + 1 from Array.size_push _]; exact heap_alloc_new _ _
  have hr0 : w0.heap[w.heap.size]? = some (.cells (arrOf .u8 32 fun _ => 0) 30 (0, 0)) := by
    rw [hw0, z32]
    have h1 := heap_alloc_new w (.cells (arrOf .u8 32 fun _ => 0) 30)
    have h2 := (below1 (w.alloc (.cells (arrOf .u8 32 fun _ => 0) 30)) (.cells (arrOf .u8 32 fun _ => 0) 30)).block w.heap.size (by rw [show (w.alloc _).heap.size = w.heap.size + 1 from Array.size_push _]; omega)
    exact h2.trans h1
  have HT := Lib.hid (h w0.drew ⟨hb0.os, hb0.tape, hb0.output, hb0.size, hb0.block⟩)
  have H0 := Lib.hid h0
  have HB0 := Lib.hid hb0
  have HV0 := Lib.hid hv0
  have HR0 := Lib.hid hr0
  have HW0 := Lib.hid hw0
  have HRL := Lib.hid h0.row.lt
  have hsl := fun x => sl30 (w.heap.size + 1) x
  have kcp := copy_none
  clear h h0 hb0 hv0 hr0 z32
  go_enter Try.func17, Try.ntmps17
  go_wp2_with fail
  rw [← HW0.out]
  clear hw0
  go_region_with (go_at_call 28; refine HT.out.mono ?_; rintro r w1 ⟨rfl, hr1, hg1⟩)
  have HR1 := Lib.hid hr1
  have HG1 := Lib.hid hg1
  have hV1 : w1.heap[w.heap.size + 1]? = some (.cells (arrOf .u8 32 fun _ => 0) 30 (0, 0)) := (hg1.block _ (Array.getElem?_eq_some_iff.1 HV0.out).1 (fun e => by have := HRL.out; injection e with e; omega)).trans HV0.out
  have HV2 := Lib.hid hV1
  have HR2 : Hid (w1.heap[w.heap.size]? = some (.cells (arrOf .u8 32 fun _ => 0) 30 (0, 0))) := Lib.hid ((hg1.block _ (Array.getElem?_eq_some_iff.1 HR0.out).1 (fun e => by have := HRL.out; injection e with e; omega)).trans HR0.out)
  have ss : ∀ {f g : Nat → Nat}, Hid ((arrOf .u8 32 f).size = (arrOf .u8 32 g).size) := fun {f g} => by rw [arrOf_size, arrOf_size]; exact rfl
  have HE : Hid (∀ k, k < w.heap.size → (w1.setRow w.heap.size (arrOf .u8 32 fun _ => 0)).heap[k]? = w1.heap[k]?) := Lib.hid (fun k hk => setRow_other _ w.heap.size k _ (by omega))
  have HZ : Hid (w1.heap.size ≤ (w1.setRow w.heap.size (arrOf .u8 32 fun _ => 0)).heap.size) := Lib.hid (by rw [size_setRow]; exact Nat.le_refl _)
  have HBad : Hid (Bad R A c bs (w1.setRow w.heap.size (arrOf .u8 32 fun _ => 0))) := Lib.hid (by obtain ⟨a, h⟩ := HR1.out; exact ⟨a, RAt.far H0.out h HE.out⟩)
  clear hr1 hg1 hV1 kcp HT HV0 HR0
  go_wp2_with (first
    | (refine wpList_load_row rfl 30 _ rfl (w.heap.size + 1) rfl 30 _ (0, 0) _ HV2.out Try.underlying30 rfl size30e ?_)
    | (refine wpList_store_row rfl 30 _ _ rfl w.heap.size (arrOf .u8 32 fun _ => 0) rfl rfl 30 _ HR2.out size30e ss.out (arrOf_one _ _ _) ?_)
    | (refine bodyPost_ret (results_cell_row Try.results17 _ _ w.heap.size 30 _ (0, 0) _ rfl (setRow_heap _ _ _ _ _ _ HR2.out) Try.underlying30 rfl size30e) rfl ⟨rfl, HBad.out, ⟨HG1.out.os.trans HB0.out.os, HG1.out.tape.trans HB0.out.tape, HG1.out.output.trans HB0.out.output, Nat.le_trans HB0.out.size (Nat.le_trans HG1.out.size HZ.out), fun k hk hn => (HE.out k hk).trans ((HG1.out.block k (Nat.lt_of_lt_of_le hk HB0.out.size) hn).trans (HB0.out.block k hk))⟩⟩))
theorem rdig_cut (d : Nat → Nat) (T : List Nat) (w : World) (R : Nat) (A : Option Addr) (c : Nat) (bs : List Nat) (hd256 : ∀ j, d j < 256) (h : Cut R A c bs (digB d ++ T) w) (hs : bs.length ≤ 1000000) :
    Calls Try.prog 17 #[.pointer (some ⟨R, 0, none⟩)] w fun r w' => ∃ g : Nat → Nat, (∀ j, g j < 256) ∧ r = .returned (.agg (arrOf .u8 32 g)) ∧ Cut R A c bs T w' ∧ w.grownBy w' (some R) := by
  rcases h.split with h | ⟨at_, rest, miss, h, hd, hm, e⟩
  · refine (rdig_none w R A c bs h.at_ fun x hb => ?_).mono ?_
    · rcases h with ⟨a, h⟩ | ⟨a, miss, h, hm, e⟩
      · refine (take_err x R A c bs a 8 32 (h.far h fun k hk => hb.block k hk) (by decide)).mono ?_
        rintro r w' ⟨rfl, rfl⟩
        exact ⟨rfl, ⟨a, h.far h fun k hk => hb.block k hk⟩, only_refl _ _⟩
      · have hl := congrArg List.length e
        rw [List.length_append, List.length_drop, dig_len] at hl
        have h4 : 0 < miss.length := List.length_pos_iff.2 hm
        refine (take_short x R A c bs a 32 (h.far h fun k hk => hb.block k hk) hs (by omega) (by omega)).mono ?_
        rintro r w' ⟨rfl, hr, hg⟩
        exact ⟨rfl, ⟨a, hr⟩, hg⟩
    · rintro r w' ⟨rfl, hb, hg⟩
      exact ⟨fun _ => 0, fun _ => (by omega : (0 : Nat) < 256), rfl, .inl hb, hg⟩
  · refine (rdig_ok d w R A c bs rest at_ h hs hd).mono ?_
    rintro r w' ⟨rfl, hr, hg⟩
    exact ⟨d, hd256, rfl, cut_on (by rw [dig_len]; exact hr) hd hm e, hg⟩
end Go.Proofs.Ythodogcpoihjpaa
