/- The reader's Digest. -/
import Derived.Test.YthodogcpoihjpaaR5
namespace Go.Proofs.Ythodogcpoihjpaa
open Go.RowKit
theorem size30e {f : Nat → Nat} : (Try.prog.info? 30).map (·.size) = some (arrOf .u8 32 f).size := by rw [arrOf_size]; exact size30
theorem dig_row (d : Nat → Nat) : ints8 (digB d) = (arrOf .u8 32 d).toList := by
  apply List.ext_getElem?
  intro i
  rcases Nat.lt_or_ge i 32 with h | h
  · have e : (arrOf .u8 32 d).toList[i]? = some (.int .u8 ((d i : Nat) : Int)) := Array.getElem?_toList.trans (arrOf_get .u8 d h)
    rw [e]
    simp [ints8, digB, h]
  · have e : (arrOf .u8 32 d).toList[i]? = none := Array.getElem?_toList.trans (Array.getElem?_eq_none (by rw [arrOf_size]; exact h))
    rw [e, List.getElem?_eq_none (by rw [ints8_length, dig_len]; exact h)]
theorem copy_dig (x : World) (V b so : Nat) (d : Nat → Nat) (hV : x.heap[V]? = some (.cells (arrOf .u8 32 fun _ => 0) 30 (0, 0))) (hb : ∀ j, j < 32 → x.cell? ⟨b, so + j, none⟩ = some (.int .u8 ((d j : Nat) : Int))) (ty : TypeId) :
    (Builtin.copy_ #[24, 24] ty #[.slice (some ⟨V, 0, none⟩) 32 32, .slice (some ⟨b, so, none⟩) 32 32]).run Try.prog x = .ok (.int .i64 32) (x.setRow V (arrOf .u8 32 d)) := by
  have hl : (ints8 (digB d)).length = 32 := by rw [ints8_length, dig_len]
  have h := run_copy_row Try.prog x 24 24 ty 5 V 0 32 32 ⟨b, so, none⟩ 32 32 _ 30 (ints8 (digB d)) Try.underlying24 size5 hV (by rw [hl]; rfl)
    (fun j v hv => by
      rcases Nat.lt_or_ge j 32 with hj | hj
      · have e : (arrOf .u8 32 d).toList[j]? = some (.int .u8 ((d j : Nat) : Int)) := Array.getElem?_toList.trans (arrOf_get .u8 d hj)
        rw [dig_row, e] at hv
        injection hv with hv
        rw [Addr.add_mid, hb j hj, hv]
      · have e : (ints8 (digB d))[j]? = none := List.getElem?_eq_none (by rw [hl]; exact hj)
        rw [e] at hv
        cases hv) (by rw [hl, arrOf_size]; omega) (fun v hv => by simp only [ints8, List.mem_map] at hv; obtain ⟨z, _, rfl⟩ := hv; rfl)
  rw [h, hl]
  congr 2
set_option maxHeartbeats 1000000 in
theorem rdig_ok (d : Nat → Nat) (w : World) (R : Nat) (A : Option Addr) (c : Nat) (bs rest : List Nat) (at_ : Nat) (h : RAt w R A c bs at_ 0) (hs : bs.length ≤ 1000000) (hb : bs.drop at_ = digB d ++ rest) :
    Calls Try.prog 17 #[.pointer (some ⟨R, 0, none⟩)] w fun r w' => r = .returned (.agg (arrOf .u8 32 d)) ∧ RAt w' R A c bs (at_ + 32) 0 ∧ w.grownBy w' (some R) := by
  have hl := congrArg List.length hb
  rw [List.length_drop, List.length_append, dig_len] at hl
  have ht : (bs.drop at_).take 32 = digB d := by rw [hb]; have := dig_len d; rw [← this]; exact List.take_left
  obtain ⟨w0, hw0⟩ : ∃ w0, w0 = (w.alloc (.cells (#[.int .u8 0, .int .u8 0, .int .u8 0, .int .u8 0, .int .u8 0, .int .u8 0, .int .u8 0, .int .u8 0, .int .u8 0, .int .u8 0, .int .u8 0, .int .u8 0, .int .u8 0, .int .u8 0, .int .u8 0, .int .u8 0, .int .u8 0, .int .u8 0, .int .u8 0, .int .u8 0, .int .u8 0, .int .u8 0, .int .u8 0, .int .u8 0, .int .u8 0, .int .u8 0, .int .u8 0, .int .u8 0, .int .u8 0, .int .u8 0, .int .u8 0, .int .u8 0]) 30)).alloc (.cells (#[.int .u8 0, .int .u8 0, .int .u8 0, .int .u8 0, .int .u8 0, .int .u8 0, .int .u8 0, .int .u8 0, .int .u8 0, .int .u8 0, .int .u8 0, .int .u8 0, .int .u8 0, .int .u8 0, .int .u8 0, .int .u8 0, .int .u8 0, .int .u8 0, .int .u8 0, .int .u8 0, .int .u8 0, .int .u8 0, .int .u8 0, .int .u8 0, .int .u8 0, .int .u8 0, .int .u8 0, .int .u8 0, .int .u8 0, .int .u8 0, .int .u8 0, .int .u8 0]) 30) := ⟨_, rfl⟩
  have z32 : (#[.int .u8 0, .int .u8 0, .int .u8 0, .int .u8 0, .int .u8 0, .int .u8 0, .int .u8 0, .int .u8 0, .int .u8 0, .int .u8 0, .int .u8 0, .int .u8 0, .int .u8 0, .int .u8 0, .int .u8 0, .int .u8 0, .int .u8 0, .int .u8 0, .int .u8 0, .int .u8 0, .int .u8 0, .int .u8 0, .int .u8 0, .int .u8 0, .int .u8 0, .int .u8 0, .int .u8 0, .int .u8 0, .int .u8 0, .int .u8 0, .int .u8 0, .int .u8 0] : Array Value) = arrOf .u8 32 fun _ => 0 := by kernel_rfl
  have hb0 : Below w.heap.size w w0 := by rw [hw0]; exact (below1 w _).alloc (by rw [show (w.alloc _).heap.size = w.heap.size + 1 from Array.size_push _]; omega) _
  have hv0 : w0.heap[w.heap.size + 1]? = some (.cells (arrOf .u8 32 fun _ => 0) 30 (0, 0)) := by rw [hw0, z32, ← show (w.alloc (.cells (arrOf .u8 32 fun _ => 0) 30)).heap.size = w.heap.size + 1 from Array.size_push _]; exact heap_alloc_new _ _
  have hr0 : w0.heap[w.heap.size]? = some (.cells (arrOf .u8 32 fun _ => 0) 30 (0, 0)) := by
    rw [hw0, z32]
    have h1 := heap_alloc_new w (.cells (arrOf .u8 32 fun _ => 0) 30)
    have h2 := (below1 (w.alloc (.cells (arrOf .u8 32 fun _ => 0) 30)) (.cells (arrOf .u8 32 fun _ => 0) 30)).block w.heap.size (by rw [show (w.alloc _).heap.size = w.heap.size + 1 from Array.size_push _]; omega)
    exact h2.trans h1
  have HT := Lib.hid (take_ok w0.drew R A c bs at_ 32 (RAt.far h (h.only hb0) fun _ _ => rfl) hs (by omega))
  rw [ht] at HT
  have H0 := Lib.hid h
  have HB0 := Lib.hid hb0
  have HV0 := Lib.hid hv0
  have HR0 := Lib.hid hr0
  have HW0 := Lib.hid hw0
  have HRL := Lib.hid h.row.lt
  have hsl := fun x => sl30 (w.heap.size + 1) x
  clear h hb hl ht hb0 hv0 hr0 z32
  go_enter Try.func17, Try.ntmps17
  go_wp2_with fail
  rw [← HW0.out]
  clear hw0
  go_region_with (go_at_call 28; refine HT.out.mono ?_; rintro r w1 ⟨A1, rfl, hb1, _, hr1, hg1⟩
                  obtain ⟨b, so, e, hbR, hc1⟩ := hb1.at_ (by rw [dig_len]; omega)
                  subst e
                  have hV1 : w1.heap[w.heap.size + 1]? = some (.cells (arrOf .u8 32 fun _ => 0) 30 (0, 0)) := (hg1.block _ (Array.getElem?_eq_some_iff.1 HV0.out).1 (fun e => by have := HRL.out; injection e with e; omega)).trans HV0.out
                  have kcp := copy_dig w1 (w.heap.size + 1) b so d hV1 (fun j hj => by rw [hc1 j (by rw [dig_len]; exact hj)]; simp [digB, List.getD_eq_getElem?_getD, hj]))
  have HR1 := Lib.hid hr1
  have HG1 := Lib.hid hg1
  have HV2 := Lib.hid (setRow_heap w1 (w.heap.size + 1) _ (arrOf .u8 32 d) 30 (0, 0) hV1)
  have hR1 : w1.heap[w.heap.size]? = some (.cells (arrOf .u8 32 fun _ => 0) 30 (0, 0)) := (hg1.block _ (Array.getElem?_eq_some_iff.1 HR0.out).1 (fun e => by have := HRL.out; injection e with e; omega)).trans HR0.out
  have HR2 : Hid ((w1.setRow (w.heap.size + 1) (arrOf .u8 32 d)).heap[w.heap.size]? = some (.cells (arrOf .u8 32 fun _ => 0) 30 (0, 0))) := Lib.hid ((setRow_other w1 (w.heap.size + 1) w.heap.size _ (by omega)).trans hR1)
  have ss : ∀ {f g : Nat → Nat}, Hid ((arrOf .u8 32 f).size = (arrOf .u8 32 g).size) := fun {f g} => by rw [arrOf_size, arrOf_size]; exact rfl
  have HE : Hid (∀ k, k < w.heap.size → ((w1.setRow (w.heap.size + 1) (arrOf .u8 32 d)).setRow w.heap.size (arrOf .u8 32 d)).heap[k]? = w1.heap[k]?) := Lib.hid (fun k hk => (setRow_other _ w.heap.size k _ (by omega)).trans (setRow_other w1 (w.heap.size + 1) k _ (by omega)))
  have HZ : Hid (w1.heap.size ≤ ((w1.setRow (w.heap.size + 1) (arrOf .u8 32 d)).setRow w.heap.size (arrOf .u8 32 d)).heap.size) := Lib.hid (by rw [size_setRow, size_setRow]; exact Nat.le_refl _)
  clear hr1 hg1 hV1 hR1 kcp hc1 hb1 HT HV0 HR0
  go_wp2_with (first
    | (refine wpList_load_row rfl 30 _ rfl (w.heap.size + 1) rfl 30 _ (0, 0) _ HV2.out Try.underlying30 rfl size30e ?_)
    | (refine wpList_store_row rfl 30 _ _ rfl w.heap.size (arrOf .u8 32 d) rfl rfl 30 _ HR2.out size30e ss.out (arrOf_one _ _ _) ?_)
    | (refine bodyPost_ret (results_cell_row Try.results17 _ _ w.heap.size 30 _ (0, 0) _ rfl (setRow_heap _ _ _ _ _ _ HR2.out) Try.underlying30 rfl size30e) rfl ⟨rfl, RAt.far H0.out HR1.out HE.out, ⟨HG1.out.os.trans HB0.out.os, HG1.out.tape.trans HB0.out.tape, HG1.out.output.trans HB0.out.output, Nat.le_trans HB0.out.size (Nat.le_trans HG1.out.size HZ.out), fun k hk hn => (HE.out k hk).trans ((HG1.out.block k (Nat.lt_of_lt_of_le hk HB0.out.size) hn).trans (HB0.out.block k hk))⟩⟩))
end Go.Proofs.Ythodogcpoihjpaa
