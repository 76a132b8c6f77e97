/- The reader's Vec and Digest at bytes that may be cut. -/
import Derived.Test.YthodogcpoihjpaaS2
namespace Go.Proofs.Ythodogcpoihjpaa
open Go.RowKit
theorem vecB_tail (f : Nat → Nat) (i : Nat) (hi : i ≤ 8) : ∃ t, vecB f 8 = vecB f i ++ t := by
  obtain ⟨t, h⟩ := vecB_pre f i (8 - i)
  have e : i + (8 - i) = 8 := by omega
  rw [e] at h
  exact ⟨t, h⟩
/-- What the loop keeps: of the vector the places below i are read, or not there. -/
structure CI (w : World) (R : Nat) (A : Option Addr) (c : Nat) (bs T : List Nat) (f : Nat → Nat) (i : Nat) (wr : World) : Prop where
  zero : wr.rowIs w.heap.size 32 8 (fun _ => .int .u64 0)
  got : ∃ g : Nat → Nat, (∀ j, g j < 18446744073709551616) ∧ wr.rowIs (w.heap.size + 1) 32 8 (fun j => .int .u64 ((g j : Nat) : Int))
  rd : ∃ t, vecB f 8 = vecB f i ++ t ∧ Cut R A c bs (t ++ T) wr
  grown : w.grownBy wr (some R)
theorem CI.next {w wr w1 : World} {R : Nat} {A : Option Addr} {c : Nat} {bs T t ws : List Nat} {f g : Nat → Nat} {i m : Nat} (h0 : Cut R A c bs ws w) (I : CI w R A c bs T f i wr) (hg1 : ∀ j, g j < 18446744073709551616) (hrow : wr.rowIs (w.heap.size + 1) 32 8 (fun j => .int .u64 ((g j : Nat) : Int)))
    (hm : m < 18446744073709551616) (ht : vecB f 8 = vecB f (i + 1) ++ t) (h1 : Cut R A c bs (t ++ T) w1) (hg : wr.grownBy w1 (some R)) :
    CI w R A c bs T f (i + 1) (w1.setCell ⟨w.heap.size + 1, i, none⟩ (.int .u64 (m : Int))) := by
  have hR := h0.lt
  refine ⟨(row_only I.zero hg (by omega)).setOther (by simp) _, ⟨fun j => if j = i then m else g j, fun j => by (show (if j = i then m else g j) < _); by_cases e : j = i; (rw [if_pos e]; exact hm); (rw [if_neg e]; exact hg1 j), ((row_only hrow hg (by omega)).set i _).congr fun j hj => ?_⟩, ⟨t, ht, h0.far h1 fun k hk => Below.heap_setCell _ _ _ _ (by simp; omega)⟩, only_setCell (only_trans I.grown hg) (.inr (by simp)) _⟩
  by_cases e : j = i
  · simp [e]
  · simp [e]
theorem CI.start {w : World} {R : Nat} {A : Option Addr} {c : Nat} {bs T : List Nat} (f : Nat → Nat) (h0 : Cut R A c bs (vecB f 8 ++ T) w) :
    CI w R A c bs T f 0 ((w.alloc (.cells (Array.replicate 8 (.int .u64 0)) 32)).alloc (.cells (Array.replicate 8 (.int .u64 0)) 32)) := by
  have hz : ∀ i, i < (Array.replicate 8 (Value.int .u64 0)).size → (Array.replicate 8 (Value.int .u64 0))[i]? = some ((fun _ : Nat => Value.int .u64 0) i) := by intro i hi; rw [Array.getElem?_eq_getElem hi]; simp
  have hb : Below w.heap.size w ((w.alloc (.cells (Array.replicate 8 (.int .u64 0)) 32)).alloc (.cells (Array.replicate 8 (.int .u64 0)) 32)) := (below1 w _).alloc (by rw [show (w.alloc _).heap.size = w.heap.size + 1 from Array.size_push _]; omega) _
  refine ⟨?_, ⟨fun _ => 0, fun _ => (by omega : (0 : Nat) < 18446744073709551616), ?_⟩, ⟨vecB f 8, by simp [vecB], h0.far h0 fun k hk => hb.block k hk⟩, only_below hb _⟩
  · have h := World.rowIs_alloc w (Array.replicate 8 (.int .u64 0)) 32 _ hz
    simpa using h.alloc _
  · have h := World.rowIs_alloc (w.alloc (.cells (Array.replicate 8 (.int .u64 0)) 32)) (Array.replicate 8 (.int .u64 0)) 32 _ hz
    simpa using h
set_option maxHeartbeats 2000000 in
theorem rvec_cut (f : Nat → Nat) (T : List Nat) (w : World) (R : Nat) (A : Option Addr) (c : Nat) (bs : List Nat) (hf : ∀ i, i < 8 → f i < 18446744073709551616) (h : Cut R A c bs (vecB f 8 ++ T) w) (hs : bs.length ≤ 1000000) :
    Calls Try.prog 19 #[.pointer (some ⟨R, 0, none⟩)] w fun r w' => ∃ g : Nat → Nat, (∀ j, g j < 18446744073709551616) ∧ r = .returned (.agg (arrOf .u64 8 g)) ∧ Cut R A c bs T w' ∧ w.grownBy w' (some R) := by
  have H0 := Lib.hid h
  have HF := Lib.hid hf
  have s32 : ∀ {f : Nat → Nat}, Hid ((Try.prog.info? 32).map (·.size) = some (arrOf .u64 8 f).size) := fun {f} => by rw [arrOf_size]; exact size32
  have ss : ∀ {f g : Nat → Nat}, Hid ((arrOf .u64 8 f).size = (arrOf .u64 8 g).size) := fun {f g} => by rw [arrOf_size, arrOf_size]; exact rfl
  have HI0 := Lib.hid (CI.start f h)
  clear h hf
  go_enter Try.func19, Try.ntmps19
  go_wp2
  go_loopw [5] (fun v wr => ∃ i : Nat, i ≤ 8 ∧ v = .int .i64 i ∧ Hid (CI w R A c bs T f i wr)) (fun v _ => 8 - (intOf v).toNat)
  case atStart => exact ⟨0, by omega, rfl, HI0⟩
  case round =>
    clear HI0
    obtain ⟨i, hi, rfl, HI⟩ := hrel
    obtain ⟨g, hg, hrow⟩ := HI.out.got
    obtain ⟨t, ht, hcut⟩ := HI.out.rd
    have HG := Lib.hid hg
    have HRow := Lib.hid hrow
    by_cases hlt : i < 8
    · obtain ⟨t', ht'⟩ := vecB_tail f (i + 1) (by omega)
      have e : t = numB (f i) ++ t' := by
        rw [ht, vecB_succ, List.append_assoc] at ht'
        exact List.append_cancel_left ht'
      rw [e, List.append_assoc] at hcut
      have HC := Lib.hid (rnum_cut (f i) (t' ++ T) wr R A c bs (HF.out i hlt) hcut hs)
      have HT := Lib.hid ht'
      clear ht ht' e hcut hg hrow
      go_wp2_with (go_at_call 11; refine HC.out.mono ?_; rintro e w1 ⟨m, hm, rfl, hr1, hg1⟩
                   have HN := Lib.hid (CI.next H0.out HI.out HG.out HRow.out hm HT.out hr1 hg1)
                   have hrw := row_only HRow.out hg1 (by have := H0.out.lt; omega)
                   have f1 := hrw.frozen i
                   have c1 := hrw.cell hlt
                   clear hr1 hg1 hrw hm)
      go_roundw
      case rel => exact ⟨i + 1, by omega, by go_num, HN⟩
      case measure => simp [intOf]; omega
    · obtain rfl : i = 8 := by omega
      have ht0 : t = [] := by
        have := congrArg List.length ht
        rw [List.length_append] at this
        exact List.eq_nil_of_length_eq_zero (by omega)
      rw [ht0, List.nil_append] at hcut
      have hz0 := Lib.hid (row_arr (f := fun _ => 0) HI.out.zero)
      have hz := Lib.hid (row_arr hrow)
      have HGR := Lib.hid (fun q : Nat → Nat => (let b := below_setRow' (Below.refl w.heap.size wr) (Nat.le_refl _) (arrOf .u64 8 q); (⟨b.os.trans HI.out.grown.os, b.tape.trans HI.out.grown.tape, b.output.trans HI.out.grown.output, Nat.le_trans HI.out.grown.size b.size, fun k hk hn => (b.block k hk).trans (HI.out.grown.block k hk hn)⟩ : w.grownBy (wr.setRow w.heap.size (arrOf .u64 8 q)) (some R))))
      have HCU := Lib.hid (fun q : Nat → Nat => H0.out.far hcut (y := wr.setRow w.heap.size (arrOf .u64 8 q)) fun k hk => (below_setRow' (Below.refl w.heap.size wr) (Nat.le_refl _) (arrOf .u64 8 q)).block k hk)
      obtain ⟨a, e, hrd, he⟩ : ∃ a e, RAt wr R A c bs a e ∧ (e = 0 ∨ e = 8) := by
        rcases hcut with ⟨a, h⟩ | ⟨a, _, h, _⟩
        · exact ⟨a, 8, h, .inr rfl⟩
        · exact ⟨a, 0, h, .inl rfl⟩
      have HE := Lib.hid (err_any wr R A c bs a e hrd)
      have HZ8 : Hid ((0 : Nat) < 18446744073709551616) := Lib.hid (by omega)
      clear HI ht ht0 hcut hrd hg hrow
      have b8 : Try.prog.built 32 [] = some (arrOf .u64 8 fun _ => 0) := by kernel_rfl
      rcases he with rfl | rfl
      · go_wp2_with (first
          | (go_at_call 31; refine HE.out.mono ?_; rintro r w' ⟨rfl, ew⟩; obtain rfl := ew.symm)
          | (refine wpList_load_row rfl 32 _ rfl (w.heap.size + 1) rfl 32 _ (0, 0) _ hz.out Try.underlying32 rfl s32.out ?_)
          | (refine wpList_store_row rfl 32 _ _ rfl w.heap.size (arrOf .u64 8 g) rfl rfl 32 _ hz0.out s32.out ss.out (arrOf_one _ _ _) ?_)
          | (refine bodyPost_ret (results_cell_row Try.results19 _ _ w.heap.size 32 _ (0, 0) _ rfl (setRow_heap _ _ _ _ _ _ hz0.out) Try.underlying32 rfl s32.out) rfl ⟨g, HG.out, rfl, HCU.out g, HGR.out g⟩))
      · go_wp2_with (first
          | (go_at_call 31; refine HE.out.mono ?_; rintro r w' ⟨rfl, ew⟩; obtain rfl := ew.symm)
          | (refine wpList_build rfl 32 #[] rfl (by rw [b8]; rfl) ?_; simp only [b8])
          | (refine wpList_store_row rfl 32 _ _ rfl w.heap.size (arrOf .u64 8 fun _ => 0) rfl rfl 32 _ hz0.out s32.out ss.out (arrOf_one _ _ _) ?_)
          | (refine bodyPost_ret (results_cell_row Try.results19 _ _ w.heap.size 32 _ (0, 0) _ rfl (setRow_heap _ _ _ _ _ _ hz0.out) Try.underlying32 rfl s32.out) rfl ⟨fun _ => 0, fun _ => HZ8.out, rfl, HCU.out (fun _ => 0), HGR.out (fun _ => 0)⟩))
end Go.Proofs.Ythodogcpoihjpaa
