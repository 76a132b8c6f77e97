/- The reader's Vec. -/
import Derived.Test.YthodogcpoihjpaaR4
namespace Go.Proofs.Ythodogcpoihjpaa
open Go.RowKit
theorem RAt.far {w x y : World} {R : Nat} {A : Option Addr} {c c' : Nat} {bs : List Nat} {at0 at_ : Nat} {e0 e : Int} (h0 : RAt w R A c' bs at0 e0) (h : RAt x R A c bs at_ e) (hk : ∀ k, k < w.heap.size → y.heap[k]? = x.heap[k]?) : RAt y R A c bs at_ e := by
  obtain ⟨cs, h1, h2, h3⟩ := h.row
  refine ⟨⟨cs, (hk R h0.row.lt).trans h1, h2, h3⟩, ⟨h.by_.lt, fun hp => ?_⟩, h.le, h.cap, h.some_⟩
  obtain ⟨b, o, e, hb, hc⟩ := h.by_.at_ hp
  obtain ⟨b', o', e', _, hc'⟩ := h0.by_.at_ hp
  rw [e] at e'
  injection e' with e'
  injection e' with e1 e2
  subst e1 e2
  exact ⟨b, o, e, hb, fun j hj => (World.cell?_of_block (w := x) (a := ⟨b, o + j, none⟩) (hk b (World.block_lt_of_cell? w _ (hc' j hj)))).trans (hc j hj)⟩
theorem vecB_pre (f : Nat → Nat) (i : Nat) : ∀ m, ∃ t, vecB f (i + m) = vecB f i ++ t
  | 0 => ⟨[], by simp⟩
  | m + 1 => by
    obtain ⟨t, h⟩ := vecB_pre f i m
    exact ⟨t ++ numB (f (i + m)), by rw [← Nat.add_assoc, vecB_succ, h, List.append_assoc]⟩
theorem vecB_at (f : Nat → Nat) {i : Nat} (hi : i < 8) : ∃ t, vecB f 8 = vecB f i ++ (numB (f i) ++ t) := by
  obtain ⟨t, h⟩ := vecB_pre f (i + 1) (8 - (i + 1))
  have e : i + 1 + (8 - (i + 1)) = 8 := by omega
  rw [e, vecB_succ f i, List.append_assoc] at h
  exact ⟨t, h⟩
def upTo (f : Nat → Nat) (i j : Nat) : Nat := if j < i then f j else 0
/-- What the loop keeps. -/
structure VI (w : World) (R : Nat) (A : Option Addr) (c : Nat) (bs : List Nat) (at_ : Nat) (f : Nat → Nat) (i : Nat) (wr : World) : Prop where
  zero : wr.rowIs w.heap.size 32 8 (fun _ => .int .u64 0)
  got : wr.rowIs (w.heap.size + 1) 32 8 (fun j => .int .u64 ((upTo f i j : Nat) : Int))
  rd : RAt wr R A c bs (at_ + (vecB f i).length) 0
  grown : w.grownBy wr (some R)
theorem VI.next {w wr w1 : World} {R : Nat} {A : Option Addr} {c : Nat} {bs : List Nat} {at_ : Nat} {f : Nat → Nat} {i : Nat} (h0 : RAt w R A c bs at_ 0) (I : VI w R A c bs at_ f i wr) (h1 : RAt w1 R A c bs (at_ + (vecB f i).length + (numB (f i)).length) 0) (hg : wr.grownBy w1 (some R)) :
    VI w R A c bs at_ f (i + 1) (w1.setCell ⟨w.heap.size + 1, i, none⟩ (.int .u64 (f i : Nat))) := by
  have hR := h0.row.lt
  refine ⟨(row_only I.zero hg (by omega)).setOther (by simp) _, ((row_only I.got hg (by omega)).set i _).congr fun j hj => ?_, ?_, only_setCell (only_trans I.grown hg) (.inr (by simp)) _⟩
  · by_cases e : j = i
    · subst e
      simp [upTo]
    · rw [if_neg e]
      unfold upTo
      congr 3
      exact propext ⟨fun _ => by omega, fun _ => by omega⟩
  · have h2 : RAt w1 R A c bs (at_ + (vecB f (i + 1)).length) 0 := by
      rw [vecB_succ, List.length_append, ← Nat.add_assoc]; exact h1
    exact RAt.far h0 h2 fun k hk => Below.heap_setCell _ _ _ _ (by simp; omega)
theorem VI.start {w : World} {R : Nat} {A : Option Addr} {c : Nat} {bs : List Nat} {at_ : Nat} (f : Nat → Nat) (h0 : RAt w R A c bs at_ 0) :
    VI w R A c bs at_ f 0 ((w.alloc (.cells (Array.replicate 8 (.int .u64 0)) 32)).alloc (.cells (Array.replicate 8 (.int .u64 0)) 32)) := by
  have hz : ∀ i, i < (Array.replicate 8 (Value.int .u64 0)).size → (Array.replicate 8 (Value.int .u64 0))[i]? = some ((fun _ : Nat => Value.int .u64 0) i) := by intro i hi; rw [Array.getElem?_eq_getElem hi]; simp
  have hb : Below w.heap.size w ((w.alloc (.cells (Array.replicate 8 (.int .u64 0)) 32)).alloc (.cells (Array.replicate 8 (.int .u64 0)) 32)) := (below1 w _).alloc (by rw [show (w.alloc _).heap.size = w.heap.size + 1 from Array.size_push _]; omega) _
  refine ⟨?_, ?_, h0.only hb, only_below hb _⟩
  · have h := World.rowIs_alloc w (Array.replicate 8 (.int .u64 0)) 32 _ hz
    simpa using h.alloc _
  · have h := World.rowIs_alloc (w.alloc (.cells (Array.replicate 8 (.int .u64 0)) 32)) (Array.replicate 8 (.int .u64 0)) 32 _ hz
    simpa [upTo] using h
set_option maxHeartbeats 1000000 in
theorem rvec_ok (f : Nat → Nat) (w : World) (R : Nat) (A : Option Addr) (c : Nat) (bs rest : List Nat) (at_ : Nat) (hf : ∀ i, i < 8 → f i < 18446744073709551616) (h : RAt w R A c bs at_ 0) (hs : bs.length ≤ 1000000) (hb : bs.drop at_ = vecB f 8 ++ rest) :
    Calls Try.prog 19 #[.pointer (some ⟨R, 0, none⟩)] w fun r w' => r = .returned (.agg (arrOf .u64 8 f)) ∧ RAt w' R A c bs (at_ + (vecB f 8).length) 0 ∧ w.grownBy w' (some R) := by
  have H0 := Lib.hid h
  have HB := Lib.hid hb
  have HF := Lib.hid hf
  have s32 : ∀ {f : Nat → Nat}, Hid ((Try.prog.info? 32).map (·.size) = some (arrOf .u64 8 f).size) := fun {f} => by rw [arrOf_size]; exact size32
  have ss : ∀ {f g : Nat → Nat}, Hid ((arrOf .u64 8 f).size = (arrOf .u64 8 g).size) := fun {f g} => by rw [arrOf_size, arrOf_size]; exact rfl
  have HI0 := Lib.hid (VI.start f h)
  clear h hb hf
  go_enter Try.func19, Try.ntmps19
  go_wp2
  go_loopw [5] (fun v wr => ∃ i : Nat, i ≤ 8 ∧ v = .int .i64 i ∧ Hid (VI w R A c bs at_ f i wr)) (fun v _ => 8 - (intOf v).toNat)
  case atStart => exact ⟨0, by omega, rfl, HI0⟩
  case round =>
    clear HI0
    obtain ⟨i, hi, rfl, HI⟩ := hrel
    by_cases hlt : i < 8
    · obtain ⟨t, ht⟩ := vecB_at f hlt
      have hd : bs.drop (at_ + (vecB f i).length) = numB (f i) ++ (t ++ rest) := by
        rw [← List.drop_drop, HB.out, ht, List.append_assoc, List.drop_left, List.append_assoc]
      have HC := Lib.hid (rnum_ok (f i) wr R A c bs (t ++ rest) _ (HF.out i hlt) HI.out.rd hs hd)
      clear ht hd
      go_wp2_with (go_at_call 11; refine HC.out.mono ?_; rintro e w1 ⟨rfl, hr1, hg1⟩
                   have HN := Lib.hid (VI.next H0.out HI.out hr1 hg1)
                   have hrw := row_only HI.out.got hg1 (by have := H0.out.row.lt; omega)
                   have f1 := hrw.frozen i
                   have c1 := hrw.cell hlt
                   clear hr1 hg1 hrw)
      go_roundw
      case rel => exact ⟨i + 1, by omega, by go_num, HN⟩
      case measure => simp [intOf]; omega
    · obtain rfl : i = 8 := by omega
      have hz0 := Lib.hid (row_arr (f := fun _ => 0) HI.out.zero)
      have hz := Lib.hid (row_arr (HI.out.got.congr (g := fun j => .int .u64 ((f j : Nat) : Int)) fun j hj => by simp [upTo, hj]))
      have HE := Lib.hid (err_any wr R A c bs _ 0 HI.out.rd)
      have HG : Hid (w.grownBy (wr.setRow w.heap.size (arrOf .u64 8 f)) (some R)) := Lib.hid (let b := below_setRow' (Below.refl w.heap.size wr) (Nat.le_refl _) (arrOf .u64 8 f); ⟨b.os.trans HI.out.grown.os, b.tape.trans HI.out.grown.tape, b.output.trans HI.out.grown.output, Nat.le_trans HI.out.grown.size b.size, fun k hk hn => (b.block k hk).trans (HI.out.grown.block k hk hn)⟩)
      have HR : Hid (RAt (wr.setRow w.heap.size (arrOf .u64 8 f)) R A c bs (at_ + (vecB f 8).length) 0) := Lib.hid (RAt.far H0.out HI.out.rd fun k hk => (below_setRow' (Below.refl w.heap.size wr) (Nat.le_refl _) (arrOf .u64 8 f)).block k hk)
      clear HI
      go_wp2_with (first
        | (go_at_call 31; refine HE.out.mono ?_; rintro r w' ⟨rfl, ew⟩; obtain rfl := ew.symm)
        | (refine wpList_load_row rfl 32 _ rfl (w.heap.size + 1) rfl 32 _ (0, 0) _ hz.out Try.underlying32 rfl s32.out ?_)
        | (refine wpList_store_row rfl 32 _ _ rfl w.heap.size (arrOf .u64 8 f) rfl rfl 32 _ hz0.out s32.out ss.out (arrOf_one _ _ _) ?_)
        | (refine bodyPost_ret (results_cell_row Try.results19 _ _ w.heap.size 32 _ (0, 0) _ rfl (setRow_heap _ _ _ _ _ _ hz0.out) Try.underlying32 rfl s32.out) rfl ⟨rfl, HR.out, HG.out⟩))
end Go.Proofs.Ythodogcpoihjpaa
