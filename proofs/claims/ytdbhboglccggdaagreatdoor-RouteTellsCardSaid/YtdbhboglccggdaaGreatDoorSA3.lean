/- The contract of (*run).fill. -/
import Derived.Test.YtdbhboglccggdaaGreatDoorSA2
import Derived.Deep.RegionLaw
set_option linter.unusedVariables false
set_option linter.unusedSimpArgs false
namespace Go.Proofs.YtdbhboglccggdaaGreatDoor
open Go.RowKit

theorem size5 : (Tryz.prog.info? 5).map (·.size) = some 1 := by kernel_rfl
/-- The digest under way that lies in block B. -/
def RunAt (w : World) (B : Nat) (s : Sha.St) (n : Nat) : Prop := w.rowIs B 154 75 (runF s.h s.b s.f n s.k)
def lenOf : Value → Nat | .slice _ n _ => n | _ => 0

theorem mix_at (B : Nat) (s : Sha.St) (n : Nat) (hs : ∀ i, s.h i < 4294967296) (hb : ∀ i, s.b i < 256) (w : World) (ht : Tabs w) (hB : 2 ≤ B) (hr : RunAt w B s n) :
    Calls Tryz.prog 142 #[.pointer (some ⟨B, 0, none⟩)] w fun e w' => e = .returned (.tuple #[]) ∧ RunAt w' B ⟨Sha.mix s.h s.b, s.b, s.f, (s.k + 1) % 18446744073709551616⟩ n ∧ w.grownBy w' (some B) :=
  mix_any B s.h s.b s.f n s.k hs hb w ht hB hr

structure FInv (w : World) (B n : Nat) (s0 : Sha.St) (xs ys : List Nat) (A : Option Addr) (s : Sha.St) (wr : World) : Prop where
  bytes : Bytes wr (· ≠ B) A ys
  fold : ys.foldl Sha.absorb s = xs.foldl Sha.absorb s0
  ok : s.Ok
  run : RunAt wr B s n
  only : w.grownBy wr (some B)

theorem FInv.next {w : World} {B n : Nat} {s0 : Sha.St} {xs ys : List Nat} {A : Option Addr} {s : Sha.St} {wr w' : World} (I : FInv w B n s0 xs ys A s wr) {m c : Nat} (hm : m ≤ ys.length) (hc : ys.length ≤ c) {s' : Sha.St}
    (hs' : s' = (ys.take m).foldl Sha.absorb s) (hrun : RunAt w' B s' n) (hg : wr.grownBy w' (some B)) : FInv w B n s0 xs (ys.drop m) (cutA A c m) s' w' := by
  subst hs'
  refine ⟨(I.bytes.cut hm hc).only hg, ?_, Sha.absorbs_ok _ _ I.ok fun x hx => I.bytes.lt x (List.mem_of_mem_take hx), hrun, only_trans I.only hg⟩
  rw [← I.fold, ← List.foldl_append, List.take_append_drop]
theorem laid_run {w3 : World} {B n : Nat} {s : Sha.St} {zs : List Nat} {cs : List Value} (hcs : cs = zs.map fun x => Value.int .u8 ((x : Nat) : Int)) (hfit : s.f + zs.length ≤ 64)
    (hr : w3.rowIs B 154 75 (fun i => if 8 + s.f ≤ i ∧ i < 8 + s.f + cs.length then cs.getD (i - (8 + s.f)) undef else runF s.h s.b s.f n s.k i)) {x : Int} (hx : x = ((s.f + zs.length : Nat) : Int)) :
    RunAt (w3.setCell ⟨B, 72, none⟩ (.int .i64 x)) B ⟨s.h, Sha.lay s.b s.f zs, s.f + zs.length, s.k⟩ n := by
  subst hx hcs
  refine (hr.set 72 _).congr fun i hi => ?_
  simp only [List.length_map]
  by_cases h72 : i = 72
  · subst h72
    rw [if_pos rfl]
    simp [runF]
  · rw [if_neg h72]
    by_cases h : 8 + s.f ≤ i ∧ i < 8 + s.f + zs.length
    · rw [if_pos h]
      simp only [runF, if_neg (show ¬ i < 8 by omega), if_pos (show i < 72 by omega), Sha.lay, if_pos (show s.f ≤ i - 8 ∧ i - 8 < s.f + zs.length by omega)]
      have hj : i - (8 + s.f) < zs.length := by omega
      rw [show i - 8 - s.f = i - (8 + s.f) by omega]
      simp [List.getD_eq_getElem?_getD, hj]
    · rw [if_neg h]
      simp only [runF]
      by_cases h8 : i < 8
      · simp only [if_pos h8]
      · simp only [if_neg h8]
        by_cases h7 : i < 72
        · simp only [if_pos h7, Sha.lay]
          rw [if_neg (by omega)]
        · simp only [if_neg h7, if_neg h72]
theorem zero_run {w : World} {B n : Nat} {s : Sha.St} (hr : RunAt w B s n) : RunAt (w.setCell ⟨B, 72, none⟩ (.int .i64 0)) B ⟨s.h, s.b, 0, s.k⟩ n := by
  refine (hr.set 72 _).congr fun i hi => ?_
  by_cases h72 : i = 72
  · subst h72
    rw [if_pos rfl]
    simp [runF]
  · rw [if_neg h72]
    simp only [runF, if_neg h72]

set_option maxRecDepth 100000 in
set_option maxHeartbeats 2000000 in
theorem fill_any (B n c : Nat) (s0 : Sha.St) (xs : List Nat) (A0 : Option Addr) (w : World) (ht : Tabs w) (hB : 2 ≤ B) (hr : RunAt w B s0 n) (hs : s0.Ok)
    (hx : Bytes w (· ≠ B) A0 xs) (hc : xs.length ≤ c) (hm : xs.length ≤ maxLen) :
    Calls Tryz.prog 131 #[.pointer (some ⟨B, 0, none⟩), .slice A0 xs.length c] w fun e w' => e = .returned (.tuple #[]) ∧ RunAt w' B (xs.foldl Sha.absorb s0) n ∧ w.grownBy w' (some B) := by
  unfold maxLen at hm
  have HT := Lib.hid ht
  have HF : Hid (FInv w B n s0 xs xs A0 s0 w) := ⟨hx, rfl, hs, hr, only_refl _ _⟩
  clear ht hr hs hx
  go_enter Tryz.func131, Tryz.ntmps131
  go_wp2
  go_loopw [1] (fun v wr => ∃ (ys : List Nat) (A : Option Addr) (c : Nat) (s : Sha.St), v = .slice A ys.length c ∧ ys.length ≤ c ∧ ys.length ≤ 9223372036854775807 ∧ Hid (FInv w B n s0 xs ys A s wr)) (fun v _ => lenOf v)
  case atStart => exact ⟨xs, A0, c, s0, rfl, hc, hm, HF⟩
  case round =>
    clear HF
    obtain ⟨ys, A, c', s, rfl, hc', hm', HF⟩ := hrel
    by_cases h0 : ys.length = 0
    · have hnil : ys = [] := List.eq_nil_of_length_eq_zero h0
      subst hnil
      go_wp2
      go_end0
      exact ⟨rfl, by rw [← HF.out.fold]; exact HF.out.run, HF.out.only⟩
    · have hpos : (0 : Int) < (ys.length : Int) := by omega
      have hf := HF.out.ok.f
      obtain ⟨bb, oo, hA, hbb, hcell⟩ := HF.out.bytes.at_ (by omega)
      subst hA
      have c72 := HF.out.run.cell (i := 72) (by omega)
      have f72 := HF.out.run.frozen 72
      simp only [runF, Nat.reduceLT, Nat.reduceEqDiff, if_false, if_true] at c72
      have hsl := fun W => run_sliceAt_arr (P := Tryz.prog) 152 5 64 Tryz.underlying152 size5 B 8 s.f hf W
      have HC := Lib.hid hcell
      clear hcell
      generalize hL : ys.length = L at *
      have HL := Lib.hid hL
      clear hL
      obtain ⟨m, hmin⟩ : ∃ m, m = min L (64 - s.f) := ⟨_, rfl⟩
      have m1 : m ≤ L := by omega
      have m2 : m ≤ 64 - s.f := by omega
      have m3 : 0 < m := by omega
      obtain ⟨cs, hcs⟩ : ∃ cs : List Value, cs = (ys.take m).map fun x => Value.int .u8 ((x : Nat) : Int) := ⟨_, rfl⟩
      have lcs : cs.length = m := by rw [hcs, List.length_map, List.length_take, HL.out]; omega
      have Hn : Hid (cs.length = Nat.min L (64 - s.f)) := by rw [lcs]; exact hmin
      have Hfit : Hid (8 + s.f + cs.length ≤ 75) := by show _ ≤ _; rw [lcs]; omega
      have Hone : Hid (∀ v ∈ cs, v.oneCell' = true) := by
        rw [hcs]
        intro v hv
        obtain ⟨x, _, rfl⟩ := List.mem_map.1 hv
        rfl
      have Hsrc : Hid (∀ j v, cs[j]? = some v → wr.cell? ⟨bb, oo + j, none⟩ = some v) := by
        intro j v hv
        have hj : j < m := by rw [← lcs]; exact (List.getElem?_eq_some_iff.1 hv).1
        rw [HC.out j (by omega), ← hv, hcs]
        have h3 : j < ys.length := by rw [HL.out]; omega
        simp [hj, List.getD_eq_getElem?_getD, h3]
      have Hlen := Lib.hid lcs
      have Hmin := Lib.hid hmin
      have Hcs := Lib.hid hcs
      clear lcs hmin hcs
      go_wp2
      go_region_law (refine step_copy_rowIs rfl (.tmp 15) (.tmp 16) 95 95 rfl 5 Tryz.underlying95 size5 B (8 + s.f) (64 - s.f) (64 - s.f) bb oo L c' rfl rfl 154 75 _ (show _ from HF.out.run) cs Hn.out (show _ from Hsrc.out) Hfit.out Hone.out ?_; intro w3 hr3 hg3; rw [Hlen.out])
      have hsl2 := fun W => run_sliceAt_from (P := Tryz.prog) 95 5 Tryz.underlying95 size5 (some ⟨bb, oo, none⟩) L c' m m1 W
      have d72 : w3.cell? ⟨B, 72, none⟩ = some (.int .i64 (s.f : Int)) := by
        rw [hr3.out.cell (i := 72) (by omega)]
        rw [Hlen.out, if_neg (by omega)]
        simp [runF]
      have g72 : w3.frozen? ⟨B, 72, none⟩ = false := hr3.out.frozen 72
      clear hsl c72 f72
      by_cases h64 : s.f + m = 64
      · have e64 : ((s.f : Int) + (m : Int) == 64) = true := by rw [beq_iff_eq]; omega
        have H64 := Lib.hid h64
        clear h64
        have HW : Hid (RunAt (w3.setCell ⟨B, 72, none⟩ (.int .i64 ((s.f : Int) + (m : Int)))) B ⟨s.h, Sha.lay s.b s.f (ys.take m), s.f + (ys.take m).length, s.k⟩ n) :=
          laid_run Hcs.out (by rw [List.length_take, HL.out]; omega) hr3.out (by rw [List.length_take, HL.out]; omega)
        have HG := Lib.hid (only_setCell (a := wr) (g := B) (p := ⟨B, 72, none⟩) (only_from_drew hg3.out) (.inl rfl) (.int .i64 ((s.f : Int) + (m : Int))))
        have HT4 : Hid (Tabs (w3.setCell ⟨B, 72, none⟩ (.int .i64 ((s.f : Int) + (m : Int))))) := (HT.out.only HF.out.only hB).only HG.out hB
        go_wp2_with fail
        refine (mix_at B ⟨s.h, Sha.lay s.b s.f (ys.take m), s.f + (ys.take m).length, s.k⟩ n HF.out.ok.h (Sha.lay_lt HF.out.ok.b fun x hx => HF.out.bytes.lt x (List.mem_of_mem_take hx)) _ HT4.out hB HW.out).mono ?_
        rintro e w5 ⟨rfl, hr5, hg5⟩
        have HR5 := Lib.hid hr5
        have HG5 := Lib.hid hg5
        clear hr5 hg5
        have d5 : w5.cell? ⟨B, 72, none⟩ = some (.int .i64 64) := by
          have h6 : s.f + (ys.take m).length = 64 := by rw [List.length_take, HL.out, ← H64.out]; omega
          rw [HR5.out.cell (i := 72) (by omega)]
          simp only [runF, Nat.reduceLT, if_false, if_true, h6]
          rfl
        have g5 : w5.frozen? ⟨B, 72, none⟩ = false := HR5.out.frozen 72
        go_wp2_with fail
        go_roundw
        case rel =>
          refine ⟨ys.drop m, _, _, (ys.take m).foldl Sha.absorb s, by rw [List.length_drop, HL.out], by rw [List.length_drop, HL.out]; omega, by rw [List.length_drop, HL.out]; omega, ?_⟩
          have hl : (ys.take m).length = m := by rw [List.length_take, HL.out]; omega
          refine HF.out.next (by rw [HL.out]; exact m1) (by rw [HL.out]; exact hc') rfl ?_ (only_setCell (p := ⟨B, 72, none⟩) (only_trans HG.out HG5.out) (.inl rfl) _)
          rw [Sha.absorb_full _ _ hf (by rw [hl]; exact H64.out)]
          exact zero_run HR5.out
        case measure => simp [lenOf]; omega
      · have e64 : ((s.f : Int) + (m : Int) == 64) = false := by rw [beq_eq_false_iff_ne]; omega
        have H64 := Lib.hid h64
        clear h64
        have HW : Hid (RunAt (w3.setCell ⟨B, 72, none⟩ (.int .i64 ((s.f : Int) + (m : Int)))) B ⟨s.h, Sha.lay s.b s.f (ys.take m), s.f + (ys.take m).length, s.k⟩ n) :=
          laid_run Hcs.out (by rw [List.length_take, HL.out]; omega) hr3.out (by rw [List.length_take, HL.out]; omega)
        have HG := Lib.hid (only_setCell (a := wr) (g := B) (p := ⟨B, 72, none⟩) (only_from_drew hg3.out) (.inl rfl) (.int .i64 ((s.f : Int) + (m : Int))))
        go_wp2_with fail
        go_roundw
        case rel =>
          refine ⟨ys.drop m, _, _, (ys.take m).foldl Sha.absorb s, by rw [List.length_drop, HL.out], by rw [List.length_drop, HL.out]; omega, by rw [List.length_drop, HL.out]; omega, ?_⟩
          have hl : (ys.take m).length = m := by rw [List.length_take, HL.out]; omega
          refine HF.out.next (by rw [HL.out]; exact m1) (by rw [HL.out]; exact hc') rfl ?_ HG.out
          have := H64.out
          rw [Sha.absorb_few _ _ (by rw [hl]; omega)]
          exact HW.out
        case measure => simp [lenOf]; omega
end Go.Proofs.YtdbhboglccggdaaGreatDoor
