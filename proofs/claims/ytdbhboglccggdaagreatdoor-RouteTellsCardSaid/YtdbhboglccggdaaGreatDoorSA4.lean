/- The contracts of (*run).add, end, digest. -/
import Derived.Test.YtdbhboglccggdaaGreatDoorSA3
set_option linter.unusedVariables false
set_option linter.unusedSimpArgs false
namespace Go.Proofs.YtdbhboglccggdaaGreatDoor
open Go.RowKit

theorem RunAt.setBytes {w : World} {B n n' : Nat} {s : Sha.St} (hr : RunAt w B s n) : RunAt (w.setCell ⟨B, 73, none⟩ (.int .u64 ((n' : Nat) : Int))) B s n' := by
  refine (hr.set 73 _).congr fun i hi => ?_
  by_cases h : i = 73
  · subst h
    rw [if_pos rfl]
    simp [runF]
  · rw [if_neg h]
    simp only [runF, if_neg h]

set_option maxRecDepth 100000 in
set_option maxHeartbeats 1000000 in
theorem add_any (B n c : Nat) (s0 : Sha.St) (xs : List Nat) (A0 : Option Addr) (w : World) (ht : Tabs w) (hB : 2 ≤ B) (hr : RunAt w B s0 n) (hs : s0.Ok)
    (hx : Bytes w (· ≠ B) A0 xs) (hc : xs.length ≤ c) (hm : xs.length ≤ maxLen) :
    Calls Tryz.prog 112 #[.pointer (some ⟨B, 0, none⟩), .slice A0 xs.length c] w fun e w' => e = .returned (.tuple #[]) ∧ RunAt w' B (xs.foldl Sha.absorb s0) ((n + xs.length) % 18446744073709551616) ∧ w.grownBy w' (some B) := by
  have hm' := hm
  unfold maxLen at hm'
  have HM := Lib.hid hm
  have HT := Lib.hid ht
  have HX := Lib.hid hx
  have HR := Lib.hid hr
  have c73 := hr.cell (i := 73) (by omega)
  have f73 := hr.frozen 73
  simp only [runF, Nat.reduceLT, Nat.reduceEqDiff, if_false, if_true] at c73
  clear hr hx ht hm
  go_enter Tryz.func112, Tryz.ntmps112
  go_wp2_with fail
  have ew : IntKind.u64.wrap ((n : Int) + (xs.length : Int)) = (((n + xs.length) % 18446744073709551616 : Nat) : Int) := by rw [IntKind.wrap_u64]; omega
  have hg := only_setCell (only_refl w (some B)) (p := ⟨B, 73, none⟩) (.inl rfl) (.int .u64 (IntKind.u64.wrap ((n : Int) + (xs.length : Int))))
  refine (fill_any B ((n + xs.length) % 18446744073709551616) c s0 xs A0 _ (HT.out.only hg hB) hB (by rw [ew]; exact HR.out.setBytes) hs (HX.out.only hg) hc HM.out).mono ?_
  rintro e w1 ⟨rfl, hr1, hg1⟩
  have HR1 := Lib.hid hr1
  have HG1 := Lib.hid (only_trans hg hg1)
  clear hr1 hg1 hg ew
  go_wp2_with fail
  go_end0
  exact ⟨rfl, HR1.out, HG1.out⟩

theorem info68 : (Tryz.prog.info? 170).map (fun i => (i.zero, i.size)) = some (some (.agg (arrOf .u8 72 fun _ => 0)), 72) := by kernel_rfl
/-- What stands behind the text: 128, noughts, eight bytes of its length in bits. -/
def be64 (x i : Nat) : Nat := x / 2 ^ (56 - 8 * i) % 256
def tailF (at_ x i j : Nat) : Nat := if j = 0 then 128 else if at_ ≤ j ∧ j < at_ + i then be64 x (j - at_) else 0
def padTail (f n : Nat) : List Nat := (List.range (1 + (119 - f) % 64 + 8)).map (tailF (1 + (119 - f) % 64) (n * 8 % 18446744073709551616) 8)
structure EInv (w : World) (B n : Nat) (s : Sha.St) (T : Nat) (at_ x i : Nat) (wr : World) : Prop where
  run : RunAt wr B s n
  tail : wr.rowIs T 170 72 (fun j => .int .u8 ((tailF at_ x i j : Nat) : Int))
  only : w.grownBy wr (some B)
theorem EInv.step {w : World} {B n : Nat} {s : Sha.St} {T at_ x i : Nat} {wr : World} (I : EInv w B n s T at_ x i wr) (ha : 0 < at_) (hT : w.heap.size ≤ T) (hne : B ≠ T) {v : Int} (hv : v = ((be64 x i : Nat) : Int)) :
    EInv w B n s T at_ x (i + 1) (wr.setCell ⟨T, at_ + i, none⟩ (.int .u8 v)) := by
  subst hv
  refine ⟨I.run.setOther hne _, (I.tail.set (at_ + i) _).congr fun j hj => ?_, only_setCell I.only (.inr hT) _⟩
  by_cases e : j = at_ + i
  · subst e
    rw [if_pos rfl]
    simp only [tailF, if_neg (show ¬ at_ + i = 0 by omega), if_pos (show at_ ≤ at_ + i ∧ at_ + i < at_ + (i + 1) by omega), Nat.add_sub_cancel_left]
  · rw [if_neg e]
    simp only [tailF]
    by_cases h0 : j = 0
    · simp only [if_pos h0]
    · simp only [if_neg h0]
      by_cases h1 : at_ ≤ j ∧ j < at_ + i
      · rw [if_pos h1, if_pos (by omega)]
      · rw [if_neg h1, if_neg (by omega)]

theorem run_sliceAt_arr_upto {P : Program} (t e : TypeId) (L : Nat) (hu : P.underlying t = some (.array L e)) (hs : (P.info? e).map (·.size) = some 1) (b o k : Nat) (i : Int) (hi : i = (k : Int)) (hk : k ≤ L) (w : World) :
    (Instr.sliceAt t (.pointer (some ⟨b, o, none⟩)) none (some (.int .i64 i)) none).run P w = .ok (.slice (some ⟨b, o, none⟩) k L) w := by
  subst hi
  cases hq : P.info? e with
  | none => simp [hq] at hs
  | some i =>
    have hi : i.size = 1 := by simpa [hq] using hs
    have ha : (⟨b, o, none⟩ : Addr).add 0 = ⟨b, o, none⟩ := rfl
    simp [Instr.sliceAt, Instr.sureAddr, Instr.sliceBounds, Instr.sliceBound, asIntOf, Sem.run_bind, run_underlying hu w, sizeOf, typeInfo, hq, hi, hk, Result.andThen, asAddr, ha]
theorem padTail_length (f n : Nat) : (padTail f n).length = 1 + (119 - f) % 64 + 8 := by simp [padTail]
theorem padTail_get (f n j : Nat) (hj : j < 1 + (119 - f) % 64 + 8) : (padTail f n).getD j 0 = tailF (1 + (119 - f) % 64) (n * 8 % 18446744073709551616) 8 j := by
  simp [padTail, List.getD_eq_getElem?_getD, hj]
theorem tailF_lt (a x i j : Nat) : tailF a x i j < 256 := by
  unfold tailF be64
  split
  · omega
  · split <;> omega

set_option maxRecDepth 100000 in
set_option maxHeartbeats 2000000 in
theorem end_any (B n : Nat) (s0 : Sha.St) (w : World) (ht : Tabs w) (hB : 2 ≤ B) (hr : RunAt w B s0 n) (hs : s0.Ok) (hn : n < 18446744073709551616) :
    Calls Tryz.prog 113 #[.pointer (some ⟨B, 0, none⟩)] w fun e w' => e = .returned (.tuple #[]) ∧ RunAt w' B ((padTail s0.f n).foldl Sha.absorb s0) n ∧ w.grownBy w' (some B) := by
  have HT := Lib.hid ht
  have HR := Lib.hid hr
  have hf := hs.f
  have c73 := hr.cell (i := 73) (by omega)
  have c72 := hr.cell (i := 72) (by omega)
  simp only [runF, Nat.reduceLT, Nat.reduceEqDiff, if_false, if_true] at c73 c72
  have HS := Lib.hid hs
  have LB := hr.lt
  clear hr ht hs
  obtain ⟨f, hfe⟩ : ∃ f, f = s0.f := ⟨_, rfl⟩
  rw [← hfe] at hf c72 ⊢
  have HFE := Lib.hid hfe
  clear hfe
  go_enter Tryz.func113, Tryz.ntmps113
  have hz := (zero_of_info info68).1
  have g0 := arrOf_get .u8 (n := 72) (fun _ => 0) (i := 0) (by omega)
  obtain ⟨Z, hZ⟩ : ∃ Z, Z = arrOf .u8 72 (fun _ => 0) := ⟨_, rfl⟩
  rw [← hZ] at hz g0
  have HZ := Lib.hid hZ
  clear hZ
  go_wp2_with fail
  obtain ⟨a, ha⟩ : ∃ a, a = 1 + (119 - f) % 64 := ⟨_, rfl⟩
  obtain ⟨x, hx⟩ : ∃ x, x = n * 8 % 18446744073709551616 := ⟨_, rfl⟩
  rw [show (1 + (119 - (f : Int)) % 64) = ((a : Nat) : Int) by omega, show IntKind.u64.wrap ((n : Int) * 8) = ((x : Nat) : Int) by rw [IntKind.wrap_u64]; omega]
  have a1 : 1 ≤ a := by omega
  have a2 : a ≤ 64 := by omega
  have HA := Lib.hid ha
  have HX := Lib.hid hx
  have x1 : x < 18446744073709551616 := by omega
  clear ha hx c72 c73 hz g0
  have HE : Hid (EInv w B n s0 w.heap.size a x 0 (w.alloc (.cells (Z.setIfInBounds 0 (.int .u8 128)) 170))) := by
    refine ⟨HR.out.alloc _, ?_, only_alloc (only_refl _ _) _⟩
    have h := World.rowIs_alloc w (Z.setIfInBounds 0 (.int .u8 128)) 170 (fun j => .int .u8 ((tailF a x 0 j : Nat) : Int)) fun j hj => by
      rw [HZ.out] at hj ⊢
      simp only [Array.size_setIfInBounds, arrOf_size] at hj
      rw [Array.getElem?_setIfInBounds]
      by_cases h0 : j = 0
      · subst h0
        rw [if_pos rfl, if_pos (by rw [arrOf_size]; omega)]
        rfl
      · rw [if_neg (fun e => h0 e.symm), arrOf_get .u8 _ hj]
        simp only [tailF, if_neg h0]
        rw [if_neg (by omega)]
    rw [Array.size_setIfInBounds] at h
    have hz72 : Z.size = 72 := by rw [HZ.out, arrOf_size]
    rw [hz72] at h
    exact h
  have hx0 : 0 ≤ (x : Int) := by omega
  go_loopw [6] (fun v wr => ∃ i : Nat, i ≤ 8 ∧ v = .int .i64 i ∧ Hid (EInv w B n s0 w.heap.size a x i wr)) (fun v _ => 8 - (intOf v).toNat)
  case atStart => exact ⟨0, by omega, rfl, HE⟩
  case round =>
    clear HE
    obtain ⟨i, hi, rfl, HE⟩ := hrel
    by_cases hlt : i < 8
    · have c1 := HE.out.tail.cell (i := a + i) (by omega)
      have f1 := HE.out.tail.frozen (a + i)
      have sh : (56 - 8 * (i : Int)).toNat = 56 - 8 * i := by omega
      go_wp2
      go_roundw
      case rel =>
        refine ⟨i + 1, by omega, by go_num, HE.out.step a1 (Nat.le_refl _) (by omega) ?_⟩
        show _ = ((x / 2 ^ (56 - 8 * i) % 256 : Nat) : Int)
        rw [Int.natCast_emod, Int.natCast_ediv, Int.natCast_pow]
        rfl
      case measure => simp [intOf]; omega
    · obtain rfl : i = 8 := by omega
      clear hi hlt
      have hl : a + 8 = (padTail f n).length := by rw [padTail_length]; have := HA.out; omega
      have hsl := fun W => run_sliceAt_arr_upto (P := Tryz.prog) 170 5 72 Tryz.underlying170 size5 w.heap.size 0 (padTail f n).length ((a : Int) + 8) (by omega) (by omega) W
      have HL := Lib.hid hl
      clear hl
      go_wp2_with fail
      refine (fill_any B n 72 s0 (padTail f n) _ _ (HT.out.only HE.out.only hB) hB HE.out.run HS.out ⟨fun y hy => ?_, fun _ => ⟨_, _, rfl, by omega, fun j hj => ?_⟩⟩ ?_ ?_).mono ?_
      · obtain ⟨j, _, rfl⟩ := List.mem_map.1 hy
        exact tailF_lt _ _ _ _
      · rw [← HL.out] at hj
        rw [Nat.zero_add, HE.out.tail.cell (i := j) (by omega), padTail_get f n j (by have := HA.out; omega), ← HA.out, ← HX.out]
      · rw [← HL.out]; omega
      · unfold maxLen; rw [← HL.out]; omega
      rintro e w1 ⟨rfl, hr1, hg1⟩
      have HR1 := Lib.hid hr1
      have HG1 := Lib.hid (only_trans HE.out.only hg1)
      clear hr1 hg1 hsl
      go_wp2_with fail
      go_end0
      exact ⟨rfl, HR1.out, HG1.out⟩

/-- The digest of the eight words. -/
def bytesOf (h : Nat → Nat) (i : Nat) : Nat := h (i / 4) / 2 ^ (24 - 8 * (i % 4)) % 256
theorem info25 : (Tryz.prog.info? 119).map (fun i => (i.zero, i.size)) = some (some (.agg (arrOf .u8 32 fun _ => 0)), 32) := by kernel_rfl
theorem run_index_arr {P : Program} (t e : TypeId) (L : Nat) (hu : P.underlying t = some (.array L e)) (hs : (P.info? e).map (·.size) = some 1) (k : IntKind) (f : Nat → Nat) (i : Nat) (hi : i < L) (hag : ∀ w, (isAgg e).run P w = .ok false w) (w : World) :
    (Instr.index t (.agg (arrOf k L f)) (.int .i64 (i : Int))).run P w = .ok (.int k ((f i : Nat) : Int)) w := by
  cases hq : P.info? e with
  | none => simp [hq] at hs
  | some j =>
    have hj : j.size = 1 := by simpa [hq] using hs
    have hg := arrOf_get k f hi
    simp [Instr.index, Sem.run_bind, run_underlying hu w, Result.andThen, asIntOf, hi, sizeOf, typeInfo, hq, hj, part, hg, hag]
theorem agg51 (w : World) : (isAgg 60).run Tryz.prog w = .ok false w := by kernel_rfl
theorem size51 : (Tryz.prog.info? 60).map (·.size) = some 1 := by kernel_rfl
theorem size25 : (Tryz.prog.info? 119).map (·.size) = some 32 := by kernel_rfl
structure DInv (w : World) (h : Nat → Nat) (i : Nat) (wr : World) : Prop where
  zero : wr.rowIs w.heap.size 119 32 (fun _ => .int .u8 ((0 : Nat) : Int))
  row : wr.rowIs (w.heap.size + 1) 119 32 (fun j => .int .u8 (((if j < i then bytesOf h j else 0 : Nat) : Nat) : Int))
  below : Below w.heap.size w wr
theorem DInv.step {w : World} {h : Nat → Nat} {i : Nat} {wr : World} (I : DInv w h i wr) {v : Int} (hv : v = ((bytesOf h i : Nat) : Int)) :
    DInv w h (i + 1) (wr.setCell ⟨w.heap.size + 1, i, none⟩ (.int .u8 v)) := by
  subst hv
  refine ⟨I.zero.setOther (by simp) _, (I.row.set i _).congr fun j hj => ?_, I.below.setCell (by simp) _⟩
  by_cases e : j = i
  · subst e
    rw [if_pos rfl, if_pos (Nat.lt_succ_self j)]
  · rw [if_neg e]
    by_cases h1 : j < i
    · rw [if_pos h1, if_pos (by omega)]
    · rw [if_neg h1, if_neg (by omega)]

set_option maxRecDepth 100000 in
set_option maxHeartbeats 2000000 in
theorem digest_any (B n : Nat) (s0 : Sha.St) (w : World) (hr : RunAt w B s0 n) (hs : ∀ i, s0.h i < 4294967296) :
    Calls Tryz.prog 114 #[.pointer (some ⟨B, 0, none⟩)] w fun e w' => e = .returned (.agg (arrOf .u8 32 (bytesOf s0.h))) ∧ Below w.heap.size w w' := by
  have HR := Lib.hid hr
  have HS := Lib.hid hs
  have LB := hr.lt
  clear hr hs
  have hz := (zero_of_info info25).1
  obtain ⟨Z, hZ⟩ : ∃ Z, Z = arrOf .u8 32 (fun _ => 0) := ⟨_, rfl⟩
  rw [← hZ] at hz
  have HZ := Lib.hid hZ
  clear hZ
  have hrange : Hid (∀ w2, w2.rowIs B 154 75 (runF s0.h s0.b s0.f n s0.k) → rangeA w2 B 0 (arrOf .u32 8 s0.h)) := fun w2 hw2 => rangeA_arr fun j hj => by
    rw [Nat.zero_add, hw2.cell (i := j) (by omega)]
    simp only [runF, if_pos hj]
  have s52 : ∀ {f : Nat → Nat}, Hid ((Tryz.prog.info? 151).map (·.size) = some (arrOf .u32 8 f).size) := fun {f} => by rw [arrOf_size]; exact size52
  have s25 : ∀ {f : Nat → Nat}, Hid ((Tryz.prog.info? 119).map (·.size) = some (arrOf .u8 32 f).size) := fun {f} => by rw [arrOf_size]; exact size25
  go_enter Tryz.func114, Tryz.ntmps114
  go_wp2_with (refine wpList_load_arr rfl 151 _ rfl B 0 rfl (arrOf .u32 8 s0.h) _ (hrange.out _ ((HR.out.alloc _).alloc _)) Tryz.underlying151 rfl s52.out ?_)
  have HI : Hid (DInv w s0.h 0 ((w.alloc (.cells Z 119)).alloc (.cells Z 119))) := by
    refine ⟨?_, ?_, ((Below.refl _ _).alloc (Nat.le_refl _) _).alloc (by simp) _⟩
    · rw [HZ.out]
      exact (arr_row (f := fun _ => 0) (heap_alloc_new w _)).alloc _
    · rw [HZ.out]
      have h := arr_row (k := .u8) (n := 32) (f := fun _ => 0) (t := 119) (heap_alloc_new (w.alloc (.cells (arrOf .u8 32 fun _ => 0) 119)) (.cells (arrOf .u8 32 fun _ => 0) 119))
      simpa using h
  clear hrange hz
  go_loopw [10] (fun v wr => ∃ i : Nat, i ≤ 8 ∧ v = .int .i64 i ∧ Hid (DInv w s0.h (4 * i) wr)) (fun v _ => 8 - (intOf v).toNat)
  case atStart => exact ⟨0, by omega, rfl, HI⟩
  case round =>
    clear HI
    obtain ⟨i, hi, rfl, HI⟩ := hrel
    by_cases hlt : i < 8
    · have c0 := HI.out.row.cell (i := 4 * i) (by omega)
      have c1 := HI.out.row.cell (i := 4 * i + 1) (by omega)
      have c2 := HI.out.row.cell (i := 4 * i + 2) (by omega)
      have c3 := HI.out.row.cell (i := 4 * i + 3) (by omega)
      have f0 := HI.out.row.frozen (4 * i)
      have f1 := HI.out.row.frozen (4 * i + 1)
      have f2 := HI.out.row.frozen (4 * i + 2)
      have f3 := HI.out.row.frozen (4 * i + 3)
      rw [if_neg (by omega)] at c0 c1 c2 c3
      have hx := HS.out i
      have hix := fun W => run_index_arr (P := Tryz.prog) 151 60 8 Tryz.underlying151 size51 .u32 s0.h i hlt agg51 W
      go_wp2
      go_roundw
      case rel =>
        refine ⟨i + 1, by omega, by go_num, ?_⟩
        have e4 : 4 * (i + 1) = 4 * i + 1 + 1 + 1 + 1 := by omega
        rw [e4]
        refine (((HI.out.step ?_).step ?_).step ?_).step ?_
        · simp only [bytesOf, show 4 * i / 4 = i by omega, show 4 * i % 4 = 0 by omega]; omega
        · simp only [bytesOf, show (4 * i + 1) / 4 = i by omega, show (4 * i + 1) % 4 = 1 by omega]; omega
        · simp only [bytesOf, show (4 * i + 1 + 1) / 4 = i by omega, show (4 * i + 1 + 1) % 4 = 2 by omega]; omega
        · simp only [bytesOf, show (4 * i + 1 + 1 + 1) / 4 = i by omega, show (4 * i + 1 + 1 + 1) % 4 = 3 by omega]; omega
      case measure => simp [intOf]; omega
    · obtain rfl : i = 8 := by omega
      clear hi hlt
      have hz1 := Lib.hid (row_arr (n := 32) (k := .u8) (HI.out.row.congr (g := fun j => .int .u8 ((bytesOf s0.h j : Nat) : Int)) fun j hj => by rw [if_pos (by omega)]))
      have hz0 := Lib.hid (row_arr (n := 32) (k := .u8) HI.out.zero)
      have hI2 := Lib.hid HI.out.below
      clear HI
      have ss : ∀ {f g : Nat → Nat}, Hid ((arrOf .u8 32 f).size = (arrOf .u8 32 g).size) := fun {f g} => by rw [arrOf_size, arrOf_size]; exact rfl
      go_wp2_with (first
        | (refine wpList_load_row rfl 119 _ rfl (w.heap.size + 1) rfl 119 _ (0, 0) _ hz1.out Tryz.underlying119 rfl s25.out ?_)
        | (refine wpList_store_row rfl 119 _ _ rfl w.heap.size (arrOf .u8 32 (bytesOf s0.h)) rfl rfl 119 _ hz0.out s25.out ss.out (arrOf_one _ _ _) ?_)
        | (refine bodyPost_ret (results_cell_row Tryz.results114 _ _ w.heap.size 119 _ (0, 0) _ rfl (setRow_heap _ _ _ _ _ _ hz0.out) Tryz.underlying119 rfl s25.out) rfl ⟨rfl, below_setRow' hI2.out (Nat.le_refl _) _⟩))
end Go.Proofs.YtdbhboglccggdaaGreatDoor
