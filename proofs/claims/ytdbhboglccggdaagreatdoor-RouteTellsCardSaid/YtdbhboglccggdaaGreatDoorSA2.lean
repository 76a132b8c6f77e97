/- The contract of (*run).mix. -/
import Derived.Test.YtdbhboglccggdaaGreatDoorSA1
set_option linter.unusedVariables false
set_option linter.unusedSimpArgs false
namespace Go.Proofs.YtdbhboglccggdaaGreatDoor
open Go.RowKit

/-- The package-level words as they are laid. -/
structure Tabs (w : World) : Prop where
  i : ∀ j, j < 8 → w.cell? ⟨0, j, none⟩ = some (.int .u32 ((Sha.I.getD j 0 : Nat) : Int))
  k : ∀ j, j < 64 → w.cell? ⟨1, j, none⟩ = some (.int .u32 ((Sha.K.getD j 0 : Nat) : Int))
  two : 2 ≤ w.heap.size
theorem Tabs.of_blocks {w w' : World} (h : Tabs w) (h0 : w'.heap[0]? = w.heap[0]?) (h1 : w'.heap[1]? = w.heap[1]?) (hs : 2 ≤ w'.heap.size) : Tabs w' :=
  ⟨fun j hj => (World.cell?_of_block (w := w) (a := ⟨0, j, none⟩) h0).trans (h.i j hj), fun j hj => (World.cell?_of_block (w := w) (a := ⟨1, j, none⟩) h1).trans (h.k j hj), hs⟩
theorem Tabs.below {w w' : World} (h : Tabs w) (hb : Below w.heap.size w w') : Tabs w' :=
  h.of_blocks (hb.block 0 (by have := h.two; omega)) (hb.block 1 (by have := h.two; omega)) (Nat.le_trans h.two hb.size)
theorem Tabs.only {w w' : World} {g : Nat} (h : Tabs w) (hb : w.grownBy w' (some g)) (hg : 2 ≤ g) : Tabs w' :=
  h.of_blocks (hb.block 0 (by have := h.two; omega) (fun e => by injection e; omega)) (hb.block 1 (by have := h.two; omega) (fun e => by injection e; omega)) (Nat.le_trans h.two hb.size)

/-- The cells of a digest under way. -/
def runF (h b : Nat → Nat) (f n k : Nat) (i : Nat) : Value :=
  if i < 8 then .int .u32 ((h i : Nat) : Int) else if i < 72 then .int .u8 ((b (i - 8) : Nat) : Int) else if i = 72 then .int .i64 (f : Int) else if i = 73 then .int .u64 (n : Int) else .int .u64 (k : Int)

theorem size53 : (Tryz.prog.info? 152).map (·.size) = some 64 := by kernel_rfl
theorem size52 : (Tryz.prog.info? 151).map (·.size) = some 8 := by kernel_rfl


theorem not_nat (x : Nat) (h : x < 4294967296) : 4294967295 ^^^ x = 4294967295 - x := by
  have h1 := congrArg BitVec.toNat (BitVec.allOnes_xor (x := BitVec.ofNat 32 x))
  rw [BitVec.toNat_xor, BitVec.toNat_allOnes, BitVec.toNat_not, BitVec.toNat_ofNat, Nat.mod_eq_of_lt (by omega)] at h1
  exact h1
theorem not_int (x : Nat) (h : x < 4294967296) : bits BinOp.xor IntKind.u32 (if IntKind.u32.signed = true then -1 else IntKind.u32.max) (x : Int) = ((4294967295 - x : Nat) : Int) := by
  have e : (if IntKind.u32.signed = true then (-1 : Int) else IntKind.u32.max) = ((4294967295 : Nat) : Int) := by decide
  rw [e, u32_xor_nat _ _ (by omega) h, not_nat x h]
theorem x1_int (S : Sha.S8) (o : S.Ok) (kt wt : Nat) :
    ((S.h : Int) + bits BinOp.xor IntKind.u32 (bits BinOp.xor IntKind.u32 ((Sha.rot S.e 6 : Nat) : Int) ((Sha.rot S.e 11 : Nat) : Int)) ((Sha.rot S.e 25 : Nat) : Int)
      + bits BinOp.xor IntKind.u32 (bits BinOp.and IntKind.u32 (S.e : Int) (S.f : Int)) (bits BinOp.and IntKind.u32 (bits BinOp.xor IntKind.u32 (if IntKind.u32.signed = true then -1 else IntKind.u32.max) (S.e : Int)) (S.g : Int))
      + (kt : Int) + (wt : Int)) % 4294967296 = ((Sha.x1 S kt wt : Nat) : Int) := by
  have he := o.e
  rw [not_int _ he, xor3_int _ _ _ (Sha.rot_lt he) (Sha.rot_lt he) (Sha.rot_lt he), u32_and_nat _ _ he o.f, u32_and_nat _ _ (by omega) o.g, u32_xor_nat _ _ (Sha.and_lt _ he) (Sha.and_lt _ (by omega))]
  unfold Sha.x1
  omega
theorem y1_int (S : Sha.S8) (o : S.Ok) :
    bits BinOp.xor IntKind.u32 (bits BinOp.xor IntKind.u32 ((Sha.rot S.a 2 : Nat) : Int) ((Sha.rot S.a 13 : Nat) : Int)) ((Sha.rot S.a 22 : Nat) : Int)
      + bits BinOp.xor IntKind.u32 (bits BinOp.xor IntKind.u32 (bits BinOp.and IntKind.u32 (S.a : Int) (S.b : Int)) (bits BinOp.and IntKind.u32 (S.a : Int) (S.c : Int))) (bits BinOp.and IntKind.u32 (S.b : Int) (S.c : Int))
      = ((Sha.y1 S : Nat) : Int) := by
  have ha := o.a
  rw [xor3_int _ _ _ (Sha.rot_lt ha) (Sha.rot_lt ha) (Sha.rot_lt ha), u32_and_nat _ _ ha o.b, u32_and_nat _ _ ha o.c, u32_and_nat _ _ o.b o.c, xor3_int _ _ _ (Sha.and_lt _ ha) (Sha.and_lt _ ha) (Sha.and_lt _ o.b)]
  unfold Sha.y1
  omega
theorem int_arg {k : IntKind} {a b : Int} (h : a = b) : Value.int k a = .int k b := by rw [h]

/-- The second loop: i of the eight words added. -/
def addF (h : Nat → Nat) (S : Sha.S8) (i j : Nat) : Nat := if j < i then (h j + S.at j) % 4294967296 else h j
structure MInv (w : World) (B N : Nat) (h b : Nat → Nat) (S : Sha.S8) (f n k i : Nat) (wr : World) : Prop where
  run : wr.rowIs B 154 75 (runF (addF h S i) b f n k)
  now : wr.rowIs N 151 8 (fun j => .int .u32 ((S.at j : Nat) : Int))
  only : w.grownBy wr (some B)
theorem MInv.start {w w2 : World} {B : Nat} {h b : Nat → Nat} {S : Sha.S8} {f n k : Nat} (hg : w.grownBy w2 (some B)) (hr : w2.rowIs B 154 75 (runF h b f n k)) :
    MInv w B w2.heap.size h b S f n k 0 (w2.alloc (.cells #[.int .u32 S.a, .int .u32 S.b, .int .u32 S.c, .int .u32 S.d, .int .u32 S.e, .int .u32 S.f, .int .u32 S.g, .int .u32 S.h] 151)) :=
  ⟨(hr.alloc _).congr fun i _ => by simp [runF, addF], (World.rowIs_alloc w2 #[.int .u32 S.a, .int .u32 S.b, .int .u32 S.c, .int .u32 S.d, .int .u32 S.e, .int .u32 S.f, .int .u32 S.g, .int .u32 S.h] 151 (fun j => .int .u32 ((S.at j : Nat) : Int)) fun i hi => by
    match i, hi with
    | 0, _ => rfl
    | 1, _ => rfl
    | 2, _ => rfl
    | 3, _ => rfl
    | 4, _ => rfl
    | 5, _ => rfl
    | 6, _ => rfl
    | 7, _ => rfl), only_alloc hg _⟩
theorem MInv.step {w : World} {B N : Nat} {h b : Nat → Nat} {S : Sha.S8} {f n k i : Nat} {wr : World} (I : MInv w B N h b S f n k i wr) (hN : N ≠ B) (hi : i < 8) {x : Int} (hx : x = (((h i + S.at i) % 4294967296 : Nat) : Int)) :
    MInv w B N h b S f n k (i + 1) (wr.setCell ⟨B, i, none⟩ (.int .u32 x)) := by
  subst hx
  refine ⟨(I.run.set i _).congr fun j hj => ?_, I.now.setOther (by simpa using hN) _, only_setCell I.only (.inl rfl) _⟩
  by_cases e : j = i
  · subst e
    simp only [if_true, runF, if_pos hi, addF, if_pos (Nat.lt_succ_self j)]
  · simp only [if_neg e, runF, addF]
    by_cases h8 : j < 8
    · simp only [if_pos h8]
      by_cases hl : j < i
      · rw [if_pos hl, if_pos (by omega)]
      · rw [if_neg hl, if_neg (by omega)]
    · simp only [if_neg h8]
theorem MInv.drewN {w : World} {B N : Nat} {h b : Nat → Nat} {S : Sha.S8} {f n k i : Nat} {wr : World} (I : MInv w B N h b S f n k i wr) (m : Nat) : MInv w B N h b S f n k i (wr.drewN m) := ⟨I.run, I.now, only_drewN I.only m⟩
theorem MInv.drew {w : World} {B N : Nat} {h b : Nat → Nat} {S : Sha.S8} {f n k i : Nat} {wr : World} (I : MInv w B N h b S f n k i wr) : MInv w B N h b S f n k i wr.drew := ⟨I.run, I.now, only_drew I.only⟩
theorem MInv.word {w : World} {B N : Nat} {h b : Nat → Nat} {S : Sha.S8} {f n k i : Nat} {wr : World} (I : MInv w B N h b S f n k i wr) (hi : i < 8) : wr.cell? ⟨B, i, none⟩ = some (.int .u32 ((h i : Nat) : Int)) := by
  have := I.run.cell (i := i) (by omega)
  simpa [runF, addF, hi] using this
theorem MInv.done {w : World} {B N : Nat} {h b : Nat → Nat} {S : Sha.S8} {f n k : Nat} {wr : World} (I : MInv w B N h b S f n k 8 wr) (hS : S = Sha.rnds (Sha.of8 h) (Sha.ws b 64) 64) {x : Int}
    (hx : x = (((k + 1) % 18446744073709551616 : Nat) : Int)) :
    (wr.setCell ⟨B, 74, none⟩ (.int .u64 x)).rowIs B 154 75 (runF (Sha.mix h b) b f n ((k + 1) % 18446744073709551616)) ∧ w.grownBy (wr.setCell ⟨B, 74, none⟩ (.int .u64 x)) (some B) := by
  subst hx
  refine ⟨(I.run.set 74 _).congr fun j hj => ?_, only_setCell I.only (.inl rfl) _⟩
  by_cases e : j = 74
  · subst e
    simp [runF]
  · simp only [if_neg e, runF, addF, Sha.mix, ← hS]
    by_cases h8 : j < 8
    · simp only [if_pos h8]
    · simp only [if_neg h8]
      by_cases h72 : j < 72
      · simp only [if_pos h72]
      · simp only [if_neg h72]
        by_cases e2 : j = 72
        · simp [e2]
        · rw [if_neg e2, if_neg e2, if_pos (by omega), if_pos (by omega)]

theorem S8_at_lt {S : Sha.S8} (o : S.Ok) (i : Nat) : S.at i < 4294967296 := by
  unfold Sha.S8.at
  split
  · exact o.a
  · exact o.b
  · exact o.c
  · exact o.d
  · exact o.e
  · exact o.f
  · exact o.g
  · exact o.h

set_option maxRecDepth 100000 in
set_option maxHeartbeats 2000000 in
theorem mix_any (B : Nat) (h b : Nat → Nat) (f n k : Nat) (hh : ∀ i, h i < 4294967296) (hb : ∀ i, b i < 256) (w : World) (ht : Tabs w) (hB : 2 ≤ B) (hr : w.rowIs B 154 75 (runF h b f n k)) :
    Calls Tryz.prog 142 #[.pointer (some ⟨B, 0, none⟩)] w fun e w' => e = .returned (.tuple #[]) ∧ w'.rowIs B 154 75 (runF (Sha.mix h b) b f n ((k + 1) % 18446744073709551616)) ∧ w.grownBy w' (some B) := by
  have HT := Lib.hid ht
  have HR := Lib.hid hr
  clear ht hr
  have hrange : Hid (rangeA w B 8 (arrOf .u8 64 b)) := rangeA_arr fun j hj => by
    have := HR.out.cell (i := 8 + j) (by omega)
    rw [this]
    simp only [runF, if_neg (show ¬ 8 + j < 8 by omega), if_pos (show 8 + j < 72 by omega), Nat.add_sub_cancel_left]
  have s53 : ∀ {f : Nat → Nat}, Hid ((Tryz.prog.info? 152).map (·.size) = some (arrOf .u8 64 f).size) := fun {f} => by rw [arrOf_size]; exact size53
  have s69 : ∀ {f : Nat → Nat}, Hid ((Tryz.prog.info? 177).map (·.size) = some (arrOf .u32 64 f).size) := fun {f} => by rw [arrOf_size]; exact size69
  go_enter Tryz.func142, Tryz.ntmps142
  go_wp2_with (first
    | (refine wpList_load_arr rfl 152 _ rfl B 8 rfl _ _ hrange.out Tryz.underlying152 rfl s53.out ?_)
    | (go_at_call 144; refine (words_any b hb _).mono ?_; rintro e w1 ⟨rfl, hb1⟩; have HB1 := Lib.hid hb1; clear hb1)
    | (refine wpList_store_row rfl 177 _ _ rfl w1.heap.size (arrOf .u32 64 fun i => (Sha.ws b 64).getD i 0) rfl rfl 177 _ (heap_alloc_new _ _) s69.out (by rw [arrOf_size]; rfl) (arrOf_one _ _ _) ?_; rw [World.setRow_alloc_new]))
  have G2 : Hid (w.grownBy (w1.alloc (.cells (arrOf .u32 64 fun i => (Sha.ws b 64).getD i 0) 177)) (some B)) := only_alloc (only_below HB1.out _) _
  have R2 : Hid ((w1.alloc (.cells (arrOf .u32 64 fun i => (Sha.ws b 64).getD i 0) 177)).rowIs B 154 75 (runF h b f n k)) := (row_below HR.out HB1.out HR.out.lt).alloc _
  have W2 : Hid ((w1.alloc (.cells (arrOf .u32 64 fun i => (Sha.ws b 64).getD i 0) 177)).rowIs w1.heap.size 177 64 (fun i => .int .u32 (((Sha.ws b 64).getD i 0 : Nat) : Int))) := arr_row (heap_alloc_new _ _)
  have N2 : w.heap.size ≤ w1.heap.size := HB1.out.size
  have LB : B < w.heap.size := HR.out.lt
  clear HB1 hrange HR
  generalize (w1.alloc (.cells (arrOf .u32 64 fun i => (Sha.ws b 64).getD i 0) 177)) = w2 at *
  generalize w1.heap.size = W at *
  have c0 := R2.out.cell (i := 0) (by omega)
  have c1 := R2.out.cell (i := 1) (by omega)
  have c2 := R2.out.cell (i := 2) (by omega)
  have c3 := R2.out.cell (i := 3) (by omega)
  have c4 := R2.out.cell (i := 4) (by omega)
  have c5 := R2.out.cell (i := 5) (by omega)
  have c6 := R2.out.cell (i := 6) (by omega)
  have c7 := R2.out.cell (i := 7) (by omega)
  simp only [runF, Nat.reduceLT, if_true] at c0 c1 c2 c3 c4 c5 c6 c7
  go_quiet (fail)
  clear c0 c1 c2 c3 c4 c5 c6 c7
  go_wp2
  go_loopw [3, 4, 5, 6, 7, 8, 9, 10, 11] (fun a b' c d e f' g h' i wr => ∃ (t : Nat) (S : Sha.S8), t ≤ 64 ∧ Hid (S = Sha.rnds (Sha.of8 h) (Sha.ws b 64) t) ∧ Hid S.Ok ∧ i = .int .i64 t
      ∧ a = .int .u32 S.a ∧ b' = .int .u32 S.b ∧ c = .int .u32 S.c ∧ d = .int .u32 S.d ∧ e = .int .u32 S.e ∧ f' = .int .u32 S.f ∧ g = .int .u32 S.g ∧ h' = .int .u32 S.h ∧ Hid (∃ m, wr = w2.drewN m))
      (fun _ _ _ _ _ _ _ _ i _ => 64 - (intOf i).toNat)
  case atStart => exact ⟨0, Sha.of8 h, by omega, rfl, Sha.of8_ok (fun i _ => hh i), rfl, rfl, rfl, rfl, rfl, rfl, rfl, rfl, rfl, ⟨_, rfl⟩⟩
  case round =>
    obtain ⟨t, S, ht, HS, HO, rfl, rfl, rfl, rfl, rfl, rfl, rfl, rfl, rfl, HW⟩ := hrel
    by_cases hlt : t < 64
    · obtain ⟨m, hm⟩ := HW.out
      have k1 : Sha.K.getD t 0 < 4294967296 := Sha.K_lt t
      have k2 : (Sha.ws b 64).getD t 0 < 4294967296 := Sha.ws_lt hb 64 t
      have ck : wr.cell? ⟨1, t, none⟩ = some (.int .u32 ((Sha.K.getD t 0 : Nat) : Int)) := by rw [hm]; exact (HT.out.only G2.out hB).k t hlt
      have cw : wr.cell? ⟨W, t, none⟩ = some (.int .u32 (((Sha.ws b 64).getD t 0 : Nat) : Int)) := by rw [hm]; exact W2.out.cell hlt
      have HX : ∃ kt wt : Nat, Hid (kt = Sha.K.getD t 0) ∧ Hid (wt = (Sha.ws b 64).getD t 0) ∧ kt < 4294967296 ∧ wt < 4294967296 ∧ wr.cell? ⟨1, t, none⟩ = some (.int .u32 (kt : Int)) ∧ wr.cell? ⟨W, t, none⟩ = some (.int .u32 (wt : Int)) :=
        ⟨_, _, rfl, rfl, k1, k2, ck, cw⟩
      clear ck cw k1 k2
      obtain ⟨kt, wt, HK, HV, k1, k2, ck, cw⟩ := HX
      have HM := Lib.hid hm
      clear hm
      have o1 := HO.out.a
      have o2 := HO.out.b
      have o3 := HO.out.c
      have o4 := HO.out.d
      have o5 := HO.out.e
      have o6 := HO.out.f
      have o7 := HO.out.g
      have o8 := HO.out.h
      go_wp2
      go_quiet ((go_at_call 145; exact Calls.quiet_of_same (turn_q _ _ _ o5 (by decide) (by decide))))
      go_wp2_with (go_at_call 145; refine (turn_q _ _ _ o1 (by decide) (by decide)).mono ?_; rintro e w' ⟨rfl, rfl⟩)
      go_roundw
      case rel =>
        have e1 := HK.out
        have e2 := HV.out
        obtain ⟨m, hm⟩ := HW.out
        refine ⟨t + 1, Sha.rnd S kt wt, by omega, ?_, Sha.rnd_ok HO.out _ _, by go_num, int_arg ?_, rfl, rfl, rfl, int_arg ?_, rfl, rfl, rfl, ⟨m + nq, ?_⟩⟩
        · show _ = Sha.rnd _ _ _
          rw [e1, e2, HS.out]
        · rw [x1_int S HO.out, y1_int S HO.out]
          simp only [Sha.rnd]
          omega
        · rw [x1_int S HO.out]
          simp only [Sha.rnd]
          omega
        · rw [hm, World.drewN_drewN]
      case measure => simp [intOf]; omega
    · obtain rfl : t = 64 := by omega
      clear ht hlt
      have o1 := HO.out.a
      have o2 := HO.out.b
      have o3 := HO.out.c
      have o4 := HO.out.d
      have o5 := HO.out.e
      have o6 := HO.out.f
      have o7 := HO.out.g
      have o8 := HO.out.h
      go_wp2
      have HI : Hid (MInv w B wr.heap.size h b S f n k 0 (wr.alloc (.cells #[.int .u32 S.a, .int .u32 S.b, .int .u32 S.c, .int .u32 S.d, .int .u32 S.e, .int .u32 S.f, .int .u32 S.g, .int .u32 S.h] 151))) := by
        obtain ⟨m, hm⟩ := HW.out
        exact MInv.start (by rw [hm]; exact only_drewN G2.out m) (by rw [hm]; exact R2.out)
      have NB : wr.heap.size ≠ B := by
        obtain ⟨m, hm⟩ := HW.out
        have h1 : wr.heap.size = w2.heap.size := by rw [hm]; rfl
        have h2 := G2.out.size
        omega
      have HNB := Lib.hid NB
      clear NB
      generalize wr.heap.size = N at *
      go_loopw [133] (fun v wx => ∃ i : Nat, i ≤ 8 ∧ v = .int .i64 i ∧ Hid (MInv w B N h b S f n k i wx)) (fun v _ => 8 - (intOf v).toNat)
      case atStart => exact ⟨0, by omega, rfl, HI⟩
      case round =>
        clear HI
        obtain ⟨i, hi, rfl, HI⟩ := hrel
        by_cases hlt : i < 8
        · have c1 := HI.out.word hlt
          have c2 := HI.out.now.cell hlt
          have f1 := HI.out.run.frozen i
          have p1 := hh i
          have p2 := S8_at_lt HO.out i
          go_wp2
          go_region
          go_wp2
          go_roundw
          case rel =>
            exact ⟨i + 1, by omega, by go_num, (HI.out.step HNB.out hlt (by omega)).drew⟩
          case measure => simp [intOf]; omega
        · obtain rfl : i = 8 := by omega
          clear hi hlt
          have c1 := HI.out.run.cell (i := 74) (by omega)
          have f1 := HI.out.run.frozen 74
          simp only [runF, Nat.reduceLT, Nat.reduceEqDiff, if_false] at c1
          go_wp2
          go_end0
          exact ⟨rfl, HI.out.done HS.out (by rw [IntKind.wrap_u64]; omega)⟩
end Go.Proofs.YtdbhboglccggdaaGreatDoor
