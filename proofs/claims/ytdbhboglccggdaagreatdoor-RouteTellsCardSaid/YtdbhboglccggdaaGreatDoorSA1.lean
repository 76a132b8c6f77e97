/- Contracts of small functions of sha. -/
import Derived.Test.YtdbhboglccggdaaGreatDoorRows
import Derived.Test.YtdbhboglccggdaaGreatDoorSha
import Derived.Test.YtdbhboglccggdaaGreatDoorBase
set_option linter.unusedVariables false
set_option linter.unusedSimpArgs false
namespace Go.Proofs.YtdbhboglccggdaaGreatDoor
open Go.RowKit

theorem rot_int (x n : Nat) (h : x < 4294967296) (h2 : n ≤ 31) : bits BinOp.or IntKind.u32 ((x : Int) / 2 ^ n) ((x : Int) * 2 ^ (32 - n) % 4294967296) = ((Sha.rot x n : Nat) : Int) := by
  have e1 : ((x : Int) / 2 ^ n) = ((x / 2 ^ n : Nat) : Int) := by rw [Int.natCast_ediv, Int.natCast_pow]; rfl
  have e2 : ((x : Int) * 2 ^ (32 - n) % 4294967296) = ((x * 2 ^ (32 - n) % 4294967296 : Nat) : Int) := by rw [Int.natCast_emod, Int.natCast_mul, Int.natCast_pow]; rfl
  rw [e1, e2, u32_or_nat _ _ (Nat.lt_of_le_of_lt (Nat.div_le_self _ _) h) (by omega)]
  rfl

set_option maxHeartbeats 400000 in
theorem turn_any (x : Nat) (n : Nat) (w : World) (h : x < 4294967296) (h1 : 1 ≤ n) (h2 : n ≤ 31) :
    Calls Tryz.prog 145 #[.int .u32 x, .int .u64 n] w fun e w' => e = .returned (.int .u32 ((Sha.rot x n : Nat) : Int)) ∧ w = w' := by
  go_enter Tryz.func145, Tryz.ntmps145
  go_wp2
  go_ret
  exact ⟨ret_int (rot_int x n h h2), rfl⟩


theorem turn_q (x : Nat) (k : Int) (w : World) (h : x < 4294967296) (h1 : 1 ≤ k) (h2 : k ≤ 31) :
    Calls Tryz.prog 145 #[.int .u32 x, .int .u64 k] w fun e w' => e = .returned (.int .u32 ((Sha.rot x k.toNat : Nat) : Int)) ∧ w' = w := by
  have e : k = ((k.toNat : Nat) : Int) := by omega
  have h := turn_any x k.toNat w h (by omega) (by omega)
  rw [← e] at h
  exact h.mono fun _ _ h => ⟨h.1, h.2.symm⟩

theorem size69 : (Tryz.prog.info? 177).map (·.size) = some 64 := by kernel_rfl
/-- The words' blocks, t words laid. -/
structure WInv (A : Array Value) (b : Nat → Nat) (w : World) (t : Nat) (wr : World) : Prop where
  bytes : wr.heap[w.heap.size]? = some (.cells A 152 (0, 0))
  zero : wr.rowIs (w.heap.size + 1) 177 64 (fun _ => .int .u32 0)
  words : wr.rowIs (w.heap.size + 1 + 1) 177 64 (fun i => .int .u32 (((Sha.ws b t).getD i 0 : Nat) : Int))
  below : Below w.heap.size w wr

theorem WInv.byte {A : Array Value} {b : Nat → Nat} {w wr : World} {t : Nat} (h : WInv A b w t wr) (hcell : ∀ i, i < 64 → A[i]? = some (.int .u8 (b i))) {i : Nat} (hi : i < 64) :
    wr.cell? ⟨w.heap.size, i, none⟩ = some (.int .u8 ((b i : Nat) : Int)) := by
  rw [cell_of_row _ _ _ _ _ _ h.bytes, hcell i hi]
theorem WInv.word {A : Array Value} {b : Nat → Nat} {w wr : World} {t : Nat} (h : WInv A b w t wr) {i : Nat} (hi : i < 64) :
    wr.cell? ⟨w.heap.size + 1 + 1, i, none⟩ = some (.int .u32 (((Sha.ws b t).getD i 0 : Nat) : Int)) := h.words.cell hi
theorem WInv.frozen {A : Array Value} {b : Nat → Nat} {w wr : World} {t : Nat} (h : WInv A b w t wr) (i : Nat) :
    wr.frozen? ⟨w.heap.size + 1 + 1, i, none⟩ = false := h.words.frozen i
theorem WInv.start (A : Array Value) (b : Nat → Nat) (w : World) : WInv A b w 0 (((w.alloc (.cells A 152)).alloc (.cells (Array.replicate 64 (.int .u32 0)) 177)).alloc (.cells (Array.replicate 64 (.int .u32 0)) 177)) := by
  have hz : ∀ i, i < (Array.replicate 64 (Value.int .u32 0)).size → (Array.replicate 64 (Value.int .u32 0))[i]? = some ((fun _ : Nat => Value.int .u32 0) i) := by intro i hi; rw [Array.getElem?_eq_getElem hi]; simp
  refine ⟨?_, ?_, ?_, (((Below.refl _ _).alloc (Nat.le_refl _) _).alloc (by simp) _).alloc (by simp; omega) _⟩
  · rw [Below.heap_alloc _ _ _ (by simp; omega), Below.heap_alloc _ _ _ (by simp)]
    exact heap_alloc_new _ _
  · have h := World.rowIs_alloc (w.alloc (.cells A 152)) (Array.replicate 64 (.int .u32 0)) 177 _ hz
    simpa using h.alloc _
  · have h := World.rowIs_alloc ((w.alloc (.cells A 152)).alloc (.cells (Array.replicate 64 (.int .u32 0)) 177)) (Array.replicate 64 (.int .u32 0)) 177 _ hz
    simpa [Sha.ws] using h


theorem or_join (i x y : Nat) (hx : x % 2 ^ i = 0) (hy : y < 2 ^ i) : x ||| y = x + y := nat_join i x y hx hy
theorem head_int (a0 a1 a2 a3 : Nat) (h0 : a0 < 256) (h1 : a1 < 256) (h2 : a2 < 256) (h3 : a3 < 256) :
    bits BinOp.or IntKind.u32 (bits BinOp.or IntKind.u32 (bits BinOp.or IntKind.u32 ((a0 : Int) * 16777216) ((a1 : Int) * 65536)) ((a2 : Int) * 256)) (a3 : Int)
      = ((16777216 * a0 + 65536 * a1 + 256 * a2 + a3 : Nat) : Int) := by
  have e0 : ((a0 : Int) * 16777216) = ((a0 * 16777216 : Nat) : Int) := by omega
  have e1 : ((a1 : Int) * 65536) = ((a1 * 65536 : Nat) : Int) := by omega
  have e2 : ((a2 : Int) * 256) = ((a2 * 256 : Nat) : Int) := by omega
  rw [e0, e1, e2, u32_or_nat _ _ (by omega) (by omega), or_join 24 _ _ (by omega) (by omega), u32_or_nat _ _ (by omega) (by omega), or_join 16 _ _ (by omega) (by omega),
    u32_or_nat _ _ (by omega) (by omega), or_join 8 _ _ (by omega) (by omega)]
  omega
theorem WInv.step {A : Array Value} {b : Nat → Nat} {w wr : World} {t : Nat} (h : WInv A b w t wr) (ht : t < 64) {x : Int} (hx : x = (((Sha.ws b (t + 1)).getD t 0 : Nat) : Int)) :
    WInv A b w (t + 1) (wr.setCell ⟨w.heap.size + 1 + 1, t, none⟩ (.int .u32 x)) := by
  subst hx
  refine ⟨?_, h.zero.setOther (by simp) _, (h.words.set t _).congr fun i hi => ?_, h.below.setCell (by simp; omega) _⟩
  · rw [Below.heap_setCell _ _ _ _ (by simp; omega)]; exact h.bytes
  · by_cases e : i = t
    · subst e; simp
    · simp only [if_neg e]
      rcases Nat.lt_or_ge i t with hl | hl
      · rw [Sha.ws_keep b hl (t + 1) (by omega)]
      · rw [List.getD_eq_getElem?_getD, List.getD_eq_getElem?_getD, List.getElem?_eq_none (by rw [Sha.ws_length]; omega), List.getElem?_eq_none (by rw [Sha.ws_length]; omega)]
theorem WInv.drew {A : Array Value} {b : Nat → Nat} {w wr : World} {t : Nat} (h : WInv A b w t wr) : WInv A b w t wr.drew := ⟨h.bytes, h.zero.drew, h.words.drew, h.below.drew⟩
theorem WInv.drewN {A : Array Value} {b : Nat → Nat} {w wr : World} {t : Nat} (h : WInv A b w t wr) (n : Nat) : WInv A b w t (wr.drewN n) := ⟨h.bytes, h.zero, h.words, ⟨h.below.os, h.below.tape, h.below.output, h.below.size, h.below.block⟩⟩


theorem xor3_int (x y z : Nat) (hx : x < 4294967296) (hy : y < 4294967296) (hz : z < 4294967296) :
    bits BinOp.xor IntKind.u32 (bits BinOp.xor IntKind.u32 (x : Int) (y : Int)) (z : Int) = (((x ^^^ y) ^^^ z : Nat) : Int) := by
  rw [u32_xor_nat _ _ hx hy, u32_xor_nat _ _ (Sha.xor_lt hx hy) hz]
theorem sig0_int (x : Nat) (h : x < 4294967296) : bits BinOp.xor IntKind.u32 (bits BinOp.xor IntKind.u32 ((Sha.rot x 7 : Nat) : Int) ((Sha.rot x 18 : Nat) : Int)) ((x : Int) / 8) = ((Sha.sig0 x : Nat) : Int) := by
  rw [show ((x : Int) / 8) = ((x / 8 : Nat) : Int) by omega, xor3_int _ _ _ (Sha.rot_lt h) (Sha.rot_lt h) (by omega)]
  rfl
theorem sig1_int (x : Nat) (h : x < 4294967296) : bits BinOp.xor IntKind.u32 (bits BinOp.xor IntKind.u32 ((Sha.rot x 17 : Nat) : Int) ((Sha.rot x 19 : Nat) : Int)) ((x : Int) / 1024) = ((Sha.sig1 x : Nat) : Int) := by
  rw [show ((x : Int) / 1024) = ((x / 1024 : Nat) : Int) by omega, xor3_int _ _ _ (Sha.rot_lt h) (Sha.rot_lt h) (by omega)]
  rfl
theorem ws_int (b : Nat → Nat) (hb : ∀ i, b i < 256) (t : Nat) (ht : 16 ≤ t) :
    (((((Sha.ws b t)[t - 16]?.getD 0 : Nat) : Int) + bits BinOp.xor IntKind.u32 (bits BinOp.xor IntKind.u32 ((Sha.rot ((Sha.ws b t)[t - 15]?.getD 0) 7 : Nat) : Int) ((Sha.rot ((Sha.ws b t)[t - 15]?.getD 0) 18 : Nat) : Int)) ((((Sha.ws b t)[t - 15]?.getD 0 : Nat) : Int) / 8)
      + (((Sha.ws b t)[t - 7]?.getD 0 : Nat) : Int) + bits BinOp.xor IntKind.u32 (bits BinOp.xor IntKind.u32 ((Sha.rot ((Sha.ws b t)[t - 2]?.getD 0) 17 : Nat) : Int) ((Sha.rot ((Sha.ws b t)[t - 2]?.getD 0) 19 : Nat) : Int)) ((((Sha.ws b t)[t - 2]?.getD 0 : Nat) : Int) / 1024)) % 4294967296)
      = (((Sha.ws b (t + 1)).getD t 0 : Nat) : Int) := by
  have h : ∀ i, (Sha.ws b t)[i]?.getD 0 < 4294967296 := fun i => Sha.ws_lt hb t i
  rw [sig0_int _ (h _), sig1_int _ (h _), Sha.ws_last, if_neg (by omega)]
  simp only [List.getD_eq_getElem?_getD]
  omega

set_option maxHeartbeats 1000000 in
theorem words_any (b : Nat → Nat) (hb : ∀ i, b i < 256) (w : World) :
    Calls Tryz.prog 144 #[.agg (arrOf .u8 64 b)] w fun e w' => e = .returned (.agg (arrOf .u32 64 fun i => (Sha.ws b 64).getD i 0)) ∧ Below w.heap.size w w' := by
  obtain ⟨A, hA⟩ : ∃ A, A = arrOf .u8 64 b := ⟨_, rfl⟩
  rw [← hA]
  have HC : Hid (∀ i, i < 64 → A[i]? = some (.int .u8 (b i))) := by rw [hA]; exact fun i hi => arrOf_get .u8 b hi
  have HA : Hid (A.size = 64) := by rw [hA]; exact arrOf_size _ _ _
  clear hA
  go_enter Tryz.func144, Tryz.ntmps144
  go_wp2
  go_loopw [4] (fun v wr => ∃ t : Nat, t ≤ 16 ∧ v = .int .i64 t ∧ Hid (WInv A b w t wr)) (fun v _ => 16 - (intOf v).toNat)
  case atStart => exact ⟨0, by omega, rfl, WInv.start A b w⟩
  case round =>
    obtain ⟨t, ht, rfl, hI⟩ := hrel
    by_cases hlt : t < 16
    · have c0 := hI.out.byte (HC.out) (i := 4 * t) (by omega)
      have c1 := hI.out.byte (HC.out) (i := 4 * t + 1) (by omega)
      have c2 := hI.out.byte (HC.out) (i := 4 * t + 2) (by omega)
      have c3 := hI.out.byte (HC.out) (i := 4 * t + 3) (by omega)
      have c4 := hI.out.word (i := t) (by omega)
      have f4 := hI.out.frozen t
      have b0 := hb (4 * t)
      have b1 := hb (4 * t + 1)
      have b2 := hb (4 * t + 2)
      have b3 := hb (4 * t + 3)
      go_wp2
      go_region
      go_wp2
      go_roundw
      case rel =>
        refine ⟨t + 1, by omega, by go_num, (hI.out.step (by omega) ?_).drew⟩
        rw [Sha.ws_last, if_pos hlt, head_int _ _ _ _ b0 b1 b2 b3]
        rfl
      case measure => simp [intOf]; omega
    · obtain rfl : t = 16 := by omega
      clear ht hlt
      go_wp2
      go_loopw [5] (fun v wr => ∃ t : Nat, 16 ≤ t ∧ t ≤ 64 ∧ v = .int .i64 t ∧ Hid (WInv A b w t wr)) (fun v _ => 64 - (intOf v).toNat)
      case atStart => exact ⟨16, by omega, by omega, rfl, hI⟩
      case round =>
        clear hI
        rename_i wo _ _ wr _ _
        obtain ⟨t, ht1, ht2, rfl, hI⟩ := hrel
        by_cases hlt : t < 64
        · have hw := Sha.ws_lt hb t
          have c0 := hI.out.word (i := t - 16) (by omega)
          have c1 := hI.out.word (i := t - 15) (by omega)
          have c2 := hI.out.word (i := t - 7) (by omega)
          have c3 := hI.out.word (i := t - 2) (by omega)
          have c4 := hI.out.word (i := t) (by omega)
          have f4 := hI.out.frozen t
          have i15 : IntKind.i64.wrap ((t : Int) - 15) = (t : Int) - 15 := IntWalk.i64_in _ (by omega)
          have p15 : 0 ≤ (t : Int) - 15 := by omega
          have q15 : (t : Int) - 15 < 64 := by omega
          have n15 : ((t : Int) - 15).toNat = t - 15 := by omega
          go_wp2
          go_quiet ((go_at_call 145; exact Calls.quiet_of_same (turn_q _ _ _ (hw _) (by decide) (by decide))))
          clear i15 p15 q15 n15
          go_wp2
          have i2 : IntKind.i64.wrap ((t : Int) - 2) = (t : Int) - 2 := IntWalk.i64_in _ (by omega)
          have p2 : 0 ≤ (t : Int) - 2 := by omega
          have q2 : (t : Int) - 2 < 64 := by omega
          have n2 : ((t : Int) - 2).toNat = t - 2 := by omega
          go_quiet ((go_at_call 145; exact quiet_more_same (turn_q _ _ _ (hw _) (by decide) (by decide))))
          clear i2 p2 q2 n2
          go_wp2
          have b0 := hw (t - 16)
          have b7 := hw (t - 7)
          rw [List.getD_eq_getElem?_getD] at b0 b7
          go_region
          go_wp2
          go_roundw
          case rel =>
            exact ⟨t + 1, by omega, by omega, by go_num, (hI.out.drewN _).step hlt (ws_int b hb t ht1)⟩
          case measure => simp [intOf]; omega
        · obtain rfl : t = 64 := by omega
          clear ht1 ht2 hlt
          have hz := Lib.hid (row_arr hI.out.words)
          have hz0 := Lib.hid (row_arr (f := fun _ => 0) hI.out.zero)
          have hI2 := Lib.hid hI.out.below
          clear hI
          have s69 : ∀ {f : Nat → Nat}, Hid ((Tryz.prog.info? 177).map (·.size) = some (arrOf .u32 64 f).size) := fun {f} => by rw [arrOf_size]; exact size69
          have ss : ∀ {f g : Nat → Nat}, Hid ((arrOf .u32 64 f).size = (arrOf .u32 64 g).size) := fun {f g} => by rw [arrOf_size, arrOf_size]; exact rfl
          go_wp2_with (first
            | (refine wpList_load_row rfl 177 _ rfl (w.heap.size + 1 + 1) rfl 177 _ (0, 0) _ hz.out Tryz.underlying177 rfl s69.out ?_)
            | (refine wpList_store_row rfl 177 _ _ rfl (w.heap.size + 1) (arrOf .u32 64 fun i => (Sha.ws b 64).getD i 0) rfl rfl 177 _ hz0.out s69.out ss.out (arrOf_one _ _ _) ?_)
            | (refine bodyPost_ret (results_cell_row Tryz.results144 _ _ (w.heap.size + 1) 177 _ (0, 0) _ rfl (setRow_heap _ _ _ _ _ _ hz0.out) Tryz.underlying177 rfl s69.out) rfl ⟨rfl, below_setRow' hI2.out (by omega) _⟩))
end Go.Proofs.YtdbhboglccggdaaGreatDoor
