/- Contracts of small functions of the reference: its turn, its words. -/
import Derived.Test.YtdbhboglccggdaaGreatDoorSA2
set_option linter.unusedVariables false
set_option linter.unusedSimpArgs false
namespace Go.Proofs.YtdbhboglccggdaaGreatDoor
open Go.RowKit

theorem u64_shl (x n : Nat) (h : x < 4294967296) (h2 : n ≤ 31) : ((x * 2 ^ n : Nat)) < 18446744073709551616 := by
  have : 2 ^ n ≤ 2 ^ 31 := Nat.pow_le_pow_right (by omega) h2
  have h3 : x * 2 ^ n ≤ 4294967295 * 2 ^ 31 := Nat.mul_le_mul (by omega) this
  omega
theorem rrot_int (x n : Nat) (h : x < 4294967296) (h1 : 1 ≤ n) (h2 : n ≤ 31) : bits BinOp.or IntKind.u64 ((x : Int) / 2 ^ n) ((IntKind.u64.wrap ((x : Int) * 2 ^ (32 - n))).tmod 4294967296) = ((Sha.rot x n : Nat) : Int) := by
  have hs := u64_shl x (32 - n) h (by omega)
  have e1 : ((x : Int) / 2 ^ n) = ((x / 2 ^ n : Nat) : Int) := by rw [Int.natCast_ediv, Int.natCast_pow]; rfl
  have e2 : ((x : Int) * 2 ^ (32 - n)) = ((x * 2 ^ (32 - n) : Nat) : Int) := by rw [Int.natCast_mul, Int.natCast_pow]; rfl
  rw [e2, IntWalk.u64_in _ (by omega), e1]
  have e3 : ((x * 2 ^ (32 - n) : Nat) : Int).tmod 4294967296 = ((x * 2 ^ (32 - n) % 4294967296 : Nat) : Int) := by
    rw [Int.tmod_eq_emod_of_nonneg (by omega)]; rfl
  rw [e3, u64_or_nat _ _ (Nat.lt_of_le_of_lt (Nat.div_le_self _ _) (by omega)) (by omega)]
  rfl
set_option maxHeartbeats 400000 in
theorem rturn_any (x : Nat) (n : Nat) (w : World) (h : x < 4294967296) (h1 : 1 ≤ n) (h2 : n ≤ 31) :
    Calls Tryz.prog 88 #[.int .u64 x, .int .u64 n] w fun e w' => e = .returned (.int .u64 ((Sha.rot x n : Nat) : Int)) ∧ w = w' := by
  go_enter Tryz.func88, Tryz.ntmps88
  go_wp2
  go_ret
  exact ⟨ret_int (rrot_int x n h h1 h2), rfl⟩
theorem rturn_q (x : Nat) (k : Int) (w : World) (h : x < 4294967296) (h1 : 1 ≤ k) (h2 : k ≤ 31) :
    Calls Tryz.prog 88 #[.int .u64 x, .int .u64 k] w fun e w' => e = .returned (.int .u64 ((Sha.rot x k.toNat : Nat) : Int)) ∧ w = w' := by
  have e : k = ((k.toNat : Nat) : Int) := by omega
  have h := rturn_any x k.toNat w h (by omega) (by omega)
  rw [← e] at h
  exact h

theorem rxor3_int (x y z : Nat) (hx : x < 4294967296) (hy : y < 4294967296) (hz : z < 4294967296) :
    bits BinOp.xor IntKind.u64 (bits BinOp.xor IntKind.u64 (x : Int) (y : Int)) (z : Int) = (((x ^^^ y) ^^^ z : Nat) : Int) := by
  have := Sha.xor_lt hx hy
  rw [u64_xor_nat _ _ (by omega) (by omega), u64_xor_nat _ _ (by omega) (by omega)]
theorem rsig0_int (x : Nat) (h : x < 4294967296) : bits BinOp.xor IntKind.u64 (bits BinOp.xor IntKind.u64 ((Sha.rot x 7 : Nat) : Int) ((Sha.rot x 18 : Nat) : Int)) ((x : Int) / 8) = ((Sha.sig0 x : Nat) : Int) := by
  rw [show ((x : Int) / 8) = ((x / 8 : Nat) : Int) by omega, rxor3_int _ _ _ (Sha.rot_lt h) (Sha.rot_lt h) (by omega)]
  rfl
theorem rsig1_int (x : Nat) (h : x < 4294967296) : bits BinOp.xor IntKind.u64 (bits BinOp.xor IntKind.u64 ((Sha.rot x 17 : Nat) : Int) ((Sha.rot x 19 : Nat) : Int)) ((x : Int) / 1024) = ((Sha.sig1 x : Nat) : Int) := by
  rw [show ((x : Int) / 1024) = ((x / 1024 : Nat) : Int) by omega, rxor3_int _ _ _ (Sha.rot_lt h) (Sha.rot_lt h) (by omega)]
  rfl
set_option maxHeartbeats 1000000 in
theorem rword_head (b : Nat → Nat) (hb : ∀ i, b i < 256) (t : Nat) (ht : t < 16) (bb oo c : Nat) (wv : Value) (w : World) (hc : ∀ i, i < 64 → w.cell? ⟨bb, oo + i, none⟩ = some (.int .u8 ((b i : Nat) : Int))) :
    Calls Tryz.prog 87 #[.slice (some ⟨bb, oo, none⟩) 64 c, wv, .int .i64 t] w fun e w' => e = .returned (.int .u64 (((Sha.ws b (t + 1)).getD t 0 : Nat) : Int)) ∧ Below w.heap.size w w' := by
  have c0 := hc (4 * t) (by omega)
  have c1 := hc (4 * t + 1) (by omega)
  have c2 := hc (4 * t + 2) (by omega)
  have c3 := hc (4 * t + 3) (by omega)
  have b0 := hb (4 * t)
  have b1 := hb (4 * t + 1)
  have b2 := hb (4 * t + 2)
  have b3 := hb (4 * t + 3)
  have HE : Hid (((Sha.ws b (t + 1)).getD t 0 : Nat) = 16777216 * b (4 * t) + 65536 * b (4 * t + 1) + 256 * b (4 * t + 2) + b (4 * t + 3)) := by
    show _ = _
    rw [Sha.ws_last, if_pos ht]; rfl
  obtain ⟨r, hr⟩ : ∃ r, r = ((Sha.ws b (t + 1)).getD t 0 : Nat) := ⟨_, rfl⟩
  rw [← hr] at HE ⊢
  clear hr hb hc
  go_enter Tryz.func87, Tryz.ntmps87
  go_wp2
  go_region
  go_wp2
  go_ret
  refine ⟨ret_int ?_, (Below.refl _ _).drew⟩
  have := HE.out
  omega

set_option maxHeartbeats 1000000 in
theorem rword_tail (b : Nat → Nat) (hb : ∀ i, b i < 256) (t : Nat) (h1 : 16 ≤ t) (h2 : t < 64) (B : Nat) (bv : Value) (w : World) (hr : w.rowIs B 121 64 (fun i => .int .u64 (((Sha.ws b t).getD i 0 : Nat) : Int))) :
    Calls Tryz.prog 87 #[bv, .slice (some ⟨B, 0, none⟩) 64 64, .int .i64 t] w fun e w' => e = .returned (.int .u64 (((Sha.ws b (t + 1)).getD t 0 : Nat) : Int)) ∧ Below w.heap.size w w' := by
  have hw := Sha.ws_lt hb t
  obtain ⟨f, hf⟩ : ∃ f : Nat → Nat, f = fun i => (Sha.ws b t).getD i 0 := ⟨_, rfl⟩
  have HE : Hid ((Sha.ws b (t + 1)).getD t 0 = (f (t - 16) + Sha.sig0 (f (t - 15)) + f (t - 7) + Sha.sig1 (f (t - 2))) % 4294967296) := by
    show _ = _
    rw [Sha.ws_last, if_neg (by omega), hf]
  obtain ⟨r, hrr⟩ : ∃ r, r = ((Sha.ws b (t + 1)).getD t 0 : Nat) := ⟨_, rfl⟩
  rw [← hrr] at HE ⊢
  have hl : ∀ i, f i < 4294967296 := fun i => by rw [hf]; exact hw i
  have hrow : ∀ i, i < 64 → w.cell? ⟨B, i, none⟩ = some (.int .u64 ((f i : Nat) : Int)) := fun i hi => by rw [hf]; exact hr.cell hi
  have c16 := hrow (t - 16) (by omega)
  have c15 := hrow (t - 15) (by omega)
  have c7 := hrow (t - 7) (by omega)
  have c2 := hrow (t - 2) (by omega)
  have l16 := hl (t - 16)
  have l15 := hl (t - 15)
  have l7 := hl (t - 7)
  have l2 := hl (t - 2)
  obtain ⟨x16, e16⟩ : ∃ x, x = f (t - 16) := ⟨_, rfl⟩
  obtain ⟨x15, e15⟩ : ∃ x, x = f (t - 15) := ⟨_, rfl⟩
  obtain ⟨x7, e7⟩ : ∃ x, x = f (t - 7) := ⟨_, rfl⟩
  obtain ⟨x2, e2⟩ : ∃ x, x = f (t - 2) := ⟨_, rfl⟩
  rw [← e16] at c16 l16 HE
  rw [← e15] at c15 l15 HE
  rw [← e7] at c7 l7 HE
  rw [← e2] at c2 l2 HE
  clear hrr hr hw hf hl hrow e16 e15 e7 e2 hb
  have i15 : IntKind.i64.wrap ((t : Int) - 15) = (t : Int) - 15 := IntWalk.i64_in _ (by omega)
  have p15 : 0 ≤ (t : Int) - 15 := by omega
  have q15 : (t : Int) - 15 < 64 := by omega
  have n15 : ((t : Int) - 15).toNat = t - 15 := by omega
  have i2 : IntKind.i64.wrap ((t : Int) - 2) = (t : Int) - 2 := IntWalk.i64_in _ (by omega)
  have p2 : 0 ≤ (t : Int) - 2 := by omega
  have q2 : (t : Int) - 2 < 64 := by omega
  have n2 : ((t : Int) - 2).toNat = t - 2 := by omega
  have i16 : IntKind.i64.wrap ((t : Int) - 16) = (t : Int) - 16 := IntWalk.i64_in _ (by omega)
  have p16 : 0 ≤ (t : Int) - 16 := by omega
  have q16 : (t : Int) - 16 < 64 := by omega
  have n16 : ((t : Int) - 16).toNat = t - 16 := by omega
  have i7 : IntKind.i64.wrap ((t : Int) - 7) = (t : Int) - 7 := IntWalk.i64_in _ (by omega)
  have p7 : 0 ≤ (t : Int) - 7 := by omega
  have q7 : (t : Int) - 7 < 64 := by omega
  have n7 : ((t : Int) - 7).toNat = t - 7 := by omega
  go_enter Tryz.func87, Tryz.ntmps87
  go_wp2
  go_region
  go_wp2_with (go_at_call 88; refine (rturn_q _ _ _ (by first | exact l15 | exact l2) (by decide) (by decide)).mono ?_; rintro e w1 ⟨rfl, rfl⟩)
  go_region
  go_wp2
  go_ret
  refine ⟨ret_int ?_, (by first | exact (Below.refl _ _).drew.drew | exact below_drewN (Below.refl _ _).drew _)⟩
  have := HE.out
  rw [rsig0_int _ l15, rsig1_int _ l2]
  have := Sha.sig0_lt l15
  have := Sha.sig1_lt l2
  rw [IntWalk.u64_in ((x16 : Int) + ((Sha.sig0 x15 : Nat) : Int)) (by omega), IntWalk.u64_in ((x16 : Int) + ((Sha.sig0 x15 : Nat) : Int) + (x7 : Int)) (by omega), IntWalk.u64_in _ (by omega), Int.tmod_eq_emod_of_nonneg (by omega)]
  omega
end Go.Proofs.YtdbhboglccggdaaGreatDoor
