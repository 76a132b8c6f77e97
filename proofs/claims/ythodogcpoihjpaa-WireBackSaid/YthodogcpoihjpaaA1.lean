/- The contract of bits.Len64. -/
import Derived.Test.YthodogcpoihjpaaRows
import Derived.Lib.Strings
import Derived.Lib.Slices
import Derived.Lib.Small
import Derived.Lib.Walk
import Derived.Lib.BitFns
import Derived.Lib.Hide
namespace Go.Proofs.Ythodogcpoihjpaa
theorem ret_i64 {a b : Int} (h : a = b) : Ending.returned (.int .i64 a) = .returned (.int .i64 b) := by rw [h]

set_option maxHeartbeats 4000000 in
set_option maxRecDepth 100000 in
theorem len64_any (n : Nat) (w : World) (h : n < 18446744073709551616) : Calls Try.prog 27 #[.int .u64 (n : Int)] w fun e w' => e = .returned (.int .i64 ((Lib.bitLen n : Nat) : Int)) ∧ w' = w := by
  obtain ⟨x, hx⟩ : ∃ x : Int, x = (n : Int) := ⟨_, rfl⟩
  rw [← hx]
  have h0 : 0 ≤ x := by omega
  have h1 : x ≤ 18446744073709551615 := by omega
  have HX : n = x.toNat := by omega
  subst HX
  clear hx h
  go_enter Try.func27, Try.ntmps27
  go_wp2
  all_goals (go_ret; refine ⟨ret_i64 ?_, rfl⟩)
  all_goals first
    | (rw [Lib.len8_of (x / 4294967296 / 65536 / 256 % 256) (by omega) (by omega)]
       have hn : (x / 4294967296 / 65536 / 256 % 256).toNat = x.toNat / 72057594037927936 := by omega
       have hl := Lib.bitLen_le8' (x / 4294967296 / 65536 / 256 % 256) (by omega) (by omega)
       have hs := Lib.bitLen_shift56 x.toNat (by omega) (by omega)
       rw [hn] at hl ⊢
       
       omega)
    | (rw [Lib.len8_of (x / 4294967296 / 65536 % 256) (by omega) (by omega)]
       have hn : (x / 4294967296 / 65536 % 256).toNat = x.toNat / 281474976710656 := by omega
       have hl := Lib.bitLen_le8' (x / 4294967296 / 65536 % 256) (by omega) (by omega)
       have hs := Lib.bitLen_shift48 x.toNat (by omega) (by omega)
       rw [hn] at hl ⊢
       
       omega)
    | (rw [Lib.len8_of (x / 4294967296 / 256 % 256) (by omega) (by omega)]
       have hn : (x / 4294967296 / 256 % 256).toNat = x.toNat / 1099511627776 := by omega
       have hl := Lib.bitLen_le8' (x / 4294967296 / 256 % 256) (by omega) (by omega)
       have hs := Lib.bitLen_shift40 x.toNat (by omega) (by omega)
       rw [hn] at hl ⊢
       
       omega)
    | (rw [Lib.len8_of (x / 4294967296 % 256) (by omega) (by omega)]
       have hn : (x / 4294967296 % 256).toNat = x.toNat / 4294967296 := by omega
       have hl := Lib.bitLen_le8' (x / 4294967296 % 256) (by omega) (by omega)
       have hs := Lib.bitLen_shift32 x.toNat (by omega) (by omega)
       rw [hn] at hl ⊢
       
       omega)
    | (rw [Lib.len8_of (x / 65536 / 256 % 256) (by omega) (by omega)]
       have hn : (x / 65536 / 256 % 256).toNat = x.toNat / 16777216 := by omega
       have hl := Lib.bitLen_le8' (x / 65536 / 256 % 256) (by omega) (by omega)
       have hs := Lib.bitLen_shift24 x.toNat (by omega) (by omega)
       rw [hn] at hl ⊢
       
       omega)
    | (rw [Lib.len8_of (x / 65536 % 256) (by omega) (by omega)]
       have hn : (x / 65536 % 256).toNat = x.toNat / 65536 := by omega
       have hl := Lib.bitLen_le8' (x / 65536 % 256) (by omega) (by omega)
       have hs := Lib.bitLen_shift16 x.toNat (by omega) (by omega)
       rw [hn] at hl ⊢
       
       omega)
    | (rw [Lib.len8_of (x / 256 % 256) (by omega) (by omega)]
       have hn : (x / 256 % 256).toNat = x.toNat / 256 := by omega
       have hl := Lib.bitLen_le8' (x / 256 % 256) (by omega) (by omega)
       have hs := Lib.bitLen_shift8 x.toNat (by omega) (by omega)
       rw [hn] at hl ⊢
       
       omega)
    | (rw [Lib.len8_of (x % 256) (by omega) (by omega)]
       have hn : (x % 256).toNat = x.toNat / 1 := by omega
       have hl := Lib.bitLen_le8' (x % 256) (by omega) (by omega)
       have hs := Nat.div_one x.toNat
       rw [hn] at hl ⊢
       rw [hs] at hl ⊢
       omega)
end Go.Proofs.Ythodogcpoihjpaa
