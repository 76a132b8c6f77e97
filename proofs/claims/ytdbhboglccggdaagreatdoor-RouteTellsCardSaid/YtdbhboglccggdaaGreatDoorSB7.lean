/- The contract of the reference's point. -/
import Derived.Test.YtdbhboglccggdaaGreatDoorSB6
import Derived.Test.YtdbhboglccggdaaGreatDoorSA6
set_option linter.unusedVariables false
set_option linter.unusedSimpArgs false
namespace Go.Proofs.YtdbhboglccggdaaGreatDoor
open Go.RowKit
set_option maxRecDepth 100000 in
set_option maxHeartbeats 1000000 in
theorem rpoint_any (xs : List Nat) (c : Nat) (A : Option Addr) (w : World) (hx : Bytes w (· < w.heap.size) A xs) (hn : A = none → c = 0) (hs : xs.length ≤ 2000) :
    Calls Tryz.prog 66 #[.slice A xs.length c] w fun e w' => e = .returned (.int .u64 ((pt (sha xs) 8 : Nat) : Int)) ∧ Below w.heap.size w w' := by
  have hz := (zero_of_info info24).1
  obtain ⟨Z, hZ⟩ : ∃ Z, Z = arrOf .u8 32 (fun _ => 0) := ⟨_, rfl⟩
  rw [← hZ] at hz
  have ZS : Hid (Z.size = 32) := by rw [hZ]; exact arrOf_size _ _ _
  clear hZ
  obtain ⟨S, hS⟩ : ∃ S, S = arrOf .u8 32 (sha xs) := ⟨_, rfl⟩
  have HC : Hid (Calls Tryz.prog 56 #[.slice A xs.length c] w fun e w' => e = .returned (.agg S) ∧ Below w.heap.size w w') := by
    have h := rsum_any xs c A w hx hn hs
    rw [← hS] at h
    exact h
  have sS : Hid ((Tryz.prog.info? 93).map (·.size) = some S.size) := by rw [hS, arrOf_size]; exact size24
  have zS : Hid (Z.size = S.size) := by rw [hS, arrOf_size]; exact ZS
  have oS : Hid (S.all (·.oneCell') = true) := by rw [hS]; exact arrOf_one _ _ _
  have hd : ∀ i, sha xs i < 256 := fun i => bytesOf_lt _ i
  have HD := Lib.hid hd
  have HS := Lib.hid hS
  clear hS ZS hx hn hd
  go_enter Tryz.func66, Tryz.ntmps66
  go_wp2_with (first
    | (go_at_call 56; refine HC.out.mono ?_; rintro e w1 ⟨rfl, hb2⟩; have HB2 := Lib.hid hb2; clear hb2)
    | (refine wpList_store_row rfl 93 _ _ rfl w1.heap.size S rfl rfl 93 _ (heap_alloc_new w1 _) sS.out zS.out oS.out ?_
       rw [World.setRow_alloc_new]))
  have HR : Hid ((w1.alloc (.cells S 93)).rowIs w1.heap.size 93 32 (fun i => .int .u8 ((sha xs i : Nat) : Int))) := by
    rw [HS.out]; exact arr_row (heap_alloc_new _ _)
  have HB : Hid (Below w.heap.size w (w1.alloc (.cells S 93))) := HB2.out.alloc HB2.out.size _
  clear HB2 HC HS sS zS oS hz
  generalize w1.alloc (.cells S 93) = w2 at *
  generalize w1.heap.size = g at *
  go_loop [4, 5] (fun p v => ∃ i : Nat, i ≤ 8 ∧ v = .int .i64 i ∧ p = .int .u64 ((pt (sha xs) i : Nat) : Int)) (fun _ v => 8 - (intOf v).toNat)
  case atStart => exact ⟨0, by omega, rfl, rfl⟩
  case round =>
    obtain ⟨i, hi, rfl, rfl⟩ := hrel
    by_cases hlt : i < 8
    · have hc := HR.out.cell (i := i) (by omega)
      have hb := HD.out i
      have hp : pt (sha xs) i < 72057594037927936 := by
        have := pt_lt HD.out i
        have h2 : 256 ^ i ≤ 256 ^ 7 := Nat.pow_le_pow_right (by decide) (by omega)
        exact Nat.lt_of_lt_of_le this h2
      generalize hP : pt (sha xs) i = p at *
      generalize hX : sha xs i = x at *
      have HP := Lib.hid hP
      have HX := Lib.hid hX
      clear hP hX
      go_wp2
      go_round
      case rel => exact ⟨i + 1, by omega, by go_num, int_arg (by simp only [pt, HP.out, HX.out]; omega)⟩
      case measure => simp [intOf]; omega
    · obtain rfl : i = 8 := by omega
      clear hi hlt
      go_wp2
      go_ret
      exact ⟨rfl, HB.out⟩
end Go.Proofs.YtdbhboglccggdaaGreatDoor
