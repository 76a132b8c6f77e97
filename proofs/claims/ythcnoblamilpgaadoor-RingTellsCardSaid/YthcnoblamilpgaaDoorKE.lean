/- What must come of fixed calls; the law KeyTells. -/
import Derived.Test.YthcnoblamilpgaaDoorKD
set_option maxRecDepth 100000
set_option linter.unusedVariables false
set_option linter.unusedSimpArgs false
namespace Go.Proofs.YthcnoblamilpgaaDoor
open Go.RowKit
def baseR (p : Int) : Value := if 0 ≤ p ∧ p < 8 then .tuple #[.int .u64 ((baseK p.toNat : Nat) : Int), .int .i64 0] else .tuple #[.int .u64 0, .int .i64 1]
theorem base_any (p : Int) (w : World) : Calls Tryd.prog 9 #[.int .i64 p] w fun e w' => e = .returned (baseR p) ∧ w = w' := by
  unfold baseR
  split
  · rename_i h
    have h1 := base_ok p.toNat w (by omega)
    rwa [show ((p.toNat : Nat) : Int) = p by omega] at h1
  · exact base_bad p w (by omega)
theorem baseR1 : baseR 1 = .tuple #[.int .u64 2305843009213693952, .int .i64 0] := rfl
theorem baseR8 : baseR 8 = .tuple #[.int .u64 0, .int .i64 1] := rfl
theorem rk1 : rightK ⟨#[99, 97, 114, 116, 45, 55]⟩ = true := by decide +kernel
theorem rk2 : rightK ⟨#[]⟩ = false := by decide +kernel
theorem rk3 : rightK ⟨#[67, 97, 114, 116]⟩ = false := by decide +kernel
theorem bs_abc : bs ⟨#[97, 98, 99]⟩ = abc := by decide +kernel
theorem pk_abc : ptK ⟨#[97, 98, 99]⟩ = 13436514500253700074 := by unfold ptK; rw [bs_abc]; exact abcP
theorem pa_abc : partK ⟨#[97, 98, 99]⟩ = 5 := by unfold partK; rw [pk_abc]
theorem le_abc : leafK ⟨#[97, 98, 99]⟩ = 13 := by unfold leafK; rw [pk_abc]
theorem k_abc (w : World) (ht : Tabs w) : Calls Tryd.prog 15 #[.string ⟨#[97, 98, 99]⟩] w fun e w' => e = .returned (.int .u64 13436514500253700074) ∧ Below w.heap.size w w' := by
  have h := kpoint_any ⟨#[97, 98, 99]⟩ w ht (by decide)
  rw [pk_abc] at h
  exact h
theorem p_abc (w : World) (ht : Tabs w) : Calls Tryd.prog 17 #[.string ⟨#[97, 98, 99]⟩] w fun e w' => e = .returned (.int .i64 5) ∧ Below w.heap.size w w' := by
  have h := part_any ⟨#[97, 98, 99]⟩ w ht (by decide)
  rw [pa_abc] at h
  exact h
theorem l_abc (w : World) (ht : Tabs w) : Calls Tryd.prog 18 #[.string ⟨#[97, 98, 99]⟩] w fun e w' => e = .returned (.int .i64 13) ∧ Below w.heap.size w w' := by
  have h := leaf_any ⟨#[97, 98, 99]⟩ w ht (by decide)
  rw [le_abc] at h
  exact h
set_option maxHeartbeats 2000000 in
theorem kalive_any (w : World) (ht : Tabs w) : Calls Tryd.prog 8 #[] w fun e w' => e = .returned (.bool true) ∧ Below w.heap.size w w' := by
  have HT := Lib.hid ht
  clear ht
  go_enter Tryd.func8, Tryd.ntmps8
  go_wp2_with (first
    | (go_at_call 9; refine (base_any _ _).mono ?_; (first | rw [baseR1] | rw [baseR8]); rintro e w1 ⟨rfl, rfl⟩)
    | (go_at_call 13; refine (right_any _ _).mono ?_; (first | rw [rk1] | rw [rk2] | rw [rk3]); rintro e w1 ⟨rfl, rfl⟩)
    | (go_at_call 15; refine (k_abc _ HT.out).mono ?_; rintro e w2 ⟨rfl, hb2⟩; have HB2 := Lib.hid hb2; clear hb2)
    | (go_at_call 17; refine (p_abc _ (HT.out.below HB2.out)).mono ?_; rintro e w3 ⟨rfl, hb3⟩; have HB3 := Lib.hid (HB2.out.trans (hb3.mono HB2.out.size)); clear hb3)
    | (go_at_call 18; refine (l_abc _ (HT.out.below HB3.out)).mono ?_; rintro e w4 ⟨rfl, hb4⟩; have HB4 := Lib.hid (HB3.out.trans (hb4.mono HB3.out.size)); clear hb4))
  go_ret
  exact ⟨rfl, HB4.out⟩
end Go.Proofs.YthcnoblamilpgaaDoor
