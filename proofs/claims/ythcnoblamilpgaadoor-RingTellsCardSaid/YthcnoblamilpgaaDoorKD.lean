/- The reference's Right; what must come of fixed calls. -/
import Derived.Test.YthcnoblamilpgaaDoorKC
set_option maxRecDepth 100000
set_option linter.unusedVariables false
set_option linter.unusedSimpArgs false
namespace Go.Proofs.YthcnoblamilpgaaDoor
open Go.RowKit
set_option maxHeartbeats 4000000 in
theorem rright_any (s : ByteArray) (w : World) : Calls Tryd.prog 14 #[.string s] w fun e w' => e = .returned (.bool (rightK s)) ∧ w = w' := by
  by_cases h1 : s.size < 1
  · have HR := Lib.hid (rightK_size (s := s) (by omega))
    have h1' : (s.size : Int) < 1 := by omega
    clear h1
    go_enter Tryd.func14, Tryd.ntmps14
    go_wp2
    go_ret
    exact ⟨ret_bool HR.out.symm, rfl⟩
  by_cases h2 : 20 < s.size
  · have HR := Lib.hid (rightK_size (s := s) (by omega))
    have h1' : ¬ (s.size : Int) < 1 := by omega
    have h2' : (20 : Int) < (s.size : Int) := by omega
    clear h1 h2
    go_enter Tryd.func14, Tryd.ntmps14
    go_wp2
    go_ret
    exact ⟨ret_bool HR.out.symm, rfl⟩
  have H1 : Hid (1 ≤ s.size) := by show 1 ≤ s.size; omega
  have H2 : Hid (s.size ≤ 20) := by show s.size ≤ 20; omega
  have h1' : ¬ (s.size : Int) < 1 := by omega
  have h2' : ¬ (20 : Int) < (s.size : Int) := by omega
  clear h1 h2
  go_enter Tryd.func14, Tryd.ntmps14
  go_wp2
  go_loop [3] (fun v => ∃ i : Nat, i ≤ s.size ∧ v = .int .i64 i ∧ Hid (∀ j, j < i → letter ((bs s).getD j 0) = true)) (fun v => s.size - (intOf v).toNat)
  case atStart => exact ⟨0, by omega, rfl, fun j hj => by omega⟩
  case round =>
    obtain ⟨i, hi, rfl, HN⟩ := hrel
    by_cases hlt : i < s.size
    · have hlt' : (i : Int) < (s.size : Int) := by omega
      obtain ⟨v, hv⟩ : ∃ v, v = (bs s).getD i 0 := ⟨_, rfl⟩
      have HV := Lib.hid hv
      have HR : Hid (letter v = false → rightK s = false) := Lib.hid (fun h => rightK_false hlt (by rw [← HV.out]; exact h))
      have HN2 : Hid (letter v = true → ∀ j, j < i + 1 → letter ((bs s).getD j 0) = true) := Lib.hid (fun h j hj => by
        by_cases e : j = i
        · subst e; rw [← HV.out]; exact h
        · exact HN.out j (by omega))
      clear hv
      rcases (show 97 ≤ v ∧ v ≤ 122 ∨ 122 < v ∨ 48 ≤ v ∧ v ≤ 57 ∨ 57 < v ∧ v < 97 ∨ v < 48 ∧ v ≠ 45 ∨ v = 45 by omega) with hc | hc | hc | hc | hc | hc
      · have h1 : (97 : Int) ≤ (v : Int) := by omega
        have h2 : (v : Int) ≤ 122 := by omega
        go_wp2_with (refine wpList_strix (by go_simp) 9 _ _ rfl Tryd.underlying9 s i rfl rfl hlt ?_; rw [← HV.out])
        go_round
        case rel => exact ⟨i + 1, by omega, by go_num, HN2.out (by unfold letter; rw [decide_eq_true_eq]; omega)⟩
        case measure => simp [intOf]; omega
      · have h1 : (97 : Int) ≤ (v : Int) := by omega
        have h2 : ¬ (v : Int) ≤ 122 := by omega
        have h3 : (48 : Int) ≤ (v : Int) := by omega
        have h4 : ¬ (v : Int) ≤ 57 := by omega
        have h5 : ((v : Int) == 45) = false := by rw [beq_eq_false_iff_ne]; omega
        go_wp2_with (refine wpList_strix (by go_simp) 9 _ _ rfl Tryd.underlying9 s i rfl rfl hlt ?_; rw [← HV.out])
        go_ret
        exact ⟨ret_bool (HR.out (by unfold letter; rw [decide_eq_false_iff_not]; omega)).symm, rfl⟩
      · have h1 : ¬ (97 : Int) ≤ (v : Int) := by omega
        have h3 : (48 : Int) ≤ (v : Int) := by omega
        have h4 : (v : Int) ≤ 57 := by omega
        go_wp2_with (refine wpList_strix (by go_simp) 9 _ _ rfl Tryd.underlying9 s i rfl rfl hlt ?_; rw [← HV.out])
        go_round
        case rel => exact ⟨i + 1, by omega, by go_num, HN2.out (by unfold letter; rw [decide_eq_true_eq]; omega)⟩
        case measure => simp [intOf]; omega
      · have h1 : ¬ (97 : Int) ≤ (v : Int) := by omega
        have h3 : (48 : Int) ≤ (v : Int) := by omega
        have h4 : ¬ (v : Int) ≤ 57 := by omega
        have h5 : ((v : Int) == 45) = false := by rw [beq_eq_false_iff_ne]; omega
        go_wp2_with (refine wpList_strix (by go_simp) 9 _ _ rfl Tryd.underlying9 s i rfl rfl hlt ?_; rw [← HV.out])
        go_ret
        exact ⟨ret_bool (HR.out (by unfold letter; rw [decide_eq_false_iff_not]; omega)).symm, rfl⟩
      · have h1 : ¬ (97 : Int) ≤ (v : Int) := by omega
        have h3 : ¬ (48 : Int) ≤ (v : Int) := by omega
        have h5 : ((v : Int) == 45) = false := by rw [beq_eq_false_iff_ne]; omega
        go_wp2_with (refine wpList_strix (by go_simp) 9 _ _ rfl Tryd.underlying9 s i rfl rfl hlt ?_; rw [← HV.out])
        go_ret
        exact ⟨ret_bool (HR.out (by unfold letter; rw [decide_eq_false_iff_not]; omega)).symm, rfl⟩
      · have h1 : ¬ (97 : Int) ≤ (v : Int) := by omega
        have h3 : ¬ (48 : Int) ≤ (v : Int) := by omega
        have h5 : ((v : Int) == 45) = true := by rw [beq_iff_eq]; omega
        go_wp2_with (refine wpList_strix (by go_simp) 9 _ _ rfl Tryd.underlying9 s i rfl rfl hlt ?_; rw [← HV.out])
        go_round
        case rel => exact ⟨i + 1, by omega, by go_num, HN2.out (by unfold letter; rw [decide_eq_true_eq]; omega)⟩
        case measure => simp [intOf]; omega
    · obtain rfl : i = s.size := by omega
      have HR := Lib.hid (rightK_true H1.out H2.out HN.out)
      go_wp2
      go_ret
      exact ⟨ret_bool HR.out.symm, rfl⟩
end Go.Proofs.YthcnoblamilpgaaDoor
