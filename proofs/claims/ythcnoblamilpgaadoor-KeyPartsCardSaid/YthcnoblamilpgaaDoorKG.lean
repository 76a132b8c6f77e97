/- The law KeyParts. -/
import Derived.Test.YthcnoblamilpgaaDoorKF
set_option maxRecDepth 100000
set_option linter.unusedVariables false
set_option linter.unusedSimpArgs false
namespace Go.Proofs.YthcnoblamilpgaaDoor
open Go.RowKit
set_option maxHeartbeats 4000000 in
theorem law_kparts (s l : ByteArray) (w : World) (ht : Tabs w) (hm : s.size ≤ maxLen) (hn : l.size ≤ maxLen) : Calls Tryd.prog 4 #[.string s, .string l] w fun e w' => e = .returned (.bool true) ∧ Below w.heap.size w w' := by
  have HT := Lib.hid ht
  have HM := Lib.hid hm
  have HN := Lib.hid hn
  clear ht
  by_cases hs : 200 < s.size
  · have hs' : (200 : Int) < (s.size : Int) := by omega
    clear hs hm hn
    go_enter Tryd.func4, Tryd.ntmps4
    go_wp2_with (go_at_call 8; refine (kalive_any _ HT.out).mono ?_; rintro e w1 ⟨rfl, hb1⟩; have HB1 := Lib.hid hb1; clear hb1)
    go_ret
    exact ⟨rfl, HB1.out⟩
  have hs' : ¬ (200 : Int) < (s.size : Int) := by omega
  by_cases hl : 200 < l.size
  · have hl' : (200 : Int) < (l.size : Int) := by omega
    clear hs hm hn hl
    go_enter Tryd.func4, Tryd.ntmps4
    go_wp2_with (go_at_call 8; refine (kalive_any _ HT.out).mono ?_; rintro e w1 ⟨rfl, hb1⟩; have HB1 := Lib.hid hb1; clear hb1)
    go_ret
    exact ⟨rfl, HB1.out⟩
  have hl' : ¬ (200 : Int) < (l.size : Int) := by omega
  clear hs hm hn hl
  have hPK := partK_lt s
  have hLK := leafK_lt s
  have hX1 : baseK (partK s) ≤ ptK s := by unfold baseK partK; omega
  have hX2 : ptK s < baseK (partK s + 1) := by unfold baseK partK; omega
  have hEq : ptK s = ptK l → partK l = partK s ∧ leafK l = leafK s := fun e => by unfold partK leafK; rw [e]; exact ⟨rfl, rfl⟩
  obtain ⟨pa, hpa⟩ : ∃ f : ByteArray → Nat, f = partK := ⟨_, rfl⟩
  obtain ⟨le, hle⟩ : ∃ f : ByteArray → Nat, f = leafK := ⟨_, rfl⟩
  obtain ⟨pk, hpk⟩ : ∃ f : ByteArray → Nat, f = ptK := ⟨_, rfl⟩
  have CP : Hid (∀ (t : ByteArray) (v : World), t.size ≤ maxLen → Below w.heap.size w v → Calls Tryd.prog 17 #[.string t] v fun e w' => e = .returned (.int .i64 ((pa t : Nat) : Int)) ∧ Below v.heap.size v w') := Lib.hid (fun t v hs hv => by rw [hpa]; exact part_any t v (HT.out.below hv) hs)
  have CL : Hid (∀ (t : ByteArray) (v : World), t.size ≤ maxLen → Below w.heap.size w v → Calls Tryd.prog 18 #[.string t] v fun e w' => e = .returned (.int .i64 ((le t : Nat) : Int)) ∧ Below v.heap.size v w') := Lib.hid (fun t v hs hv => by rw [hle]; exact leaf_any t v (HT.out.below hv) hs)
  have CX : Hid (∀ (t : ByteArray) (v : World), t.size ≤ maxLen → Below w.heap.size w v → Calls Tryd.prog 15 #[.string t] v fun e w' => e = .returned (.int .u64 ((pk t : Nat) : Int)) ∧ Below v.heap.size v w') := Lib.hid (fun t v hs hv => by rw [hpk]; exact kpoint_any t v (HT.out.below hv) hs)
  rw [← hpa, ← hle, ← hpk] at hEq
  rw [← hpa] at hPK
  rw [← hle] at hLK
  rw [← hpa, ← hpk] at hX1 hX2
  clear hpa hle hpk
  have HB : Hid (Below w.heap.size w w) := Below.refl _ _
  have HR := Lib.hid (baseR_ok (pa s) hPK)
  obtain ⟨B, hB⟩ : ∃ Z, Z = baseK (pa s) := ⟨_, rfl⟩
  rw [← hB] at HR hX1
  clear hB
  have q1 : ¬ ((pk s : Nat) : Int) < (B : Int) := by omega
  obtain ⟨G, hG⟩ : ∃ G, G = pa s + 1 := ⟨_, rfl⟩
  have EG : IntKind.i64.wrap (((pa s : Nat) : Int) + 1) = (G : Int) := by rw [IntWalk.i64_in _ (by omega)]; omega
  have n0 : (0 : Int) ≤ ((le s : Nat) : Int) := by omega
  have n1 : ((le s : Nat) : Int) < 16 := by omega
  clear hX1 hLK
  rw [← hG] at hX2
  have hR2 : (G < 8 ∧ Hid (baseR (G : Int) = .tuple #[.int .u64 ((baseK G : Nat) : Int), .int .i64 0])) ∨ (G = 8 ∧ Hid (baseR (G : Int) = .tuple #[.int .u64 0, .int .i64 1])) := by
    by_cases h : G < 8
    · exact .inl ⟨h, baseR_ok G h⟩
    · exact .inr ⟨by omega, baseR_bad _ (by omega)⟩
  have hsame : ((((pk s : Nat) : Int) == ((pk l : Nat) : Int)) = false) ∨ ((((pk s : Nat) : Int) == ((pk l : Nat) : Int)) = true ∧ (((pa s : Nat) : Int) == ((pa l : Nat) : Int)) = true ∧ (((le s : Nat) : Int) == ((le l : Nat) : Int)) = true) := by
    by_cases e : pk s = pk l
    · obtain ⟨e1, e2⟩ := hEq e
      exact .inr ⟨by rw [e, beq_self_eq_true], by rw [e1, beq_self_eq_true], by rw [e2, beq_self_eq_true]⟩
    · exact .inl (by rw [beq_eq_false_iff_ne]; omega)
  clear hEq
  rcases hR2 with ⟨hG8, HR2⟩ | ⟨hG8, HR2⟩
  · have q7 : ((pa s : Nat) : Int) < 7 := by omega
    obtain ⟨C, hC⟩ : ∃ Z, Z = baseK G := ⟨_, rfl⟩
    rw [← hC] at HR2 hX2
    clear hC
    have q2 : ¬ (C : Int) ≤ ((pk s : Nat) : Int) := by omega
    clear hG8 hG hX2 hPK
    rcases hsame with hxy | ⟨hxy, hpp, hll⟩
    · go_enter Tryd.func4, Tryd.ntmps4
      go_wp2_with (first
        | (go_at_call 17; refine (CP.out _ _ (by first | exact HM.out | exact HN.out) HB.out).mono ?_; rintro e w1 ⟨rfl, hb⟩; have HB1 := Lib.hid (HB.out.trans (hb.mono HB.out.size)); clear hb HB; have HB := HB1; clear HB1)
        | (go_at_call 9; refine (base_any _ _).mono ?_; (first | rw [HR.out] | rw [HR2.out]); rintro e w1 ⟨rfl, rfl⟩)
        | (go_at_call 15; refine (CX.out _ _ (by first | exact HM.out | exact HN.out) HB.out).mono ?_; rintro e w1 ⟨rfl, hb⟩; have HB1 := Lib.hid (HB.out.trans (hb.mono HB.out.size)); clear hb HB; have HB := HB1; clear HB1)
        | (go_at_call 18; refine (CL.out _ _ (by first | exact HM.out | exact HN.out) HB.out).mono ?_; rintro e w1 ⟨rfl, hb⟩; have HB1 := Lib.hid (HB.out.trans (hb.mono HB.out.size)); clear hb HB; have HB := HB1; clear HB1)
        | (go_at_call 8; refine (kalive_any _ (HT.out.below HB.out)).mono ?_; rintro e w1 ⟨rfl, hb⟩; have HB1 := Lib.hid (HB.out.trans (hb.mono HB.out.size)); clear hb HB; have HB := HB1; clear HB1))
      go_ret
      exact ⟨rfl, HB.out⟩
    · go_enter Tryd.func4, Tryd.ntmps4
      go_wp2_with (first
        | (go_at_call 17; refine (CP.out _ _ (by first | exact HM.out | exact HN.out) HB.out).mono ?_; rintro e w1 ⟨rfl, hb⟩; have HB1 := Lib.hid (HB.out.trans (hb.mono HB.out.size)); clear hb HB; have HB := HB1; clear HB1)
        | (go_at_call 9; refine (base_any _ _).mono ?_; (first | rw [HR.out] | rw [HR2.out]); rintro e w1 ⟨rfl, rfl⟩)
        | (go_at_call 15; refine (CX.out _ _ (by first | exact HM.out | exact HN.out) HB.out).mono ?_; rintro e w1 ⟨rfl, hb⟩; have HB1 := Lib.hid (HB.out.trans (hb.mono HB.out.size)); clear hb HB; have HB := HB1; clear HB1)
        | (go_at_call 18; refine (CL.out _ _ (by first | exact HM.out | exact HN.out) HB.out).mono ?_; rintro e w1 ⟨rfl, hb⟩; have HB1 := Lib.hid (HB.out.trans (hb.mono HB.out.size)); clear hb HB; have HB := HB1; clear HB1)
        | (go_at_call 8; refine (kalive_any _ (HT.out.below HB.out)).mono ?_; rintro e w1 ⟨rfl, hb⟩; have HB1 := Lib.hid (HB.out.trans (hb.mono HB.out.size)); clear hb HB; have HB := HB1; clear HB1))
      go_ret
      exact ⟨rfl, HB.out⟩
  · have q7 : ¬ ((pa s : Nat) : Int) < 7 := by omega
    clear hG8 hG hX2 hPK
    rcases hsame with hxy | ⟨hxy, hpp, hll⟩
    · go_enter Tryd.func4, Tryd.ntmps4
      go_wp2_with (first
        | (go_at_call 17; refine (CP.out _ _ (by first | exact HM.out | exact HN.out) HB.out).mono ?_; rintro e w1 ⟨rfl, hb⟩; have HB1 := Lib.hid (HB.out.trans (hb.mono HB.out.size)); clear hb HB; have HB := HB1; clear HB1)
        | (go_at_call 9; refine (base_any _ _).mono ?_; (first | rw [HR.out] | rw [HR2.out]); rintro e w1 ⟨rfl, rfl⟩)
        | (go_at_call 15; refine (CX.out _ _ (by first | exact HM.out | exact HN.out) HB.out).mono ?_; rintro e w1 ⟨rfl, hb⟩; have HB1 := Lib.hid (HB.out.trans (hb.mono HB.out.size)); clear hb HB; have HB := HB1; clear HB1)
        | (go_at_call 18; refine (CL.out _ _ (by first | exact HM.out | exact HN.out) HB.out).mono ?_; rintro e w1 ⟨rfl, hb⟩; have HB1 := Lib.hid (HB.out.trans (hb.mono HB.out.size)); clear hb HB; have HB := HB1; clear HB1)
        | (go_at_call 8; refine (kalive_any _ (HT.out.below HB.out)).mono ?_; rintro e w1 ⟨rfl, hb⟩; have HB1 := Lib.hid (HB.out.trans (hb.mono HB.out.size)); clear hb HB; have HB := HB1; clear HB1))
      go_ret
      exact ⟨rfl, HB.out⟩
    · go_enter Tryd.func4, Tryd.ntmps4
      go_wp2_with (first
        | (go_at_call 17; refine (CP.out _ _ (by first | exact HM.out | exact HN.out) HB.out).mono ?_; rintro e w1 ⟨rfl, hb⟩; have HB1 := Lib.hid (HB.out.trans (hb.mono HB.out.size)); clear hb HB; have HB := HB1; clear HB1)
        | (go_at_call 9; refine (base_any _ _).mono ?_; (first | rw [HR.out] | rw [HR2.out]); rintro e w1 ⟨rfl, rfl⟩)
        | (go_at_call 15; refine (CX.out _ _ (by first | exact HM.out | exact HN.out) HB.out).mono ?_; rintro e w1 ⟨rfl, hb⟩; have HB1 := Lib.hid (HB.out.trans (hb.mono HB.out.size)); clear hb HB; have HB := HB1; clear HB1)
        | (go_at_call 18; refine (CL.out _ _ (by first | exact HM.out | exact HN.out) HB.out).mono ?_; rintro e w1 ⟨rfl, hb⟩; have HB1 := Lib.hid (HB.out.trans (hb.mono HB.out.size)); clear hb HB; have HB := HB1; clear HB1)
        | (go_at_call 8; refine (kalive_any _ (HT.out.below HB.out)).mono ?_; rintro e w1 ⟨rfl, hb⟩; have HB1 := Lib.hid (HB.out.trans (hb.mono HB.out.size)); clear hb HB; have HB := HB1; clear HB1))
      go_ret
      exact ⟨rfl, HB.out⟩
end Go.Proofs.YthcnoblamilpgaaDoor
