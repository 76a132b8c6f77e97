/- The law KeyTells. -/
import Derived.Test.YthcnoblamilpgaaDoorKE
set_option maxRecDepth 100000
set_option linter.unusedVariables false
set_option linter.unusedSimpArgs false
namespace Go.Proofs.YthcnoblamilpgaaDoor
open Go.RowKit
theorem baseR_ok (k : Nat) (hk : k < 8) : baseR (k : Int) = .tuple #[.int .u64 ((baseK k : Nat) : Int), .int .i64 0] := by
  unfold baseR
  rw [if_pos (by omega)]
  rfl
theorem baseR_bad (p : Int) (h : p < 0 ∨ 8 ≤ p) : baseR p = .tuple #[.int .u64 0, .int .i64 1] := by
  unfold baseR
  rw [if_neg (by omega)]

set_option maxHeartbeats 4000000 in
theorem law_ktells (s : ByteArray) (p : Int) (w : World) (ht : Tabs w) (hm : s.size ≤ maxLen) : Calls Tryd.prog 3 #[.string s, .int .i64 p] w fun e w' => e = .returned (.bool true) ∧ Below w.heap.size w w' := by
  have HT := Lib.hid ht
  have HM := Lib.hid hm
  clear ht
  by_cases hs : 200 < s.size
  · have hs' : (200 : Int) < (s.size : Int) := by omega
    clear hs hm
    go_enter Tryd.func3, Tryd.ntmps3
    go_wp2_with (go_at_call 8; refine (kalive_any _ HT.out).mono ?_; rintro e w1 ⟨rfl, hb1⟩; have HB1 := Lib.hid hb1; clear hb1)
    go_ret
    exact ⟨rfl, HB1.out⟩
  have hs' : ¬ (200 : Int) < (s.size : Int) := by omega
  have HS : Hid (s.size ≤ 2000) := by show _ ≤ _; omega
  clear hs hm
  have HP : Hid (∀ (v : World) (hv : Below w.heap.size w v), Calls Tryd.prog 16 #[.string s] v fun _ _ => True) ∨ True := .inr trivial
  clear HP
  obtain ⟨P, hP⟩ : ∃ P, P = partK s := ⟨_, rfl⟩
  obtain ⟨L, hL⟩ : ∃ L, L = leafK s := ⟨_, rfl⟩
  obtain ⟨R, hR⟩ : ∃ R, R = rightK s := ⟨_, rfl⟩
  obtain ⟨X, hX⟩ : ∃ X, X = ptK s := ⟨_, rfl⟩
  have CA : Hid (∀ v, Below w.heap.size w v → Calls Tryd.prog 10 #[.string s] v fun e w' => e = .returned (.tuple #[.int .i64 (P : Int), .int .i64 (L : Int)]) ∧ Below v.heap.size v w') := Lib.hid (fun v hv => by rw [hP, hL]; exact at_any s v (HT.out.below hv) HM.out)
  have CP : Hid (∀ v, Below w.heap.size w v → Calls Tryd.prog 17 #[.string s] v fun e w' => e = .returned (.int .i64 (P : Int)) ∧ Below v.heap.size v w') := Lib.hid (fun v hv => by rw [hP]; exact part_any s v (HT.out.below hv) HM.out)
  have CL : Hid (∀ v, Below w.heap.size w v → Calls Tryd.prog 18 #[.string s] v fun e w' => e = .returned (.int .i64 (L : Int)) ∧ Below v.heap.size v w') := Lib.hid (fun v hv => by rw [hL]; exact leaf_any s v (HT.out.below hv) HM.out)
  have CX : Hid (∀ v, Below w.heap.size w v → Calls Tryd.prog 15 #[.string s] v fun e w' => e = .returned (.int .u64 (X : Int)) ∧ Below v.heap.size v w') := Lib.hid (fun v hv => by rw [hX]; exact kpoint_any s v (HT.out.below hv) HM.out)
  have CY : Hid (∀ (A : Addr) (c : Nat) (v : World), Bytes v (· < v.heap.size) (some A) (bs s) → Calls Tryd.prog 16 #[.slice (some A) (bs s).length c] v fun e w' => e = .returned (.int .u64 (X : Int)) ∧ Below v.heap.size v w') := Lib.hid (fun A c v hx => by
    rw [hX]
    exact rpoint_any (bs s) c (some A) v hx (fun e => by cases e) (by rw [bs_length]; exact HS.out))
  have DP : Hid (∀ v, Calls Tryd.prog 11 #[.string s] v fun e w' => e = .returned (.int .i64 (P : Int)) ∧ Below v.heap.size v w') := Lib.hid (fun v => by rw [hP]; exact rpart_any s v HS.out)
  have DL : Hid (∀ v, Calls Tryd.prog 12 #[.string s] v fun e w' => e = .returned (.int .i64 (L : Int)) ∧ Below v.heap.size v w') := Lib.hid (fun v => by rw [hL]; exact rleaf_any s v HS.out)
  have CR : Hid (∀ v, Calls Tryd.prog 13 #[.string s] v fun e w' => e = .returned (.bool R) ∧ v = w') := Lib.hid (fun v => by rw [hR]; exact right_any s v)
  have DR : Hid (∀ v, Calls Tryd.prog 14 #[.string s] v fun e w' => e = .returned (.bool R) ∧ v = w') := Lib.hid (fun v => by rw [hR]; exact rright_any s v)
  clear hP hL hR hX HS HM
  have HB : Hid (Below w.heap.size w w) := Below.refl _ _
  have hcase : (p < 0 ∨ 8 ≤ p) ∨ ∃ k : Nat, k < 8 ∧ p = (k : Int) := by
    by_cases h : p < 0 ∨ 8 ≤ p
    · exact .inl h
    · exact .inr ⟨p.toNat, by omega, by omega⟩
  rcases hcase with hp | ⟨k, hk, rfl⟩
  · have HR := Lib.hid (baseR_bad p hp)
    rcases (show p < 0 ∨ (¬ p < 0 ∧ 7 < p) by omega) with h1 | ⟨h1, h2⟩
    all_goals
      clear hp
      go_enter Tryd.func3, Tryd.ntmps3
      go_wp2_with (first
        | (go_at_call 9; refine (base_any _ _).mono ?_; rw [HR.out]; rintro e w1 ⟨rfl, rfl⟩)
        | (go_at_call 10; refine (CA.out _ HB.out).mono ?_; rintro e w1 ⟨rfl, hb⟩; have HB1 := Lib.hid (HB.out.trans (hb.mono HB.out.size)); clear hb HB; have HB := HB1; clear HB1)
        | (go_at_call 11; refine (DP.out _).mono ?_; rintro e w1 ⟨rfl, hb⟩; have HB1 := Lib.hid (HB.out.trans (hb.mono HB.out.size)); clear hb HB; have HB := HB1; clear HB1)
        | (go_at_call 12; refine (DL.out _).mono ?_; rintro e w1 ⟨rfl, hb⟩; have HB1 := Lib.hid (HB.out.trans (hb.mono HB.out.size)); clear hb HB; have HB := HB1; clear HB1)
        | (go_at_call 13; refine (CR.out _).mono ?_; rintro e w1 ⟨rfl, rfl⟩)
        | (go_at_call 14; refine (DR.out _).mono ?_; rintro e w1 ⟨rfl, rfl⟩)
        | (go_at_call 15; refine (CX.out _ HB.out).mono ?_; rintro e w1 ⟨rfl, hb⟩; have HB1 := Lib.hid (HB.out.trans (hb.mono HB.out.size)); clear hb HB; have HB := HB1; clear HB1)
        | (refine wpList_sbytes (by go_simp) 9 33 5 _ rfl Tryd.underlying9 Tryd.underlying33 Tryd.underlying5 s rfl ?_; intro A c wz HX HCC hb; have HB1 := Lib.hid (HB.out.trans (hb.out.mono HB.out.size)); clear hb HB; have HB := HB1; clear HB1)
        | (go_at_call 16; refine (CY.out A c _ HX.out).mono ?_; rintro e w1 ⟨rfl, hb⟩; have HB1 := Lib.hid (HB.out.trans (hb.mono HB.out.size)); clear hb HB; have HB := HB1; clear HB1)
        | (go_at_call 17; refine (CP.out _ HB.out).mono ?_; rintro e w1 ⟨rfl, hb⟩; have HB1 := Lib.hid (HB.out.trans (hb.mono HB.out.size)); clear hb HB; have HB := HB1; clear HB1)
        | (go_at_call 18; refine (CL.out _ HB.out).mono ?_; rintro e w1 ⟨rfl, hb⟩; have HB1 := Lib.hid (HB.out.trans (hb.mono HB.out.size)); clear hb HB; have HB := HB1; clear HB1)
        | (go_at_call 8; refine (kalive_any _ (HT.out.below HB.out)).mono ?_; rintro e w1 ⟨rfl, hb⟩; have HB1 := Lib.hid (HB.out.trans (hb.mono HB.out.size)); clear hb HB; have HB := HB1; clear HB1))
      go_ret
      exact ⟨rfl, HB.out⟩
  · have HR := Lib.hid (baseR_ok k hk)
    have h1 : ¬ (k : Int) < 0 := by omega
    have h2 : ¬ (7 : Int) < (k : Int) := by omega
    obtain ⟨Z, hZ⟩ : ∃ Z, Z = baseK k := ⟨_, rfl⟩
    rw [← hZ] at HR
    have CB : Hid (∀ v, Calls Tryd.prog 19 #[.int .i64 (k : Int)] v fun e w' => e = .returned (.int .u64 (Z : Int)) ∧ v = w') := Lib.hid (fun v => by rw [hZ]; exact rbase_any k v hk)
    clear hk hZ
    go_enter Tryd.func3, Tryd.ntmps3
    go_wp2_with (first
      | (go_at_call 9; refine (base_any _ _).mono ?_; rw [HR.out]; rintro e w1 ⟨rfl, rfl⟩)
      | (go_at_call 10; refine (CA.out _ HB.out).mono ?_; rintro e w1 ⟨rfl, hb⟩; have HB1 := Lib.hid (HB.out.trans (hb.mono HB.out.size)); clear hb HB; have HB := HB1; clear HB1)
      | (go_at_call 11; refine (DP.out _).mono ?_; rintro e w1 ⟨rfl, hb⟩; have HB1 := Lib.hid (HB.out.trans (hb.mono HB.out.size)); clear hb HB; have HB := HB1; clear HB1)
      | (go_at_call 12; refine (DL.out _).mono ?_; rintro e w1 ⟨rfl, hb⟩; have HB1 := Lib.hid (HB.out.trans (hb.mono HB.out.size)); clear hb HB; have HB := HB1; clear HB1)
      | (go_at_call 13; refine (CR.out _).mono ?_; rintro e w1 ⟨rfl, rfl⟩)
      | (go_at_call 14; refine (DR.out _).mono ?_; rintro e w1 ⟨rfl, rfl⟩)
      | (go_at_call 15; refine (CX.out _ HB.out).mono ?_; rintro e w1 ⟨rfl, hb⟩; have HB1 := Lib.hid (HB.out.trans (hb.mono HB.out.size)); clear hb HB; have HB := HB1; clear HB1)
      | (refine wpList_sbytes (by go_simp) 9 33 5 _ rfl Tryd.underlying9 Tryd.underlying33 Tryd.underlying5 s rfl ?_; intro A c wz HX HCC hb; have HB1 := Lib.hid (HB.out.trans (hb.out.mono HB.out.size)); clear hb HB; have HB := HB1; clear HB1)
      | (go_at_call 16; refine (CY.out A c _ HX.out).mono ?_; rintro e w1 ⟨rfl, hb⟩; have HB1 := Lib.hid (HB.out.trans (hb.mono HB.out.size)); clear hb HB; have HB := HB1; clear HB1)
      | (go_at_call 17; refine (CP.out _ HB.out).mono ?_; rintro e w1 ⟨rfl, hb⟩; have HB1 := Lib.hid (HB.out.trans (hb.mono HB.out.size)); clear hb HB; have HB := HB1; clear HB1)
      | (go_at_call 18; refine (CL.out _ HB.out).mono ?_; rintro e w1 ⟨rfl, hb⟩; have HB1 := Lib.hid (HB.out.trans (hb.mono HB.out.size)); clear hb HB; have HB := HB1; clear HB1)
      | (go_at_call 19; refine (CB.out _).mono ?_; rintro e w1 ⟨rfl, rfl⟩)
      | (go_at_call 8; refine (kalive_any _ (HT.out.below HB.out)).mono ?_; rintro e w1 ⟨rfl, hb⟩; have HB1 := Lib.hid (HB.out.trans (hb.mono HB.out.size)); clear hb HB; have HB := HB1; clear HB1))
    go_ret
    exact ⟨rfl, HB.out⟩
end Go.Proofs.YthcnoblamilpgaaDoor
