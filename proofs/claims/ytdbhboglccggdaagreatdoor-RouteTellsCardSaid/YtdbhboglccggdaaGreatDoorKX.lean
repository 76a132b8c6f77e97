/- The contracts of the reference's functions of keys. The reference's Right; what must come of fixed calls. What must come of fixed calls; the law KeyTells. The law KeyTells. -/
import Derived.Test.YtdbhboglccggdaaGreatDoorKB
import Derived.Test.YtdbhboglccggdaaGreatDoorSB7
set_option maxRecDepth 100000
set_option linter.unusedVariables false
set_option linter.unusedSimpArgs false
namespace Go.Proofs.YtdbhboglccggdaaGreatDoor
open Go.RowKit
theorem pt8 (d : Nat → Nat) : pt d 8 = ((((((d 0 * 256 + d 1) * 256 + d 2) * 256 + d 3) * 256 + d 4) * 256 + d 5) * 256 + d 6) * 256 + d 7 := by
  simp only [pt, Nat.zero_mul, Nat.zero_add]
theorem part_byte (s : ByteArray) : partK s = sha (bs s) 0 / 32 := by
  have h0 := bytesOf_lt (shaFin (bs s)).h 0
  have h1 := bytesOf_lt (shaFin (bs s)).h 1
  have h2 := bytesOf_lt (shaFin (bs s)).h 2
  have h3 := bytesOf_lt (shaFin (bs s)).h 3
  have h4 := bytesOf_lt (shaFin (bs s)).h 4
  have h5 := bytesOf_lt (shaFin (bs s)).h 5
  have h6 := bytesOf_lt (shaFin (bs s)).h 6
  have h7 := bytesOf_lt (shaFin (bs s)).h 7
  unfold partK ptK
  rw [pt8]
  unfold sha
  omega
theorem leaf_byte (s : ByteArray) : leafK s = sha (bs s) 0 / 2 % 16 := by
  have h0 := bytesOf_lt (shaFin (bs s)).h 0
  have h1 := bytesOf_lt (shaFin (bs s)).h 1
  have h2 := bytesOf_lt (shaFin (bs s)).h 2
  have h3 := bytesOf_lt (shaFin (bs s)).h 3
  have h4 := bytesOf_lt (shaFin (bs s)).h 4
  have h5 := bytesOf_lt (shaFin (bs s)).h 5
  have h6 := bytesOf_lt (shaFin (bs s)).h 6
  have h7 := bytesOf_lt (shaFin (bs s)).h 7
  unfold leafK ptK
  rw [pt8]
  unfold sha
  omega
set_option maxHeartbeats 1000000 in
theorem rpart_any (s : ByteArray) (w : World) (hs : s.size ≤ 2000) : Calls Tryz.prog 37 #[.string s] w fun e w' => e = .returned (.int .i64 ((partK s : Nat) : Int)) ∧ Below w.heap.size w w' := by
  have hz := (zero_of_info info24).1
  obtain ⟨Z, hZ⟩ : ∃ Z, Z = arrOf .u8 32 (fun _ => 0) := ⟨_, rfl⟩
  rw [← hZ] at hz
  have ZS : Hid (Z.size = 32) := by rw [hZ]; exact arrOf_size _ _ _
  clear hZ
  obtain ⟨S, hS⟩ : ∃ S, S = arrOf .u8 32 (sha (bs s)) := ⟨_, rfl⟩
  have HC : Hid (∀ (A : Addr) (c : Nat) (v : World), Bytes v (· < v.heap.size) (some A) (bs s) → Calls Tryz.prog 56 #[.slice (some A) (bs s).length c] v fun e w' => e = .returned (.agg S) ∧ Below v.heap.size v w') := Lib.hid (fun A c v hx => by
    have h := rsum_any (bs s) c (some A) v hx (fun e => by cases e) (by rw [bs_length]; exact hs)
    rw [← hS] at h
    exact h)
  have sS : Hid ((Tryz.prog.info? 93).map (·.size) = some S.size) := by rw [hS, arrOf_size]; exact size24
  have zS : Hid (Z.size = S.size) := by rw [hS, arrOf_size]; exact ZS
  have oS : Hid (S.all (·.oneCell') = true) := by rw [hS]; exact arrOf_one _ _ _
  obtain ⟨d, hd⟩ : ∃ d, d = sha (bs s) 0 := ⟨_, rfl⟩
  have HD := Lib.hid hd
  have HL : Hid (d < 256) := by rw [hd]; exact bytesOf_lt _ _
  have HS : Hid (∀ v : World, (v.alloc (.cells S 93)).cell? ⟨v.heap.size, 0, none⟩ = some (.int .u8 (d : Int))) := Lib.hid (fun v => by
    rw [hd, hS]
    exact (arr_row (heap_alloc_new _ _)).cell (by omega))
  have HE : Hid ((d : Int) / 32 % 256 = ((partK s : Nat) : Int)) := by
    have h1 := part_byte s
    rw [← hd] at h1
    have h2 := HL.out
    show _ = _
    rw [h1]
    omega
  clear hS ZS hs hd
  go_enter Tryz.func37, Tryz.ntmps37
  go_wp2_with (first
    | (refine wpList_sbytes (by go_simp) 9 95 5 _ rfl Tryz.underlying9 Tryz.underlying95 Tryz.underlying5 s rfl ?_; intro A c w1 HX HCC HB1)
    | (go_at_call 56; refine (HC.out A c w1 HX.out).mono ?_; rintro e w2 ⟨rfl, hb2⟩; have HB2 := Lib.hid (HB1.out.trans (hb2.mono HB1.out.size)); clear hb2)
    | (refine wpList_store_row rfl 93 _ _ rfl w2.heap.size S rfl rfl 93 _ (heap_alloc_new w2 _) sS.out zS.out oS.out ?_
       rw [World.setRow_alloc_new]
       have hc := HS.out w2))
  go_ret
  exact ⟨int_arg' HE.out, HB2.out.alloc HB2.out.size _⟩
end Go.Proofs.YtdbhboglccggdaaGreatDoor

set_option maxRecDepth 100000
set_option linter.unusedVariables false
set_option linter.unusedSimpArgs false
namespace Go.Proofs.YtdbhboglccggdaaGreatDoor
open Go.RowKit
set_option maxHeartbeats 4000000 in
theorem rright_any (s : ByteArray) (w : World) : Calls Tryz.prog 35 #[.string s] w fun e w' => e = .returned (.bool (rightK s)) ∧ w = w' := by
  by_cases h1 : s.size < 1
  · have HR := Lib.hid (rightK_size (s := s) (by omega))
    have h1' : (s.size : Int) < 1 := by omega
    clear h1
    go_enter Tryz.func35, Tryz.ntmps35
    go_wp2
    go_ret
    exact ⟨ret_bool HR.out.symm, rfl⟩
  by_cases h2 : 20 < s.size
  · have HR := Lib.hid (rightK_size (s := s) (by omega))
    have h1' : ¬ (s.size : Int) < 1 := by omega
    have h2' : (20 : Int) < (s.size : Int) := by omega
    clear h1 h2
    go_enter Tryz.func35, Tryz.ntmps35
    go_wp2
    go_ret
    exact ⟨ret_bool HR.out.symm, rfl⟩
  have H1 : Hid (1 ≤ s.size) := by show 1 ≤ s.size; omega
  have H2 : Hid (s.size ≤ 20) := by show s.size ≤ 20; omega
  have h1' : ¬ (s.size : Int) < 1 := by omega
  have h2' : ¬ (20 : Int) < (s.size : Int) := by omega
  clear h1 h2
  go_enter Tryz.func35, Tryz.ntmps35
  go_wp2
  go_loop [3] (fun v => ∃ i : Nat, i ≤ s.size ∧ v = .int .i64 i ∧ Hid (∀ j, j < i → letter ((bs s).getD j 0) = true)) (fun v => s.size - (intOf v).toNat)
  case atStart => exact ⟨0, by omega, rfl, fun j hj => by omega⟩
  case round =>
    obtain ⟨i, hi, rfl, HN⟩ := hrel
    by_cases hlt : i < s.size
    · have hlt' : (i : Int) < (s.size : Int) := by omega
      obtain ⟨v, hv⟩ : ∃ v, v = (bs s).getD i 0 := ⟨_, rfl⟩
      have HV := Lib.hid hv
      have HR : Hid (letter v = false → rightK s = false) := Lib.hid (fun h => rightK_false hlt (by rw [← HV.out]; exact h))
      have HN2 : Hid (letter v = true → ∀ j, j < i + 1 → letter ((bs s).getD j 0) = true) := Lib.hid (fun h j hj => by
        by_cases e : j = i
        · subst e; rw [← HV.out]; exact h
        · exact HN.out j (by omega))
      clear hv
      rcases (show 97 ≤ v ∧ v ≤ 122 ∨ 122 < v ∨ 48 ≤ v ∧ v ≤ 57 ∨ 57 < v ∧ v < 97 ∨ v < 48 ∧ v ≠ 45 ∨ v = 45 by omega) with hc | hc | hc | hc | hc | hc
      · have h1 : (97 : Int) ≤ (v : Int) := by omega
        have h2 : (v : Int) ≤ 122 := by omega
        go_wp2_with (refine wpList_strix (by go_simp) 9 _ _ rfl Tryz.underlying9 s i rfl rfl hlt ?_; rw [← HV.out])
        go_round
        case rel => exact ⟨i + 1, by omega, by go_num, HN2.out (by unfold letter; rw [decide_eq_true_eq]; omega)⟩
        case measure => simp [intOf]; omega
      · have h1 : (97 : Int) ≤ (v : Int) := by omega
        have h2 : ¬ (v : Int) ≤ 122 := by omega
        have h3 : (48 : Int) ≤ (v : Int) := by omega
        have h4 : ¬ (v : Int) ≤ 57 := by omega
        have h5 : ((v : Int) == 45) = false := by rw [beq_eq_false_iff_ne]; omega
        go_wp2_with (refine wpList_strix (by go_simp) 9 _ _ rfl Tryz.underlying9 s i rfl rfl hlt ?_; rw [← HV.out])
        go_ret
        exact ⟨ret_bool (HR.out (by unfold letter; rw [decide_eq_false_iff_not]; omega)).symm, rfl⟩
      · have h1 : ¬ (97 : Int) ≤ (v : Int) := by omega
        have h3 : (48 : Int) ≤ (v : Int) := by omega
        have h4 : (v : Int) ≤ 57 := by omega
        go_wp2_with (refine wpList_strix (by go_simp) 9 _ _ rfl Tryz.underlying9 s i rfl rfl hlt ?_; rw [← HV.out])
        go_round
        case rel => exact ⟨i + 1, by omega, by go_num, HN2.out (by unfold letter; rw [decide_eq_true_eq]; omega)⟩
        case measure => simp [intOf]; omega
      · have h1 : ¬ (97 : Int) ≤ (v : Int) := by omega
        have h3 : (48 : Int) ≤ (v : Int) := by omega
        have h4 : ¬ (v : Int) ≤ 57 := by omega
        have h5 : ((v : Int) == 45) = false := by rw [beq_eq_false_iff_ne]; omega
        go_wp2_with (refine wpList_strix (by go_simp) 9 _ _ rfl Tryz.underlying9 s i rfl rfl hlt ?_; rw [← HV.out])
        go_ret
        exact ⟨ret_bool (HR.out (by unfold letter; rw [decide_eq_false_iff_not]; omega)).symm, rfl⟩
      · have h1 : ¬ (97 : Int) ≤ (v : Int) := by omega
        have h3 : ¬ (48 : Int) ≤ (v : Int) := by omega
        have h5 : ((v : Int) == 45) = false := by rw [beq_eq_false_iff_ne]; omega
        go_wp2_with (refine wpList_strix (by go_simp) 9 _ _ rfl Tryz.underlying9 s i rfl rfl hlt ?_; rw [← HV.out])
        go_ret
        exact ⟨ret_bool (HR.out (by unfold letter; rw [decide_eq_false_iff_not]; omega)).symm, rfl⟩
      · have h1 : ¬ (97 : Int) ≤ (v : Int) := by omega
        have h3 : ¬ (48 : Int) ≤ (v : Int) := by omega
        have h5 : ((v : Int) == 45) = true := by rw [beq_iff_eq]; omega
        go_wp2_with (refine wpList_strix (by go_simp) 9 _ _ rfl Tryz.underlying9 s i rfl rfl hlt ?_; rw [← HV.out])
        go_round
        case rel => exact ⟨i + 1, by omega, by go_num, HN2.out (by unfold letter; rw [decide_eq_true_eq]; omega)⟩
        case measure => simp [intOf]; omega
    · obtain rfl : i = s.size := by omega
      have HR := Lib.hid (rightK_true H1.out H2.out HN.out)
      go_wp2
      go_ret
      exact ⟨ret_bool HR.out.symm, rfl⟩
end Go.Proofs.YtdbhboglccggdaaGreatDoor

set_option maxRecDepth 100000
set_option linter.unusedVariables false
set_option linter.unusedSimpArgs false
namespace Go.Proofs.YtdbhboglccggdaaGreatDoor
open Go.RowKit
def baseR (p : Int) : Value := if 0 ≤ p ∧ p < 8 then .tuple #[.int .u64 ((baseK p.toNat : Nat) : Int), .int .i64 0] else .tuple #[.int .u64 0, .int .i64 1]
theorem base_any (p : Int) (w : World) : Calls Tryz.prog 46 #[.int .i64 p] w fun e w' => e = .returned (baseR p) ∧ w = w' := by
  unfold baseR
  split
  · rename_i h
    have h1 := base_ok p.toNat w (by omega)
    rwa [show ((p.toNat : Nat) : Int) = p by omega] at h1
  · exact base_bad p w (by omega)
theorem baseR1 : baseR 1 = .tuple #[.int .u64 2305843009213693952, .int .i64 0] := rfl
theorem baseR8 : baseR 8 = .tuple #[.int .u64 0, .int .i64 1] := rfl
theorem rk1 : rightK ⟨#[99, 97, 114, 116, 45, 55]⟩ = true := by decide +kernel
theorem rk2 : rightK ⟨#[]⟩ = false := by decide +kernel
theorem rk3 : rightK ⟨#[67, 97, 114, 116]⟩ = false := by decide +kernel
theorem bs_abc : bs ⟨#[97, 98, 99]⟩ = abc := by decide +kernel
theorem pk_abc : ptK ⟨#[97, 98, 99]⟩ = 13436514500253700074 := by unfold ptK; rw [bs_abc]; exact abcP
theorem pa_abc : partK ⟨#[97, 98, 99]⟩ = 5 := by unfold partK; rw [pk_abc]
theorem le_abc : leafK ⟨#[97, 98, 99]⟩ = 13 := by unfold leafK; rw [pk_abc]
theorem k_abc (w : World) (ht : Tabs w) : Calls Tryz.prog 51 #[.string ⟨#[97, 98, 99]⟩] w fun e w' => e = .returned (.int .u64 13436514500253700074) ∧ Below w.heap.size w w' := by
  have h := kpoint_any ⟨#[97, 98, 99]⟩ w ht (by decide)
  rw [pk_abc] at h
  exact h
theorem p_abc (w : World) (ht : Tabs w) : Calls Tryz.prog 28 #[.string ⟨#[97, 98, 99]⟩] w fun e w' => e = .returned (.int .i64 5) ∧ Below w.heap.size w w' := by
  have h := part_any ⟨#[97, 98, 99]⟩ w ht (by decide)
  rw [pa_abc] at h
  exact h
end Go.Proofs.YtdbhboglccggdaaGreatDoor

set_option maxRecDepth 100000
set_option linter.unusedVariables false
set_option linter.unusedSimpArgs false
namespace Go.Proofs.YtdbhboglccggdaaGreatDoor
open Go.RowKit
theorem baseR_ok (k : Nat) (hk : k < 8) : baseR (k : Int) = .tuple #[.int .u64 ((baseK k : Nat) : Int), .int .i64 0] := by
  unfold baseR
  rw [if_pos (by omega)]
  rfl
theorem baseR_bad (p : Int) (h : p < 0 ∨ 8 ≤ p) : baseR p = .tuple #[.int .u64 0, .int .i64 1] := by
  unfold baseR
  rw [if_neg (by omega)]

end Go.Proofs.YtdbhboglccggdaaGreatDoor
