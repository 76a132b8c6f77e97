/- The contracts of key's functions: Right, Point, Part, Leaf, At, Base. -/
import Derived.Test.YtdbhboglccggdaaGreatDoorKA
set_option maxRecDepth 100000
set_option linter.unusedVariables false
set_option linter.unusedSimpArgs false
namespace Go.Proofs.YtdbhboglccggdaaGreatDoor
open Go.RowKit
def rightK (s : ByteArray) : Bool := decide (1 ≤ s.size ∧ s.size ≤ 20) && (bs s).all letter
theorem rightK_true {s : ByteArray} (h1 : 1 ≤ s.size) (h2 : s.size ≤ 20) (h : ∀ j, j < s.size → letter ((bs s).getD j 0) = true) : rightK s = true := by
  unfold rightK
  rw [decide_eq_true ⟨h1, h2⟩, Bool.true_and, List.all_eq_true]
  intro x hx
  obtain ⟨i, hi, rfl⟩ := List.getElem_of_mem hx
  have := h i (by rw [← bs_length]; exact hi)
  rwa [List.getD_eq_getElem?_getD, List.getElem?_eq_getElem hi] at this
theorem rightK_false {s : ByteArray} {j : Nat} (hj : j < s.size) (h : letter ((bs s).getD j 0) = false) : rightK s = false := by
  have hi : j < (bs s).length := by rw [bs_length]; exact hj
  unfold rightK
  rw [List.getD_eq_getElem?_getD, List.getElem?_eq_getElem hi] at h
  rw [Bool.and_eq_false_iff]
  right
  rw [Bool.eq_false_iff]
  intro e
  rw [List.all_eq_true] at e
  have := e _ (List.getElem_mem hi)
  rw [show (bs s)[j] = ((some (bs s)[j]).getD 0) from rfl, h] at this
  cases this
theorem rightK_size {s : ByteArray} (h : ¬ (1 ≤ s.size ∧ s.size ≤ 20)) : rightK s = false := by
  unfold rightK
  rw [decide_eq_false h, Bool.false_and]

set_option maxHeartbeats 2000000 in
theorem right_any (s : ByteArray) (w : World) : Calls Tryz.prog 24 #[.string s] w fun e w' => e = .returned (.bool (rightK s)) ∧ w = w' := by
  by_cases h1 : s.size < 1
  · have HR := Lib.hid (rightK_size (s := s) (by omega))
    have h1' : (s.size : Int) < 1 := by omega
    clear h1
    go_enter Tryz.func24, Tryz.ntmps24
    go_wp2
    go_ret
    exact ⟨ret_bool HR.out.symm, rfl⟩
  by_cases h2 : 20 < s.size
  · have HR := Lib.hid (rightK_size (s := s) (by omega))
    have h1' : ¬ (s.size : Int) < 1 := by omega
    have h2' : (20 : Int) < (s.size : Int) := by omega
    clear h1 h2
    go_enter Tryz.func24, Tryz.ntmps24
    go_wp2
    go_ret
    exact ⟨ret_bool HR.out.symm, rfl⟩
  have H1 : Hid (1 ≤ s.size) := by show 1 ≤ s.size; omega
  have H2 : Hid (s.size ≤ 20) := by show s.size ≤ 20; omega
  have h1' : ¬ (s.size : Int) < 1 := by omega
  have h2' : ¬ (20 : Int) < (s.size : Int) := by omega
  clear h1 h2
  go_enter Tryz.func24, Tryz.ntmps24
  go_wp2
  go_loop [14] (fun v => ∃ i : Nat, i ≤ s.size ∧ v = .int .i64 i ∧ Hid (∀ j, j < i → letter ((bs s).getD j 0) = true)) (fun v => s.size - (intOf v).toNat)
  case atStart => exact ⟨0, by omega, rfl, fun j hj => by omega⟩
  case round =>
    obtain ⟨i, hi, rfl, HN⟩ := hrel
    by_cases hlt : i < s.size
    · have hlt' : (i : Int) < (s.size : Int) := by omega
      obtain ⟨v, hv⟩ : ∃ v, v = (bs s).getD i 0 := ⟨_, rfl⟩
      have HV := Lib.hid hv
      have HL : Hid (v < 256) := by
        show v < 256
        rw [hv, bs_get s i hlt]
        exact UInt8.toNat_lt _
      clear hv
      cases hlv : letter v with
      | false =>
        have HR := Lib.hid (rightK_false hlt (by rw [← HV.out]; exact hlv))
        go_wp2_with (first
          | (refine wpList_strix (by go_simp) 9 _ _ rfl Tryz.underlying9 s i rfl rfl hlt ?_; rw [← HV.out])
          | (go_at_call 45; refine (isLetter_any v HL.out _).mono ?_; rw [hlv]; rintro e w1 ⟨rfl, rfl⟩))
        go_ret
        exact ⟨ret_bool HR.out.symm, rfl⟩
      | true =>
        have HN2 : Hid (∀ j, j < i + 1 → letter ((bs s).getD j 0) = true) := Lib.hid (fun j hj => by
          by_cases e : j = i
          · subst e; rw [← HV.out]; exact hlv
          · exact HN.out j (by omega))
        go_wp2_with (first
          | (refine wpList_strix (by go_simp) 9 _ _ rfl Tryz.underlying9 s i rfl rfl hlt ?_; rw [← HV.out])
          | (go_at_call 45; refine (isLetter_any v HL.out _).mono ?_; rw [hlv]; rintro e w1 ⟨rfl, rfl⟩))
        go_round
        case rel => exact ⟨i + 1, by omega, by go_num, HN2⟩
        case measure => simp [intOf]; omega
    · obtain rfl : i = s.size := by omega
      have HR := Lib.hid (rightK_true H1.out H2.out HN.out)
      go_wp2
      go_ret
      exact ⟨ret_bool HR.out.symm, rfl⟩

/-- A text's point. -/
def ptK (s : ByteArray) : Nat := pt (sha (bs s)) 8
theorem ptK_lt (s : ByteArray) : ptK s < 18446744073709551616 := pt_lt (fun i => bytesOf_lt _ i) 8
set_option maxHeartbeats 1000000 in
theorem kpoint_any (s : ByteArray) (w : World) (ht : Tabs w) (hm : s.size ≤ maxLen) : Calls Tryz.prog 51 #[.string s] w fun e w' => e = .returned (.int .u64 ((ptK s : Nat) : Int)) ∧ Below w.heap.size w w' := by
  have HT := Lib.hid ht
  have HM := Lib.hid hm
  clear ht hm
  go_enter Tryz.func51, Tryz.ntmps51
  go_wp2_with (first
    | (refine wpList_sbytes (by go_simp) 9 95 5 _ rfl Tryz.underlying9 Tryz.underlying95 Tryz.underlying5 s rfl ?_; intro A c w1 HX HC HB1)
    | (go_at_call 65; refine (point_any (bs s) c (some A) w1 (HT.out.below HB1.out) HX.out HC.out (by rw [bs_length]; exact HM.out)).mono ?_; rintro e w2 ⟨rfl, hb2⟩; have HB2 := Lib.hid (HB1.out.trans (hb2.mono HB1.out.size)); clear hb2))
  go_ret
  exact ⟨rfl, HB2.out⟩
theorem int_arg' {k : IntKind} {a b : Int} (h : a = b) : Ending.returned (.int k a) = .returned (.int k b) := by rw [h]
theorem partOf_any (p : Nat) (w : World) (hp : p < 18446744073709551616) : Calls Tryz.prog 50 #[.int .u64 (p : Int)] w fun e w' => e = .returned (.int .i64 ((p / 2305843009213693952 : Nat) : Int)) ∧ w = w' := by
  have HE : Hid (wrap64 ((p : Int) / 2305843009213693952) = ((p / 2305843009213693952 : Nat) : Int)) := by
    show wrap64 _ = _
    rw [IntWalk.wrap64_in _ (by omega)]
    omega
  clear hp
  go_enter Tryz.func50, Tryz.ntmps50
  go_wp2
  go_ret
  exact ⟨int_arg' HE.out, rfl⟩
def partK (s : ByteArray) : Nat := ptK s / 2305843009213693952
def leafK (s : ByteArray) : Nat := ptK s / 144115188075855872 % 16
theorem partK_lt (s : ByteArray) : partK s < 8 := by
  have := ptK_lt s
  unfold partK
  omega
theorem leafK_lt (s : ByteArray) : leafK s < 16 := by
  unfold leafK
  omega
set_option maxHeartbeats 1000000 in
theorem part_any (s : ByteArray) (w : World) (ht : Tabs w) (hm : s.size ≤ maxLen) : Calls Tryz.prog 28 #[.string s] w fun e w' => e = .returned (.int .i64 ((partK s : Nat) : Int)) ∧ Below w.heap.size w w' := by
  have HT := Lib.hid ht
  have HM := Lib.hid hm
  clear ht hm
  go_enter Tryz.func28, Tryz.ntmps28
  go_wp2_with (first
    | (go_at_call 51; refine (kpoint_any s _ HT.out HM.out).mono ?_; rintro e w2 ⟨rfl, hb2⟩; have HB2 := Lib.hid hb2; clear hb2)
    | (go_at_call 50; refine (partOf_any (ptK s) _ (ptK_lt s)).mono ?_; rintro e w3 ⟨rfl, rfl⟩))
  go_ret
  exact ⟨rfl, HB2.out⟩
set_option maxHeartbeats 1000000 in
theorem base_bad (p : Int) (w : World) (hp : p < 0 ∨ 8 ≤ p) : Calls Tryz.prog 46 #[.int .i64 p] w fun e w' => e = .returned (.tuple #[.int .u64 0, .int .i64 1]) ∧ w = w' := by
  by_cases h : p < 0
  · clear hp
    go_enter Tryz.func46, Tryz.ntmps46
    go_wp2
    go_ret2
    exact ⟨rfl, rfl⟩
  · have h8 : 8 ≤ p := by omega
    clear hp
    go_enter Tryz.func46, Tryz.ntmps46
    go_wp2
    go_ret2
    exact ⟨rfl, rfl⟩
def baseK (k : Nat) : Nat := k * 2305843009213693952
set_option maxHeartbeats 1000000 in
theorem base_ok (k : Nat) (w : World) (hk : k < 8) : Calls Tryz.prog 46 #[.int .i64 (k : Int)] w fun e w' => e = .returned (.tuple #[.int .u64 ((baseK k : Nat) : Int), .int .i64 0]) ∧ w = w' := by
  have h0 : ¬ (k : Int) < 0 := by omega
  have h8 : ¬ (8 : Int) ≤ (k : Int) := by omega
  have HE : Hid (IntKind.u64.wrap ((k : Int) * 2305843009213693952) = ((baseK k : Nat) : Int)) := by
    show _ = _
    rw [IntWalk.u64_in _ (by omega)]
    unfold baseK
    omega
  have HG : Hid ((k : Int) * 2305843009213693952 = ((baseK k : Nat) : Int)) := by
    show _ = _
    unfold baseK
    omega
  clear hk
  go_enter Tryz.func46, Tryz.ntmps46
  go_wp2
  go_ret2
  exact ⟨congrArg (fun x => Ending.returned (Value.tuple #[.int .u64 x, .int .i64 0])) HG.out, rfl⟩
end Go.Proofs.YtdbhboglccggdaaGreatDoor
