/- The reader's Num of a number that begins with a nought; Int, Small, Text, End; From. -/
import Derived.Test.YthodogcpoihjpaaR2
namespace Go.Proofs.Ythodogcpoihjpaa
open Go.RowKit

set_option maxRecDepth 100000 in
set_option maxHeartbeats 4000000 in
theorem rnum_zero (k : Nat) (w : World) (R : Nat) (A : Option Addr) (c : Nat) (bs rest : List Nat) (at_ : Nat) (hk : 1 ≤ k) (hk8 : k ≤ 8) (h : RAt w R A c bs at_ 0) (hs : bs.length ≤ 1000000) (hb : bs.drop at_ = k :: 0 :: rest) (hr : k ≤ rest.length + 1) :
    Calls Try.prog 11 #[.pointer (some ⟨R, 0, none⟩)] w fun r w' => r = .returned (.int .u64 0) ∧ RAt w' R A c bs (at_ + 1 + k) 3 ∧ w.grownBy w' (some R) := by
  have hl := congrArg List.length hb
  rw [List.length_drop, List.length_cons, List.length_cons] at hl
  have t1 : (bs.drop at_).take 1 = [k] := by rw [hb]; rfl
  have t2 : ∃ zs, (bs.drop (at_ + 1)).take k = 0 :: zs := by
    obtain ⟨m, rfl⟩ : ∃ m, k = m + 1 := ⟨k - 1, by omega⟩
    exact ⟨rest.take m, by rw [← List.drop_drop, hb, List.drop_succ_cons, List.drop_zero, List.take_succ_cons]⟩
  obtain ⟨zs, t2⟩ := t2
  have HT1 := Lib.hid (take_ok w R A c bs at_ 1 h hs (by omega))
  have HT2 : Hid (∀ x, RAt x R A c bs (at_ + 1) 0 → Calls Try.prog 28 #[.pointer (some ⟨R, 0, none⟩), .int .u64 (k : Int)] x fun r w' => ∃ A', r = .returned (.slice A' k k) ∧ Bytes w' (· ≠ R) A' (0 :: zs) ∧ (A' = none → k = 0) ∧ RAt w' R A c bs (at_ + 1 + k) 0 ∧ x.grownBy w' (some R)) := fun x hx => by
    have := take_ok x R A c bs (at_ + 1) k hx hs (by omega)
    rw [t2] at this
    exact this
  rw [t1] at HT1
  clear h hb hl t1 t2
  go_enter Try.func11, Try.ntmps11
  go_wp2_with fail
  refine HT1.out.mono ?_
  rintro r w1 ⟨A1, rfl, hb1, hn1, hr1, hg1⟩
  obtain ⟨b1, o1, rfl, hne1, hc1⟩ := hb1.at_ (by simp)
  have c1 : w1.cell? ⟨b1, o1, none⟩ = some (.int .u8 (k : Int)) := hc1 0 (by simp)
  have HG1 := Lib.hid hg1
  have HC2 := Lib.hid (HT2.out w1 hr1)
  have L8 : (k : Int) ≤ 8 := by omega
  have u1 : IntKind.u64.wrap (k : Int) = (k : Int) := by rw [IntKind.wrap_u64]; omega
  clear hb1 hn1 hr1 hg1 hc1 hne1 HT1 HT2
  go_wp2_with fail
  refine HC2.out.mono ?_
  rintro r w2 ⟨A2, rfl, hb2, hn2, hr2, hg2⟩
  obtain ⟨b2, o2, rfl, hne2, hc2⟩ := hb2.at_ (by simp)
  have c2 : w2.cell? ⟨b2, o2, none⟩ = some (.int .u8 0) := hc2 0 (by simp)
  have HF := Lib.hid (fail_any w2 R A c bs (at_ + 1 + k) 0 3 hr2)
  have HG2 := Lib.hid (only_trans HG1.out hg2)
  clear hb2 hn2 hr2 hg2 HG1 HC2 c1 hne2 hc2
  go_wp2_with fail
  go_loopw [4, 25] (fun a4 a25 wr => a25 = .int .i64 0 ∧ a4 = .int .u64 0 ∧ Hid (wr = w2)) (fun _ v _ => 1)
  case atStart => exact ⟨rfl, rfl, rfl⟩
  case round =>
    obtain ⟨rfl, rfl, HW⟩ := hrel
    obtain rfl := HW.out
    have k0 : (0 : Int) < (k : Int) := by omega
    go_wp2_with (go_at_call 29; refine HF.out.mono ?_; rintro r w3 ⟨rfl, hr3, hg3⟩; have HR3 := Lib.hid hr3; have HG3 := Lib.hid hg3; clear hr3 hg3)
    go_ret
    have h3 := HR3.out
    simp only [if_true] at h3
    exact ⟨rfl, h3, only_trans HG2.out HG3.out⟩

set_option maxHeartbeats 1000000 in
theorem rint_ok (z : Int) (w : World) (R : Nat) (A : Option Addr) (c : Nat) (bs rest : List Nat) (at_ : Nat) (h1 : -4611686018427387904 ≤ z) (h2 : z ≤ 4611686018427387904) (h : RAt w R A c bs at_ 0) (hs : bs.length ≤ 1000000) (hb : bs.drop at_ = numB (zz z) ++ rest) :
    Calls Try.prog 13 #[.pointer (some ⟨R, 0, none⟩)] w fun r w' => r = .returned (.int .i64 z) ∧ RAt w' R A c bs (at_ + (numB (zz z)).length) 0 ∧ w.grownBy w' (some R) := by
  have HC := Lib.hid (rnum_ok (zz z) w R A c bs rest at_ (zz_lt (by omega) (by omega)) h hs hb)
  clear h hb
  obtain ⟨Z, hZ⟩ : ∃ Z, Z = zz z := ⟨_, rfl⟩
  rw [← hZ] at HC ⊢
  by_cases h0 : 0 ≤ z
  · have hz : (Z : Int) = 2 * z := by rw [hZ, zz, if_pos h0]; omega
    have g1 : ¬ (9223372036854775808 : Int) < (Z : Int) := by omega
    have g2 : (Z : Int) / 2 = z := by omega
    have g3 : (Z : Int) % 2 = 0 := by omega
    have g4 : IntKind.i64.wrap z = z := IntWalk.i64_in _ (by omega)
    clear hz hZ
    go_enter Try.func13, Try.ntmps13
    go_wp2_with (go_at_call 11; refine HC.out.mono ?_; rintro r w1 ⟨rfl, hr⟩; have HR := Lib.hid hr; clear hr)
    go_ret
    exact ⟨rfl, HR.out⟩
  · have hz : (Z : Int) = 2 * (-(z + 1)) + 1 := by rw [hZ, zz, if_neg h0]; omega
    have g1 : ¬ (9223372036854775808 : Int) < (Z : Int) := by omega
    obtain ⟨y, hy⟩ : ∃ y : Int, y = -(z + 1) := ⟨_, rfl⟩
    have g2 : (Z : Int) / 2 = y := by omega
    have g3 : (Z : Int) % 2 = 1 := by omega
    have g4 : IntKind.i64.wrap y = y := IntWalk.i64_in _ (by omega)
    have g5 : -y - 1 = z := by omega
    have G5 := Lib.hid g5
    have y0 : 0 ≤ y := by omega
    have y1 : y ≤ 4611686018427387904 := by omega
    clear hz hZ g5 hy h0 h1 h2
    go_enter Try.func13, Try.ntmps13
    go_wp2_with (go_at_call 11; refine HC.out.mono ?_; rintro r w1 ⟨rfl, hr⟩; have HR := Lib.hid hr; clear hr)
    go_ret
    exact ⟨ret_int G5.out, HR.out⟩
set_option maxHeartbeats 1000000 in
theorem rsmall_ok (n : Nat) (most : Int) (w : World) (R : Nat) (A : Option Addr) (c : Nat) (bs rest : List Nat) (at_ : Nat) (hn : (n : Int) ≤ most) (hm : most ≤ 9223372036854775807) (h : RAt w R A c bs at_ 0) (hs : bs.length ≤ 1000000) (hb : bs.drop at_ = numB n ++ rest) :
    Calls Try.prog 30 #[.pointer (some ⟨R, 0, none⟩), .int .i64 most] w fun r w' => r = .returned (.int .i64 (n : Int)) ∧ RAt w' R A c bs (at_ + (numB n).length) 0 ∧ w.grownBy w' (some R) := by
  have HC := Lib.hid (rnum_ok n w R A c bs rest at_ (by omega) h hs hb)
  clear h hb
  have g0 : ¬ most < 0 := by omega
  have g1 : IntKind.u64.wrap most = most := by rw [IntKind.wrap_u64]; omega
  have g2 : ¬ most < (n : Int) := by omega
  have g3 : IntKind.i64.wrap (n : Int) = (n : Int) := IntWalk.i64_in _ (by omega)
  go_enter Try.func30, Try.ntmps30
  go_wp2_with (go_at_call 11; refine HC.out.mono ?_; rintro r w1 ⟨rfl, hr⟩; have HR := Lib.hid hr; clear hr)
  go_ret
  exact ⟨rfl, HR.out⟩
set_option maxHeartbeats 1000000 in
theorem rtext_ok (ts : List Nat) (most : Int) (w : World) (R : Nat) (A : Option Addr) (c : Nat) (bs rest : List Nat) (at_ : Nat) (hn : (ts.length : Int) ≤ most) (hm : most ≤ 9223372036854775807) (h : RAt w R A c bs at_ 0) (hs : bs.length ≤ 1000000) (hb : bs.drop at_ = textB ts ++ rest) :
    Calls Try.prog 15 #[.pointer (some ⟨R, 0, none⟩), .int .i64 most] w fun r w' => ∃ v, r = .returned v ∧ w'.ownsRow w.heap.size 5 1 v ts.length (ints8 ts) ∧ RAt w' R A c bs (at_ + (textB ts).length) 0 ∧ w.grownBy w' (some R) := by
  obtain ⟨n, hnn⟩ : ∃ n, n = ts.length := ⟨_, rfl⟩
  have hl := congrArg List.length hb
  rw [List.length_drop, List.length_append, textB, List.length_append, ← hnn] at hl
  have hb1 : bs.drop at_ = numB n ++ (ts ++ rest) := by rw [hb, textB, List.append_assoc, hnn]
  have t2 : (bs.drop (at_ + (numB n).length)).take n = ts := by
    rw [← List.drop_drop, hb1, List.drop_left, hnn]
    exact List.take_left
  rw [← hnn] at hn
  have HC := Lib.hid (rsmall_ok n most w R A c bs (ts ++ rest) at_ hn hm h hs hb1)
  have HT : Hid (∀ x, RAt x R A c bs (at_ + (numB n).length) 0 → Calls Try.prog 28 #[.pointer (some ⟨R, 0, none⟩), .int .u64 (n : Int)] x fun r w' => ∃ A', r = .returned (.slice A' n n) ∧ Bytes w' (· ≠ R) A' ts ∧ (A' = none → n = 0) ∧ RAt w' R A c bs (at_ + (numB n).length + n) 0 ∧ x.grownBy w' (some R)) := fun x hx => by
    have := take_ok x R A c bs (at_ + (numB n).length) n hx hs (by omega)
    rw [t2] at this
    exact this
  have HN := Lib.hid hnn
  have nl : n ≤ 1000000 := by omega
  have u1 : IntKind.u64.wrap (n : Int) = (n : Int) := by rw [IntKind.wrap_u64]; omega
  clear h hb hl hb1 t2 hnn hn
  go_enter Try.func15, Try.ntmps15
  go_wp2_with (go_at_call 30; refine HC.out.mono ?_; rintro r w1 ⟨rfl, hr1, hg1⟩; have HG1 := Lib.hid hg1; have HT1 := Lib.hid (HT.out w1 hr1); clear hr1 hg1)
  refine HT1.out.mono ?_
  rintro r w2 ⟨A2, rfl, hb2, _, hr2, hg2⟩
  have HG2 := Lib.hid (only_trans HG1.out hg2)
  have HR2 := Lib.hid hr2
  have HF := Lib.hid (fresh_any ts n A2 w2 (hb2.weak fun b _ hl => hl) (by rw [← HN.out]; exact nl))
  rw [← HN.out] at HF
  clear hb2 hr2 hg2 HT1 HG1
  go_wp2_with (go_at_call 26; refine HF.out.mono ?_; rintro r w3 ⟨v, rfl, ho, hb3⟩; have HO := Lib.hid ho; have HB3 := Lib.hid hb3; clear ho hb3)
  go_ret
  refine ⟨v, rfl, ?_, ?_, only_below_trans HG2.out HB3.out⟩
  · rw [← HN.out]
    exact own_weak HO.out HG2.out.size
  · have h := HR2.out.only HB3.out
    rw [textB, List.length_append, ← HN.out, ← Nat.add_assoc]
    exact h
end Go.Proofs.Ythodogcpoihjpaa
