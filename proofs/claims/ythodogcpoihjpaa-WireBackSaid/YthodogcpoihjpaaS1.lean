/- The reader where bytes are missing, or a fault is there: Num. -/
import Derived.Test.YthodogcpoihjpaaR6
namespace Go.Proofs.Ythodogcpoihjpaa
open Go.RowKit
/-- Too short. -/
def Bad (R : Nat) (A : Option Addr) (c : Nat) (bs : List Nat) (x : World) : Prop := ∃ at_, RAt x R A c bs at_ 8
/-- Too short, or the bytes that are left are fewer than zs, and zs begins so. -/
def Cut (R : Nat) (A : Option Addr) (c : Nat) (bs zs : List Nat) (x : World) : Prop := Bad R A c bs x ∨ ∃ at_ miss, RAt x R A c bs at_ 0 ∧ miss ≠ [] ∧ bs.drop at_ ++ miss = zs
theorem Bad.only {R : Nat} {A : Option Addr} {c : Nat} {bs : List Nat} {x y : World} (h : Bad R A c bs x) (hb : Below x.heap.size x y) : Bad R A c bs y := by
  obtain ⟨a, h⟩ := h
  exact ⟨a, h.only hb⟩
theorem rnum_err (w : World) (R : Nat) (A : Option Addr) (c : Nat) (bs : List Nat) (h : Bad R A c bs w) :
    Calls Try.prog 11 #[.pointer (some ⟨R, 0, none⟩)] w fun r w' => r = .returned (.int .u64 0) ∧ Bad R A c bs w' ∧ w.grownBy w' (some R) := by
  obtain ⟨a, h⟩ := h
  have HT := Lib.hid (take_err w R A c bs a 8 1 h (by decide))
  have HB := Lib.hid h
  clear h
  go_enter Try.func11, Try.ntmps11
  go_wp2_with fail
  refine HT.out.mono ?_
  rintro r w' ⟨rfl, ew⟩
  obtain rfl := ew.symm
  go_wp2_with fail
  go_ret
  exact ⟨rfl, ⟨a, HB.out⟩, only_refl _ _⟩
theorem rnum_none (w : World) (R : Nat) (A : Option Addr) (c : Nat) (bs : List Nat) (at_ : Nat) (h : RAt w R A c bs at_ 0) (hs : bs.length ≤ 1000000) (hb : bs.drop at_ = []) :
    Calls Try.prog 11 #[.pointer (some ⟨R, 0, none⟩)] w fun r w' => r = .returned (.int .u64 0) ∧ Bad R A c bs w' ∧ w.grownBy w' (some R) := by
  have hl := congrArg List.length hb
  rw [List.length_drop, List.length_nil] at hl
  have HT := Lib.hid (take_short w R A c bs at_ 1 h hs (by omega) (by omega))
  clear h hb hl
  go_enter Try.func11, Try.ntmps11
  go_wp2_with fail
  refine HT.out.mono ?_
  rintro r w' ⟨rfl, hr, hg⟩
  have HR := Lib.hid hr
  have HG := Lib.hid hg
  clear hr hg
  go_wp2_with fail
  go_ret
  exact ⟨rfl, ⟨at_, HR.out⟩, HG.out⟩
set_option maxHeartbeats 1000000 in
theorem rnum_few (k : Nat) (w : World) (R : Nat) (A : Option Addr) (c : Nat) (bs rest : List Nat) (at_ : Nat) (hk8 : k ≤ 8) (h : RAt w R A c bs at_ 0) (hs : bs.length ≤ 1000000) (hb : bs.drop at_ = k :: rest) (hr : rest.length < k) :
    Calls Try.prog 11 #[.pointer (some ⟨R, 0, none⟩)] w fun r w' => r = .returned (.int .u64 0) ∧ Bad R A c bs w' ∧ w.grownBy w' (some R) := by
  have hl := congrArg List.length hb
  rw [List.length_drop, List.length_cons] at hl
  have t1 : (bs.drop at_).take 1 = [k] := by rw [hb]; rfl
  have HT1 := Lib.hid (take_ok w R A c bs at_ 1 h hs (by omega))
  have HT2 : Hid (∀ x, RAt x R A c bs (at_ + 1) 0 → Calls Try.prog 28 #[.pointer (some ⟨R, 0, none⟩), .int .u64 (k : Int)] x fun r w' => r = .returned (.slice none 0 0) ∧ RAt w' R A c bs (at_ + 1) 8 ∧ x.grownBy w' (some R)) := fun x hx => take_short x R A c bs (at_ + 1) k hx hs (by omega) (by omega)
  rw [t1] at HT1
  clear h hb hl t1
  go_enter Try.func11, Try.ntmps11
  go_wp2_with fail
  refine HT1.out.mono ?_
  rintro r w1 ⟨A1, rfl, hb1, hn1, hr1, hg1⟩
  obtain ⟨b1, o1, rfl, hne1, hc1⟩ := hb1.at_ (by simp)
  have c1 : w1.cell? ⟨b1, o1, none⟩ = some (.int .u8 (k : Int)) := hc1 0 (by simp)
  have HG1 := Lib.hid hg1
  have HC2 := Lib.hid (HT2.out w1 hr1)
  have L8 : (k : Int) ≤ 8 := by omega
  have u1 : IntKind.u64.wrap (k : Int) = (k : Int) := by rw [IntKind.wrap_u64]; omega
  clear hb1 hn1 hr1 hg1 hc1 hne1 HT1 HT2
  go_wp2_with fail
  refine HC2.out.mono ?_
  rintro r w2 ⟨rfl, hr2, hg2⟩
  have HR2 := Lib.hid hr2
  have HG2 := Lib.hid (only_trans HG1.out hg2)
  clear hr2 hg2 HG1 HC2 c1
  go_wp2_with fail
  go_loopw [4, 25] (fun a4 a25 wr => a25 = .int .i64 0 ∧ a4 = .int .u64 0 ∧ Hid (wr = w2)) (fun _ v _ => 1)
  case atStart => exact ⟨rfl, rfl, rfl⟩
  case round =>
    obtain ⟨rfl, rfl, HW⟩ := hrel
    obtain rfl := HW.out
    go_wp2_with fail
    go_ret
    exact ⟨rfl, ⟨_, HR2.out⟩, HG2.out⟩
theorem rnum_bad (n : Nat) (w : World) (R : Nat) (A : Option Addr) (c : Nat) (bs : List Nat) (hn : n < 18446744073709551616) (h : Cut R A c bs (numB n) w) (hs : bs.length ≤ 1000000) :
    Calls Try.prog 11 #[.pointer (some ⟨R, 0, none⟩)] w fun r w' => r = .returned (.int .u64 0) ∧ Bad R A c bs w' ∧ w.grownBy w' (some R) := by
  rcases h with h | ⟨at_, miss, h, hm, hz⟩
  · exact rnum_err w R A c bs h
  · cases hd : bs.drop at_ with
    | nil => exact rnum_none w R A c bs at_ h hs hd
    | cons k rest =>
      rw [hd, numB, List.cons_append] at hz
      injection hz with h1 h2
      have h3 := congrArg List.length h2
      rw [List.length_append] at h3
      have h4 : 0 < miss.length := List.length_pos_iff.2 hm
      have h5 := num_len n
      rw [numB_len] at h5
      exact rnum_few k w R A c bs rest at_ (by omega) h hs hd (by omega)
set_option maxHeartbeats 1000000 in
theorem rint_bad (z : Int) (w : World) (R : Nat) (A : Option Addr) (c : Nat) (bs : List Nat) (h1 : -4611686018427387904 ≤ z) (h2 : z ≤ 4611686018427387904) (h : Cut R A c bs (numB (zz z)) w) (hs : bs.length ≤ 1000000) :
    Calls Try.prog 13 #[.pointer (some ⟨R, 0, none⟩)] w fun r w' => r = .returned (.int .i64 0) ∧ Bad R A c bs w' ∧ w.grownBy w' (some R) := by
  have HC := Lib.hid (rnum_bad (zz z) w R A c bs (zz_lt (by omega) (by omega)) h hs)
  clear h
  go_enter Try.func13, Try.ntmps13
  go_wp2_with (go_at_call 11; refine HC.out.mono ?_; rintro r w1 ⟨rfl, hr⟩; have HR := Lib.hid hr; clear hr)
  go_ret
  exact ⟨rfl, HR.out⟩
set_option maxHeartbeats 1000000 in
theorem rsmall_bad (n : Nat) (most : Int) (w : World) (R : Nat) (A : Option Addr) (c : Nat) (bs : List Nat) (hn : n < 18446744073709551616) (h0 : 0 ≤ most) (hm : most ≤ 9223372036854775807) (h : Cut R A c bs (numB n) w) (hs : bs.length ≤ 1000000) :
    Calls Try.prog 30 #[.pointer (some ⟨R, 0, none⟩), .int .i64 most] w fun r w' => r = .returned (.int .i64 0) ∧ Bad R A c bs w' ∧ w.grownBy w' (some R) := by
  have HC := Lib.hid (rnum_bad n w R A c bs hn h hs)
  clear h
  have g0 : ¬ most < 0 := by omega
  have g1 : IntKind.u64.wrap most = most := by rw [IntKind.wrap_u64]; omega
  go_enter Try.func30, Try.ntmps30
  go_wp2_with (go_at_call 11; refine HC.out.mono ?_; rintro r w1 ⟨rfl, hr⟩; have HR := Lib.hid hr; clear hr)
  go_ret
  exact ⟨rfl, HR.out⟩
end Go.Proofs.Ythodogcpoihjpaa
