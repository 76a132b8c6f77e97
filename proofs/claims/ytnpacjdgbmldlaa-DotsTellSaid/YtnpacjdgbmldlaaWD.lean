/- A reader's Num, Small; From. -/
import Derived.Test.YtnpacjdgbmldlaaWC
namespace Go.Proofs.Ytnpacjdgbmldlaa.Wr
open Go.RowKit
theorem be_nil {n : Nat} (h : n < 18446744073709551616) (e : be n = []) : n = 0 := by
  by_cases h0 : n = 0
  · exact h0
  · rw [be_step n h0 h] at e
    simp at e
theorem div_len (n : Nat) (h : n < 18446744073709551616) : n / 256 ^ (be n).length = 0 := by
  have h1 := be_take (be n).length n h (Nat.le_refl _)
  rw [Nat.sub_self, List.take_zero] at h1
  exact be_nil (Nat.lt_of_le_of_lt (Nat.div_le_self _ _) h) h1.symm
theorem be_head (n : Nat) (h : n < 18446744073709551616) (h0 : 0 < (be n).length) : (be n).getD 0 0 ≠ 0 := by
  have h1 := be_get ((be n).length - 1) n h (by omega)
  rw [Nat.sub_self] at h1
  rw [h1]
  have h2 := be_take ((be n).length - 1) n h (by omega)
  have h3 : n / 256 ^ ((be n).length - 1) ≠ 0 := by
    intro e
    rw [e, be_zero] at h2
    have := congrArg List.length h2
    rw [List.length_take, List.length_nil] at this
    omega
  have h4 : n / 256 ^ ((be n).length - 1) < 256 := by
    have h5 := div_len n h
    obtain ⟨L, hL⟩ : ∃ L, (be n).length = L + 1 := ⟨(be n).length - 1, by omega⟩
    rw [hL, Nat.pow_succ, ← Nat.div_div_eq_div_mul] at h5
    rw [hL, Nat.add_sub_cancel]
    exact (Nat.div_eq_zero_iff.1 h5).resolve_left (by decide)
  rw [Nat.mod_eq_of_lt h4]
  exact h3
theorem acc_step (n j : Nat) (h : n < 18446744073709551616) (hj : j < (be n).length) : n / 256 ^ ((be n).length - j) * 256 + (be n).getD j 0 = n / 256 ^ ((be n).length - (j + 1)) := by
  have h1 := be_get ((be n).length - 1 - j) n h (by omega)
  rw [show (be n).length - 1 - ((be n).length - 1 - j) = j by omega] at h1
  rw [h1, show (be n).length - j = ((be n).length - 1 - j) + 1 by omega, show (be n).length - (j + 1) = (be n).length - 1 - j by omega, Nat.pow_succ, ← Nat.div_div_eq_div_mul]
  omega
theorem shl_or (x y : Nat) (hx : x * 256 < 18446744073709551616) (hy : y < 256) : bits BinOp.or IntKind.u64 ((x * 256 : Nat) : Int) (y : Int) = ((x * 256 + y : Nat) : Int) := by
  rw [u64_or_nat _ _ hx (by omega), nat_join 8 _ _ (by omega) (by omega)]
theorem numB_len (n : Nat) : (numB n).length = (be n).length + 1 := by rw [numB, List.length_cons]

set_option maxRecDepth 100000 in
set_option maxHeartbeats 4000000 in
theorem rnum_ok (n : Nat) (w : World) (R : Nat) (A : Option Addr) (c : Nat) (bs rest : List Nat) (at_ : Nat) (hn : n < 18446744073709551616) (h : RAt w R A c bs at_ 0) (hs : bs.length ≤ 1000000) (hb : bs.drop at_ = numB n ++ rest) :
    Calls Try.prog 127 #[.pointer (some ⟨R, 0, none⟩)] w fun r w' => r = .returned (.int .u64 (n : Int)) ∧ RAt w' R A c bs (at_ + (numB n).length) 0 ∧ w.grownBy w' (some R) := by
  have hl := congrArg List.length hb
  rw [List.length_drop, List.length_append, numB_len] at hl
  obtain ⟨L, hL⟩ : ∃ L, L = (be n).length := ⟨_, rfl⟩
  rw [← hL] at hl
  have hL8 : L ≤ 8 := by rw [hL]; exact be_len8 n
  have t1 : (bs.drop at_).take 1 = [L] := by rw [hb, numB, ← hL]; rfl
  have t2 : (bs.drop (at_ + 1)).take L = be n := by
    rw [← List.drop_drop, hb, numB, List.cons_append, List.drop_succ_cons, List.drop_zero, hL]
    exact List.take_left
  have HT1 := Lib.hid (take_ok w R A c bs at_ 1 h hs (by omega))
  have HT2 : Hid (∀ x, RAt x R A c bs (at_ + 1) 0 → Calls Try.prog 152 #[.pointer (some ⟨R, 0, none⟩), .int .u64 (L : Int)] x fun r w' => ∃ A', r = .returned (.slice A' L L) ∧ Bytes w' (· ≠ R) A' (be n) ∧ (A' = none → L = 0) ∧ RAt w' R A c bs (at_ + 1 + L) 0 ∧ x.grownBy w' (some R)) := fun x hx => by
    have := take_ok x R A c bs (at_ + 1) L hx hs (by omega)
    rw [t2] at this
    exact this
  rw [t1] at HT1
  have HL := Lib.hid hL
  have HN := Lib.hid hn
  clear h hb hl t1 t2 hL hn
  go_enter Try.func127, Try.ntmps127
  go_wp2_with fail
  refine HT1.out.mono ?_
  rintro r w1 ⟨A1, rfl, hb1, hn1, hr1, hg1⟩
  obtain ⟨b1, o1, rfl, hne1, hc1⟩ := hb1.at_ (by simp)
  have c1 : w1.cell? ⟨b1, o1, none⟩ = some (.int .u8 (L : Int)) := hc1 0 (by simp)
  have HG1 := Lib.hid hg1
  have HC2 := Lib.hid (HT2.out w1 hr1)
  have L8 : (L : Int) ≤ 8 := by omega
  have u1 : IntKind.u64.wrap (L : Int) = (L : Int) := by rw [IntKind.wrap_u64]; omega
  clear hb1 hn1 hr1 hg1 hc1 hne1 HT1 HT2
  go_wp2_with fail
  refine HC2.out.mono ?_
  rintro r w2 ⟨A2, rfl, hb2, hn2, hr2, hg2⟩
  have HB2 := Lib.hid hb2
  have HR2 := Lib.hid hr2
  have HG2 := Lib.hid (only_trans HG1.out hg2)
  have HD0 := Lib.hid (div_len n HN.out)
  clear hb2 hn2 hr2 hg2 HG1 HC2 c1
  go_wp2_with fail
  go_loopw [4, 25] (fun a4 a25 wr => ∃ j : Nat, j ≤ L ∧ a25 = .int .i64 (j : Int) ∧ (∃ q : Nat, a4 = .int .u64 (q : Int) ∧ Hid (q = n / 256 ^ (L - j))) ∧ Hid (wr = w2)) (fun _ v _ => L - (intOf v).toNat)
  case atStart => exact ⟨0, by omega, rfl, ⟨0, rfl, by show 0 = _; rw [Nat.sub_zero, HL.out, HD0.out]⟩, rfl⟩
  case round =>
    obtain ⟨j, hj, rfl, ⟨q, rfl, HQ⟩, HW⟩ := hrel
    by_cases hlt : j < L
    · obtain ⟨b2, o2, hA2, hne2, hc2⟩ := HB2.out.at_ (by rw [← HL.out]; omega)
      subst hA2
      obtain ⟨x, hx⟩ : ∃ x, x = (be n).getD j 0 := ⟨_, rfl⟩
      have c2 : wr.cell? ⟨b2, o2 + j, none⟩ = some (.int .u8 (x : Int)) := by rw [HW.out, hx]; exact hc2 j (by rw [← HL.out]; exact hlt)
      have x256 : x < 256 := by
        rw [hx]
        have hm : j < (be n).length := by rw [← HL.out]; exact hlt
        rw [List.getD_eq_getElem?_getD, List.getElem?_eq_getElem hm]
        exact HB2.out.lt _ (List.getElem_mem hm)
      have hst := acc_step n j HN.out (by rw [← HL.out]; exact hlt)
      rw [← HL.out, ← HQ.out, ← hx] at hst
      have hd : n / 256 ^ (L - (j + 1)) ≤ n := Nat.div_le_self _ _
      have hq64 : q * 256 < 18446744073709551616 := by have := HN.out; omega
      obtain ⟨q2, hq2⟩ : ∃ q2, q2 = q * 256 + x := ⟨_, rfl⟩
      have so : bits BinOp.or IntKind.u64 ((q : Int) * 256) (x : Int) = (q2 : Int) := by
        have := shl_or q x hq64 x256
        rw [← hq2, Int.natCast_mul] at this
        exact this
      have hw : IntKind.u64.wrap ((q : Int) * 256) = (q : Int) * 256 := by rw [IntKind.wrap_u64]; omega
      rw [← hq2] at hst
      clear hq2
      have ux : IntKind.u64.wrap (x : Int) = (x : Int) := by rw [IntKind.wrap_u64]; omega
      have hx0 : j = 0 → x ≠ 0 := fun e => by
        subst e
        rw [hx]
        exact be_head n HN.out (by rw [← HL.out]; exact hlt)
      have HST := Lib.hid hst
      have HX := Lib.hid hx
      clear hx hst hd hc2 hne2 hq64
      by_cases hj0 : j = 0
      · subst hj0
        have hxz : ((x : Int) == 0) = false := by have := hx0 rfl; simp; omega
        clear hx0
        rw [Nat.add_zero] at c2
        go_wp2_with fail
        go_roundw
        case rel => exact ⟨1, by omega, by go_num, ⟨q2, rfl, HST.out⟩, HW⟩
        case measure => simp [intOf]; omega
      · have hjz : ((j : Int) == 0) = false := by simp; omega
        clear hx0
        go_wp2_with fail
        go_roundw
        case rel => exact ⟨j + 1, by omega, by go_num, ⟨q2, rfl, HST.out⟩, HW⟩
        case measure => simp [intOf]; omega
    · obtain rfl : j = L := by omega
      go_wp2
      go_ret
      have hq := HQ.out
      rw [Nat.sub_self, Nat.pow_zero, Nat.div_one] at hq
      subst hq
      refine ⟨rfl, ?_, by rw [HW.out]; exact HG2.out⟩
      rw [HW.out, numB_len, ← HL.out, show at_ + (j + 1) = at_ + 1 + j by omega]
      exact HR2.out
set_option maxHeartbeats 1000000 in
theorem rsmall_ok (n : Nat) (most : Int) (w : World) (R : Nat) (A : Option Addr) (c : Nat) (bs rest : List Nat) (at_ : Nat) (hn : (n : Int) ≤ most) (hm : most ≤ 9223372036854775807) (h : RAt w R A c bs at_ 0) (hs : bs.length ≤ 1000000) (hb : bs.drop at_ = numB n ++ rest) :
    Calls Try.prog 104 #[.pointer (some ⟨R, 0, none⟩), .int .i64 most] w fun r w' => r = .returned (.int .i64 (n : Int)) ∧ RAt w' R A c bs (at_ + (numB n).length) 0 ∧ w.grownBy w' (some R) := by
  have HC := Lib.hid (rnum_ok n w R A c bs rest at_ (by omega) h hs hb)
  clear h hb
  have g0 : ¬ most < 0 := by omega
  have g1 : IntKind.u64.wrap most = most := by rw [IntKind.wrap_u64]; omega
  have g2 : ¬ most < (n : Int) := by omega
  have g3 : IntKind.i64.wrap (n : Int) = (n : Int) := IntWalk.i64_in _ (by omega)
  go_enter Try.func104, Try.ntmps104
  go_wp2_with (go_at_call 127; refine HC.out.mono ?_; rintro r w1 ⟨rfl, hr⟩; have HR := Lib.hid hr; clear hr)
  go_ret
  exact ⟨rfl, HR.out⟩
theorem ownsRow_ne {w : World} {base : Nat} {v : Value} {n : Nat} {l : List Value} {R : Nat} (h : w.ownsRow base 5 1 v n l) (hR : w.heap.size = R) : ∀ k, v.ownBlock = some k → k ≠ R := fun k hk => by have := (h.lt k hk).2; omega
set_option maxHeartbeats 1000000 in
theorem from_any (xs : List Nat) (c : Nat) (A : Option Addr) (w : World) (hx : Bytes w (· < w.heap.size) A xs) (hs : xs.length ≤ 1000000) :
    Calls Try.prog 64 #[.slice A xs.length c] w fun r w' => ∃ R A' c', r = .returned (.pointer (some ⟨R, 0, none⟩)) ∧ RAt w' R A' c' xs 0 0 ∧ Below w.heap.size w w' ∧ w.heap.size ≤ R := by
  have HC := Lib.hid (fresh_any xs c A w hx hs)
  have HX := Lib.hid hx.lt
  clear hx
  go_enter Try.func64, Try.ntmps64
  go_wp2_with fail
  refine HC.out.mono ?_
  rintro r w1 ⟨v, rfl, ho, hb⟩
  obtain ⟨A1, c1, rfl, hn1, hb1⟩ := own_bytes ho HX.out
  have hcap : xs.length ≤ c1 := by
    rcases ho.2 with ⟨e, h0⟩ | ⟨g, cap, cur, e, _, _, hc, _⟩
    · omega
    · injection e with _ _ e
      omega
  have HB := Lib.hid hb
  have HY := Lib.hid hb1
  have HN := Lib.hid hn1
  have HCP := Lib.hid hcap
  clear ho hb hb1 hn1 hcap HC
  go_wp2_with fail
  go_ret
  have hb2 := below1 w1 (.cells #[.bool true, .slice A1 xs.length c1, .int .i64 0, .int .i64 0] 147)
  refine ⟨w1.heap.size, A1, c1, rfl, ⟨World.rowIs_alloc w1 #[.bool true, .slice A1 xs.length c1, .int .i64 0, .int .i64 0] 147 (rF (.slice A1 xs.length c1) ((0 : Nat) : Int) 0) (fun i hi => ?_), ?_, Nat.zero_le _, HCP.out, HN.out⟩, HB.out.trans (hb2.mono HB.out.size), HB.out.size⟩
  · match i, hi with
    | 0, _ => rfl
    | 1, _ => rfl
    | 2, _ => rfl
    | 3, _ => rfl
  · exact (HY.out.below hb2).weak fun b hb _ => Nat.ne_of_lt hb
end Go.Proofs.Ytnpacjdgbmldlaa.Wr
