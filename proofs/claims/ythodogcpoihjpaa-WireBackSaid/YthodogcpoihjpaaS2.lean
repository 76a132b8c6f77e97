/- The reader at bytes that may be cut: a call reads its part, or says that it is too short. -/
import Derived.Test.YthodogcpoihjpaaS1
namespace Go.Proofs.Ythodogcpoihjpaa
open Go.RowKit
theorem Cut.split {R : Nat} {A : Option Addr} {c : Nat} {bs xs ys : List Nat} {x : World} (h : Cut R A c bs (xs ++ ys) x) : Cut R A c bs xs x ∨ ∃ at_ rest miss, RAt x R A c bs at_ 0 ∧ bs.drop at_ = xs ++ rest ∧ miss ≠ [] ∧ rest ++ miss = ys := by
  rcases h with h | ⟨at_, miss, h, hm, e⟩
  · exact .inl (.inl h)
  · rcases List.append_eq_append_iff.1 e with ⟨a, e1, e2⟩ | ⟨a, e1, e2⟩
    · cases a with
      | nil =>
        rw [List.append_nil] at e1
        rw [List.nil_append] at e2
        exact .inr ⟨at_, [], miss, h, by rw [List.append_nil, e1], hm, e2⟩
      | cons z zs => exact .inl (.inr ⟨at_, z :: zs, h, by simp, e1.symm⟩)
    · exact .inr ⟨at_, a, miss, h, e1, hm, e2.symm⟩
theorem cut_on {R : Nat} {A : Option Addr} {c : Nat} {bs xs rest miss ys : List Nat} {at_ : Nat} {y : World} (h : RAt y R A c bs (at_ + xs.length) 0) (hd : bs.drop at_ = xs ++ rest) (hm : miss ≠ []) (e : rest ++ miss = ys) : Cut R A c bs ys y :=
  .inr ⟨_, miss, h, hm, by rw [← List.drop_drop, hd, List.drop_left, e]⟩
theorem Cut.at_ {R : Nat} {A : Option Addr} {c : Nat} {bs zs : List Nat} {x : World} (h : Cut R A c bs zs x) : ∃ a e, RAt x R A c bs a e := by
  rcases h with ⟨a, h⟩ | ⟨a, _, h, _⟩
  · exact ⟨a, 8, h⟩
  · exact ⟨a, 0, h⟩
theorem Cut.far {w x y : World} {R : Nat} {A : Option Addr} {c : Nat} {bs zs ws : List Nat} (h0 : Cut R A c bs ws w) (h : Cut R A c bs zs x) (hk : ∀ k, k < w.heap.size → y.heap[k]? = x.heap[k]?) : Cut R A c bs zs y := by
  obtain ⟨_, _, h0⟩ := h0.at_
  rcases h with ⟨a, h⟩ | ⟨a, m, h, hm⟩
  · exact .inl ⟨a, h0.far h hk⟩
  · exact .inr ⟨a, m, h0.far h hk, hm⟩
theorem Cut.lt {R : Nat} {A : Option Addr} {c : Nat} {bs zs : List Nat} {x : World} (h : Cut R A c bs zs x) : R < x.heap.size := by
  obtain ⟨_, _, h⟩ := h.at_
  exact h.row.lt
theorem rnum_cut (n : Nat) (T : List Nat) (w : World) (R : Nat) (A : Option Addr) (c : Nat) (bs : List Nat) (hn : n < 18446744073709551616) (h : Cut R A c bs (numB n ++ T) w) (hs : bs.length ≤ 1000000) :
    Calls Try.prog 11 #[.pointer (some ⟨R, 0, none⟩)] w fun r w' => ∃ m : Nat, m < 18446744073709551616 ∧ r = .returned (.int .u64 (m : Int)) ∧ Cut R A c bs T w' ∧ w.grownBy w' (some R) := by
  rcases h.split with h | ⟨at_, rest, miss, h, hd, hm, e⟩
  · refine (rnum_bad n w R A c bs hn h hs).mono ?_
    rintro r w' ⟨rfl, hb, hg⟩
    exact ⟨0, by omega, rfl, .inl hb, hg⟩
  · refine (rnum_ok n w R A c bs rest at_ hn h hs hd).mono ?_
    rintro r w' ⟨rfl, hr, hg⟩
    exact ⟨n, hn, rfl, cut_on hr hd hm e, hg⟩
theorem rint_cut (z : Int) (T : List Nat) (w : World) (R : Nat) (A : Option Addr) (c : Nat) (bs : List Nat) (h1 : -4611686018427387904 ≤ z) (h2 : z ≤ 4611686018427387904) (h : Cut R A c bs (numB (zz z) ++ T) w) (hs : bs.length ≤ 1000000) :
    Calls Try.prog 13 #[.pointer (some ⟨R, 0, none⟩)] w fun r w' => ∃ m : Int, -9223372036854775808 ≤ m ∧ m ≤ 9223372036854775807 ∧ r = .returned (.int .i64 m) ∧ Cut R A c bs T w' ∧ w.grownBy w' (some R) := by
  rcases h.split with h | ⟨at_, rest, miss, h, hd, hm, e⟩
  · refine (rint_bad z w R A c bs h1 h2 h hs).mono ?_
    rintro r w' ⟨rfl, hb, hg⟩
    exact ⟨0, by omega, by omega, rfl, .inl hb, hg⟩
  · refine (rint_ok z w R A c bs rest at_ h1 h2 h hs hd).mono ?_
    rintro r w' ⟨rfl, hr, hg⟩
    exact ⟨z, by omega, by omega, rfl, cut_on hr hd hm e, hg⟩
set_option maxHeartbeats 1000000 in
theorem rtext_none (most : Int) (w : World) (R : Nat) (A : Option Addr) (c : Nat) (bs : List Nat) (m : Nat) (hm : m ≤ 1000000)
    (h1 : Calls Try.prog 30 #[.pointer (some ⟨R, 0, none⟩), .int .i64 most] w fun r w' => r = .returned (.int .i64 (m : Int)) ∧ (Calls Try.prog 28 #[.pointer (some ⟨R, 0, none⟩), .int .u64 (m : Int)] w' fun r w'' => r = .returned (.slice none 0 0) ∧ Bad R A c bs w'' ∧ w'.grownBy w'' (some R)) ∧ w.grownBy w' (some R)) :
    Calls Try.prog 15 #[.pointer (some ⟨R, 0, none⟩), .int .i64 most] w fun r w' => ∃ v, r = .returned v ∧ w'.ownsRow w.heap.size 5 1 v ([] : List Nat).length (ints8 []) ∧ Bad R A c bs w' ∧ w.grownBy w' (some R) := by
  have HC := Lib.hid h1
  have u1 : IntKind.u64.wrap (m : Int) = (m : Int) := by rw [IntKind.wrap_u64]; omega
  clear h1
  go_enter Try.func15, Try.ntmps15
  go_wp2_with (go_at_call 30; refine HC.out.mono ?_; rintro r w1 ⟨rfl, ht, hg1⟩; have HG1 := Lib.hid hg1; have HT1 := Lib.hid ht; clear ht hg1)
  refine HT1.out.mono ?_
  rintro r w2 ⟨rfl, hb2, hg2⟩
  have HG2 := Lib.hid (only_trans HG1.out hg2)
  have HB2 := Lib.hid hb2
  have HF := Lib.hid (fresh_any [] 0 none w2 ⟨fun _ h => (by cases h), fun h => (by cases h)⟩ (by simp))
  clear hb2 hg2 HT1 HG1
  go_wp2_with (go_at_call 26; refine HF.out.mono ?_; rintro r w3 ⟨v, rfl, ho, hb3⟩; have HO := Lib.hid ho; have HB3 := Lib.hid hb3; clear ho hb3)
  go_ret
  exact ⟨v, rfl, own_weak HO.out HG2.out.size, HB2.out.only HB3.out, only_below_trans HG2.out HB3.out⟩
theorem rtext_cut (ts : List Nat) (most : Int) (T : List Nat) (w : World) (R : Nat) (A : Option Addr) (c : Nat) (bs : List Nat) (ht : ts.length ≤ 500) (h1 : (ts.length : Int) ≤ most) (h2 : most ≤ 9223372036854775807) (hz : ∀ z, z ∈ ts → z < 256) (h : Cut R A c bs (textB ts ++ T) w) (hs : bs.length ≤ 1000000) :
    Calls Try.prog 15 #[.pointer (some ⟨R, 0, none⟩), .int .i64 most] w fun r w' => ∃ v xs, r = .returned v ∧ (∀ z, z ∈ xs → z < 256) ∧ w'.ownsRow w.heap.size 5 1 v xs.length (ints8 xs) ∧ Cut R A c bs T w' ∧ w.grownBy w' (some R) := by
  rcases h.split with h | ⟨at_, rest, miss, h, hd, hm, e⟩
  · refine Calls.mono (R := fun r w' => ∃ v, r = .returned v ∧ w'.ownsRow w.heap.size 5 1 v ([] : List Nat).length (ints8 []) ∧ Bad R A c bs w' ∧ w.grownBy w' (some R)) ?_ ?_
    · rw [textB] at h
      rcases h.split with h | ⟨at_, rest, miss, h, hd, hm, e⟩
      · refine rtext_none most w R A c bs 0 (by omega) ((rsmall_bad ts.length most w R A c bs (by omega) (by omega) h2 h hs).mono ?_)
        rintro r w' ⟨rfl, ⟨a, hb⟩, hg⟩
        refine ⟨rfl, (take_err w' R A c bs a 8 0 hb (by decide)).mono ?_, hg⟩
        rintro r w'' ⟨rfl, rfl⟩
        exact ⟨rfl, ⟨a, hb⟩, only_refl _ _⟩
      · refine rtext_none most w R A c bs ts.length (by omega) ((rsmall_ok ts.length most w R A c bs rest at_ h1 h2 h hs hd).mono ?_)
        rintro r w' ⟨rfl, hr, hg⟩
        have hl := congrArg List.length hd
        rw [List.length_drop, List.length_append] at hl
        have hl2 := congrArg List.length e
        rw [List.length_append] at hl2
        have h4 : 0 < miss.length := List.length_pos_iff.2 hm
        refine ⟨rfl, (take_short w' R A c bs _ ts.length hr hs (by omega) (by omega)).mono ?_, hg⟩
        rintro r w'' ⟨rfl, hr2, hg2⟩
        exact ⟨rfl, ⟨_, hr2⟩, hg2⟩
    · rintro r w' ⟨v, rfl, ho, hb, hg⟩
      exact ⟨v, [], rfl, fun _ h => (by cases h), ho, .inl hb, hg⟩
  · refine (rtext_ok ts most w R A c bs rest at_ h1 h2 h hs hd).mono ?_
    rintro r w' ⟨v, rfl, ho, hr, hg⟩
    exact ⟨v, ts, rfl, hz, ho, cut_on hr hd hm e, hg⟩
end Go.Proofs.Ythodogcpoihjpaa
