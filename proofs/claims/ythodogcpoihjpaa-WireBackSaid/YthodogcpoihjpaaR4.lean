/- The reader's End; From. -/
import Derived.Test.YthodogcpoihjpaaR3
namespace Go.Proofs.Ythodogcpoihjpaa
open Go.RowKit
set_option maxHeartbeats 1000000 in
theorem end_any (w : World) (R : Nat) (A : Option Addr) (c : Nat) (bs : List Nat) (at_ : Nat) (e : Int) (h : RAt w R A c bs at_ e) (hs : bs.length ≤ 1000000) :
    Calls Try.prog 20 #[.pointer (some ⟨R, 0, none⟩)] w fun r w' => r = .returned (.int .i64 (if e = 0 then (if at_ < bs.length then 2 else 0) else e)) ∧ Below w.heap.size w w' := by
  have HC := Lib.hid (err_any w R A c bs at_ e h)
  by_cases he : e = 0
  · subst he
    have HL := Lib.hid (left_any w R A c bs at_ 0 h hs)
    rw [if_pos rfl] at HL
    obtain ⟨d, hd⟩ : ∃ d, d = bs.length - at_ := ⟨_, rfl⟩
    rw [← hd] at HL
    have hle := h.le
    by_cases h0 : 0 < d
    · have h0' : (0 : Int) < (d : Int) := by omega
      have hlt : at_ < bs.length := by omega
      clear h hd hle
      go_enter Try.func20, Try.ntmps20
      go_wp2_with (first
        | (go_at_call 31; refine HC.out.mono ?_; rintro r w' ⟨rfl, ew⟩; obtain rfl := ew.symm)
        | (go_at_call 32; refine HL.out.mono ?_; rintro r w1 ⟨rfl, hb⟩; have HB := Lib.hid hb; clear hb))
      go_ret
      exact ⟨by simp [hlt], HB.out⟩
    · obtain rfl : d = 0 := by omega
      have hlt : ¬ at_ < bs.length := by omega
      clear h hd hle
      go_enter Try.func20, Try.ntmps20
      go_wp2_with (first
        | (go_at_call 31; refine HC.out.mono ?_; rintro r w' ⟨rfl, ew⟩; obtain rfl := ew.symm)
        | (go_at_call 32; refine HL.out.mono ?_; rintro r w1 ⟨rfl, hb⟩; have HB := Lib.hid hb; clear hb))
      go_ret
      exact ⟨by simp [hlt], HB.out⟩
  · have he' : (e != 0) = true := by simpa using he
    clear h
    go_enter Try.func20, Try.ntmps20
    go_wp2_with (go_at_call 31; refine HC.out.mono ?_; rintro r w' ⟨rfl, ew⟩; obtain rfl := ew.symm)
    go_ret
    exact ⟨by simp [he], Below.refl _ _⟩
theorem ownsRow_ne {w : World} {base : Nat} {v : Value} {n : Nat} {l : List Value} {R : Nat} (h : w.ownsRow base 5 1 v n l) (hR : w.heap.size = R) : ∀ k, v.ownBlock = some k → k ≠ R := fun k hk => by have := (h.lt k hk).2; omega
set_option maxHeartbeats 1000000 in
theorem from_any (xs : List Nat) (c : Nat) (A : Option Addr) (w : World) (hx : Bytes w (· < w.heap.size) A xs) (hs : xs.length ≤ 1000000) :
    Calls Try.prog 9 #[.slice A xs.length c] w fun r w' => ∃ R A' c', r = .returned (.pointer (some ⟨R, 0, none⟩)) ∧ RAt w' R A' c' xs 0 0 ∧ Below w.heap.size w w' ∧ w.heap.size ≤ R := by
  have HC := Lib.hid (fresh_any xs c A w hx hs)
  have HX := Lib.hid hx.lt
  clear hx
  go_enter Try.func9, Try.ntmps9
  go_wp2_with fail
  refine HC.out.mono ?_
  rintro r w1 ⟨v, rfl, ho, hb⟩
  obtain ⟨A1, c1, rfl, hn1, hb1⟩ := own_bytes ho HX.out
  have hcap : xs.length ≤ c1 := by
    rcases ho.2 with ⟨e, h0⟩ | ⟨g, cap, cur, e, _, _, hc, _⟩
    · omega
    · injection e with _ _ e
      omega
  have HB := Lib.hid hb
  have HY := Lib.hid hb1
  have HN := Lib.hid hn1
  have HCP := Lib.hid hcap
  clear ho hb hb1 hn1 hcap HC
  go_wp2_with fail
  go_ret
  have hb2 := below1 w1 (.cells #[.bool true, .slice A1 xs.length c1, .int .i64 0, .int .i64 0] 59)
  refine ⟨w1.heap.size, A1, c1, rfl, ⟨World.rowIs_alloc w1 #[.bool true, .slice A1 xs.length c1, .int .i64 0, .int .i64 0] 59 (rF (.slice A1 xs.length c1) ((0 : Nat) : Int) 0) (fun i hi => ?_), ?_, Nat.zero_le _, HCP.out, HN.out⟩, HB.out.trans (hb2.mono HB.out.size), HB.out.size⟩
  · match i, hi with
    | 0, _ => rfl
    | 1, _ => rfl
    | 2, _ => rfl
    | 3, _ => rfl
  · exact (HY.out.below hb2).weak fun b hb _ => Nat.ne_of_lt hb
end Go.Proofs.Ythodogcpoihjpaa
