/- The walk of the law ShaSums: what the program sums is what the reference sums, of texts of up to 500 bytes; of longer ones it asks fixed calls alone. -/
import Derived.Test.YtlejlgamefdckaaDoorB7
import Derived.Test.YtlejlgamefdckaaDoorA7
namespace Go.Proofs.YtlejlgamefdckaaDoor
open Go.RowKit
theorem own_bytes {w : World} {base : Nat} {v : Value} {n : Nat} {zs : List Nat} (h : w.ownsRow base 5 1 v n (ints8 zs)) (hz : ∀ z, z ∈ zs → z < 256) :
    ∃ A c, v = .slice A zs.length c ∧ (A = none → c = 0) ∧ Bytes w (· < w.heap.size) A zs := by
  have hl := h.1
  rw [ints8_length] at hl
  have hn : n = zs.length := by omega
  subst hn
  rcases h.2 with ⟨hv, h0⟩ | ⟨g, cap, cur, hv, _, hg, _⟩
  · refine ⟨none, 0, by rw [hv, h0], fun _ => rfl, hz, fun hp => by omega⟩
  · refine ⟨some ⟨g, 0, none⟩, cap, hv, (fun e => by cases e), hz, fun hp => ⟨g, 0, rfl, ?_, fun j hj => ?_⟩⟩
    · rcases Nat.lt_or_ge g w.heap.size with h1 | h1
      · exact h1
      · rw [Array.getElem?_eq_none h1] at hg
        cases hg
    · rw [Nat.zero_add]
      rw [hv] at h
      exact own_cell h hj
theorem two_pieces {w : World} {A B : Option Addr} {c d : Nat} {xs ys : List Nat} (hx : Bytes w (· < w.heap.size) A xs) (hc : xs.length ≤ c) (hm : xs.length ≤ maxLen) (hy : Bytes w (· < w.heap.size) B ys) (hd : ys.length ≤ d) (hm2 : ys.length ≤ maxLen) :
    Pieces (w.alloc (.cells #[.slice A xs.length c, .slice B ys.length d] 22)) (· < (w.alloc (.cells #[.slice A xs.length c, .slice B ys.length d] 22)).heap.size) (some ⟨w.heap.size, 0, none⟩) [⟨A, c, xs⟩, ⟨B, d, ys⟩] := by
  have hb := Below.alloc (Below.refl w.heap.size w) (Nat.le_refl _) (.cells #[.slice A xs.length c, .slice B ys.length d] 22)
  refine ⟨fun p hp => ?_, fun _ => ⟨_, _, rfl, by simp, fun j p hj => ?_⟩⟩
  · simp only [List.mem_cons, List.mem_nil_iff, or_false] at hp
    rcases hp with rfl | rfl
    · exact ⟨(hx.below hb).weak fun b h _ => by simp; omega, hc, hm⟩
    · exact ⟨(hy.below hb).weak fun b h _ => by simp; omega, hd, hm2⟩
  · match j with
    | 0 =>
      simp only [List.getElem?_cons_zero, Option.some.injEq] at hj
      subst hj
      rw [Nat.add_zero, World.cell?_alloc_at _ _ _ _ rfl]
      rfl
    | 1 =>
      simp only [List.getElem?_cons_succ, List.getElem?_cons_zero, Option.some.injEq] at hj
      subst hj
      rw [Nat.zero_add, World.cell?_alloc_at _ _ _ _ rfl]
      rfl
    | j + 2 => simp at hj
set_option maxRecDepth 100000 in
set_option maxHeartbeats 2000000 in
theorem law_sums (xs ys : List Nat) (A B : Option Addr) (c d : Nat) (w : World) (ht : Tabs w) (hx : Bytes w (· < w.heap.size) A xs) (hc : xs.length ≤ c) (hn : A = none → c = 0) (hy : Bytes w (· < w.heap.size) B ys) (hd : ys.length ≤ d) (hn2 : B = none → d = 0)
    (hs : xs.length ≤ 500) (hs2 : ys.length ≤ 500) :
    Calls Tryd.prog 3 #[.slice A xs.length c, .slice B ys.length d] w fun e w' => e = .returned (.bool true) ∧ Below w.heap.size w w' := by
  have HT := Lib.hid ht
  have HX := Lib.hid hx
  have HY := Lib.hid hy
  have HN := Lib.hid hn
  have HN2 := Lib.hid hn2
  have HM : Hid (xs.length ≤ maxLen) := by show _ ≤ maxLen; unfold maxLen; omega
  have HM2 : Hid (ys.length ≤ maxLen) := by show _ ≤ maxLen; unfold maxLen; omega
  clear ht hx hy hn hn2
  have i1 : (xs.length : Int) ≤ 500 := by omega
  have i2 : (ys.length : Int) ≤ 500 := by omega
  have HA : Hid (Below w.heap.size w (w.alloc (.cells #[] 5))) := (Below.refl _ _).alloc (Nat.le_refl _) _
  go_enter Tryd.func3, Tryd.ntmps3
  go_wp2_with (first
    | (refine wpList_append_bytes rfl (.tmp 15) (.tmp 16) rfl w.heap.size _ 0 [] rfl (owns_empty w) A xs c (· < w.heap.size) rfl (HX.out.below HA.out) HN.out (by omega) (by simp) ?_; intro v1 w1 H1 B1)
    | (refine wpList_append_bytes rfl (.tmp 17) (.tmp 18) rfl w.heap.size _ _ _ rfl H1.out B ys d (· < w.heap.size) rfl (HY.out.below (HA.out.trans B1.out)) HN2.out (by omega) (HA.out.trans B1.out).size ?_; intro v2 w2 H2 B2))
  have HB2 := Lib.hid (HA.out.trans (B1.out.trans B2.out))
  obtain ⟨V, e, rfl, hV, hW⟩ := own_bytes (zs := xs ++ ys) (by have := H2.out; simpa using this) (fun z hz => by
    rcases List.mem_append.1 hz with h | h
    · exact HX.out.lt z h
    · exact HY.out.lt z h)
  have HV := Lib.hid hV
  have HW := Lib.hid hW
  clear HA B1 B2 H1 H2 hV hW
  refine (alive_any _ (HT.out.below HB2.out)).mono ?_
  rintro e w3 ⟨rfl, hb3⟩
  have HB3 := Lib.hid (HB2.out.trans (hb3.mono HB2.out.size))
  have HC3 := Lib.hid hb3
  clear hb3
  go_wp2_with fail
  have h4 := sum_any [⟨A, c, xs⟩] 1 (some ⟨w3.heap.size, 0, none⟩) (w3.alloc (.cells #[.slice A xs.length c] 22)) (HT.out.below (HB3.out.alloc HB3.out.size _)) (one_piece ((HX.out.below HB3.out).weak fun b hb _ => Nat.lt_of_lt_of_le hb HB3.out.size) hc HM.out) (by unfold maxLen; simp)
  rw [show allOf [⟨A, c, xs⟩] = xs by simp [allOf]] at h4
  refine h4.mono ?_
  clear h4
  rintro u w4 ⟨rfl, hb4⟩
  have HB4 := Lib.hid ((HB3.out.alloc HB3.out.size _).trans (hb4.mono (by have := HB3.out.size; simp; omega)))
  have HC4 := Lib.hid ((HC3.out.alloc HC3.out.size _).trans (hb4.mono (by have := HC3.out.size; simp; omega)))
  clear hb4
  go_wp2_with fail
  refine (rsum_any xs c A w4 ((HX.out.below HB4.out).weak fun b hb _ => Nat.lt_of_lt_of_le hb HB4.out.size) HN.out (by omega)).mono ?_
  rintro u w5 ⟨rfl, hb5⟩
  have HB5 := Lib.hid (HB4.out.trans (hb5.mono HB4.out.size))
  have HC5 := Lib.hid (HC4.out.trans (hb5.mono HC4.out.size))
  clear hb5
  have hq := eq_abc (sha xs)
  go_wp2_with fail
  clear hq
  have h6 := sum_any [⟨A, c, xs⟩, ⟨B, d, ys⟩] 2 (some ⟨w5.heap.size, 0, none⟩) (w5.alloc (.cells #[.slice A xs.length c, .slice B ys.length d] 22)) (HT.out.below (HB5.out.alloc HB5.out.size _)) (two_pieces ((HX.out.below HB5.out).weak fun b hb _ => Nat.lt_of_lt_of_le hb HB5.out.size) hc HM.out ((HY.out.below HB5.out).weak fun b hb _ => Nat.lt_of_lt_of_le hb HB5.out.size) hd HM2.out) (by unfold maxLen; simp)
  rw [show allOf [⟨A, c, xs⟩, ⟨B, d, ys⟩] = xs ++ ys by simp [allOf]] at h6
  refine h6.mono ?_
  clear h6
  rintro u w6 ⟨rfl, hb6⟩
  have HB6 := Lib.hid ((HB5.out.alloc HB5.out.size _).trans (hb6.mono (by have := HB5.out.size; simp; omega)))
  have HC6 := Lib.hid ((HC5.out.alloc HC5.out.size _).trans (hb6.mono (by have := HC5.out.size; simp; omega)))
  clear hb6
  go_wp2_with fail
  have h7 := rsum_any (xs ++ ys) e V w6 ((HW.out.below HC6.out).weak fun b hb _ => Nat.lt_of_lt_of_le hb HC6.out.size) HV.out (by simp; omega)
  rw [List.length_append] at h7
  refine h7.mono ?_
  clear h7
  rintro u w7 ⟨rfl, hb7⟩
  have HB7 := Lib.hid (HB6.out.trans (hb7.mono HB6.out.size))
  have HC7 := Lib.hid (HC6.out.trans (hb7.mono HC6.out.size))
  clear hb7
  have hq := eq_abc (sha (xs ++ ys))
  go_wp2_with fail
  clear hq
  refine (point_any xs c A w7 (HT.out.below HB7.out) ((HX.out.below HB7.out).weak fun b hb _ => Nat.lt_of_lt_of_le hb HB7.out.size) hc HM.out).mono ?_
  rintro u w8 ⟨rfl, hb8⟩
  have HB8 := Lib.hid (HB7.out.trans (hb8.mono HB7.out.size))
  have HC8 := Lib.hid (HC7.out.trans (hb8.mono HC7.out.size))
  clear hb8
  go_wp2_with fail
  refine (rpoint_any xs c A w8 ((HX.out.below HB8.out).weak fun b hb _ => Nat.lt_of_lt_of_le hb HB8.out.size) HN.out (by omega)).mono ?_
  rintro u w9 ⟨rfl, hb9⟩
  have HB9 := Lib.hid (HB8.out.trans (hb9.mono HB8.out.size))
  have HC9 := Lib.hid (HC8.out.trans (hb9.mono HC8.out.size))
  clear hb9
  go_wp2_with fail
  go_ret
  exact ⟨rfl, HB9.out⟩

set_option maxHeartbeats 1000000 in
theorem law_sums_far (n1 n2 c0 c1 : Nat) (A0 A1 : Option Addr) (w : World) (ht : Tabs w) (hs : 500 < n1 ∨ 500 < n2) (hm : n1 ≤ 9223372036854775807) (hm2 : n2 ≤ 9223372036854775807) :
    Calls Tryd.prog 3 #[.slice A0 n1 c0, .slice A1 n2 c1] w fun e w' => e = .returned (.bool true) ∧ Below w.heap.size w w' := by
  have HT := Lib.hid ht
  clear ht
  by_cases h1 : 500 < n1
  · have hs' : (500 : Int) < (n1 : Int) := by omega
    go_enter Tryd.func3, Tryd.ntmps3
    go_wp2_with (go_at_call 7; refine (alive_any _ HT.out).mono ?_; rintro e w1 ⟨rfl, hb1⟩; have HB1 := Lib.hid hb1; clear hb1)
    go_ret
    exact ⟨rfl, HB1.out⟩
  · have hs' : (n1 : Int) ≤ 500 := by omega
    have hs2' : (500 : Int) < (n2 : Int) := by omega
    go_enter Tryd.func3, Tryd.ntmps3
    go_wp2_with (go_at_call 7; refine (alive_any _ HT.out).mono ?_; rintro e w1 ⟨rfl, hb1⟩; have HB1 := Lib.hid hb1; clear hb1)
    go_ret
    exact ⟨rfl, HB1.out⟩
end Go.Proofs.YtlejlgamefdckaaDoor
