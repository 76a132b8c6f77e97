/- sort.Search; whether a dot is among others that are in order. -/
import Derived.Test.YtnpacjdgbmldlaaD20
namespace Go.Proofs.Ytnpacjdgbmldlaa
open Go.RowKit Go.Shelf Go.Lib Go.Sort

set_option maxRecDepth 100000 in
set_option maxHeartbeats 2000000 in
theorem search_any (g : Nat) (lb : Array Value) (n : Nat) (p : Nat → Bool) (w : World) (hE : Enters g) (hn : n ≤ 1000000)
    (hf : ∀ (i : Nat) W, i < n → Below w.heap.size w W → Calls Try.prog g (#[.int .i64 (i : Int)] ++ lb) W fun e W' => e = .returned (.bool (p i)) ∧ Below W.heap.size W W') :
    Calls Try.prog 88 #[.int .i64 (n : Int), .func (.func g) #[] lb] w fun e w' => ∃ r : Nat, e = .returned (.int .i64 (r : Int)) ∧ r ≤ n ∧ (r = 0 ∨ p (r - 1) = false) ∧ (r = n ∨ p r = true) ∧ Below w.heap.size w w' := by
  have HF := Lib.hid hf
  have HN := Lib.hid hn
  have eg : ∀ args w, (callFunc g args).run Try.prog w = .ok (.enter g args) w := hE
  clear hf hn hE
  go_enter Try.func88, Try.ntmps88
  go_wp2
  go_loopw [5, 6] (fun a b wr => ∃ lo hi : Nat, a = .int .i64 (lo : Int) ∧ b = .int .i64 (hi : Int) ∧ lo ≤ hi ∧ hi ≤ n ∧ Hid (lo = 0 ∨ p (lo - 1) = false) ∧ Hid (hi = n ∨ p hi = true) ∧ Hid (Below w.heap.size w wr)) (fun a b _ => (intOf b).toNat - (intOf a).toNat)
  case atStart => exact ⟨0, n, rfl, rfl, by omega, Nat.le_refl _, Lib.hid (.inl rfl), Lib.hid (.inl rfl), Lib.hid (Below.refl _ _)⟩
  case round =>
    obtain ⟨lo, hi, rfl, rfl, h1, h2, HL, HH, HB⟩ := hrel
    by_cases hlt : lo < hi
    · obtain ⟨m, hm⟩ : ∃ m : Nat, m = (lo + hi) / 2 := ⟨_, rfl⟩
      have hm1 : lo ≤ m := by omega
      have hm2 : m < hi := by omega
      have e1 : IntKind.i64.wrap ((lo : Int) + (hi : Int)) = ((lo + hi : Nat) : Int) := by have := HN.out; rw [IntKind.wrap_i64]; omega
      have e3 : IntKind.i64.wrap ((m : Int) + 1) = (m : Int) + 1 := by have := HN.out; rw [IntKind.wrap_i64]; omega
      have E2 : Hid (wrap64 (IntKind.u64.wrap ((lo : Int) + (hi : Int)) / 2) = (m : Int)) := Lib.hid (by
        have hu : IntKind.u64.wrap ((lo : Int) + (hi : Int)) = (lo : Int) + (hi : Int) := by have := HN.out; simp [IntKind.wrap, IntKind.bits, IntKind.signed]; omega
        rw [hu, hm]
        unfold wrap64
        have := HN.out
        omega)
      clear hm
      go_wp2_with fail
      rw [E2.out]
      refine (HF.out m wr (by omega) HB.out).mono ?_
      rintro e w2 ⟨rfl, hb⟩
      have HB2 := Lib.hid (HB.out.trans (hb.mono HB.out.size))
      clear hb HB e1
      cases hp : p m with
      | true =>
        have HP := Lib.hid hp
        clear hp e3
        go_wp2_with fail
        go_roundw
        case rel => exact ⟨lo, m, rfl, rfl, by omega, by omega, HL, Lib.hid (.inr HP.out), HB2⟩
        case measure => simp [intOf]; omega
      | false =>
        have HP := Lib.hid hp
        clear hp
        go_wp2_with fail
        go_roundw
        all_goals clear e3
        case rel => exact ⟨m + 1, hi, by go_num, rfl, by omega, by omega, Lib.hid (.inr (by simpa using HP.out)), HH, HB2⟩
        case measure => simp [intOf]; omega
    · obtain rfl : lo = hi := by omega
      go_wp2_with fail
      go_ret
      exact ⟨lo, rfl, h2, HL.out, HH.out, HB.out⟩

/-! ### among -/
set_option maxRecDepth 100000 in
set_option maxHeartbeats 2000000 in
theorem among1_any (ls : List Dt) (c : Nat) (A : Option Addr) (d : Dt) (b1 b2 : Nat) (i : Nat) (w : World) (hv : Dots w (· < w.heap.size) A ls) (hi : i < ls.length) (hm : ls.length ≤ 1000000)
    (h1 : w.cell? ⟨b1, 0, none⟩ = some (.slice A ls.length c)) (h2 : DotAt w b2 25 d.1 d.2) :
    Calls Try.prog 132 #[.int .i64 (i : Int), .pointer (some ⟨b1, 0, none⟩), .pointer (some ⟨b2, 0, none⟩)] w fun e w' => e = .returned (.bool (!Vec.less (ls.getD i (0, 0)).1 (ls.getD i (0, 0)).2 d.1 d.2)) ∧ Below w.heap.size w w' := by
  obtain ⟨b, o, hA⟩ := hv.some_ (by omega)
  subst hA
  obtain ⟨x, hx⟩ : ∃ x, x = ls.getD i (0, 0) := ⟨_, rfl⟩
  have HR : Hid (rangeA w b (o + i * 2) (dotC x)) := Lib.hid (by rw [hx]; exact hv.at_j hi)
  obtain ⟨c0, c1⟩ := hv.cells hi
  rw [← hx] at c0 c1 ⊢
  have d0 := h2.node
  have d1 := h2.num
  have hii : (i : Int) < (ls.length : Int) := by omega
  have HC := Lib.hid (fun W => less_any x.1 x.2 d.1 d.2 W)
  clear hx hv h2
  go_enter Try.func132, Try.ntmps132
  go_wp2_with fail
  go_region_with (refine (HC.out _).mono ?_; rintro e w2 ⟨rfl, hb⟩)
  all_goals
    have HB := Lib.hid (below_from_drew hb)
    clear hb HC
    go_wp2
    go_ret
    exact ⟨rfl, HB.out⟩

theorem among_math {ls : List Dt} (hs : ls.Pairwise Lt) (d : Dt) (r : Nat) (h1 : r = 0 ∨ (!Vec.less (ls.getD (r - 1) (0, 0)).1 (ls.getD (r - 1) (0, 0)).2 d.1 d.2) = false)
    (h2 : r = ls.length ∨ (!Vec.less (ls.getD r (0, 0)).1 (ls.getD r (0, 0)).2 d.1 d.2) = true) (hr : r ≤ ls.length) : d ∈ ls ↔ r < ls.length ∧ ls.getD r (0, 0) = d := by
  constructor
  · intro hd
    obtain ⟨j, hj, e⟩ := List.getElem_of_mem hd
    have ej : ls.getD j (0, 0) = d := by rw [List.getD_eq_getElem?_getD, List.getElem?_eq_getElem hj]; exact e
    have lt : ∀ a b, a < b → b < ls.length → Lt (ls.getD a (0, 0)) (ls.getD b (0, 0)) := fun a b hab hb => by
      have h := List.pairwise_iff_getElem.1 hs a b (by omega) hb hab
      rw [List.getD_eq_getElem?_getD, List.getElem?_eq_getElem (by omega), List.getD_eq_getElem?_getD, List.getElem?_eq_getElem hb]
      exact h
    have e2 : j = r := by
      rcases Nat.lt_trichotomy j r with h | h | h
      · rcases h1 with h1 | h1
        · omega
        · have h3 : Lt (ls.getD (r - 1) (0, 0)) d := by simpa [Lt] using h1
          rcases Nat.lt_or_ge j (r - 1) with h4 | h4
          · have h5 := lt j (r - 1) h4 (by omega)
            rw [ej] at h5
            exact absurd (h5.trans h3) (Lt.irrefl d)
          · rw [show r - 1 = j by omega, ej] at h3
            exact absurd h3 (Lt.irrefl d)
      · exact h
      · rcases h2 with h2 | h2
        · omega
        · have h5 := lt r j h hj
          rw [ej] at h5
          unfold Lt at h5
          rw [h5] at h2
          simp at h2
    subst e2
    exact ⟨hj, ej⟩
  · rintro ⟨h3, h4⟩
    rw [← h4, List.getD_eq_getElem?_getD, List.getElem?_eq_getElem h3]
    exact List.getElem_mem h3
theorem enters132 : Enters 132 := enters_of Try.func132 (by kernel_rfl) rfl

set_option maxRecDepth 100000 in
set_option maxHeartbeats 4000000 in
theorem among_any (ls : List Dt) (c : Nat) (A : Option Addr) (d : Dt) (w : World) (hv : Dots w (· < w.heap.size) A ls) (hm : ls.length ≤ 1000000) (hs : ls.Pairwise Lt) :
    Calls Try.prog 113 #[.slice A ls.length c, dotV d.1 d.2] w fun e w' => e = .returned (.bool (decide (d ∈ ls))) ∧ Below w.heap.size w w' := by
  have HV := Lib.hid hv
  have HM := Lib.hid hm
  have HS := Lib.hid hs
  clear hv hm hs
  obtain ⟨w1, hw1⟩ : ∃ w1, w1 = (w.alloc (.cells #[.slice A ls.length c] 22)).alloc (.cells (dotC d) 25) := ⟨_, rfl⟩
  have hs1 : (w.alloc (.cells #[.slice A ls.length c] 22)).heap.size = w.heap.size + 1 := by simp
  have hB1 : Below w.heap.size w w1 := by rw [hw1]; exact below2 _ _ _
  have hb1 : w1.heap[w.heap.size]? = some (.cells #[.slice A ls.length c] 22 (0, 0)) := by rw [hw1]; exact (Below.heap_alloc _ _ _ (by simp)).trans (heap_alloc_new _ _)
  have hd1 : DotAt w1 (w.heap.size + 1) 25 d.1 d.2 := by rw [hw1, ← hs1]; exact DotAt.new _ 25 d.1 d.2
  have HB1 := Lib.hid hB1
  have HX1 := Lib.hid hb1
  have HD1 := Lib.hid hd1
  have HSE := Lib.hid (search_any 132 #[.pointer (some ⟨w.heap.size, 0, none⟩), .pointer (some ⟨w.heap.size + 1, 0, none⟩)] ls.length (fun i => !Vec.less (ls.getD i (0, 0)).1 (ls.getD i (0, 0)).2 d.1 d.2) w1 enters132 HM.out (fun i W hi hW => by
    have hB := HB1.out.trans (hW.mono HB1.out.size)
    exact among1_any ls c A d w.heap.size (w.heap.size + 1) i W ((HV.out.below hB).loose fun b hb => Nat.lt_of_lt_of_le hb hB.size) hi HM.out
      (by rw [cell_of_row _ _ _ _ _ _ ((hW.block _ (lt_of_row hb1)).trans hb1)]; rfl) (HD1.out.below hW HD1.out.lt)))
  have HW1 := Lib.hid hw1
  clear hB1 hb1 hd1 hs1
  go_enter Try.func113, Try.ntmps113
  go_wp2_with fail
  rw [show (w.alloc (Obj.cells #[Value.slice A ls.length c] 22)).alloc (Obj.cells (dotC d) 25) = w1 from hw1.symm]
  clear hw1
  refine HSE.out.mono ?_
  rintro e w2 ⟨r, rfl, hr, hr1, hr2, hb⟩
  have HMEM := Lib.hid (among_math HS.out d r hr1 hr2 hr)
  have HB2 := Lib.hid (HB1.out.trans (hb.mono HB1.out.size))
  have hx2 : w2.cell? ⟨w.heap.size, 0, none⟩ = some (.slice A ls.length c) := by rw [cell_of_row _ _ _ _ _ _ ((hb.block _ (lt_of_row HX1.out)).trans HX1.out)]; rfl
  have HD2 := Lib.hid (HD1.out.below hb HD1.out.lt)
  have d0 := HD2.out.node
  have d1 := HD2.out.num
  clear hr1 hr2 hb HSE HX1 HD1 HD2
  by_cases hlt : r < ls.length
  · obtain ⟨b, o, hA⟩ := HV.out.some_ (by omega)
    subst hA
    obtain ⟨c0, c1⟩ := (HV.out.below HB2.out).cells hlt
    obtain ⟨x, hx⟩ : ∃ x, x = ls.getD r (0, 0) := ⟨_, rfl⟩
    have HX := Lib.hid hx
    rw [← hx] at c0 c1
    have HMM : Hid (decide (d ∈ ls) = decide (x = d)) := Lib.hid (by rw [HX.out]; exact decide_eq_decide.2 (HMEM.out.trans ⟨fun h => h.2, fun h => ⟨hlt, h⟩⟩))
    have hri : (r : Int) < (ls.length : Int) := by omega
    clear hx
    obtain ⟨x1, x2⟩ := x
    obtain ⟨d1', d2'⟩ := d
    simp only at d0 d1
    by_cases e1 : x1 = d1'
    · by_cases e2 : x2 = d2'
      · subst e1 e2
        have HE : Hid (decide ((x1, x2) ∈ ls) = true) := Lib.hid (by rw [HMM.out]; simp)
        clear HMM
        go_wp2_with fail
        go_region
        go_wp2
        go_ret
        exact ⟨ret_bool HE.out.symm, HB2.out.drew⟩
      · subst e1
        have HE : Hid (decide ((x1, d2') ∈ ls) = false) := Lib.hid (by rw [HMM.out]; exact decide_eq_false fun e => e2 (by injection e))
        have b2 : ((x2 : Int) == (d2' : Int)) = false := by rw [beq_eq_false_iff_ne]; omega
        clear HMM e2
        go_wp2_with fail
        go_region
        go_wp2
        go_ret
        exact ⟨ret_bool HE.out.symm, HB2.out.drew⟩
    · have HE : Hid (decide ((d1', d2') ∈ ls) = false) := Lib.hid (by rw [HMM.out]; exact decide_eq_false fun e => e1 (by injection e))
      have b2 : (x1 == d1') = false := by rw [beq_eq_false_iff_ne]; exact e1
      clear HMM e1
      go_wp2_with fail
      go_region
      go_wp2
      go_ret
      exact ⟨ret_bool HE.out.symm, HB2.out.drew⟩
  · have HE : Hid (decide (d ∈ ls) = false) := Lib.hid (decide_eq_false fun h => hlt (HMEM.out.1 h).1)
    have hri : ¬ ((r : Int) < (ls.length : Int)) := by omega
    clear HMEM
    go_wp2_with fail
    go_region
    go_wp2
    go_ret
    exact ⟨ret_bool HE.out.symm, HB2.out.drew⟩
end Go.Proofs.Ytnpacjdgbmldlaa
