/- Same of dots and of the reference. -/
import Derived.Test.YtnpacjdgbmldlaaD2
namespace Go.Proofs.Ytnpacjdgbmldlaa
open Go.RowKit

set_option maxRecDepth 100000 in
set_option maxHeartbeats 2000000 in
theorem equal_any (xs bs : List Dt) (c c' : Nat) (A B : Option Addr) (w : World) {oa ob : Nat → Prop} (ha : Dots w oa A xs) (hb : Dots w ob B bs) (hm : xs.length ≤ 9223372036854775807) :
    Calls Try.prog 74 #[.slice A xs.length c, .slice B bs.length c'] w fun e w' => e = .returned (.bool (decide (xs = bs))) ∧ Below w.heap.size w w' := by
  have HA := Lib.hid ha
  have HB := Lib.hid hb
  clear ha hb
  by_cases hl : xs.length = bs.length
  · have HL := Lib.hid hl
    have hli : ((xs.length : Int) == (bs.length : Int)) = true := by rw [beq_iff_eq]; omega
    have hln : ((xs.length : Int) != (bs.length : Int)) = false := by rw [bne_eq_false_iff_eq]; omega
    clear hl
    go_enter Try.func74, Try.ntmps74
    go_wp2
    go_loopw [13] (fun v wr => ∃ j : Nat, j ≤ xs.length ∧ v = .int .i64 j ∧ Hid (∀ i, i < j → xs.getD i (0, 0) = bs.getD i (0, 0)) ∧ Hid (Dots wr oa A xs) ∧ Hid (Dots wr ob B bs) ∧ Hid (Below w.heap.size w wr)) (fun v _ => xs.length - (intOf v).toNat)
    case atStart => exact ⟨0, by omega, rfl, fun i hi => by omega, HA, HB, Below.refl _ _⟩
    case round =>
      clear HA HB
      obtain ⟨j, hj, rfl, HN, HA, HB, HW⟩ := hrel
      by_cases hlt : j < xs.length
      · have hlb : j < bs.length := by have := HL.out; omega
        obtain ⟨b, o, hA⟩ := HA.out.some_ (by omega)
        subst hA
        obtain ⟨b', o', hB⟩ := HB.out.some_ (by omega)
        subst hB
        have hc := HA.out.cells hlt
        have hd := HB.out.cells hlb
        obtain ⟨p, hp⟩ : ∃ p, p = xs.getD j (0, 0) := ⟨_, rfl⟩
        obtain ⟨q, hq⟩ : ∃ q, q = bs.getD j (0, 0) := ⟨_, rfl⟩
        have HP := Lib.hid hp
        have HQ := Lib.hid hq
        rw [← hp] at hc
        rw [← hq] at hd
        obtain ⟨c0, c1⟩ := hc
        obtain ⟨d0, d1⟩ := hd
        obtain ⟨p1, p2⟩ := p
        obtain ⟨q1, q2⟩ := q
        have HAd : Hid (Dots wr.drew oa (some ⟨b, o, none⟩) xs) := Lib.hid ⟨HA.out.at_⟩
        have HBd : Hid (Dots wr.drew ob (some ⟨b', o', none⟩) bs) := Lib.hid ⟨HB.out.at_⟩
        have HWd : Hid (Below w.heap.size w wr.drew) := ⟨HW.out.os, HW.out.tape, HW.out.output, HW.out.size, HW.out.block⟩
        have hji : (j : Int) < (bs.length : Int) := by omega
        have HLB := Lib.hid hlb
        clear hp hq HA HB HW hlb
        by_cases e1 : p1 = q1
        · by_cases e2 : p2 = q2
          · subst e1 e2
            have HN2 : Hid (∀ i, i < j + 1 → xs.getD i (0, 0) = bs.getD i (0, 0)) := Lib.hid (fun i hi => by
              by_cases e : i = j
              · subst e
                rw [← HP.out, ← HQ.out]
              · exact HN.out i (by omega))
            go_wp2_with fail
            go_region
            go_wp2
            go_roundw
            case rel => exact ⟨j + 1, by omega, by go_num, HN2, HAd, HBd, HWd⟩
            case measure => simp [intOf]; omega
          · have HE : Hid (xs ≠ bs) := Lib.hid (fun e => by
              have h1 := HP.out
              rw [e, ← HQ.out] at h1
              injection h1 with _ h1
              exact e2 h1)
            subst e1
            have b2 : ((p2 : Int) == (q2 : Int)) = false := by rw [beq_eq_false_iff_ne]; omega
            clear e2
            go_wp2_with fail
            go_region
            go_wp2
            go_ret
            exact ⟨ret_bool (decide_eq_false HE.out).symm, HWd.out⟩
        · have HE : Hid (xs ≠ bs) := Lib.hid (fun e => by
            have h1 := HP.out
            rw [e, ← HQ.out] at h1
            injection h1 with h1 _
            exact e1 h1)
          have b1 : (p1 == q1) = false := by rw [beq_eq_false_iff_ne]; exact e1
          clear e1
          go_wp2_with fail
          go_region
          go_wp2
          go_ret
          exact ⟨ret_bool (decide_eq_false HE.out).symm, HWd.out⟩
      · obtain rfl : j = xs.length := by omega
        have HE : Hid (xs = bs) := Lib.hid (by
          apply List.ext_getElem HL.out
          intro i h1 h2
          have h := HN.out i h1
          rwa [List.getD_eq_getElem?_getD, List.getD_eq_getElem?_getD, List.getElem?_eq_getElem h1, List.getElem?_eq_getElem h2] at h)
        go_wp2
        go_ret
        exact ⟨ret_bool (decide_eq_true HE.out).symm, HW.out⟩
  · have HE : Hid (xs ≠ bs) := Lib.hid (fun e => hl (by rw [e]))
    have hli : ((xs.length : Int) == (bs.length : Int)) = false := by rw [beq_eq_false_iff_ne]; omega
    have hln : ((xs.length : Int) != (bs.length : Int)) = true := by rw [bne_iff_ne]; omega
    clear hl
    go_enter Try.func74, Try.ntmps74
    go_wp2
    go_ret
    exact ⟨ret_bool (decide_eq_false HE.out).symm, Below.refl _ _⟩

set_option maxRecDepth 100000 in
set_option maxHeartbeats 2000000 in
theorem sameR_any (xs bs : List Dt) (c c' : Nat) (A B : Option Addr) (w : World) {oa ob : Nat → Prop} (ha : Dots w oa A xs) (hb : Dots w ob B bs) (hm : xs.length ≤ 9223372036854775807) :
    Calls Try.prog 30 #[.slice A xs.length c, .slice B bs.length c'] w fun e w' => e = .returned (.bool (decide (xs = bs))) ∧ Below w.heap.size w w' := by
  have HA := Lib.hid ha
  have HB := Lib.hid hb
  clear ha hb
  by_cases hl : xs.length = bs.length
  · have HL := Lib.hid hl
    have hli : ((xs.length : Int) == (bs.length : Int)) = true := by rw [beq_iff_eq]; omega
    have hln : ((xs.length : Int) != (bs.length : Int)) = false := by rw [bne_eq_false_iff_eq]; omega
    clear hl
    go_enter Try.func30, Try.ntmps30
    go_wp2
    go_loopw [5] (fun v wr => ∃ j : Nat, j ≤ xs.length ∧ v = .int .i64 j ∧ Hid (∀ i, i < j → xs.getD i (0, 0) = bs.getD i (0, 0)) ∧ Hid (Dots wr oa A xs) ∧ Hid (Dots wr ob B bs) ∧ Hid (Below w.heap.size w wr)) (fun v _ => xs.length - (intOf v).toNat)
    case atStart => exact ⟨0, by omega, rfl, fun i hi => by omega, HA, HB, Below.refl _ _⟩
    case round =>
      clear HA HB
      obtain ⟨j, hj, rfl, HN, HA, HB, HW⟩ := hrel
      by_cases hlt : j < xs.length
      · have hlb : j < bs.length := by have := HL.out; omega
        obtain ⟨b, o, hA⟩ := HA.out.some_ (by omega)
        subst hA
        obtain ⟨b', o', hB⟩ := HB.out.some_ (by omega)
        subst hB
        have hc := HA.out.cells hlt
        have hd := HB.out.cells hlb
        obtain ⟨p, hp⟩ : ∃ p, p = xs.getD j (0, 0) := ⟨_, rfl⟩
        obtain ⟨q, hq⟩ : ∃ q, q = bs.getD j (0, 0) := ⟨_, rfl⟩
        have HP := Lib.hid hp
        have HQ := Lib.hid hq
        rw [← hp] at hc
        rw [← hq] at hd
        obtain ⟨c0, c1⟩ := hc
        obtain ⟨d0, d1⟩ := hd
        obtain ⟨p1, p2⟩ := p
        obtain ⟨q1, q2⟩ := q
        have HAd : Hid (Dots wr.drew oa (some ⟨b, o, none⟩) xs) := Lib.hid ⟨HA.out.at_⟩
        have HBd : Hid (Dots wr.drew ob (some ⟨b', o', none⟩) bs) := Lib.hid ⟨HB.out.at_⟩
        have HWd : Hid (Below w.heap.size w wr.drew) := ⟨HW.out.os, HW.out.tape, HW.out.output, HW.out.size, HW.out.block⟩
        have hji : (j : Int) < (bs.length : Int) := by omega
        have HLB := Lib.hid hlb
        clear hp hq HA HB HW hlb
        by_cases e1 : p1 = q1
        · by_cases e2 : p2 = q2
          · subst e1 e2
            have HN2 : Hid (∀ i, i < j + 1 → xs.getD i (0, 0) = bs.getD i (0, 0)) := Lib.hid (fun i hi => by
              by_cases e : i = j
              · subst e
                rw [← HP.out, ← HQ.out]
              · exact HN.out i (by omega))
            go_wp2_with fail
            go_region
            go_wp2
            go_roundw
            case rel => exact ⟨j + 1, by omega, by go_num, HN2, HAd, HBd, HWd⟩
            case measure => simp [intOf]; omega
          · have HE : Hid (xs ≠ bs) := Lib.hid (fun e => by
              have h1 := HP.out
              rw [e, ← HQ.out] at h1
              injection h1 with _ h1
              exact e2 h1)
            subst e1
            have b2 : ((p2 : Int) == (q2 : Int)) = false := by rw [beq_eq_false_iff_ne]; omega
            clear e2
            go_wp2_with fail
            go_region
            go_wp2
            go_ret
            exact ⟨ret_bool (decide_eq_false HE.out).symm, HWd.out⟩
        · have HE : Hid (xs ≠ bs) := Lib.hid (fun e => by
            have h1 := HP.out
            rw [e, ← HQ.out] at h1
            injection h1 with h1 _
            exact e1 h1)
          have b1 : (p1 == q1) = false := by rw [beq_eq_false_iff_ne]; exact e1
          clear e1
          go_wp2_with fail
          go_region
          go_wp2
          go_ret
          exact ⟨ret_bool (decide_eq_false HE.out).symm, HWd.out⟩
      · obtain rfl : j = xs.length := by omega
        have HE : Hid (xs = bs) := Lib.hid (by
          apply List.ext_getElem HL.out
          intro i h1 h2
          have h := HN.out i h1
          rwa [List.getD_eq_getElem?_getD, List.getD_eq_getElem?_getD, List.getElem?_eq_getElem h1, List.getElem?_eq_getElem h2] at h)
        go_wp2
        go_ret
        exact ⟨ret_bool (decide_eq_true HE.out).symm, HW.out⟩
  · have HE : Hid (xs ≠ bs) := Lib.hid (fun e => hl (by rw [e]))
    have hli : ((xs.length : Int) == (bs.length : Int)) = false := by rw [beq_eq_false_iff_ne]; omega
    have hln : ((xs.length : Int) != (bs.length : Int)) = true := by rw [bne_iff_ne]; omega
    clear hl
    go_enter Try.func30, Try.ntmps30
    go_wp2
    go_ret
    exact ⟨ret_bool (decide_eq_false HE.out).symm, Below.refl _ _⟩

set_option maxRecDepth 100000 in
set_option maxHeartbeats 2000000 in
theorem dsame_any (xs bs : List Dt) (c c' : Nat) (A B : Option Addr) (w : World) {oa ob : Nat → Prop} (ha : Dots w oa A xs) (hb : Dots w ob B bs) (hm : xs.length ≤ 9223372036854775807) :
    Calls Try.prog 29 #[.slice A xs.length c, .slice B bs.length c'] w fun e w' => e = .returned (.bool (decide (xs = bs))) ∧ Below w.heap.size w w' := by
  have HC := Lib.hid (equal_any xs bs c c' A B w ha hb hm)
  clear ha hb hm
  go_enter Try.func29, Try.ntmps29
  go_wp2_with fail
  refine HC.out.mono ?_
  rintro e w2 ⟨rfl, hb⟩
  have HB2 := Lib.hid hb
  clear hb
  go_wp2_with fail
  go_ret
  exact ⟨rfl, HB2.out⟩
end Go.Proofs.Ytnpacjdgbmldlaa
