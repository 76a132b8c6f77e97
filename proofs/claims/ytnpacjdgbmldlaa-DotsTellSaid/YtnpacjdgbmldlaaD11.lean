/- The reference's Some and Join, given its Of. -/
import Derived.Test.YtnpacjdgbmldlaaD9
namespace Go.Proofs.Ytnpacjdgbmldlaa
open Go.RowKit
/-- What is to be shown of the reference's Of. -/
def OfIs (F : List Dt → List Dt) : Prop := ∀ (ls : List Dt) (c : Nat) (A : Option Addr) (w : World), Dots w (· < w.heap.size) A ls → ls.length ≤ 100000 →
  Calls Try.prog 32 #[.slice A ls.length c] w fun e w' => ∃ A' c', e = .returned (.slice A' (F ls).length c') ∧ Dots w' (· < w'.heap.size) A' (F ls) ∧ (F ls).length ≤ c' ∧ Below w.heap.size w w'
theorem Dots.loose {w : World} {A : Option Addr} {ls : List Dt} {o p : Nat → Prop} (h : Dots w o A ls) (k : ∀ b, o b → p b) : Dots w p A ls := ⟨fun hp => by
  obtain ⟨b, o', e, h1, h2⟩ := h.at_ hp
  exact ⟨b, o', e, k _ h1, h2⟩⟩
/-- The dots of one list that stand in another, or those that don't. -/
def someF (xs ys : List Dt) (q : Bool) : List Dt := xs.filter fun d => decide (d ∈ ys) == q
set_option maxRecDepth 100000 in
set_option maxHeartbeats 4000000 in
theorem some_any (F : List Dt → List Dt) (hF : OfIs F) (xs ys : List Dt) (c c' : Nat) (A B : Option Addr) (q : Bool) (w : World) (hx : Dots w (· < w.heap.size) A xs) (hy : Dots w (· < w.heap.size) B ys) (hm : xs.length ≤ 100000) (hn : ys.length ≤ 100000) :
    Calls Try.prog 36 #[.slice A xs.length c, .slice B ys.length c', .bool q] w fun e w' => ∃ A' c', e = .returned (.slice A' (F (someF xs ys q)).length c') ∧ Dots w' (· < w'.heap.size) A' (F (someF xs ys q)) ∧ (F (someF xs ys q)).length ≤ c' ∧ Below w.heap.size w w' := by
  have HV := Lib.hid hx
  have HY := Lib.hid hy
  have HM := Lib.hid hm
  have HN := Lib.hid hn
  have HOF := Lib.hid hF
  clear hx hy hm hn hF
  go_enter Try.func36, Try.ntmps36
  go_wp2
  go_loopw [7, 8] (fun u v wr => ∃ j : Nat, j ≤ xs.length ∧ v = .int .i64 j ∧ Hid (wr.ownsRow w.heap.size 35 2 u (someF (xs.take j) ys q).length (dots2 (someF (xs.take j) ys q))) ∧ Hid (Dots wr (· < w.heap.size) A xs) ∧ Hid (Dots wr (· < w.heap.size) B ys) ∧ Hid (Below w.heap.size w wr)) (fun _ v _ => xs.length - (intOf v).toNat)
  case atStart => exact ⟨0, by omega, rfl, World.ownsRow_nil _ _ _ _, HV, HY, Below.refl _ _⟩
  case round =>
    clear HV HY
    obtain ⟨j, hj, rfl, HO, HV, HY, HB⟩ := hrel
    by_cases hlt : j < xs.length
    · obtain ⟨b, o, hA⟩ := HV.out.some_ (by omega)
      subst hA
      obtain ⟨d, hd⟩ : ∃ d, d = xs.getD j (0, 0) := ⟨_, rfl⟩
      have HD := Lib.hid hd
      have hr : Hid (rangeA wr b (o + j * 2) (dotC d)) := Lib.hid (by rw [hd]; exact HV.out.at_j hlt)
      have s35 := Lib.hid (dot_size35 d)
      obtain ⟨acc, hacc⟩ : ∃ acc, acc = someF (xs.take j) ys q := ⟨_, rfl⟩
      have hT : xs.take (j + 1) = xs.take j ++ [d] := by
        rw [List.take_add_one, List.getElem?_eq_getElem hlt, hd, List.getD_eq_getElem?_getD, List.getElem?_eq_getElem hlt]
        rfl
      have HACC : Hid (someF (xs.take (j + 1)) ys q = acc ++ if (decide (d ∈ ys) == q) = true then [d] else []) := Lib.hid (by rw [hT, hacc]; unfold someF; rw [List.filter_append]; congr 1; simp [List.filter_cons])
      have HAL : Hid (acc.length ≤ 100000) := Lib.hid (by rw [hacc]; have h1 := List.length_filter_le (fun d : Dt => decide (d ∈ ys) == q) (xs.take j); unfold someF; rw [List.length_take] at h1; have := HM.out; omega)
      rw [← hacc] at HO
      have HLT := Lib.hid hlt
      have eJ : IntKind.i64.wrap ((j : Int) + 1) = (j : Int) + 1 := by have := HM.out; rw [IntKind.wrap_i64]; omega
      clear hd hacc hT
      go_wp2_with (refine wpList_load_arr rfl 35 _ rfl b (o + j * 2) rfl (dotC d) _ hr.out Try.underlying35 rfl s35.out ?_)
      refine (dhasR_any ys c' B d wr (HY.out.loose fun b h => Nat.lt_of_lt_of_le h HB.out.size) (by have := HN.out; omega)).mono ?_
      rintro e w2 ⟨rfl, hb⟩
      have HO2 := Lib.hid (own_keep HO.out fun k _ hk => hb.block k hk)
      have HV2 := Lib.hid (HV.out.below (hb.mono HB.out.size))
      have HY2 := Lib.hid (HY.out.below (hb.mono HB.out.size))
      have HB2 := Lib.hid (HB.out.trans (hb.mono HB.out.size))
      have S0 := Lib.hid HB2.out.size
      have hr2 : Hid (rangeA w2 b (o + j * 2) (dotC d)) := Lib.hid (by rw [HD.out]; exact HV2.out.at_j HLT.out)
      clear hb HO HV HB HY hr
      by_cases hin : (decide (d ∈ ys) == q) = true
      · rw [if_pos hin] at HACC
        obtain rfl : decide (d ∈ ys) = q := by simpa using hin
        clear hin
        go_wp2_with (first
          | (refine wpList_load_arr rfl 35 _ rfl b (o + j * 2) rfl (dotC d) _ hr2.out Try.underlying35 rfl s35.out ?_)
          | (refine wpList_append_dot rfl (.tmp 23) (.tmp 28) 30 rfl w.heap.size 35 (.agg #[.int .i64 0, .int .u64 0]) 16 Try.underlying30 info35 rfl _ acc.length _ rfl HO2.out d 35 rfl (by have := HAL.out; unfold maxLen; omega) (by have := HAL.out; omega) S0.out ?_; intro v1 w3 H1 B1))
        go_roundw
        all_goals clear eJ
        case rel =>
          refine ⟨j + 1, by omega, by go_num, ?_, Lib.hid (HV2.out.below B1.out), Lib.hid (HY2.out.below B1.out), Lib.hid (HB2.out.trans B1.out)⟩
          rw [HACC.out, List.length_append, List.length_singleton, dots2_append, dots2_one]
          exact H1
        case measure => simp [intOf]; omega
      · rw [if_neg hin, List.append_nil] at HACC
        have hq : q = !decide (d ∈ ys) := by revert hin; cases decide (d ∈ ys) <;> cases q <;> simp
        clear hin
        cases hdd : decide (d ∈ ys) with
        | true =>
          rw [hdd] at hq
          simp only [Bool.not_true] at hq
          subst hq
          clear hdd
          go_wp2_with fail
          go_roundw
          all_goals clear eJ
          case rel => exact ⟨j + 1, by omega, by go_num, by rw [HACC.out]; exact HO2, HV2, HY2, HB2⟩
          case measure => simp [intOf]; omega
        | false =>
          rw [hdd] at hq
          simp only [Bool.not_false] at hq
          subst hq
          clear hdd
          go_wp2_with fail
          go_roundw
          all_goals clear eJ
          case rel => exact ⟨j + 1, by omega, by go_num, by rw [HACC.out]; exact HO2, HV2, HY2, HB2⟩
          case measure => simp [intOf]; omega
    · obtain rfl : j = xs.length := by omega
      rw [List.take_length] at HO
      have HL : Hid ((someF xs ys q).length ≤ 100000) := Lib.hid (Nat.le_trans (List.length_filter_le _ _) HM.out)
      obtain ⟨A', c2, rfl, h1, _⟩ := own_dots HO.out
      have HO1 := Lib.hid (h1.loose (p := (· < wr.heap.size)) fun b h => h.2)
      clear h1
      go_wp2_with fail
      refine (HOF.out _ _ _ _ HO1.out HL.out).mono ?_
      rintro e w5 ⟨A5, c5, rfl, hd, hc, hb⟩
      have H5 := Lib.hid hd
      have HC5 := Lib.hid hc
      have HB5 := Lib.hid hb
      clear hd hb hc
      go_wp2
      go_ret
      exact ⟨_, _, rfl, H5.out, HC5.out, HB.out.trans (HB5.out.mono HB.out.size)⟩
end Go.Proofs.Ytnpacjdgbmldlaa
