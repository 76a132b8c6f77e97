/- The reference's Of, given its insert. -/
import Derived.Test.YtnpacjdgbmldlaaD11
namespace Go.Proofs.Ytnpacjdgbmldlaa
open Go.RowKit
/-- A dot put where it belongs, unless it is there, or is no dot. -/
def insertF (ls : List Dt) (d : Dt) : List Dt := if Vec.right d.1 d.2 = true ∧ d ∉ ls then (ls.takeWhile fun x => Vec.less x.1 x.2 d.1 d.2) ++ d :: ls.dropWhile fun x => Vec.less x.1 x.2 d.1 d.2 else ls
theorem insertF_len (ls : List Dt) (d : Dt) : (insertF ls d).length ≤ ls.length + 1 := by
  unfold insertF
  split
  · have h := congrArg List.length (List.takeWhile_append_dropWhile (p := fun x : Dt => Vec.less x.1 x.2 d.1 d.2) (l := ls))
    rw [List.length_append] at h
    rw [List.length_append, List.length_cons]
    omega
  · omega
def insAll (ls : List Dt) : List Dt := ls.foldl insertF []
theorem insAll_take (ls : List Dt) {j : Nat} (h : j < ls.length) : insAll (ls.take (j + 1)) = insertF (insAll (ls.take j)) (ls.getD j (0, 0)) := by
  rw [List.take_add_one, List.getD_eq_getElem?_getD, List.getElem?_eq_getElem h]
  unfold insAll
  rw [List.foldl_append]
  rfl
theorem insAll_len (ls : List Dt) : ∀ j, j ≤ ls.length → (insAll (ls.take j)).length ≤ j
  | 0, _ => by simp [insAll]
  | j + 1, h => by
    rw [insAll_take ls (by omega)]
    have := insertF_len (insAll (ls.take j)) (ls.getD j (0, 0))
    have := insAll_len ls j (by omega)
    omega
def ofF (ls : List Dt) : List Dt := (insAll ls).take 2000
theorem Dots.cut {w : World} {A : Option Addr} {ls : List Dt} {o : Nat → Prop} (h : Dots w o A ls) (n : Nat) : Dots w o A (ls.take n) := ⟨fun hp => by
  rw [List.length_take] at hp
  obtain ⟨b, o', e, h1, h2⟩ := h.at_ (by omega)
  refine ⟨b, o', e, h1, fun j hj => ?_⟩
  rw [List.length_take] at hj
  have h3 := h2 j (by omega)
  rwa [show (ls.take n).getD j (0, 0) = ls.getD j (0, 0) by rw [List.getD_eq_getElem?_getD, List.getD_eq_getElem?_getD, List.getElem?_take, if_pos (by omega)]]⟩
/-- What is to be shown of the reference's insert. -/
def InsertIs : Prop := ∀ (ls : List Dt) (c : Nat) (A : Option Addr) (d : Dt) (w : World), Dots w (· < w.heap.size) A ls → ls.length ≤ c → ls.length ≤ 100000 →
  Calls Try.prog 76 #[.slice A ls.length c, dotV d.1 d.2] w fun e w' => ∃ A' c', e = .returned (.slice A' (insertF ls d).length c') ∧ Dots w' (· < w'.heap.size) A' (insertF ls d) ∧ (insertF ls d).length ≤ c' ∧ Below w.heap.size w w'
set_option maxRecDepth 100000 in
set_option maxHeartbeats 4000000 in
theorem of_any (hI : InsertIs) : OfIs ofF := by
  intro ls c A w hv hm
  have HV := Lib.hid hv
  have HM := Lib.hid hm
  have HII := Lib.hid hI
  clear hv hm hI
  go_enter Try.func32, Try.ntmps32
  go_wp2
  go_loopw [3, 4] (fun u v wr => ∃ (j : Nat) (A' : Option Addr) (c' : Nat), j ≤ ls.length ∧ v = .int .i64 j ∧ u = .slice A' (insAll (ls.take j)).length c' ∧ Hid ((insAll (ls.take j)).length ≤ c') ∧ Hid (Dots wr (· < wr.heap.size) A' (insAll (ls.take j))) ∧ Hid (Dots wr (· < w.heap.size) A ls) ∧ Hid (Below w.heap.size w wr)) (fun _ v _ => ls.length - (intOf v).toNat)
  case atStart => exact ⟨0, none, 0, by omega, rfl, rfl, Lib.hid (by simp [insAll]), Lib.hid ⟨fun hp => by simp [insAll] at hp⟩, HV, Below.refl _ _⟩
  case round =>
    clear HV
    obtain ⟨j, A', c', hj, rfl, rfl, HC, HO, HV, HB⟩ := hrel
    have HAL := Lib.hid (insAll_len ls j hj)
    by_cases hlt : j < ls.length
    · obtain ⟨b, o, hA⟩ := HV.out.some_ (by omega)
      subst hA
      obtain ⟨d, hd⟩ : ∃ d, d = ls.getD j (0, 0) := ⟨_, rfl⟩
      have hr : Hid (rangeA wr b (o + j * 2) (dotC d)) := Lib.hid (by rw [hd]; exact HV.out.at_j hlt)
      have s35 := Lib.hid (dot_size35 d)
      obtain ⟨acc, hacc⟩ : ∃ acc, acc = insAll (ls.take j) := ⟨_, rfl⟩
      have HT : Hid (insAll (ls.take (j + 1)) = insertF acc d) := Lib.hid (by rw [insAll_take ls hlt, hacc, hd])
      rw [← hacc] at HO HC HAL
      have HLT := Lib.hid hlt
      have eJ : IntKind.i64.wrap ((j : Int) + 1) = (j : Int) + 1 := by have := HM.out; rw [IntKind.wrap_i64]; omega
      rw [← hacc]
      clear hd hacc
      go_wp2_with (refine wpList_load_arr rfl 35 _ rfl b (o + j * 2) rfl (dotC d) _ hr.out Try.underlying35 rfl s35.out ?_)
      refine (HII.out acc c' A' d wr HO.out HC.out (by have := HAL.out; have := HM.out; have := HLT.out; omega)).mono ?_
      rintro e w5 ⟨A5, c5, rfl, hd, hc, hb⟩
      have H5 := Lib.hid hd
      have HC5 := Lib.hid hc
      have HV5 := Lib.hid (HV.out.below (hb.mono HB.out.size))
      have HB5 := Lib.hid (HB.out.trans (hb.mono HB.out.size))
      clear hd hb hc
      go_wp2_with fail
      go_roundw
      all_goals clear eJ
      case rel => exact ⟨j + 1, A5, c5, by omega, by go_num, by rw [HT.out], by rw [HT.out]; exact HC5, by rw [HT.out]; exact H5, HV5, HB5⟩
      case measure => simp [intOf]; omega
    · obtain rfl : j = ls.length := by omega
      rw [List.take_length] at HO HC HAL
      rw [List.take_length]
      obtain ⟨acc, hacc⟩ : ∃ acc, acc = insAll ls := ⟨_, rfl⟩
      have HF : Hid (ofF ls = acc.take 2000) := Lib.hid (by rw [hacc]; rfl)
      rw [← hacc] at HO HC HAL
      rw [← hacc]
      clear hacc
      by_cases hb : 2000 < acc.length
      · have hbi : (2000 : Int) < (acc.length : Int) := by omega
        have hci : (2000 : Int) ≤ (c' : Int) := by have := HC.out; omega
        have hcn : 2000 ≤ c' := by have := HC.out; omega
        have HL : Hid ((ofF ls).length = 2000) := Lib.hid (by rw [HF.out, List.length_take]; omega)
        have HD : Hid (Dots wr (· < wr.heap.size) A' (ofF ls)) := Lib.hid (by rw [HF.out]; exact HO.out.cut 2000)
        clear hb
        go_wp2_with fail
        go_ret
        refine ⟨A', c', ?_, HD.out, by rw [HL.out]; exact hcn, HB.out⟩
        rw [HL.out]
        rfl
      · have hbi : ¬ (2000 : Int) < (acc.length : Int) := by omega
        have HE : Hid (ofF ls = acc) := Lib.hid (by rw [HF.out]; exact List.take_of_length_le (by omega))
        clear hb
        go_wp2_with fail
        go_ret
        refine ⟨A', c', ?_, by rw [HE.out]; exact HO.out, by rw [HE.out]; exact HC.out, HB.out⟩
        rw [HE.out]
        rfl
end Go.Proofs.Ytnpacjdgbmldlaa
