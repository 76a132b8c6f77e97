/- The reference's Whole. -/
import Derived.Test.YtnpacjdgbmldlaaD6
import Derived.Test.YtnpacjdgbmldlaaW8
namespace Go.Proofs.Ytnpacjdgbmldlaa
open Go.RowKit
def prevOk (ls : List Dt) (d : Dt) : Prop := d.2 = 1 ∨ (d.1, d.2 - 1) ∈ ls
instance (ls : List Dt) (d : Dt) : Decidable (prevOk ls d) := by unfold prevOk; exact inferInstance
/-- Is it a set, of which each dot's predecessor is in it, too? -/
def isWhole (ls : List Dt) : Bool := isSet ls && ls.all fun d => decide (prevOk ls d)
theorem isWhole_iff (ls : List Dt) : isWhole ls = true ↔ isSet ls = true ∧ ∀ d ∈ ls, prevOk ls d := by simp only [isWhole, Bool.and_eq_true, List.all_eq_true, decide_eq_true_eq]
theorem isWhole_not {ls : List Dt} (h : isSet ls = false) : isWhole ls = false := by unfold isWhole; rw [h]; rfl
theorem isWhole_bad {ls : List Dt} {d : Dt} (hd : d ∈ ls) (h : ¬ prevOk ls d) : isWhole ls = false := by
  rw [Bool.eq_false_iff]
  exact fun e => h (((isWhole_iff ls).1 e).2 d hd)
theorem getD_mem {ls : List Dt} {j : Nat} (h : j < ls.length) : ls.getD j (0, 0) ∈ ls := by
  rw [List.getD_eq_getElem?_getD, List.getElem?_eq_getElem h]
  exact List.getElem_mem h
theorem set_pos {ls : List Dt} (h : isSet ls = true) {j : Nat} (hj : j < ls.length) : 1 ≤ (ls.getD j (0, 0)).2 := by
  have h1 := ((isSet_iff ls).1 h).2 j hj
  unfold dgood at h1
  simp only [Bool.and_eq_true] at h1
  have h2 := h1.1
  simp only [Vec.right, decide_eq_true_eq] at h2
  exact h2.2.2
theorem setCell_dot {x : World} {b t : Nat} {n : Int} {k : Nat} (h : DotAt x b t n k) (v : Nat) : DotAt (x.setCell ⟨b, 1, none⟩ (.int .u64 (v : Int))) b t n v := by
  unfold DotAt at *
  simp [World.setCell, Array.getElem?_modify, h]
theorem DotAt.frozen {w : World} {b : Nat} {t : TypeId} {n : Int} {k : Nat} (h : DotAt w b t n k) (j : Nat) : w.frozen? ⟨b, j, none⟩ = false := by
  unfold DotAt at h
  simp [World.frozen?, h]

set_option maxRecDepth 100000 in
set_option maxHeartbeats 4000000 in
theorem dwholeR_any (ls : List Dt) (c : Nat) (A : Option Addr) (w : World) (hv : Dots w (· < w.heap.size) A ls) (hm : ls.length ≤ 9223372036854775806) (hk : ∀ d ∈ ls, d.2 < 18446744073709551616) :
    Calls Try.prog 23 #[.slice A ls.length c] w fun e w' => e = .returned (.bool (isWhole ls)) ∧ Below w.heap.size w w' := by
  have HV := Lib.hid hv
  have HM := Lib.hid hm
  have HK := Lib.hid hk
  have HC := Lib.hid (drightR_any ls c A w hv hm)
  clear hv hm hk
  cases hs : isSet ls with
  | false =>
    have HE := Lib.hid (isWhole_not hs)
    have HS := Lib.hid hs
    clear hs
    go_enter Try.func23, Try.ntmps23
    go_wp2_with fail
    refine HC.out.mono ?_
    rintro e w1 ⟨rfl, hb⟩
    rw [HS.out]
    have HB := Lib.hid hb
    clear hb
    go_wp2
    go_ret
    exact ⟨ret_bool HE.out.symm, HB.out⟩
  | true =>
    have HS := Lib.hid hs
    clear hs
    go_enter Try.func23, Try.ntmps23
    go_wp2_with fail
    refine HC.out.mono ?_
    rintro e w1 ⟨rfl, hb⟩
    rw [HS.out]
    have HB := Lib.hid hb
    have HV1 := Lib.hid (HV.out.below hb)
    clear hb HC HV
    go_wp2
    go_loopw [3] (fun v wr => ∃ j : Nat, j ≤ ls.length ∧ v = .int .i64 j ∧ Hid (∀ i, i < j → prevOk ls (ls.getD i (0, 0))) ∧ Hid (Dots wr (· < w.heap.size) A ls) ∧ Hid (Below w.heap.size w wr)) (fun v _ => ls.length - (intOf v).toNat)
    case atStart => exact ⟨0, by omega, rfl, fun i hi => by omega, HV1, HB⟩
    case round =>
      clear HV1 HB
      obtain ⟨j, hj, rfl, HN, HV, HB⟩ := hrel
      by_cases hlt : j < ls.length
      · obtain ⟨b, off, hA⟩ := HV.out.some_ (by omega)
        subst hA
        obtain ⟨d, hd⟩ : ∃ d, d = ls.getD j (0, 0) := ⟨_, rfl⟩
        have HD := Lib.hid hd
        have hr : Hid (rangeA wr b (off + j * 2) (dotC d)) := Lib.hid (by rw [hd]; exact HV.out.at_j hlt)
        have hpos : 1 ≤ d.2 := by rw [hd]; exact set_pos HS.out hlt
        have hlim : d.2 < 18446744073709551616 := by rw [hd]; exact HK.out _ (getD_mem hlt)
        have HMEM : Hid (d ∈ ls) := Lib.hid (by rw [hd]; exact getD_mem hlt)
        obtain ⟨n, k⟩ := d
        obtain ⟨m, rfl⟩ : ∃ m, k = m + 1 := ⟨k - 1, by have := hpos; simp only at this; omega⟩
        have HVB : Hid (∀ o : Obj, Dots (wr.alloc o) (· < w.heap.size) (some ⟨b, off, none⟩) ls ∧ Below w.heap.size w (wr.alloc o)) := Lib.hid (fun o => ⟨HV.out.below ((below1 wr o).mono HB.out.size), HB.out.trans ((below1 wr o).mono HB.out.size)⟩)
        have hN := Lib.hid (heap_alloc_new wr (.cells #[.int .i64 0, .int .u64 0] 35))
        have s35 := Lib.hid (dot_size35 (n, m + 1))
        have o2 : Hid ((dotC (n, m + 1)).all (·.oneCell') = true) := two_one _ _ rfl rfl
        have z2 : Hid ((#[.int .i64 0, .int .u64 0] : Array Value).size = (dotC (n, m + 1)).size) := rfl
        have eM : IntKind.u64.wrap (m : Int) = (m : Int) := by rw [IntKind.wrap_u64]; have := hlim; simp only at this; omega
        have eJ : IntKind.i64.wrap ((j : Int) + 1) = (j : Int) + 1 := by have := HM.out; rw [IntKind.wrap_i64]; omega
        have next : prevOk ls (n, m + 1) → Hid (∀ i, i < j + 1 → prevOk ls (ls.getD i (0, 0))) := fun h => Lib.hid (fun i hi => by
          by_cases e : i = j
          · rw [e, ← HD.out]; exact h
          · exact HN.out i (by omega))
        have NX := Lib.hid next
        have HSZ := Lib.hid HB.out.size
        clear hd hpos hlim HV HB next
        by_cases hm0 : m = 0
        · subst hm0
          have HN2 := NX.out (.inl rfl)
          clear eM
          go_wp2_with (first
            | (refine wpList_load_arr rfl 35 _ rfl b (off + j * 2) rfl (dotC (n, 0 + 1)) _ hr.out Try.underlying35 rfl s35.out ?_)
            | (refine wpList_store_row rfl 35 _ _ rfl wr.heap.size (dotC (n, 0 + 1)) rfl rfl 35 _ hN.out s35.out z2.out o2.out ?_; rw [World.setRow_alloc_new]))
          go_roundw
          all_goals clear eJ
          case rel => exact ⟨j + 1, by omega, by go_num, HN2, Lib.hid (HVB.out _).1, Lib.hid (HVB.out _).2⟩
          case measure => simp [intOf]; omega
        · have hmi : (0 : Int) < (m : Int) := by omega
          have HROW : Hid ((wr.alloc (.cells (dotC (n, m)) 35)).heap[wr.heap.size]? = some (.cells (dotC (n, m)) 35 (0, 0))) := heap_alloc_new _ _
          have s35' := Lib.hid (dot_size35 (n, m))
          have HM0 := Lib.hid hm0
          clear hm0
          go_wp2_with (first
            | (refine wpList_load_arr rfl 35 _ rfl b (off + j * 2) rfl (dotC (n, m + 1)) _ hr.out Try.underlying35 rfl s35.out ?_)
            | (refine wpList_store_row rfl 35 _ _ rfl wr.heap.size (dotC (n, m + 1)) rfl rfl 35 _ hN.out s35.out z2.out o2.out ?_; rw [World.setRow_alloc_new])
            | (refine wpList_load_w 35 _ rfl rfl wr.heap.size rfl 35 (dotC (n, m)) (0, 0) _ HROW.out Try.underlying35 rfl s35'.out ?_))
          have HI2 := Lib.hid (HVB.out (.cells (dotC (n, m)) 35))
          refine (dhasR_any ls c (some ⟨b, off, none⟩) (n, m) _ (⟨fun hp => by
            obtain ⟨b', o', e, h1, h2⟩ := HI2.out.1.at_ hp
            exact ⟨b', o', e, Nat.lt_of_lt_of_le h1 HI2.out.2.size, h2⟩⟩) (by have := HM.out; omega)).mono ?_
          rintro e w5 ⟨rfl, hb5⟩
          have HV5 := Lib.hid (HI2.out.1.below (hb5.mono HI2.out.2.size))
          have HB5 := Lib.hid (HI2.out.2.trans (hb5.mono HI2.out.2.size))
          clear hb5 HROW
          by_cases hin : (n, m) ∈ ls
          · have HN2 := NX.out (.inr hin)
            rw [decide_eq_true hin]
            clear hin eM
            go_wp2
            go_roundw
            all_goals clear eJ
            case rel => exact ⟨j + 1, by omega, by go_num, HN2, HV5, HB5⟩
            case measure => simp [intOf]; omega
          · have HE := Lib.hid (isWhole_bad HMEM.out (fun h => by
              rcases h with h | h
              · exact HM0.out (by simpa using h)
              · exact hin h))
            rw [decide_eq_false hin]
            clear hin eM
            go_wp2
            go_ret
            exact ⟨ret_bool HE.out.symm, HB5.out⟩
      · obtain rfl : j = ls.length := by omega
        have HE : Hid (isWhole ls = true) := Lib.hid ((isWhole_iff ls).2 ⟨HS.out, fun d hd => by
          obtain ⟨i, hi, e⟩ := List.mem_iff_getElem.1 hd
          have h := HN.out i hi
          rw [List.getD_eq_getElem?_getD, List.getElem?_eq_getElem hi] at h
          rw [← e]
          exact h⟩)
        go_wp2
        go_ret
        exact ⟨ret_bool HE.out.symm, HB.out⟩
end Go.Proofs.Ytnpacjdgbmldlaa
