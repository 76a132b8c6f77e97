/- Contains and Has of dots, Has of the reference. -/
import Derived.Test.YtnpacjdgbmldlaaD1
namespace Go.Proofs.Ytnpacjdgbmldlaa
open Go.RowKit
theorem dot_size25 (d : Dt) : (Try.prog.info? 25).map (·.size) = some (dotC d).size := size25
theorem dot_size35 (d : Dt) : (Try.prog.info? 35).map (·.size) = some (dotC d).size := size35
set_option maxRecDepth 100000 in
set_option maxHeartbeats 2000000 in
theorem contains_any (ls : List Dt) (c : Nat) (A : Option Addr) (d : Dt) (w : World) (hv : Dots w (· < w.heap.size) A ls) (hm : ls.length ≤ 9223372036854775807) :
    Calls Try.prog 71 #[.slice A ls.length c, dotV d.1 d.2] w fun e w' => e = .returned (.bool (decide (d ∈ ls))) ∧ Below w.heap.size w w' := by
  obtain ⟨n, k⟩ := d
  have HD : Hid (DotAt (w.alloc (.cells #[.int .i64 n, .int .u64 (k : Int)] 25)) w.heap.size 25 n k) := DotAt.new w 25 n k
  have HC := Lib.hid (index_any ls c A (n, k) (w.alloc (.cells #[.int .i64 n, .int .u64 (k : Int)] 25)) (hv.grow (below1 _ _)) hm)
  have HB := Lib.hid (below1 w (.cells #[.int .i64 n, .int .u64 (k : Int)] 25))
  have s25 : Hid ((Try.prog.info? 25).map (·.size) = some (#[.int .i64 n, .int .u64 (k : Int)] : Array Value).size) := size25
  clear hv hm
  go_enter Try.func71, Try.ntmps71
  go_wp2_with (refine wpList_load_row rfl 25 _ rfl w.heap.size rfl 25 #[.int .i64 n, .int .u64 (k : Int)] (0, 0) _ HD.out Try.underlying25 rfl s25.out ?_)
  generalize w.alloc (.cells #[.int .i64 n, .int .u64 (k : Int)] 25) = w1 at *
  refine HC.out.mono ?_
  rintro e w2 ⟨r, rfl, hr, hb⟩
  have HB2 := Lib.hid (HB.out.trans (hb.mono HB.out.size))
  have HR := Lib.hid hr
  clear hr hb
  go_wp2_with fail
  go_ret
  refine ⟨ret_bool ?_, HB2.out⟩
  rw [Bool.eq_iff_iff, decide_eq_true_eq, decide_eq_true_eq]
  exact HR.out
set_option maxRecDepth 100000 in
set_option maxHeartbeats 2000000 in
theorem dhas_any (ls : List Dt) (c : Nat) (A : Option Addr) (d : Dt) (w : World) (hv : Dots w (· < w.heap.size) A ls) (hm : ls.length ≤ 9223372036854775807) :
    Calls Try.prog 24 #[.slice A ls.length c, dotV d.1 d.2] w fun e w' => e = .returned (.bool (decide (d ∈ ls))) ∧ Below w.heap.size w w' := by
  obtain ⟨n, k⟩ := d
  have HD : Hid (DotAt (w.alloc (.cells #[.int .i64 n, .int .u64 (k : Int)] 25)) w.heap.size 25 n k) := DotAt.new w 25 n k
  have HC := Lib.hid (contains_any ls c A (n, k) (w.alloc (.cells #[.int .i64 n, .int .u64 (k : Int)] 25)) (hv.grow (below1 _ _)) hm)
  have HB := Lib.hid (below1 w (.cells #[.int .i64 n, .int .u64 (k : Int)] 25))
  have s25 : Hid ((Try.prog.info? 25).map (·.size) = some (#[.int .i64 n, .int .u64 (k : Int)] : Array Value).size) := size25
  clear hv hm
  go_enter Try.func24, Try.ntmps24
  go_wp2_with (refine wpList_load_row rfl 25 _ rfl w.heap.size rfl 25 #[.int .i64 n, .int .u64 (k : Int)] (0, 0) _ HD.out Try.underlying25 rfl s25.out ?_)
  generalize w.alloc (.cells #[.int .i64 n, .int .u64 (k : Int)] 25) = w1 at *
  refine HC.out.mono ?_
  rintro e w2 ⟨rfl, hb⟩
  have HB2 := Lib.hid (HB.out.trans (hb.mono HB.out.size))
  clear hb
  go_wp2_with fail
  go_ret
  exact ⟨rfl, HB2.out⟩
set_option maxRecDepth 100000 in
set_option maxHeartbeats 2000000 in
theorem dhasR_any (ls : List Dt) (c : Nat) (A : Option Addr) (d : Dt) (w : World) (hv : Dots w (· < w.heap.size) A ls) (hm : ls.length ≤ 9223372036854775807) :
    Calls Try.prog 25 #[.slice A ls.length c, dotV d.1 d.2] w fun e w' => e = .returned (.bool (decide (d ∈ ls))) ∧ Below w.heap.size w w' := by
  obtain ⟨n, k⟩ := d
  have HV := Lib.hid (hv.grow (below1 w (.cells #[.int .i64 n, .int .u64 (k : Int)] 35)))
  have HD : Hid (DotAt (w.alloc (.cells #[.int .i64 n, .int .u64 (k : Int)] 35)) w.heap.size 35 n k) := DotAt.new w 35 n k
  have HB := Lib.hid (below1 w (.cells #[.int .i64 n, .int .u64 (k : Int)] 35))
  clear hv
  have yes : (n, k) ∈ ls → Hid (Ending.returned (.bool true) = .returned (.bool (decide ((n, k) ∈ ls)))) := fun h => by show _ = _; rw [decide_eq_true h]
  have no : ¬ (n, k) ∈ ls → Hid (Ending.returned (.bool false) = .returned (.bool (decide ((n, k) ∈ ls)))) := fun h => by show _ = _; rw [decide_eq_false h]
  have YES := Lib.hid yes
  have NO := Lib.hid no
  clear yes no
  go_enter Try.func25, Try.ntmps25
  go_wp2
  generalize w.alloc (.cells #[.int .i64 n, .int .u64 (k : Int)] 35) = w1 at *
  go_loopw [5] (fun v wr => ∃ j : Nat, j ≤ ls.length ∧ v = .int .i64 j ∧ Hid (∀ i, i < j → ls.getD i (0, 0) ≠ (n, k)) ∧ Hid (Dots wr (· < wr.heap.size) A ls) ∧ Hid (DotAt wr w.heap.size 35 n k) ∧ Hid (Below w.heap.size w wr)) (fun v _ => ls.length - (intOf v).toNat)
  case atStart => exact ⟨0, by omega, rfl, fun i hi => by omega, HV, HD, HB⟩
  case round =>
    clear HV HD HB
    obtain ⟨j, hj, rfl, HN, HV, HD, HB⟩ := hrel
    by_cases hlt : j < ls.length
    · obtain ⟨b, o, hA⟩ := HV.out.some_ (by omega)
      subst hA
      have hc := HV.out.cells hlt
      obtain ⟨p, hp⟩ : ∃ p, p = ls.getD j (0, 0) := ⟨_, rfl⟩
      have HP := Lib.hid hp
      rw [← hp] at hc
      obtain ⟨c0, c1⟩ := hc
      obtain ⟨p1, p2⟩ := p
      have d0 := HD.out.node
      have d1 := HD.out.num
      have HVd : Hid (Dots wr.drew (· < wr.drew.heap.size) (some ⟨b, o, none⟩) ls) := Lib.hid ⟨HV.out.at_⟩
      have HDd : Hid (DotAt wr.drew w.heap.size 35 n k) := HD.out
      have HBd : Hid (Below w.heap.size w wr.drew) := ⟨HB.out.os, HB.out.tape, HB.out.output, HB.out.size, HB.out.block⟩
      clear hp HV HD HB
      by_cases he : p1 = n ∧ p2 = k
      · obtain ⟨rfl, rfl⟩ := he
        have HY := YES.out (by
          have h := HP.out
          rw [List.getD_eq_getElem?_getD, List.getElem?_eq_getElem hlt] at h
          exact h ▸ List.getElem_mem hlt)
        go_wp2_with fail
        go_region
        go_wp2
        go_ret
        exact ⟨HY.out, HBd.out⟩
      · have HN2 : Hid (∀ i, i < j + 1 → ls.getD i (0, 0) ≠ (n, k)) := Lib.hid (fun i hi => by
          by_cases e : i = j
          · subst e
            rw [← HP.out]
            intro e
            injection e with e1 e2
            exact he ⟨e1, e2⟩
          · exact HN.out i (by omega))
        by_cases e1 : p1 = n
        · have e2 : ¬ (p2 = k) := fun e => he ⟨e1, e⟩
          subst e1
          have b2 : ((p2 : Int) == (k : Int)) = false := by rw [beq_eq_false_iff_ne]; omega
          clear he e2
          go_wp2_with fail
          go_region
          go_wp2
          go_roundw
          case rel => exact ⟨j + 1, by omega, by go_num, HN2, HVd, HDd, HBd⟩
          case measure => simp [intOf]; omega
        · have b1 : (p1 == n) = false := by rw [beq_eq_false_iff_ne]; exact e1
          clear he e1
          go_wp2_with fail
          go_region
          go_wp2
          go_roundw
          case rel => exact ⟨j + 1, by omega, by go_num, HN2, HVd, HDd, HBd⟩
          case measure => simp [intOf]; omega
    · obtain rfl : j = ls.length := by omega
      have HE := NO.out (fun h => by
        obtain ⟨i, hi, e⟩ := List.mem_iff_getElem.1 h
        exact absurd (by rw [List.getD_eq_getElem?_getD, List.getElem?_eq_getElem hi]; exact e) (HN.out i hi))
      go_wp2
      go_ret
      exact ⟨HE.out, HB.out⟩
end Go.Proofs.Ytnpacjdgbmldlaa
