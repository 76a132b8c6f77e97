/- Slices of dots; Has of dots and of the reference. -/
import Derived.Test.YtnpacjdgbmldlaaV6
import Derived.Test.YtnpacjdgbmldlaaWm
namespace Go.Proofs.Ytnpacjdgbmldlaa
open Go.RowKit

theorem lt_of_row {x : World} {b : Nat} {o : Obj} (h : x.heap[b]? = some o) : b < x.heap.size := (Array.getElem?_eq_some_iff.1 h).1
abbrev Dt := Int × Nat
abbrev dotC (d : Dt) : Array Value := #[.int .i64 d.1, .int .u64 (d.2 : Int)]
/-- A slice of dots; its block (where it has an element) meets 'ok'. -/
structure Dots (w : World) (ok : Nat → Prop) (A : Option Addr) (ls : List Dt) : Prop where
  at_ : 0 < ls.length → ∃ b o, A = some ⟨b, o, none⟩ ∧ ok b ∧ ∀ j, j < ls.length → rangeA w b (o + j * 2) (dotC (ls.getD j (0, 0)))
theorem Dots.keep {w w' : World} {ok : Nat → Prop} {A : Option Addr} {ls : List Dt} (h : Dots w ok A ls) (hk : ∀ b j, ok b → b < w.heap.size → w'.cell? ⟨b, j, none⟩ = w.cell? ⟨b, j, none⟩) : Dots w' ok A ls :=
  ⟨fun hp => by
    obtain ⟨b, o, e, hb, hc⟩ := h.at_ hp
    refine ⟨b, o, e, hb, fun j hj i v hv => ?_⟩
    have h1 := hc j hj i v hv
    rw [hk b _ hb (World.block_lt_of_cell? w _ h1)]
    exact h1⟩
theorem Dots.below {w w' : World} {B : Nat} {A : Option Addr} {ls : List Dt} (h : Dots w (· < B) A ls) (hg : Below B w w') : Dots w' (· < B) A ls :=
  h.keep fun b j hb _ => World.cell?_of_block (w := w) (a := ⟨b, j, none⟩) (hg.block b hb)
theorem Dots.grow {w x : World} {A : Option Addr} {ls : List Dt} (h : Dots w (· < w.heap.size) A ls) (hb : Below w.heap.size w x) : Dots x (· < x.heap.size) A ls := by
  have h1 := h.below hb
  refine ⟨fun hp => ?_⟩
  obtain ⟨b, o, e, h2, h3⟩ := h1.at_ hp
  exact ⟨b, o, e, Nat.lt_of_lt_of_le h2 hb.size, h3⟩
theorem Dots.cells {w : World} {ok : Nat → Prop} {b o : Nat} {ls : List Dt} (h : Dots w ok (some ⟨b, o, none⟩) ls) {j : Nat} (hj : j < ls.length) : w.cell? ⟨b, o + j * 2, none⟩ = some (.int .i64 (ls.getD j (0, 0)).1) ∧ w.cell? ⟨b, o + j * 2 + 1, none⟩ = some (.int .u64 ((ls.getD j (0, 0)).2 : Int)) := by
  obtain ⟨b', o', e, _, hc⟩ := h.at_ (by omega)
  injection e with e
  injection e with e1 e2
  subst e1 e2
  have h0 := hc j hj 0 _ rfl
  have h1 := hc j hj 1 _ rfl
  exact ⟨by rw [Nat.add_zero] at h0; exact h0, h1⟩
theorem Dots.some_ {w : World} {ok : Nat → Prop} {A : Option Addr} {ls : List Dt} (h : Dots w ok A ls) (hp : 0 < ls.length) : ∃ b o, A = some ⟨b, o, none⟩ := by
  obtain ⟨b, o, e, _, _⟩ := h.at_ hp
  exact ⟨b, o, e⟩
/-- What Index tells. -/
def IdxPost (ls : List Dt) (d : Dt) (w : World) (e : Ending) (w' : World) : Prop := ∃ r : Int, e = .returned (.int .i64 r) ∧ (0 ≤ r ↔ d ∈ ls) ∧ Below w.heap.size w w'

set_option maxRecDepth 100000 in
set_option maxHeartbeats 1000000 in
theorem great_any (ls : List Dt) (c : Nat) (A : Option Addr) (w : World) : Calls Try.prog 17 #[.slice A ls.length c] w fun e w' => e = .returned (.bool (decide (60 < ls.length))) ∧ w' = w := by
  go_enter Try.func17, Try.ntmps17
  go_wp2
  go_ret
  refine ⟨ret_bool ?_, rfl⟩
  rw [Bool.eq_iff_iff, decide_eq_true_eq, decide_eq_true_eq]
  omega
set_option maxRecDepth 100000 in
set_option maxHeartbeats 2000000 in
theorem index_any (ls : List Dt) (c : Nat) (A : Option Addr) (d : Dt) (w : World) (hv : Dots w (· < w.heap.size) A ls) (hm : ls.length ≤ 9223372036854775807) :
    Calls Try.prog 109 #[.slice A ls.length c, dotV d.1 d.2] w (IdxPost ls d w) := by
  obtain ⟨n, k⟩ := d
  have HV := Lib.hid (hv.grow (below1 w (.cells #[.int .i64 n, .int .u64 (k : Int)] 25)))
  have HD : Hid (DotAt (w.alloc (.cells #[.int .i64 n, .int .u64 (k : Int)] 25)) w.heap.size 25 n k) := DotAt.new w 25 n k
  have HB := Lib.hid (below1 w (.cells #[.int .i64 n, .int .u64 (k : Int)] 25))
  clear hv
  go_enter Try.func109, Try.ntmps109
  go_wp2
  generalize w.alloc (.cells #[.int .i64 n, .int .u64 (k : Int)] 25) = w1 at *
  go_loopw [8] (fun v wr => ∃ j : Nat, j ≤ ls.length ∧ v = .int .i64 j ∧ Hid (∀ i, i < j → ls.getD i (0, 0) ≠ (n, k)) ∧ Hid (Dots wr (· < wr.heap.size) A ls) ∧ Hid (DotAt wr w.heap.size 25 n k) ∧ Hid (Below w.heap.size w wr)) (fun v _ => ls.length - (intOf v).toNat)
  case atStart => exact ⟨0, by omega, rfl, fun i hi => by omega, HV, HD, HB⟩
  case round =>
    clear HV HD HB
    obtain ⟨j, hj, rfl, HN, HV, HD, HB⟩ := hrel
    by_cases hlt : j < ls.length
    · obtain ⟨b, o, hA⟩ := HV.out.some_ (by omega)
      subst hA
      have hc := HV.out.cells hlt
      obtain ⟨p, hp⟩ : ∃ p, p = ls.getD j (0, 0) := ⟨_, rfl⟩
      have HP := Lib.hid hp
      rw [← hp] at hc
      obtain ⟨c0, c1⟩ := hc
      obtain ⟨p1, p2⟩ := p
      have d0 := HD.out.node
      have d1 := HD.out.num
      have HVd : Hid (Dots wr.drew (· < wr.drew.heap.size) (some ⟨b, o, none⟩) ls) := Lib.hid ⟨HV.out.at_⟩
      have HDd : Hid (DotAt wr.drew w.heap.size 25 n k) := HD.out
      have HBd : Hid (Below w.heap.size w wr.drew) := ⟨HB.out.os, HB.out.tape, HB.out.output, HB.out.size, HB.out.block⟩
      clear hp HV HD HB
      by_cases he : p1 = n ∧ p2 = k
      · obtain ⟨rfl, rfl⟩ := he
        go_wp2_with fail
        go_region
        go_wp2
        go_ret
        refine ⟨(j : Int), rfl, ⟨fun _ => ?_, fun _ => by omega⟩, HBd.out⟩
        have h := HP.out
        rw [List.getD_eq_getElem?_getD, List.getElem?_eq_getElem hlt] at h
        exact h ▸ List.getElem_mem hlt
      · have HN2 : Hid (∀ i, i < j + 1 → ls.getD i (0, 0) ≠ (n, k)) := Lib.hid (fun i hi => by
          by_cases e : i = j
          · subst e
            rw [← HP.out]
            intro e
            injection e with e1 e2
            exact he ⟨e1, e2⟩
          · exact HN.out i (by omega))
        by_cases e1 : p1 = n
        · have e2 : ¬ (k = p2) := fun e => he ⟨e1, e.symm⟩
          subst e1
          have b2 : ((k : Int) == (p2 : Int)) = false := by rw [beq_eq_false_iff_ne]; omega
          clear he e2
          go_wp2_with fail
          go_region
          go_wp2
          go_roundw
          case rel => exact ⟨j + 1, by omega, by go_num, HN2, HVd, HDd, HBd⟩
          case measure => simp [intOf]; omega
        · have b1 : (n == p1) = false := by rw [beq_eq_false_iff_ne]; exact fun e => e1 e.symm
          clear he e1
          go_wp2_with fail
          go_region
          go_wp2
          go_roundw
          case rel => exact ⟨j + 1, by omega, by go_num, HN2, HVd, HDd, HBd⟩
          case measure => simp [intOf]; omega
    · obtain rfl : j = ls.length := by omega
      go_wp2
      go_ret
      refine ⟨-1, rfl, ⟨fun h => by omega, fun h => ?_⟩, HB.out⟩
      obtain ⟨i, hi, e⟩ := List.mem_iff_getElem.1 h
      exact absurd (by rw [List.getD_eq_getElem?_getD, List.getElem?_eq_getElem hi]; exact e) (HN.out i hi)
end Go.Proofs.Ytnpacjdgbmldlaa
