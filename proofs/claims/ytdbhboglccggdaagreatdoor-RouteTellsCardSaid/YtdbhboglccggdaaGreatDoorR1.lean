/- Rows of whole numbers; Index, Contains, the reference's in, the law's same, within. -/
import Derived.Test.YtdbhboglccggdaaGreatDoorKX
import Derived.Test.YtdbhboglccggdaaGreatDoorRm
import Derived.Test.YtdbhboglccggdaaGreatDoorSB4
set_option maxRecDepth 100000
set_option linter.unusedVariables false
set_option linter.unusedSimpArgs false
namespace Go.Proofs.YtdbhboglccggdaaGreatDoor
open Go.RowKit
/-- A slice of whole numbers of kind k. -/
structure Row (k : IntKind) (w : World) (ok : Nat → Prop) (A : Option Addr) (ls : List Nat) : Prop where
  at_ : 0 < ls.length → ∃ b o, A = some ⟨b, o, none⟩ ∧ ok b ∧ ∀ j, j < ls.length → w.cell? ⟨b, o + j, none⟩ = some (.int k ((ls.getD j 0 : Nat) : Int))
theorem Row.keep {k : IntKind} {w w' : World} {ok : Nat → Prop} {A : Option Addr} {ls : List Nat} (h : Row k w ok A ls) (hk : ∀ b j, ok b → b < w.heap.size → w'.cell? ⟨b, j, none⟩ = w.cell? ⟨b, j, none⟩) : Row k w' ok A ls :=
  ⟨fun hp => by
    obtain ⟨b, o, e, hb, hc⟩ := h.at_ hp
    refine ⟨b, o, e, hb, fun j hj => ?_⟩
    rw [hk b _ hb (World.block_lt_of_cell? w _ (hc j hj))]
    exact hc j hj⟩
theorem Row.below {k : IntKind} {w w' : World} {B : Nat} {ok : Nat → Prop} {A : Option Addr} {ls : List Nat} (h : Row k w ok A ls) (hg : Below B w w') (ho : ∀ b, ok b → b < w.heap.size → b < B) : Row k w' ok A ls :=
  h.keep fun b j hb hl => World.cell?_of_block (w := w) (a := ⟨b, j, none⟩) (hg.block b (ho b hb hl))
theorem Row.grow {k : IntKind} {w w' : World} {ok : Nat → Prop} {A : Option Addr} {ls : List Nat} (h : Row k w ok A ls) (hg : Below w.heap.size w w') : Row k w' ok A ls := h.below hg fun _ _ hl => hl
theorem Row.only {k : IntKind} {w w' : World} {g : Nat} {ok : Nat → Prop} {A : Option Addr} {ls : List Nat} (h : Row k w ok A ls) (hg : w.grownBy w' (some g)) (ho : ¬ ok g) : Row k w' ok A ls :=
  h.keep fun b j hb hl => World.cell?_of_block (w := w) (a := ⟨b, j, none⟩) (hg.block b hl (fun e => by cases e; exact ho hb))
theorem Row.weak {k : IntKind} {w : World} {P Q : Nat → Prop} {A : Option Addr} {ls : List Nat} (h : Row k w P A ls) (hq : ∀ b, P b → b < w.heap.size → Q b) : Row k w Q A ls :=
  ⟨fun hp => by
    obtain ⟨b, o, e, hb, hc⟩ := h.at_ hp
    exact ⟨b, o, e, hq b hb (World.block_lt_of_cell? w _ (hc 0 hp)), hc⟩⟩
theorem Row.drew {k : IntKind} {w : World} {ok : Nat → Prop} {A : Option Addr} {ls : List Nat} (h : Row k w ok A ls) : Row k w.drew ok A ls := ⟨h.at_⟩
theorem Row.nil (k : IntKind) (w : World) (ok : Nat → Prop) (A : Option Addr) : Row k w ok A [] := ⟨fun h => by cases h⟩
def vals (k : IntKind) (ls : List Nat) : List Value := ls.map fun x => .int k ((x : Nat) : Int)
theorem vals_length (k : IntKind) (ls : List Nat) : (vals k ls).length = ls.length := by simp [vals]
theorem vals_append (k : IntKind) (xs ys : List Nat) : vals k (xs ++ ys) = vals k xs ++ vals k ys := by simp [vals]
theorem own_row1 {w : World} {base : Nat} {e : TypeId} {k : IntKind} {v : Value} {n : Nat} {ls : List Nat} (h : w.ownsRow base e 1 v n (vals k ls)) :
    ∃ A c, v = .slice A ls.length c ∧ (A = none → c = 0) ∧ ls.length ≤ c ∧ Row k w (fun b => base ≤ b ∧ b < w.heap.size) A ls := by
  have hl := h.1
  rw [vals_length] at hl
  have hn : n = ls.length := by omega
  subst hn
  rcases h.2 with ⟨hv, h0⟩ | ⟨g, cap, cur, hv, hb, hg, hc, _, _, ht⟩
  · refine ⟨none, 0, by rw [hv, h0], fun _ => rfl, by omega, ⟨fun hp => by omega⟩⟩
  · have hlt : g < w.heap.size := (Array.getElem?_eq_some_iff.1 hg).1
    refine ⟨some ⟨g, 0, none⟩, cap, hv, (fun e => by cases e), hc, ⟨fun hp => ⟨g, 0, rfl, ⟨hb, hlt⟩, fun j hj => ?_⟩⟩⟩
    rw [Nat.zero_add, cell_of_row _ _ _ _ _ _ hg]
    have h3 : (cur.toList.take (ls.length * 1))[j]? = some (.int k ((ls.getD j 0 : Nat) : Int)) := by
      rw [ht, vals, List.getElem?_map, List.getElem?_eq_getElem hj, List.getD_eq_getElem?_getD, List.getElem?_eq_getElem hj]
      rfl
    rw [List.getElem?_take, if_pos (by omega)] at h3
    simpa using h3
/-- Is a number in a list? -/
def hasI (ls : List Nat) (x : Int) : Bool := ls.any fun y => decide ((y : Int) = x)
theorem hasI_true {ls : List Nat} {x : Int} {j : Nat} (hj : j < ls.length) (h : ((ls.getD j 0 : Nat) : Int) = x) : hasI ls x = true := by
  unfold hasI
  rw [List.any_eq_true]
  refine ⟨ls.getD j 0, ?_, decide_eq_true h⟩
  rw [List.getD_eq_getElem?_getD, List.getElem?_eq_getElem hj]
  exact List.getElem_mem _
theorem hasI_false {ls : List Nat} {x : Int} (h : ∀ j, j < ls.length → ((ls.getD j 0 : Nat) : Int) ≠ x) : hasI ls x = false := by
  unfold hasI
  rw [List.any_eq_false]
  intro y hy
  obtain ⟨i, hi, rfl⟩ := List.getElem_of_mem hy
  have := h i hi
  rw [List.getD_eq_getElem?_getD, List.getElem?_eq_getElem hi] at this
  simpa using this
theorem hasI_nat (ls : List Nat) (x : Nat) : hasI ls (x : Int) = decide (x ∈ ls) := by
  unfold hasI
  rw [Bool.eq_iff_iff, List.any_eq_true, decide_eq_true_eq]
  constructor
  · rintro ⟨y, hy, h⟩
    have := of_decide_eq_true h
    have : y = x := by omega
    exact this ▸ hy
  · intro h
    exact ⟨x, h, by simp⟩

set_option maxHeartbeats 2000000 in
theorem index_any (ls : List Nat) (c : Nat) (A : Option Addr) (x : Int) (w : World) {ok : Nat → Prop} (h : Row .i64 w ok A ls) (hm : ls.length ≤ 1000000) :
    Calls Tryz.prog 54 #[.slice A ls.length c, .int .i64 x] w fun e w' => (∃ r : Int, e = .returned (.int .i64 r) ∧ decide (0 ≤ r) = hasI ls x) ∧ w = w' := by
  have HR := Lib.hid h
  clear h
  go_enter Tryz.func54, Tryz.ntmps54
  go_wp2
  go_loop [8] (fun v => ∃ i : Nat, i ≤ ls.length ∧ v = .int .i64 i ∧ Hid (∀ j, j < i → ((ls.getD j 0 : Nat) : Int) ≠ x)) (fun v => ls.length - (intOf v).toNat)
  case atStart => exact ⟨0, by omega, rfl, fun j hj => by omega⟩
  case round =>
    obtain ⟨i, hi, rfl, HN⟩ := hrel
    by_cases hlt : i < ls.length
    · have hlt' : (i : Int) < (ls.length : Int) := by omega
      obtain ⟨b, o, hA, _, hcell⟩ := HR.out.at_ (by omega)
      subst hA
      have hc := hcell i hlt
      clear hcell
      obtain ⟨q, hq⟩ : ∃ q, q = ls.getD i 0 := ⟨_, rfl⟩
      have HQ := Lib.hid hq
      rw [← hq] at hc
      clear hq
      by_cases hqx : (q : Int) = x
      · have HT := Lib.hid (hasI_true (x := x) hlt (by rw [← HQ.out]; exact hqx))
        have hb : (x == (q : Int)) = true := by rw [beq_iff_eq]; exact hqx.symm
        clear hqx
        go_wp2
        go_ret
        exact ⟨⟨_, rfl, by rw [HT.out]; exact decide_eq_true (by omega)⟩, rfl⟩
      · have hb : (x == (q : Int)) = false := by rw [beq_eq_false_iff_ne]; exact fun e => hqx e.symm
        have HN2 : Hid (∀ j, j < i + 1 → ((ls.getD j 0 : Nat) : Int) ≠ x) := Lib.hid (fun j hj => by
          by_cases e : j = i
          · subst e; rw [← HQ.out]; exact hqx
          · exact HN.out j (by omega))
        clear hqx
        go_wp2
        go_round
        case rel => exact ⟨i + 1, by omega, by go_num, HN2⟩
        case measure => simp [intOf]; omega
    · obtain rfl : i = ls.length := by omega
      have HF := Lib.hid (hasI_false HN.out)
      go_wp2
      go_ret
      exact ⟨⟨_, rfl, by rw [HF.out]; rfl⟩, rfl⟩
theorem contains_any (ls : List Nat) (c : Nat) (A : Option Addr) (x : Int) (w : World) {ok : Nat → Prop} (h : Row .i64 w ok A ls) (hm : ls.length ≤ 1000000) :
    Calls Tryz.prog 34 #[.slice A ls.length c, .int .i64 x] w fun e w' => e = .returned (.bool (hasI ls x)) ∧ w = w' := by
  have HC := Lib.hid (index_any ls c A x w h hm)
  clear h hm
  go_enter Tryz.func34, Tryz.ntmps34
  go_wp2_with fail
  refine HC.out.mono ?_
  rintro e w1 ⟨⟨r, rfl, hr⟩, rfl⟩
  have HR := Lib.hid hr
  clear hr HC
  go_wp2_with fail
  go_ret
  exact ⟨ret_bool HR.out, rfl⟩
set_option maxHeartbeats 2000000 in
theorem in_any (ls : List Nat) (c : Nat) (A : Option Addr) (x : Int) (w : World) {ok : Nat → Prop} (h : Row .i64 w ok A ls) (hm : ls.length ≤ 1000000) :
    Calls Tryz.prog 67 #[.slice A ls.length c, .int .i64 x] w fun e w' => e = .returned (.bool (hasI ls x)) ∧ w = w' := by
  have HR := Lib.hid h
  clear h
  go_enter Tryz.func67, Tryz.ntmps67
  go_wp2
  go_loop [5] (fun v => ∃ i : Nat, i ≤ ls.length ∧ v = .int .i64 i ∧ Hid (∀ j, j < i → ((ls.getD j 0 : Nat) : Int) ≠ x)) (fun v => ls.length - (intOf v).toNat)
  case atStart => exact ⟨0, by omega, rfl, fun j hj => by omega⟩
  case round =>
    obtain ⟨i, hi, rfl, HN⟩ := hrel
    by_cases hlt : i < ls.length
    · have hlt' : (i : Int) < (ls.length : Int) := by omega
      obtain ⟨b, o, hA, _, hcell⟩ := HR.out.at_ (by omega)
      subst hA
      have hc := hcell i hlt
      clear hcell
      obtain ⟨q, hq⟩ : ∃ q, q = ls.getD i 0 := ⟨_, rfl⟩
      have HQ := Lib.hid hq
      rw [← hq] at hc
      clear hq
      by_cases hqx : (q : Int) = x
      · have HT := Lib.hid (hasI_true (x := x) hlt (by rw [← HQ.out]; exact hqx))
        have hb : ((q : Int) == x) = true := by rw [beq_iff_eq]; exact hqx
        clear hqx
        go_wp2
        go_ret
        exact ⟨ret_bool HT.out.symm, rfl⟩
      · have hb : ((q : Int) == x) = false := by rw [beq_eq_false_iff_ne]; exact hqx
        have HN2 : Hid (∀ j, j < i + 1 → ((ls.getD j 0 : Nat) : Int) ≠ x) := Lib.hid (fun j hj => by
          by_cases e : j = i
          · subst e; rw [← HQ.out]; exact hqx
          · exact HN.out j (by omega))
        clear hqx
        go_wp2
        go_round
        case rel => exact ⟨i + 1, by omega, by go_num, HN2⟩
        case measure => simp [intOf]; omega
    · obtain rfl : i = ls.length := by omega
      have HF := Lib.hid (hasI_false HN.out)
      go_wp2
      go_ret
      exact ⟨ret_bool HF.out.symm, rfl⟩
theorem list_eq_get {xs ys : List Nat} (hl : xs.length = ys.length) (h : ∀ i, i < xs.length → xs.getD i 0 = ys.getD i 0) : xs = ys := by
  apply List.ext_getElem hl
  intro i h1 h2
  have := h i h1
  rwa [List.getD_eq_getElem?_getD, List.getD_eq_getElem?_getD, List.getElem?_eq_getElem h1, List.getElem?_eq_getElem h2] at this
set_option maxHeartbeats 4000000 in
theorem same_any (xs ys : List Nat) (c c' : Nat) (A B : Option Addr) (w : World) {oa ob : Nat → Prop} (ha : Row .i64 w oa A xs) (hb : Row .i64 w ob B ys) (hm : xs.length ≤ 1000000) :
    Calls Tryz.prog 12 #[.slice A xs.length c, .slice B ys.length c'] w fun e w' => e = .returned (.bool (decide (xs = ys))) ∧ Below w.heap.size w w' := by
  have HA := Lib.hid ha
  have HB := Lib.hid hb
  clear ha hb
  by_cases hl : xs.length = ys.length
  · have HL := Lib.hid hl
    have hln : ((xs.length : Int) != (ys.length : Int)) = false := by rw [bne_eq_false_iff_eq]; omega
    clear hl
    go_enter Tryz.func12, Tryz.ntmps12
    go_wp2
    go_loopw [5] (fun v wr => ∃ j : Nat, j ≤ xs.length ∧ v = .int .i64 j ∧ Hid (∀ i, i < j → xs.getD i 0 = ys.getD i 0) ∧ Hid (Row .i64 wr oa A xs) ∧ Hid (Row .i64 wr ob B ys) ∧ Hid (Below w.heap.size w wr)) (fun v _ => xs.length - (intOf v).toNat)
    case atStart => exact ⟨0, by omega, rfl, fun i hi => by omega, HA, HB, Below.refl _ _⟩
    case round =>
      clear HA HB
      obtain ⟨j, hj, rfl, HN, HA, HB, HW⟩ := hrel
      by_cases hlt : j < xs.length
      · have hlb : j < ys.length := by have := HL.out; omega
        obtain ⟨b, o, hA, _, hcA⟩ := HA.out.at_ (by omega)
        subst hA
        obtain ⟨b', o', hB, _, hdA⟩ := HB.out.at_ (by omega)
        subst hB
        have hc := hcA j hlt
        have hd := hdA j hlb
        clear hcA hdA
        obtain ⟨p, hp⟩ : ∃ p, p = xs.getD j 0 := ⟨_, rfl⟩
        obtain ⟨q, hq⟩ : ∃ q, q = ys.getD j 0 := ⟨_, rfl⟩
        have HP := Lib.hid hp
        have HQ := Lib.hid hq
        rw [← hp] at hc
        rw [← hq] at hd
        have HAd : Hid (Row .i64 wr.drew oa (some ⟨b, o, none⟩) xs) := Lib.hid HA.out.drew
        have HBd : Hid (Row .i64 wr.drew ob (some ⟨b', o', none⟩) ys) := Lib.hid HB.out.drew
        have HWd : Hid (Below w.heap.size w wr.drew) := HW.out.drew
        have hji : (j : Int) < (ys.length : Int) := by omega
        have hjx : (j : Int) < (xs.length : Int) := by omega
        clear hp hq HA HB HW hlb
        by_cases e1 : p = q
        · subst e1
          have HN2 : Hid (∀ i, i < j + 1 → xs.getD i 0 = ys.getD i 0) := Lib.hid (fun i hi => by
            by_cases e : i = j
            · subst e
              rw [← HP.out, ← HQ.out]
            · exact HN.out i (by omega))
          go_wp2_with fail
          go_region
          go_wp2
          go_roundw
          case rel => exact ⟨j + 1, by omega, by go_num, HN2, HAd, HBd, HWd⟩
          case measure => simp [intOf]; omega
        · have HE : Hid (xs ≠ ys) := Lib.hid (fun e => e1 (by rw [HP.out, HQ.out, e]))
          have b2 : ((p : Int) != (q : Int)) = true := by rw [bne_iff_ne]; omega
          clear e1
          go_wp2_with fail
          go_region
          go_wp2
          go_ret
          exact ⟨ret_bool (decide_eq_false HE.out).symm, HWd.out⟩
      · obtain rfl : j = xs.length := by omega
        have HE := Lib.hid (list_eq_get HL.out HN.out)
        go_wp2
        go_ret
        exact ⟨ret_bool (decide_eq_true HE.out).symm, HW.out⟩
  · have HE : Hid (xs ≠ ys) := Lib.hid (fun e => hl (by rw [e]))
    have hln : ((xs.length : Int) != (ys.length : Int)) = true := by rw [bne_iff_ne]; omega
    clear hl
    go_enter Tryz.func12, Tryz.ntmps12
    go_wp2
    go_ret
    exact ⟨ret_bool (decide_eq_false HE.out).symm, Below.refl _ _⟩
def withinB (n m : Int) : Bool := decide (1 ≤ n ∧ n ≤ m)
set_option maxHeartbeats 1000000 in
theorem within_any (n m : Int) (w : World) : Calls Tryz.prog 52 #[.int .i64 n, .int .i64 m] w fun e w' => e = .returned (.bool (withinB n m)) ∧ w = w' := by
  by_cases h1 : 1 ≤ n
  · by_cases h2 : n ≤ m
    · have HE : Hid (withinB n m = true) := decide_eq_true ⟨h1, h2⟩
      go_enter Tryz.func52, Tryz.ntmps52
      go_wp2
      go_ret
      exact ⟨ret_bool HE.out.symm, rfl⟩
    · have HE : Hid (withinB n m = false) := decide_eq_false (fun h => h2 h.2)
      go_enter Tryz.func52, Tryz.ntmps52
      go_wp2
      go_ret
      exact ⟨ret_bool HE.out.symm, rfl⟩
  · have HE : Hid (withinB n m = false) := decide_eq_false (fun h => h1 h.1)
    go_enter Tryz.func52, Tryz.ntmps52
    go_wp2
    go_ret
    exact ⟨ret_bool HE.out.symm, rfl⟩
end Go.Proofs.YtdbhboglccggdaaGreatDoor
