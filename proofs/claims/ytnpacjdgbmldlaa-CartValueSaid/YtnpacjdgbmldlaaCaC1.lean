/- Texts of one kind, joined: D15, D16, D17, D18, D19, D20, WA, I1, I2, I3, E1, E2, E3, E4, WB, WC, WD, E5. -/
import Derived.Lib.SlicesCompact
import Derived.Lib.SliceRun
import Derived.Maps.AppendAt
import Derived.Laws.MakeOwn
import Derived.Lib.BitFns
import Derived.Lib.Small
import Derived.Lib.Walk
import Derived.Lib.Strings
import Derived.Lib.Slices
import Derived.Lib.Hide
import Derived.Laws.AppendOwnNone
import Derived.OwnWalk
import Derived.Deep.Cut
import Derived.Test.YtnpacjdgbmldlaaCaA2
set_option linter.unusedVariables false
set_option linter.unusedSimpArgs false
/- The order in which dots are sorted, and the sort of a row of dots. -/
namespace Go.Proofs.Ytnpacjdgbmldlaa
open Go.RowKit Go.Shelf Go.Lib Go.Sort

set_option maxHeartbeats 400000 in
theorem less_grow (a : Int) (m : Nat) (b : Int) (n : Nat) (w : World) : Calls Try.prog 66 #[dotV a m, dotV b n] w fun e w' => e = .returned (.bool (Vec.less a m b n)) ∧ ∃ os, w' = grow w os := by
  by_cases hab : a = b
  · subst hab
    have hne : (a != a) = false := by simp
    go_enter Try.func66, Try.ntmps66
    go_wp2
    all_goals
      go_ret
      refine ⟨ret_bool ?_, _, by rw [alloc_eq_grow, alloc_eq_grow, grow_grow]⟩
      rw [Bool.eq_iff_iff]; simp only [Vec.less, decide_eq_true_eq, Bool.false_eq_true, false_iff, iff_true, true_iff]
      simp
  · have hne : (a != b) = true := by simpa using hab
    go_enter Try.func66, Try.ntmps66
    go_wp2
    all_goals
      go_ret
      refine ⟨ret_bool ?_, _, by rw [alloc_eq_grow, alloc_eq_grow, grow_grow]⟩
      rw [Bool.eq_iff_iff]; simp only [Vec.less, decide_eq_true_eq, Bool.false_eq_true, false_iff, iff_true, true_iff]
      omega

/-- The comparison. -/
def cmpD (x y : Dt) : Int := if Vec.less x.1 x.2 y.1 y.2 = true then -1 else if Vec.less y.1 y.2 x.1 x.2 = true then 1 else 0
theorem ltOf_cmpD (x y : Dt) : ltOf cmpD x y = Vec.less x.1 x.2 y.1 y.2 := by
  unfold ltOf cmpD
  by_cases h : Vec.less x.1 x.2 y.1 y.2 = true
  · simp [h]
  · rw [if_neg h]
    have h' : Vec.less x.1 x.2 y.1 y.2 = false := by simpa using h
    rw [h']
    split <;> simp
theorem swo_cmpD : SWO (ltOf cmpD) where
  irrefl x := by rw [ltOf_cmpD]; simp [Vec.less]
  trans x y z h1 h2 := by rw [ltOf_cmpD] at *; simp only [Vec.less, decide_eq_true_eq] at *; omega
  ntrans x y z h1 h2 := by rw [ltOf_cmpD] at *; simp only [Vec.less, decide_eq_false_iff_not] at *; omega
theorem total_cmpD (x y : Dt) (h : ltOf cmpD x y = false) (k : ltOf cmpD y x = false) : x = y := by
  rw [ltOf_cmpD] at h k
  simp only [Vec.less, decide_eq_false_iff_not] at h k
  exact Prod.ext (by omega) (by omega)

set_option maxHeartbeats 1000000 in
theorem sorted1_any (x y : Dt) (w : World) : Calls Try.prog 130 #[.agg (dotC x), .agg (dotC y)] w fun e w' => e = .returned (.int .i64 (cmpD x y)) ∧ ∃ q os, w' = grow (w.drewN q) os := by
  have hcd : cmpD x y = if Vec.less x.1 x.2 y.1 y.2 = true then -1 else if Vec.less y.1 y.2 x.1 x.2 = true then 1 else 0 := rfl
  have HC1 := Lib.hid fun W => less_grow x.1 x.2 y.1 y.2 W
  have HC2 := Lib.hid fun W => less_grow y.1 y.2 x.1 x.2 W
  have HE := Lib.hid hcd
  clear hcd
  go_enter Try.func130, Try.ntmps130
  go_wp2_with fail
  refine (HC1.out _).mono ?_
  rintro e w3 ⟨rfl, os, hw3⟩
  have X3 : Hid (DotAt w3 w.heap.size 25 x.1 x.2) := Lib.hid (by
    rw [hw3]
    unfold DotAt
    rw [heap_grow_old _ _ (by simp; omega)]
    exact (DotAt.new w 25 x.1 x.2).alloc _)
  have Y3 : Hid (DotAt w3 (w.heap.size + 1) 25 y.1 y.2) := Lib.hid (by
    rw [hw3]
    unfold DotAt
    rw [heap_grow_old _ _ (by simp)]
    have h := DotAt.new (w.alloc (.cells (dotC x) 25)) 25 y.1 y.2
    rwa [World.size_alloc] at h)
  have HG : Hid (∃ os, w3 = grow w os) := Lib.hid ⟨_, by rw [hw3, alloc_eq_grow, alloc_eq_grow, grow_grow, grow_grow]⟩
  have s25 := Lib.hid (dot_size25 x)
  have s25' := Lib.hid (dot_size25 y)
  clear hw3
  cases hxy : Vec.less x.1 x.2 y.1 y.2 with
  | true =>
    rw [hxy] at HE
    have HE1 : Hid (cmpD x y = -1) := Lib.hid (by rw [HE.out]; simp)
    clear HE hxy
    go_wp2_with fail
    go_ret
    obtain ⟨os, hos⟩ := HG.out
    exact ⟨by rw [HE1.out]; rfl, 0, os, hos⟩
  | false =>
    rw [hxy] at HE
    clear hxy
    go_wp2_with (first
      | (refine wpList_load_arr rfl 25 _ rfl w.heap.size 0 rfl (dotC x) _ X3.out.range Try.underlying25 rfl s25.out ?_)
      | (refine wpList_load_arr rfl 25 _ rfl (w.heap.size + 1) 0 rfl (dotC y) _ Y3.out.range Try.underlying25 rfl s25'.out ?_)
      | fail)
    refine (HC2.out _).mono ?_
    rintro e w4 ⟨rfl, os, hw4⟩
    have HG4 : Hid (∃ os, w4 = grow w os) := Lib.hid (by obtain ⟨o1, h1⟩ := HG.out; exact ⟨_, by rw [hw4, h1, grow_grow]⟩)
    clear hw4
    cases hyx : Vec.less y.1 y.2 x.1 x.2 with
    | true =>
      rw [hyx] at HE
      have HE1 : Hid (cmpD x y = 1) := Lib.hid (by rw [HE.out]; simp)
      clear HE hyx
      go_wp2_with fail
      go_ret
      obtain ⟨os, hos⟩ := HG4.out
      exact ⟨by rw [HE1.out]; rfl, 0, os, hos⟩
    | false =>
      rw [hyx] at HE
      have HE1 : Hid (cmpD x y = 0) := Lib.hid (by rw [HE.out]; simp)
      clear HE hyx
      go_wp2_with fail
      go_ret
      obtain ⟨os, hos⟩ := HG4.out
      exact ⟨by rw [HE1.out]; rfl, 0, os, hos⟩

theorem cmpLays130 (blk off size : Nat) (w : World) : CmpLays Try.prog 130 #[] dcells 2 cmpD blk off size w :=
  fun _ _ _ _ x y => sorted1_any x y _
/-- slices.SortFunc of a row of dots. -/
theorem sortFunc_any (blk off cap : Nat) (d : Array Dt) (w : World) (hH : HoldsK dcells 2 w blk off d) (hblk : blk < w.heap.size) (hsz : d.size < 4611686018427387904) :
    Calls Try.prog 129 #[.slice (some ⟨blk, off, none⟩) d.size cap, .func (.func 130) #[] #[]] w fun e w' => e = .returned (.tuple #[]) ∧ ∃ n os, w' = sortWorldK dcells 2 w blk off n (d.toList.mergeSort fun x y => !(ltOf cmpD) y x).toArray os :=
  AnyQ.slices_SortFunc_total Try.sortDot 2 Try.isAgg25 Try.sizeOf25 dcells (fun _ => rfl) (fun x v hv => by simp [dcells] at hv; rcases hv with rfl | rfl <;> rfl) cmpD swo_cmpD 130 #[] blk off cap d w
    (enters_of Try.func130 (by kernel_rfl) rfl) (cmpLays130 blk off d.size w) hH hblk hsz total_cmpD
theorem sortFunc_none (p : Option Addr) (cap : Nat) (fv : Value) (w : World) : Calls Try.prog 129 #[.slice p 0 cap, fv] w fun e w' => e = .returned (.tuple #[]) ∧ w' = w :=
  AnyF.slices_SortFunc_none Try.sortDot p cap fv w
end Go.Proofs.Ytnpacjdgbmldlaa

/- slices.Compact of a row of dots. -/
namespace Go.Proofs.Ytnpacjdgbmldlaa
open Go.RowKit Go.Shelf Go.Lib Go.Sort

/-- Block g holds the dots d from its beginning on; none of their cells is frozen. -/
structure RowD (w : World) (g : Nat) (d : Array Dt) : Prop where
  node : ∀ j, j < d.size → w.cell? ⟨g, j * 2, none⟩ = some (.int .i64 d[j]!.1) ∧ w.frozen? ⟨g, j * 2, none⟩ = false
  num : ∀ j, j < d.size → w.cell? ⟨g, j * 2 + 1, none⟩ = some (.int .u64 ((d[j]!.2 : Nat) : Int)) ∧ w.frozen? ⟨g, j * 2 + 1, none⟩ = false
theorem RowD.drew {w : World} {g : Nat} {d : Array Dt} (h : RowD w g d) : RowD w.drew g d := ⟨h.node, h.num⟩
theorem cell_set_other {w : World} {p a : Addr} {v : Value} (h : p ≠ a) : (w.setCell p v).cell? a = w.cell? a := World.cell?_setCell_other _ _ _ _ h
theorem RowD.set {w : World} {g : Nat} {d : Array Dt} (h : RowD w g d) {k : Nat} (hk : k < d.size) (u : Dt) :
    RowD ((w.setCell ⟨g, k * 2, none⟩ (.int .i64 u.1)).setCell ⟨g, k * 2 + 1, none⟩ (.int .u64 (u.2 : Int))) g (d.setIfInBounds k u) := by
  constructor
  · intro j hj
    rw [Array.size_setIfInBounds] at hj
    refine ⟨?_, by rw [World.frozen?_setCell, World.frozen?_setCell]; exact (h.node j hj).2⟩
    rw [cell_set_other (by intro e; injection e with _ e; omega)]
    by_cases e : j = k
    · subst e
      rw [World.cell?_setCell_same' _ _ _ (by rw [(h.node j hj).1]; rfl), getElem!_set_same _ _ _ hj]
    · rw [cell_set_other (by intro e'; injection e' with _ e'; omega), getElem!_set_other _ _ _ _ e]
      exact (h.node j hj).1
  · intro j hj
    rw [Array.size_setIfInBounds] at hj
    refine ⟨?_, by rw [World.frozen?_setCell, World.frozen?_setCell]; exact (h.num j hj).2⟩
    by_cases e : j = k
    · subst e
      rw [World.cell?_setCell_same' _ _ _ (by rw [cell_set_other (by intro e'; injection e' with _ e'; omega), (h.num j hj).1]; rfl), getElem!_set_same _ _ _ hj]
    · rw [cell_set_other (by intro e'; injection e' with _ e'; omega), cell_set_other (by intro e'; injection e' with _ e'; omega), getElem!_set_other _ _ _ _ e]
      exact (h.num j hj).1
theorem only_setCells {a w : World} {g : Nat} (h : a.grownBy w (some g)) : ∀ (vs : List Value) (o : Nat), a.grownBy (w.setCells g o vs) (some g) := by
  intro vs
  induction vs generalizing w with
  | nil => intro o; exact h
  | cons v vs ih => intro o; exact ih (only_setCell h (.inl rfl) _) (o + 1)

theorem run_clear_dots {P : Program} (w : World) (t e ty : TypeId) (n1 n2 : Value) (ht : P.underlying t = some (.slice e)) (hv : ∀ w, (zeroValue e).run P w = .ok (.agg #[n1, n2]) w) (h1 : n1.oneCell' = true) (h2 : n2.oneCell' = true) (b o n c : Nat) (hn : 0 < n)
    (hc : ∀ j, j < n * 2 → (w.cell? ⟨b, o + j, none⟩).isSome = true) (hf : ∀ j, j < n * 2 → w.frozen? ⟨b, o + j, none⟩ = false) :
    ∃ L, (Builtin.clear_ #[t] ty #[.slice (some ⟨b, o, none⟩) n c]).run P w = .ok (.tuple #[]) (w.setCells b o L) := by
  refine ⟨(Builtin.zeroCells #[n1, n2] n).toList, ?_⟩
  have hl : (Builtin.zeroCells #[n1, n2] n).toList.length = n * 2 := by simp [Builtin.zeroCells]
  have hst := run_storeCells_cells (P := P) b o (Builtin.zeroCells #[n1, n2] n).toList 0 w (by rw [hl]; simpa using hc) (by rw [hl]; simpa using hf) (by
    intro v hv'
    simp only [Builtin.zeroCells, Array.toList_map, List.mem_map] at hv'
    obtain ⟨i, _, rfl⟩ := hv'
    have : i % 2 = 0 ∨ i % 2 = 1 := by omega
    rcases this with e | e <;> simp [e, h1, h2])
  simp only [Nat.add_zero] at hst
  obtain ⟨m, rfl⟩ : ∃ m, n = m + 1 := ⟨n - 1, by omega⟩
  simp [Builtin.clear_, run_underlying ht, hv, Value.cells, hst]

theorem RowD.of {w : World} {g : Nat} {d : Array Dt} (h : RowD w g d) {L : List Dt} (hl : ∀ j, j < L.length → L[j]? = some d[j]!) (hs : L.length ≤ d.size) : RowD w g L.toArray := by
  have e : ∀ j, j < L.length → L.toArray[j]! = d[j]! := fun j hj => by
    have h1 := hl j hj
    rw [List.getElem?_eq_getElem hj] at h1
    injection h1 with h1
    rw [getElem!_pos L.toArray j (by simpa using hj)]
    simpa using h1
  constructor
  · intro j hj
    have hj' : j < L.length := by simpa using hj
    rw [e j hj']
    exact h.node j (by omega)
  · intro j hj
    have hj' : j < L.length := by simpa using hj
    rw [e j hj']
    exact h.num j (by omega)
theorem RowD.behind {w : World} {g : Nat} {d : Array Dt} (h : RowD w g d) {o : Nat} (ho : d.size * 2 ≤ o) (L : List Value) : RowD (w.setCells g o L) g d := by
  constructor
  · intro j hj
    rw [World.cell?_setCells_out g L o w ⟨g, j * 2, none⟩ (fun _ _ => .inl (show j * 2 < o by omega)), World.frozen?_setCells]
    exact h.node j hj
  · intro j hj
    rw [World.cell?_setCells_out g L o w ⟨g, j * 2 + 1, none⟩ (fun _ _ => .inl (show j * 2 + 1 < o by omega)), World.frozen?_setCells]
    exact h.num j hj

set_option maxRecDepth 100000 in
set_option maxHeartbeats 4000000 in
theorem compact_any (g cap : Nat) (d : Array Dt) (w : World) (hR : RowD w g d) (hm : d.size ≤ 1000000000) (hcap : d.size ≤ cap) :
    Calls Try.prog 131 #[.slice (some ⟨g, 0, none⟩) d.size cap] w fun e w' => e = .returned (.slice (some ⟨g, 0, none⟩) (compactUpTo d d.size).length cap) ∧ RowD w' g (compactUpTo d d.size).toArray ∧ w.grownBy w' (some g) := by
  have same : (∀ j, j < d.size → keeps d j = true) → (compactUpTo d d.size).length = d.size ∧ (compactUpTo d d.size).toArray = d := fun hall => by
    have e : compactUpTo d d.size = d.toList := by rw [compactUpTo_all d _ hall, range_map_get]
    rw [e]
    exact ⟨by simp, by simp⟩
  have HS := Lib.hid same
  have HM := Lib.hid hm
  have HCAP := Lib.hid hcap
  have HR := Lib.hid hR
  clear same hm hR hcap
  by_cases h2 : d.size < 2
  · go_enter Try.func131, Try.ntmps131
    go_wp2
    go_ret
    obtain ⟨e1, e2⟩ := HS.out (fun j hj => keeps_lt_one d j (by omega))
    exact ⟨by rw [e1]; rfl, by rw [e2]; exact HR.out, only_refl _ _⟩
  · go_enter Try.func131, Try.ntmps131
    go_wp2
    go_loopw [3] (fun s3 wr => ∃ k : Nat, 1 ≤ k ∧ k ≤ d.size ∧ s3 = .int .i64 k ∧ Hid (RowD wr g d) ∧ Hid (w.grownBy wr (some g)) ∧ Hid (∀ j, j < k → keeps d j = true)) (fun s3 _ => d.size - (intOf s3).toNat)
    case atStart => exact ⟨1, Nat.le_refl _, by omega, rfl, HR, Lib.hid (only_refl _ _), Lib.hid (keeps_lt_one d)⟩
    case round =>
      clear HR
      obtain ⟨k, hk1, hk, rfl, HR, HB, HA⟩ := hrel
      by_cases hlt : k < d.size
      · obtain ⟨c1, f1⟩ := HR.out.node k hlt
        obtain ⟨c2, f2⟩ := HR.out.num k hlt
        obtain ⟨c3, f3⟩ := HR.out.node (k - 1) (by omega)
        obtain ⟨c4, f4⟩ := HR.out.num (k - 1) (by omega)
        clear f1 f2 f3 f4
        obtain ⟨x, hx⟩ : ∃ x, x = d[k]! := ⟨_, rfl⟩
        obtain ⟨y, hy⟩ : ∃ y, y = d[k - 1]! := ⟨_, rfl⟩
        have HX := Lib.hid hx
        have HY := Lib.hid hy
        rw [← hx] at c1 c2
        rw [← hy] at c3 c4
        obtain ⟨x1, x2⟩ := x
        obtain ⟨y1, y2⟩ := y
        have eK : IntKind.i64.wrap ((k : Int) + 1) = (k : Int) + 1 := by have := HM.out; rw [IntKind.wrap_i64]; omega
        have eK1 : IntKind.i64.wrap ((k : Int) - 1) = ((k - 1 : Nat) : Int) := by have := HM.out; rw [IntKind.wrap_i64]; omega
        have HRd : Hid (RowD wr.drew g d) := Lib.hid HR.out.drew
        have HBd : Hid (w.grownBy wr.drew (some g)) := Lib.hid (only_drew HB.out)
        have hki : ((k - 1 : Nat) : Int) < (d.size : Int) := by omega
        clear hx hy HR HB
        by_cases e1 : x1 = y1
        · by_cases e2 : x2 = y2
          · subst e1 e2
            have HD : Hid (keeps d k = false) := Lib.hid (keeps_neg (by omega) (by rw [← HX.out, ← HY.out]))
            go_wp2_with fail
            go_region
            clear c1 c2 c3 c4
            have hck : ¬ cap = k := by have := HCAP.out; omega
            go_wp2_with fail
            go_loopw [3, 5] (fun s3 s5 wr => ∃ (kk k2 : Nat) (dk : Array Dt), s3 = .int .i64 kk ∧ s5 = .int .i64 k2 ∧ 1 ≤ k2 ∧ k + k2 ≤ d.size ∧ Hid (RowD wr g dk) ∧ Hid (w.grownBy wr (some g)) ∧ Hid (CompInv d (k + k2) kk dk)) (fun _ s5 _ => d.size - (intOf s5).toNat)
            case atStart => exact ⟨k, 1, d, rfl, rfl, Nat.le_refl _, by omega, HRd, HBd, CompInv.start HA.out HD.out⟩
            case round =>
              clear HRd HBd
              obtain ⟨kk, k2, dk, rfl, rfl, h1, hle, HR, HB, HI⟩ := hrel
              have hkk := HI.out.lt
              have hds := HI.out.size
              by_cases hlt2 : k + k2 < d.size
              · obtain ⟨c1, f1⟩ := HR.out.node (k + k2) (by omega)
                obtain ⟨c2, f2⟩ := HR.out.num (k + k2) (by omega)
                obtain ⟨c3, f3⟩ := HR.out.node (k + k2 - 1) (by omega)
                obtain ⟨c4, f4⟩ := HR.out.num (k + k2 - 1) (by omega)
                obtain ⟨c5, f5⟩ := HR.out.node kk (by omega)
                obtain ⟨c6, f6⟩ := HR.out.num kk (by omega)
                rw [HI.out.high (k + k2) (by omega)] at c1 c2
                rw [HI.out.high (k + k2 - 1) (by omega)] at c3 c4
                rw [show (k + k2) * 2 = k * 2 + k2 * 2 by omega] at c1 c2
                rw [show (k + k2 - 1) * 2 = k * 2 + (k2 - 1) * 2 by omega] at c3 c4
                clear f1 f2 f3 f4
                generalize dk[kk]! = old at c5 c6
                obtain ⟨x, hx⟩ : ∃ x, x = d[k + k2]! := ⟨_, rfl⟩
                obtain ⟨y, hy⟩ : ∃ y, y = d[k + k2 - 1]! := ⟨_, rfl⟩
                have HX2 := Lib.hid hx
                have HY2 := Lib.hid hy
                rw [← hx] at c1 c2
                rw [← hy] at c3 c4
                obtain ⟨u1, u2⟩ := x
                obtain ⟨v1, v2⟩ := y
                have e2K : IntKind.i64.wrap ((k2 : Int) + 1) = (k2 : Int) + 1 := by have := HM.out; rw [IntKind.wrap_i64]; omega
                have e2K1 : IntKind.i64.wrap ((k2 : Int) - 1) = ((k2 - 1 : Nat) : Int) := by have := HM.out; rw [IntKind.wrap_i64]; omega
                have ekk : IntKind.i64.wrap ((kk : Int) + 1) = (kk : Int) + 1 := by have := HM.out; rw [IntKind.wrap_i64]; omega
                have HR2 : Hid (RowD wr.drew g dk) := Lib.hid HR.out.drew
                have HB2 : Hid (w.grownBy wr.drew (some g)) := Lib.hid (only_drew HB.out)
                have hi1 : ((k2 - 1 : Nat) : Int) < ((d.size - k : Nat) : Int) := by omega
                have hi2 : (k2 : Int) < ((d.size - k : Nat) : Int) := by omega
                have hi3 : (kk : Int) < (d.size : Int) := by omega
                clear hx hy HR HB
                by_cases e1 : u1 = v1
                · by_cases e2 : u2 = v2
                  · subst e1 e2
                    have HD2 : Hid (keeps d (k + k2) = false) := Lib.hid (keeps_neg (by omega) (by rw [← HX2.out, ← HY2.out]))
                    go_wp2_with fail
                    go_region
                    go_wp2_with fail
                    go_roundw
                    all_goals clear eK eK1 e2K e2K1 ekk
                    case rel => exact ⟨kk, k2 + 1, dk, rfl, by go_num, by omega, by omega, HR2, HB2, HI.out.skip HD2.out⟩
                    case measure => simp [intOf]; omega
                  · subst e1
                    have HNE : Hid (keeps d (k + k2) = true) := Lib.hid (keeps_pos (by rw [← HX2.out, ← HY2.out]; exact fun e => e2 (by injection e)))
                    have HIS : Hid (CompInv d (k + (k2 + 1)) (kk + 1) (dk.setIfInBounds kk (u1, u2))) := Lib.hid (by rw [show (u1, u2) = d[k + k2]! from HX2.out]; exact HI.out.keep hlt2 HNE.out)
                    have HRS : Hid (RowD ((wr.drew.setCell ⟨g, kk * 2, none⟩ (.int .i64 u1)).setCell ⟨g, kk * 2 + 1, none⟩ (.int .u64 (u2 : Int))) g (dk.setIfInBounds kk (u1, u2))) := Lib.hid (HR2.out.set (by omega) (u1, u2))
                    have HBS : Hid (w.grownBy ((wr.drew.setCell ⟨g, kk * 2, none⟩ (.int .i64 u1)).setCell ⟨g, kk * 2 + 1, none⟩ (.int .u64 (u2 : Int))) (some g)) := Lib.hid (only_setCell (only_setCell HB2.out (.inl rfl) _) (.inl rfl) _)
                    have b2 : ((u2 : Int) != (v2 : Int)) = true := by rw [bne_iff_ne]; omega
                    have b3 : ((u2 : Int) == (v2 : Int)) = false := by rw [beq_eq_false_iff_ne]; omega
                    clear e2
                    go_wp2_with fail
                    go_region
                    go_wp2_with fail
                    go_roundw
                    all_goals clear eK eK1 e2K e2K1 ekk
                    case rel => exact ⟨kk + 1, k2 + 1, _, by go_num, by go_num, by omega, by omega, HRS, HBS, HIS⟩
                    case measure => simp [intOf]; omega
                · have b2 : (u1 != v1) = true := by rw [bne_iff_ne]; exact e1
                  have b3 : (u1 == v1) = false := by rw [beq_eq_false_iff_ne]; exact e1
                  have HNE : Hid (keeps d (k + k2) = true) := Lib.hid (keeps_pos (by rw [← HX2.out, ← HY2.out]; exact fun e => e1 (by injection e)))
                  have HIS : Hid (CompInv d (k + (k2 + 1)) (kk + 1) (dk.setIfInBounds kk (u1, u2))) := Lib.hid (by rw [show (u1, u2) = d[k + k2]! from HX2.out]; exact HI.out.keep hlt2 HNE.out)
                  have HRS : Hid (RowD ((wr.drew.setCell ⟨g, kk * 2, none⟩ (.int .i64 u1)).setCell ⟨g, kk * 2 + 1, none⟩ (.int .u64 (u2 : Int))) g (dk.setIfInBounds kk (u1, u2))) := Lib.hid (HR2.out.set (by omega) (u1, u2))
                  have HBS : Hid (w.grownBy ((wr.drew.setCell ⟨g, kk * 2, none⟩ (.int .i64 u1)).setCell ⟨g, kk * 2 + 1, none⟩ (.int .u64 (u2 : Int))) (some g)) := Lib.hid (only_setCell (only_setCell HB2.out (.inl rfl) _) (.inl rfl) _)
                  clear e1
                  go_wp2_with fail
                  go_region
                  go_wp2_with fail
                  go_roundw
                  all_goals clear eK eK1 e2K e2K1 ekk
                  case rel => exact ⟨kk + 1, k2 + 1, _, by go_num, by go_num, by omega, by omega, HRS, HBS, HIS⟩
                  case measure => simp [intOf]; omega
              · have hend : k + k2 = d.size := by omega
                have hckk : ¬ cap = kk := by have := HCAP.out; omega
                obtain ⟨L, hcl⟩ := run_clear_dots (P := Try.prog) wr 22 25 0 (.int .i64 0) (.int .u64 0) Try.underlying22 Try.zeroValue25 rfl rfl g (kk * 2) (d.size - kk) (cap - kk) (by omega) (fun j hj => by
                  rcases (show j % 2 = 0 ∨ j % 2 = 1 by omega) with e | e
                  · have h := (HR.out.node (kk + j / 2) (by omega)).1
                    rw [show (kk + j / 2) * 2 = kk * 2 + j by omega] at h
                    rw [h]; rfl
                  · have h := (HR.out.num (kk + j / 2) (by omega)).1
                    rw [show (kk + j / 2) * 2 + 1 = kk * 2 + j by omega] at h
                    rw [h]; rfl) (fun j hj => by
                  rcases (show j % 2 = 0 ∨ j % 2 = 1 by omega) with e | e
                  · have h := (HR.out.node (kk + j / 2) (by omega)).2
                    rwa [show (kk + j / 2) * 2 = kk * 2 + j by omega] at h
                  · have h := (HR.out.num (kk + j / 2) (by omega)).2
                    rwa [show (kk + j / 2) * 2 + 1 = kk * 2 + j by omega] at h)
                have hcl' : ∀ ty, (Builtin.clear_ #[22] ty #[.slice (some ⟨g, kk * 2, none⟩) (d.size - kk) (cap - kk)]).run Try.prog wr = .ok (.tuple #[]) (wr.setCells g (kk * 2) L) := fun _ => hcl
                have hkc : kk ≤ cap := by have := HCAP.out; omega
                have hkci : (kk : Int) ≤ (cap : Int) := by omega
                have HL : Hid ((compactUpTo d d.size).length = kk) := Lib.hid (by rw [← hend]; exact HI.out.len)
                have HRF : Hid (RowD (wr.setCells g (kk * 2) L) g (compactUpTo d d.size).toArray) := Lib.hid (RowD.behind (HR.out.of (fun j hj => by rw [← hend]; exact HI.out.low j (by have := HL.out; omega)) (by have := HL.out; omega)) (by have := HL.out; simp; omega) L)
                have HBF : Hid (w.grownBy (wr.setCells g (kk * 2) L) (some g)) := Lib.hid (only_setCells HB.out L _)
                clear hcl HR HB
                go_wp2_with fail
                go_ret
                exact ⟨by rw [HL.out]; rfl, HRF.out, HBF.out⟩
          · subst e1
            have HNE : Hid (keeps d k = true) := Lib.hid (keeps_pos (by rw [← HX.out, ← HY.out]; exact fun e => e2 (by injection e)))
            have b2 : ((x2 : Int) == (y2 : Int)) = false := by rw [beq_eq_false_iff_ne]; omega
            clear e2
            go_wp2_with fail
            go_region
            go_wp2_with fail
            go_roundw
            all_goals clear eK eK1
            case rel =>
              refine ⟨k + 1, by omega, by omega, by go_num, HRd, HBd, Lib.hid (fun j hj => ?_)⟩
              by_cases e : j = k
              · subst e
                exact HNE.out
              · exact HA.out j (by omega)
            case measure => simp [intOf]; omega
        · have HNE : Hid (keeps d k = true) := Lib.hid (keeps_pos (by rw [← HX.out, ← HY.out]; exact fun e => e1 (by injection e)))
          have b2 : (x1 == y1) = false := by rw [beq_eq_false_iff_ne]; exact e1
          clear e1
          go_wp2_with fail
          go_region
          go_wp2_with fail
          go_roundw
          all_goals clear eK eK1
          case rel =>
            refine ⟨k + 1, by omega, by omega, by go_num, HRd, HBd, Lib.hid (fun j hj => ?_)⟩
            by_cases e : j = k
            · subst e
              exact HNE.out
            · exact HA.out j (by omega)
          case measure => simp [intOf]; omega
      · obtain rfl : k = d.size := by omega
        obtain ⟨e1, e2⟩ := HS.out HA.out
        have HE1 := Lib.hid e1
        have HE2 := Lib.hid e2
        clear e1 e2
        go_wp2_with fail
        go_ret
        exact ⟨by rw [HE1.out]; rfl, by rw [HE2.out]; exact HR.out, HB.out⟩
end Go.Proofs.Ytnpacjdgbmldlaa

/- What is yielded, sorted, each once. -/
namespace Go.Proofs.Ytnpacjdgbmldlaa
open Go.RowKit Go.Shelf Go.Lib Go.Sort
attribute [local go_sem] Oper.semAt_some

theorem grownBy_sortWorldK (w : World) (g o n : Nat) (d : Array Dt) (os : Array Obj) : w.grownBy (sortWorldK dcells 2 w g o n d os) (some g) := by
  unfold sortWorldK
  refine ⟨rfl, rfl, rfl, ?_, fun k hk hne => ?_⟩
  · rw [size_grow, size_putRowK]
    exact Nat.le_add_right _ _
  · rw [heap_grow_old _ _ (by rw [size_putRowK]; exact hk)]
    unfold putRowK putRow mapBlock
    simp only [Array.getElem?_modify]
    rw [if_neg (fun e => hne (by rw [e]))]
    rfl
theorem rowD_holds {w : World} {g : Nat} {d : Array Dt} (h : RowD w g d) : HoldsK dcells 2 w g 0 d := by
  intro j hj
  rw [size_flatK] at hj
  rw [get_flatK _ _ _ _ hj, Nat.zero_add]
  rcases (show j % 2 = 0 ∨ j % 2 = 1 by omega) with e | e
  · have h1 := h.node (j / 2) (by omega)
    rw [show j / 2 * 2 = j by omega] at h1
    rw [e]
    exact h1
  · have h1 := h.num (j / 2) (by omega)
    rw [show j / 2 * 2 + 1 = j by omega] at h1
    rw [e]
    exact h1
theorem holds_rowD {w : World} {g : Nat} {d : Array Dt} (h : HoldsK dcells 2 w g 0 d) : RowD w g d := by
  constructor
  · intro j hj
    have h1 := h (j * 2) (by rw [size_flatK]; omega)
    rw [get_flatK _ _ _ _ (by omega), Nat.zero_add, show j * 2 / 2 = j by omega, show j * 2 % 2 = 0 by omega] at h1
    exact h1
  · intro j hj
    have h1 := h (j * 2 + 1) (by rw [size_flatK]; omega)
    rw [get_flatK _ _ _ _ (by omega), Nat.zero_add, show (j * 2 + 1) / 2 = j by omega, show (j * 2 + 1) % 2 = 1 by omega] at h1
    exact h1
theorem own_row {w : World} {base : Nat} {v : Value} {zs : List Dt} (h : w.ownsRow base 25 2 v zs.length (dots2 zs)) (hne : zs ≠ []) : ∃ g cap, v = .slice (some ⟨g, 0, none⟩) zs.length cap ∧ base ≤ g ∧ g < w.heap.size ∧ RowD w g zs.toArray ∧ zs.length ≤ cap := by
  rcases h.2 with ⟨_, h0⟩ | ⟨g, cap, cur, hv, hg, hr, hle, hcs, _, ht⟩
  · exact absurd (List.length_eq_zero_iff.1 h0) hne
  · refine ⟨g, cap, hv, hg, lt_of_row hr, ?_, hle⟩
    have h2 : ∀ k, k < zs.length * 2 → cur[k]? = (dots2 zs)[k]? := fun k hk => by
      have h3 : (cur.toList.take (zs.length * 2))[k]? = (dots2 zs)[k]? := by rw [ht]
      rw [List.getElem?_take, if_pos hk] at h3
      rw [← Array.getElem?_toList, h3]
    have hf : ∀ x, w.frozen? ⟨g, x, none⟩ = false := fun x => by simp [World.frozen?, hr]
    have hgd : ∀ j, j < zs.length → zs.toArray[j]! = zs.getD j (0, 0) := fun j hj => by
      rw [getElem!_pos zs.toArray j (by simpa using hj), List.getD_eq_getElem?_getD, List.getElem?_eq_getElem hj]
      rfl
    constructor
    · intro j hj
      have hj' : j < zs.length := by simpa using hj
      refine ⟨?_, hf _⟩
      rw [cell_of_row _ _ _ _ _ _ hr, h2 _ (by omega), (dots2_get zs j hj').1, hgd j hj']
    · intro j hj
      have hj' : j < zs.length := by simpa using hj
      refine ⟨?_, hf _⟩
      rw [cell_of_row _ _ _ _ _ _ hr, h2 _ (by omega), (dots2_get zs j hj').2, hgd j hj']
theorem RowD.kept {w w' : World} {g : Nat} {d : Array Dt} (h : RowD w g d) (e : w'.heap[g]? = w.heap[g]?) : RowD w' g d := by
  have hc : ∀ x, w'.cell? ⟨g, x, none⟩ = w.cell? ⟨g, x, none⟩ := fun x => by simp only [World.cell?, e]
  have hf : ∀ x, w'.frozen? ⟨g, x, none⟩ = w.frozen? ⟨g, x, none⟩ := fun x => by simp only [World.frozen?, e]
  exact ⟨fun j hj => by rw [hc, hf]; exact h.node j hj, fun j hj => by rw [hc, hf]; exact h.num j hj⟩
theorem below_putObj {B : Nat} {w : World} {D : Nat} (hD : B ≤ D) (o : Obj) : Below B w (w.putObj D o) :=
  ⟨rfl, rfl, rfl, by simp, fun k hk => World.putObj_heap_other (by omega)⟩
theorem rowD_dots {w : World} {g : Nat} {ls : List Dt} (h : RowD w g ls.toArray) {ok : Nat → Prop} (hg : ok g) : Dots w ok (some ⟨g, 0, none⟩) ls := ⟨fun hp => by
  refine ⟨g, 0, rfl, hg, fun j hj i v hi => ?_⟩
  have hgd : ls.toArray[j]! = ls.getD j (0, 0) := by
    rw [getElem!_pos ls.toArray j (by simpa using hj), List.getD_eq_getElem?_getD, List.getElem?_eq_getElem hj]
    rfl
  have hi2 : i < 2 := by
    have := (Array.getElem?_eq_some_iff.1 hi).1
    simpa using this
  rw [Nat.zero_add]
  rcases (show i = 0 ∨ i = 1 by omega) with rfl | rfl
  · rw [Nat.add_zero, (h.node j (by simpa using hj)).1, hgd]; exact hi
  · rw [(h.num j (by simpa using hj)).1, hgd]; exact hi⟩
theorem dotAt_own {β : Type} (B : Nat) (t : TypeId) (n : β → Int) (k : β → Nat) : Own (fun s W => DotAt W B t (n s) (k s)) := fun s X Y row hs hg hrow => by
  refine (hg.block B hs.lt (fun e' => ?_)).trans hs
  obtain ⟨o, ho, hc⟩ := hrow B e'.symm
  rw [show X.heap[B]? = _ from hs] at ho
  cases ho
  cases hc
/-- 'append' of one dot: what is handed back is the old block, or a new one. -/
theorem append_fresh {P : Program} {w : World} {base t e n bytes : Nat} {z v : Value} {ys : List Value} (ht : P.underlying t = some (.slice e)) (hinfo : (P.info? e).map (fun i => (i.zero, i.size, i.bytes)) = some (some z, 2, bytes)) (hzs : z.cells.size = 2)
    (hown : w.ownsRow base e 2 v n ys) (ad : Addr) (c : Nat) (news : List Value) (ty : TypeId) (hl : news.length = 1 * 2)
    (hnews : ∀ j u, news[j]? = some u → w.cell? (ad.add j) = some u) (h1 : ∀ u ∈ news, u.oneCell' = true) (h63 : n + 1 ≤ 10000000) (hby : bytes ≤ 1000) (hbase : base ≤ w.heap.size) :
    ∃ v' w', (Builtin.append_ #[t, t] ty #[v, .slice (some ad) 1 c]).run P w = .ok v' w' ∧ w'.ownsRow base e 2 v' (n + 1) (ys ++ news) ∧ w.grownBy w' v.ownBlock ∧ SameOrNew w.heap.size v.ownBlock v'.ownBlock := by
  obtain ⟨i, hi, hz, hsz, hbs⟩ := info_parts hinfo
  have hm : n + 1 ≤ maxLen := by unfold maxLen; omega
  have hb : (n + 1) * bytes ≤ 140737488355328 := Nat.le_trans (Nat.mul_le_mul h63 hby) (by omega)
  obtain ⟨v', w', hr, h2, h3, _⟩ := run_append_own (P := P) w base t ty e i z 2 bytes ht hi hz hsz hbs hzs (by decide) v n ys hown ad 1 c news hl hnews h1 hm hb hbase
  refine ⟨v', w', hr, h2, h3, ?_⟩
  have again : w.ownsRow w.heap.size e 2 v n ys → SameOrNew w.heap.size v.ownBlock v'.ownBlock := fun ho => by
    obtain ⟨u, x, hr', h2', _, _⟩ := run_append_own (P := P) w w.heap.size t ty e i z 2 bytes ht hi hz hsz hbs hzs (by decide) v n ys ho ad 1 c news hl hnews h1 hm hb (Nat.le_refl _)
    rw [hr] at hr'
    injection hr' with e1 e2
    subst e1 e2
    exact .inr fun k hk => (h2'.lt k hk).1
  rcases hown.2 with ⟨rfl, rfl⟩ | ⟨g, cap, cur, rfl, hbg, hg, hnc, hcm, hcs, htake⟩
  · exact again ⟨hown.1, .inl ⟨rfl, rfl⟩⟩
  · by_cases hroom : n + 1 ≤ cap
    · have hr' := run_append_room (P := P) w t ty e i ht hi g n cap cur hg ad 1 c news (by rw [hsz]; exact hl) hnews h1 hroom (by rw [hl, hcs, hsz, ← Nat.add_mul]; exact Nat.mul_le_mul_right _ hroom)
      rw [hr] at hr'
      injection hr' with e1 e2
      subst e1
      exact .inl rfl
    · have holds : ∀ j u, ys[j]? = some u → w.cell? ((⟨g, 0, none⟩ : Addr).add j) = some u := hown.cells (g := g) rfl
      have hr' := run_append_grow (P := P) w t ty e i z ht hi hz ⟨g, 0, none⟩ n cap ys (by rw [hsz]; exact hown.1) holds ad 1 c news (by rw [hsz]; exact hl) hnews (by omega) (by unfold maxLen at hm; omega) (growslice_fits (by omega) (by rw [hbs]; omega))
      rw [hr] at hr'
      injection hr' with e1 e2
      subst e1
      exact .inr fun k hk => by
        have : w.heap.size = k := by simpa [Value.ownBlock] using hk
        omega
theorem wpListIn_append_dot {F : Fence} {n0 : Nat} {P : Program} {w : World} {ops : Array Oper} {rest : List Oper} {o : Oper} {a : Act} {Q : Exit → Act → World → Prop} (hgd : o.guard = none) (s x : Operand) (t : TypeId)
    (ho : o.op = .call { callee := .builtin .append, args := #[s, x], argTypes := #[t, t] }) (base : Nat) (e : TypeId) (z : Value) (bytes : Nat) (ht : P.underlying t = some (.slice e))
    (hinfo : (P.info? e).map (fun i => (i.zero, i.size, i.bytes)) = some (some z, 2, bytes)) (hzs : z.cells.size = 2)
    (v : Value) (n : Nat) (xs : List Value) (hs : a.eval s = v) (hown : w.ownsRow base e 2 v n xs) (d : Dt) (te : TypeId)
    (hx : a.eval x = .slice (some ⟨w.heap.size, 0, none⟩) 1 1) (h63 : n + 1 ≤ 10000000) (hby : bytes ≤ 1000) (hbase : base ≤ w.heap.size)
    (h : ∀ v' w', Hid (w'.ownsRow base e 2 v' (n + 1) (xs ++ dcells d)) → Hid ((w.alloc (.cells (dotC d) te)).grownBy w' v.ownBlock) → Hid (SameOrNew (w.heap.size + 1) v.ownBlock v'.ownBlock) → wpListIn F n0 P ops Q rest (a.put o.dst v') w') : wpListIn F n0 P ops Q (o :: rest) a (w.alloc (.cells (dotC d) te)) := by
  obtain ⟨v', w', hrun, h1, h2, h3⟩ := append_fresh (P := P) (w := w.alloc (.cells (dotC d) te)) ht hinfo hzs (hown.alloc _) ⟨w.heap.size, 0, none⟩ 1 (dcells d) o.type rfl (fun j u hu => by
    rw [Addr.add_mid, Nat.zero_add, cell_of_row _ _ _ _ _ _ (heap_alloc_new _ _)]
    match j, hu with
    | 0, hu => exact hu
    | 1, hu => exact hu) (fun y hy => by
    simp only [dcells, List.mem_cons, List.mem_nil_iff, or_false] at hy
    rcases hy with rfl | rfl <;> rfl) h63 hby (by rw [World.size_alloc]; omega)
  rw [World.size_alloc] at h3
  refine wpListIn_plain hgd fun K hK => ?_
  unfold Oper.wpIn
  refine ⟨?_, ?_⟩
  · simp [Oper.about, ho, resolve, Target.leads, Sem.run_pure]
  · rw [Oper.semAt_plain F _ _ (by rw [ho]; intro c hc'; cases hc')]
    simp [execOp, ho, resolve, invoke, builtin, hs, hx, hrun, Result.andThen]
    exact hK _ _ (h v' w' h1 h2 h3)

set_option maxRecDepth 100000 in
set_option maxHeartbeats 400000 in
theorem compact_none (p : Option Addr) (cap : Nat) (w : World) : Calls Try.prog 131 #[.slice p 0 cap] w fun e w' => e = .returned (.slice p 0 cap) ∧ w' = w := by
  go_enter Try.func131, Try.ntmps131
  go_wp2
  go_ret
  exact ⟨rfl, rfl⟩

/-- The block that the slice in box B owns. -/
def boxOwn (B : Nat) (X : World) : Option Nat := (X.cell? ⟨B, 0, none⟩).bind Value.ownBlock
theorem boxOwn_eq {B : Nat} {X Y : World} (h : Y.heap[B]? = X.heap[B]?) : boxOwn B Y = boxOwn B X := by
  unfold boxOwn
  rw [World.cell?_of_block (w := X) (a := ⟨B, 0, none⟩) h]
/-- What a caller that collects in box B keeps: what lies below B, and whatever cells are neither the box nor what the slice in it owns. -/
structure KeepB (B N : Nat) (X Y : World) : Prop where
  below : Below B X Y
  own : ∀ k, boxOwn B Y = some k → boxOwn B X = some k ∨ X.heap.size ≤ k
  kept : ∀ k o, X.heap[k]? = some o → o.isCells = true → k ≠ B → boxOwn B X ≠ some k → Y.heap[k]? = some o
  others : ∀ k o, N ≤ k → X.heap[k]? = some o → o.isCells = false → Y.heap[k]? = some o
theorem KeepB.trans {B N : Nat} {X Y Z : World} (h : KeepB B N X Y) (k : KeepB B N Y Z) : KeepB B N X Z where
  others j o hj hx ho := k.others j o hj (h.others j o hj hx ho) ho
  below := h.below.trans k.below
  own j hj := by
    rcases k.own j hj with h1 | h1
    · exact h.own j h1
    · exact .inr (Nat.le_trans h.below.size h1)
  kept j o hj ho hB hne := k.kept j o (h.kept j o hj ho hB hne) ho hB fun e => by
    rcases h.own j e with h1 | h1
    · exact hne h1
    · have := lt_of_row hj
      omega
theorem KeepB.putObj {B N : Nat} (W : World) (l : Nat) (o o' : Obj) (hl : B < l) (hN : l < N) (ho : W.heap[l]? = some o) (hc : o.isCells = false) : KeepB B N W (W.putObj l o') where
  others k x hk hx _ := (World.putObj_heap_other (by omega)).trans hx
  below := ⟨rfl, rfl, rfl, by simp, fun k hk => World.putObj_heap_other (by omega)⟩
  own k hk := by
    rw [boxOwn_eq (World.putObj_heap_other (by omega))] at hk
    exact .inl hk
  kept k x hx hxc _ _ := by
    rw [World.putObj_heap_other (fun e => by rw [← e, hx] at ho; injection ho with ho; rw [ho, hc] at hxc; cases hxc)]
    exact hx
theorem KeepB.grow {B N : Nat} {X Y : World} (h : Below X.heap.size X Y) (hB : B < X.heap.size) : KeepB B N X Y where
  others k x _ hx _ := (h.block k (lt_of_row hx)).trans hx
  below := h.mono (by omega)
  own k hk := by
    rw [boxOwn_eq (h.block B hB)] at hk
    exact .inl hk
  kept k x hx _ _ _ := (h.block k (lt_of_row hx)).trans hx

/-- A function value that yields zs, dot by dot, to whatever collects them in box n₀. -/
def Yields (gf : Nat) (lb : Array Value) (zs : List Dt) (n₀ : Nat) (w : World) : Prop := Gives Try.prog gf lb (fun x : Dt => #[dotV x.1 x.2]) (KeepB n₀) (fun W => n₀ < W.heap.size ∧ ∀ k, boxOwn n₀ W = some k → k < W.heap.size) zs w
/-- .. and the program enters it when it is called. -/
def Enters (gf : Nat) : Prop := ∀ args w, (callFunc gf args).run Try.prog w = .ok (.enter gf args) w
def sortD (zs : List Dt) : List Dt := Lib.compact (zs.mergeSort fun x y => !(ltOf cmpD) y x)

set_option maxRecDepth 100000 in
set_option maxHeartbeats 4000000 in
theorem sorted_any (gf : Nat) (lb : Array Value) (zs : List Dt) (w : World) (hE : Enters gf) (hS : Yields gf lb zs w.heap.size w) (hm : zs.length ≤ 1000000) :
    Calls Try.prog 111 #[.func (.func gf) #[] lb] w fun e w' => ∃ A c, e = .returned (.slice A (sortD zs).length c) ∧ Dots w' (fun b => w.heap.size ≤ b ∧ b < w'.heap.size) A (sortD zs) ∧ (sortD zs).length ≤ c ∧ Below w.heap.size w w' := by
  refine (callsIn_wide (n := 9)).1 ?_
  have HS := Lib.hid hS
  have HM := Lib.hid hm
  have HE := Lib.hid hE
  clear hS hm hE
  refine callsIn_of_wp_marks Try.func111 rfl trivial ?_ rfl
  simp only [Try.ntmps111, List.size_toArray, List.length_cons, List.length_nil, Nat.reduceAdd, Nat.reduceSub, Array.replicate_succ, Array.replicate_zero, List.push_toArray, List.append_toArray, List.nil_append, List.cons_append]
  gi_wp2
  have bO := Boxed.new w 22 (.slice none 0 0)
  obtain ⟨W0, hW0⟩ : ∃ W0, w.alloc (.cells #[.slice none 0 0] 22) = W0 := ⟨_, rfl⟩
  rw [hW0] at bO ⊢
  have hsz : W0.heap.size = w.heap.size + 1 := by rw [← hW0]; simp
  have hB0 : Below w.heap.size w W0 := by rw [← hW0]; exact below1 _ _
  clear hW0
  have s25 : ∀ d, Hid ((Try.prog.info? 25).map (·.size) = some (dotC d).size) := fun d => Lib.hid (dot_size25 d)
  refine wpIn_range_gives (n := 9) (by decide) (gf := gf) (lb := lb) rfl HE.out HS.out (fun W hW => ⟨by have := hW.size; omega, fun k hk => by
      rw [boxOwn_eq (hW.block w.heap.size (by omega))] at hk
      unfold boxOwn at hk
      rw [bO.cell] at hk
      simp [Value.ownBlock] at hk⟩) KeepB.trans (fun W l o o' hl hl2 ho hc => KeepB.putObj W l o o' (by omega) hl2 ho hc) hB0 (fun _ => rfl)
    (fun pre W => (∃ v, Boxed W w.heap.size 22 v ∧ W.ownsRow w.heap.size 25 2 v pre.length (dots2 pre) ∧ True) ∧ Below w.heap.size w W)
    (OwnFrom.and (Own.from (holdsRow_own w.heap.size w.heap.size 22 25 2 (fun pre => pre.length) (fun pre => dots2 pre) (fun _ _ => True)) _) (ownFrom_below (Nat.le_refl _) (by omega)))
    ⟨⟨_, bO, World.ownsRow_nil _ _ _ _, trivial⟩, hB0⟩
    (fun x a' W => ∃ Bx, w.heap.size < Bx ∧ DotAt W Bx 25 x.1 x.2 ∧ a' = { tmps := #[.func (.func gf) #[] lb, undef, .slice none 0 0, .pointer (some ⟨w.heap.size, 0, none⟩), .pointer (some ⟨Bx, 0, none⟩), .func (.func gf) #[] lb, .agg (dotC x), undef, undef, undef, undef, undef, undef, undef, undef], defers := [] })
    (fun x a' _ X Y row hs hg hr => by obtain ⟨Bx, h1, h2, h3⟩ := hs; exact ⟨Bx, h1, dotAt_own Bx 25 (fun (_ : Unit) => x.1) (fun _ => x.2) () X Y row h2 hg (fun r e => (hr r e).2), h3⟩)
    ?assign ?body ?done
  case assign =>
    rintro l pre x W K ⟨⟨v, bv, hv, _⟩, hB1⟩ hK
    gi_wp2_with (first
      | (refine wpListIn_store_row rfl 25 _ _ rfl W.heap.size (dotC x) rfl rfl 25 _ (heap_alloc_new _ _) (s25 x).out rfl rfl ?_; rw [World.setRow_alloc_new])
      | fail)
    exact hK _ _ ((KeepsOthers.alloc _ _).from _) (KeepB.grow (below1 W _) bv.lt) ⟨⟨v, bv.alloc _, hv.alloc _, trivial⟩, hB1.alloc hB1.size _⟩ ⟨W.heap.size, bv.lt, DotAt.new W 25 x.1 x.2, rfl⟩
  case body =>
    rintro l pre x a' W ⟨⟨v, bv, hv, _⟩, hB1⟩ ⟨Bx, hBx, bX, rfl⟩ hlt
    have hc := bv.cell
    have HV := Lib.hid hv
    have HBX := Lib.hid bX
    have HB1 := Lib.hid hB1
    have HBV := Lib.hid bv
    have HLT : Hid (pre.length < zs.length) := Lib.hid (by have := hlt.length_le; simp at this; omega)
    clear hv bX hB1 bv hlt
    gi_wp2_with (first
      | (refine wpListIn_load_arr rfl 25 _ rfl Bx 0 rfl (dotC x) _ HBX.out.range Try.underlying25 rfl (s25 x).out ?_)
      | (refine wpListIn_append_dot rfl (.tmp 7) (.tmp 9) 22 rfl w.heap.size 25 (.agg #[.int .i64 0, .int .u64 0]) 16 Try.underlying22 info25 rfl _ pre.length _ rfl HV.out x 25 rfl (by have := HLT.out; have := HM.out; omega) (by omega) HB1.out.size ?_; intro v1 w3 H1 G1 S1; obtain ⟨g', cap', rfl⟩ := ownsRow_succ H1.out; obtain ⟨hv1, hv2, hr2, hk2, hb2⟩ := HBV.out.appended (by decide) HV.out HB1.out.size (Nat.le_refl _) H1.out G1.out; have hc1 := hv1.cell; have hf1 := hv1.frozen)
      | fail)
    have hx1 : boxOwn w.heap.size W = v.ownBlock := by unfold boxOwn; rw [HBV.out.cell]; rfl
    have hx2 : boxOwn w.heap.size (w3.setCell ⟨w.heap.size, 0, none⟩ (.slice (some ⟨g', 0, none⟩) (pre.length + 1) cap')) = (Value.slice (some ⟨g', 0, none⟩) (pre.length + 1) cap').ownBlock := by unfold boxOwn; rw [hv2.cell]; rfl
    have hkb : KeepB w.heap.size (W0.heap.size + 2) W (w3.setCell ⟨w.heap.size, 0, none⟩ (.slice (some ⟨g', 0, none⟩) (pre.length + 1) cap')) := by
      refine ⟨hb2, fun k hk => ?_, fun k o hk ho hne hno => ?_, fun k o _ hk ho => hk2.same k o hk ho⟩
      · rw [hx2] at hk
        rw [hx1]
        rcases S1.out with h | h
        · exact .inl (h ▸ hk)
        · exact .inr (by have := h k hk; omega)
      · rw [hx1] at hno
        have h1 := G1.out.block k (by rw [World.size_alloc]; have := lt_of_row hk; omega) (fun e => hno e.symm)
        rw [Below.heap_setCell _ _ _ k (fun e => hne e), h1, Below.heap_alloc _ _ _ (lt_of_row hk)]
        exact hk
    refine ⟨hk2.from _, hkb, ⟨_, hv2, ?_, trivial⟩, HB1.out.trans hb2⟩
    rw [List.length_append, List.length_singleton, dots2_append, dots2_one]
    exact hr2
  case done =>
    rintro D W hD ⟨⟨v, hv, hrow, _⟩, hB⟩ hK
    obtain ⟨ys, hys⟩ : ∃ ys, ys = zs := ⟨_, rfl⟩
    subst hys
    have hc := hv.cell
    have HV := Lib.hid hv
    have HROW := Lib.hid hrow
    have HB := Lib.hid hB
    have HK := Lib.hid hK
    clear hv hB hK HS
    by_cases hnil : ys = []
    · subst hnil
      have hv0 : v = .slice none 0 0 ∨ ∃ g cap, v = .slice (some ⟨g, 0, none⟩) 0 cap := by
        rcases hrow.2 with ⟨h, _⟩ | ⟨g, cap, _, h, _⟩
        · exact .inl h
        · exact .inr ⟨g, cap, h⟩
      obtain ⟨p, cap, rfl⟩ : ∃ p cap, v = .slice p 0 cap := by
        rcases hv0 with h | ⟨g, cap, h⟩
        · exact ⟨_, _, h⟩
        · exact ⟨_, _, h⟩
      have HD := Lib.hid hD
      clear hrow hv0 hD
      have HC := Lib.hid (sortFunc_none p cap (.func (.func 130) #[] #[]) W)
      gi_wp2_with fail
      refine ⟨trivial, (callsIn_wide.2 HC.out).mono ?_⟩
      rintro e w2 ⟨rfl, rfl⟩
      have HC2 := Lib.hid (compact_none p cap w2)
      gi_wp2_with fail
      refine ⟨trivial, (callsIn_wide.2 HC2.out).mono ?_⟩
      rintro e w3 ⟨rfl, rfl⟩
      gi_wp2_with fail
      refine ⟨by simp, .inl ⟨_, _, rfl, run_takeDeferred HK.out, ?_⟩⟩
      have hs0 : sortD [] = [] := by simp [sortD, Lib.compact, Lib.compactUpTo]
      refine ⟨_, results_tmp rfl _ _ _, p, cap, by rw [hs0]; rfl, ?_, by rw [hs0]; simp, HB.out.trans (below_putObj (by have := HD.out; omega) _)⟩
      rw [hs0]
      exact ⟨fun hp => by simp at hp⟩
    · obtain ⟨g, cap, rfl, hg1, hg2, hR, hcap⟩ := own_row hrow hnil
      have hDg : D ≠ g := fun e => by
        subst e
        have h := (hR.node 0 (by simpa using List.length_pos_iff.2 hnil)).1
        simp [World.cell?, HK.out] at h
      have hBg : w.heap.size ≠ g := fun e => HV.out.not_row (by decide) hrow (by rw [e]; rfl)
      have HDG := Lib.hid hDg
      have HBG := Lib.hid hBg
      have HD := Lib.hid hD
      clear hDg hBg hD
      have HR := Lib.hid hR
      have HCAP := Lib.hid hcap
      have HG1 := Lib.hid hg1
      have HG2 := Lib.hid hg2
      clear hrow hR hcap hg1 hg2
      have HC := Lib.hid (sortFunc_any g 0 cap ys.toArray W (rowD_holds HR.out) HG2.out (by have := HM.out; simp; omega))
      have hsz : ys.toArray.size = ys.length := by simp
      rw [hsz] at HC
      gi_wp2_with fail
      refine ⟨trivial, (callsIn_wide.2 HC.out).mono ?_⟩
      rintro e w2 ⟨rfl, n, os, hw2⟩
      obtain ⟨so, hso⟩ : ∃ so, so = ys.mergeSort fun x y => !(ltOf cmpD) y x := ⟨_, rfl⟩
      have hw3 : w2 = sortWorldK dcells 2 W g 0 n so.toArray os := by rw [hw2, hso]
      have hsl : so.length = ys.length := by rw [hso]; exact List.length_mergeSort _
      have G2 : Hid (W.grownBy w2 (some g)) := Lib.hid (by rw [hw3]; exact grownBy_sortWorldK _ _ _ _ _ _)
      have R2 : Hid (RowD w2 g so.toArray) := Lib.hid (by rw [hw3]; exact holds_rowD (holdsK_sortWorldK_c dcells 2 W g 0 ys.toArray so.toArray n os (rowD_holds HR.out) HG2.out (by simpa using hsl)))
      have bV2 : Boxed w2 w.heap.size 22 (.slice (some ⟨g, 0, none⟩) ys.length cap) := HV.out.kept G2.out (fun e => HBG.out (by injection e))
      have hc2 := bV2.cell
      have K2 : Hid (w2.heap[D]? = some (.deferred (some []))) := Lib.hid ((G2.out.block D (lt_of_row HK.out) (fun e => HDG.out (by injection e))).trans HK.out)
      have HC2 := Lib.hid (compact_any g cap so.toArray w2 R2.out (by have := HM.out; simp; omega) (by have := HCAP.out; simp; omega))
      have hsz2 : so.toArray.size = ys.length := by simpa using hsl
      rw [hsz2] at HC2
      have HSD : Hid (sortD ys = compactUpTo so.toArray ys.length) := Lib.hid (by unfold sortD Lib.compact; rw [← hso, hsl])
      have HB2 : Hid (Below w.heap.size w w2) := Lib.hid (below_only HB.out G2.out HB.out.size HG1.out)
      clear hw2 hw3 bV2 hc HC hsl hso hsz2 hsz
      gi_wp2_with fail
      refine ⟨trivial, (callsIn_wide.2 HC2.out).mono ?_⟩
      rintro e w3 ⟨rfl, hR3, hG3⟩
      have R3 := Lib.hid hR3
      have G3 := Lib.hid hG3
      have K3 : w3.heap[D]? = some (.deferred (some [])) := (G3.out.block D (lt_of_row K2.out) (fun e => HDG.out (by injection e))).trans K2.out
      rw [← HSD.out]
      rw [← HSD.out] at R3
      clear hR3 hG3
      have HK3 := Lib.hid K3
      clear K3 hc2
      gi_wp2_with fail
      refine ⟨by simp, .inl ⟨_, _, rfl, run_takeDeferred HK3.out, ?_⟩⟩
      have HB3 : Below w.heap.size w w3 := below_only HB2.out G3.out HB2.out.size HG1.out
      have hgl : g < w3.heap.size := Nat.lt_of_lt_of_le HG2.out (Nat.le_trans G2.out.size G3.out.size)
      refine ⟨_, results_tmp rfl _ _ _, some ⟨g, 0, none⟩, cap, rfl, ?_, ?_, HB3.trans (below_putObj (by have := HD.out; omega) _)⟩
      · exact rowD_dots (R3.out.kept (World.putObj_heap_other (fun e => HDG.out e.symm))) ⟨HG1.out, by simpa using hgl⟩
      · refine Nat.le_trans ?_ HCAP.out
        rw [HSD.out]
        unfold compactUpTo
        rw [List.length_map]
        refine Nat.le_trans (List.length_filter_le _ _) ?_
        simp
end Go.Proofs.Ytnpacjdgbmldlaa

/- A copy into new memory; dots.fresh, dots.set, dots.Of. -/
namespace Go.Proofs.Ytnpacjdgbmldlaa
open Go.RowKit Go.Shelf Go.Lib Go.Sort

theorem run_make_new {P : Program} (w : World) (t e : TypeId) (z : Value) (s by_ : Nat) (ht : P.underlying t = some (.slice e)) (hinfo : (P.info? e).map (fun i => (i.zero, i.size, i.bytes)) = some (some z, s, by_)) (n : Nat) (hb : by_ * n ≤ 281474976710656) (hn : n ≤ 1000000000000) :
    (Instr.makeSlice t (.int .i64 (n : Int)) (.int .i64 (n : Int))).run P w = .ok (.slice (some ⟨w.heap.size, 0, none⟩) n n) (w.alloc (.cells (madeCells z.cells (n * s)) e)) := by
  obtain ⟨i, hi, hz, hs, hby⟩ := info_parts hinfo
  have hb' : (i.bytes : Int) * (n : Int) ≤ 281474976710656 := by
    have h3 : ((by_ * n : Nat) : Int) ≤ 281474976710656 := by omega
    rw [hby]
    rwa [Int.natCast_mul] at h3
  have h := run_make (P := P) w t e i z ht hi hz .i64 .i64 (n : Int) (n : Int) (by omega) (Int.le_refl _) hb' (by omega)
  rw [Int.toNat_natCast, hs] at h
  exact h
theorem run_copy_fresh {P : Program} (w : World) (dT sT ty elem : TypeId) (s n cap c' : Nat) (A : Option Addr) (Z : Array Value) (e : TypeId) (cs : List Value) (hu : P.underlying dT = some (.slice elem)) (hs : (P.info? elem).map (·.size) = some s)
    (hZ : Z.size = n * s) (hcs : cs.length = n * s) (hsrc : 0 < n → ∃ a, A = some a ∧ ∀ j v, cs[j]? = some v → w.cell? (a.add j) = some v) (h1 : ∀ v ∈ cs, v.oneCell' = true) :
    (Builtin.copy_ #[dT, sT] ty #[.slice (some ⟨w.heap.size, 0, none⟩) n cap, .slice A n c']).run P (w.alloc (.cells Z e)) = .ok (goInt n) (w.alloc (.cells cs.toArray e)) := by
  cases hq : P.info? elem with
  | none => simp [hq] at hs
  | some i =>
    have hi : i.size = s := by simpa [hq] using hs
    have hst := run_storeCells_at P w.heap.size 0 e cs 0 Z (w.alloc (.cells Z e)) (heap_alloc_new _ _) (by rw [hcs, hZ]; omega) h1
    have hst2 : (storeCells ⟨w.heap.size, 0, none⟩ cs 0).run P (w.alloc (.cells Z e)) = .ok () (w.alloc (.cells cs.toArray e)) := by
      rw [hst, World.setRow_alloc_new]
      congr 3
      simp [hcs, hZ]
    rcases Nat.eq_zero_or_pos n with h0 | hp
    · have hz : cs = [] := List.length_eq_zero_iff.1 (by rw [hcs, h0]; omega)
      subst hz
      subst h0
      cases A with
      | none => simp [Builtin.copy_, run_underlying hu, Builtin.lenOf, Builtin.firstCells, sizeOf, typeInfo, hq, hi, hst2]
      | some a =>
        have hl := run_loadCells_list (P := P) (w.alloc (.cells Z e)) a [] (fun j v hv => by simp at hv)
        simp only [List.length_nil] at hl
        simp [Builtin.copy_, run_underlying hu, Builtin.lenOf, Builtin.firstCells, sizeOf, typeInfo, hq, hi, hl, hst2]
    · obtain ⟨a, rfl, hc⟩ := hsrc hp
      have hl := run_loadCells_list (P := P) (w.alloc (.cells Z e)) a cs (fun j v hv => Lib.cell?_alloc_some _ (hc j v hv))
      rw [hcs] at hl
      simp [Builtin.copy_, run_underlying hu, Builtin.lenOf, Builtin.firstCells, sizeOf, typeInfo, hq, hi, hl, hst2]

theorem dots2_one' {ls : List Dt} : ∀ v ∈ dots2 ls, v.oneCell' = true := fun v hv => by
  unfold dots2 at hv
  obtain ⟨d, _, hv⟩ := List.mem_flatMap.1 hv
  simp only [dcells, List.mem_cons, List.mem_nil_iff, or_false] at hv
  rcases hv with rfl | rfl <;> rfl
theorem Dots.flat {w : World} {ok : Nat → Prop} {A : Option Addr} {ls : List Dt} (h : Dots w ok A ls) (hp : 0 < ls.length) : ∃ a, A = some a ∧ ∀ j v, (dots2 ls)[j]? = some v → w.cell? (a.add j) = some v := by
  obtain ⟨b, o, rfl, _, hc⟩ := h.at_ hp
  refine ⟨_, rfl, fun j u hu => ?_⟩
  have hj : j < ls.length * 2 := by
    have := (List.getElem?_eq_some_iff.1 hu).1
    rwa [dots2_len] at this
  have h3 := hc (j / 2) (by omega)
  have hd := dots2_get ls (j / 2) (by omega)
  rw [Addr.add_mid]
  rcases (show j = j / 2 * 2 ∨ j = j / 2 * 2 + 1 by omega) with e | e
  · rw [e, hd.1] at hu
    have h4 := h3 0 u hu
    rwa [Nat.add_zero, ← e] at h4
  · rw [e, hd.2] at hu
    have h4 := h3 1 u hu
    rwa [Nat.add_assoc, ← e] at h4
theorem block_dots {w : World} {g : Nat} {t : TypeId} {ls : List Dt} (h : w.heap[g]? = some (.cells (dots2 ls).toArray t (0, 0))) {ok : Nat → Prop} (hg : ok g) : Dots w ok (some ⟨g, 0, none⟩) ls := ⟨fun hp => by
  refine ⟨g, 0, rfl, hg, fun j hj i v hi => ?_⟩
  have hi2 : i < 2 := by
    have := (Array.getElem?_eq_some_iff.1 hi).1
    simpa using this
  have hd := dots2_get ls j hj
  rw [Nat.zero_add, cell_of_row _ _ _ _ _ _ h, List.getElem?_toArray]
  rcases (show i = 0 ∨ i = 1 by omega) with rfl | rfl
  · rw [Nat.add_zero, hd.1]; exact hi
  · rw [hd.2]; exact hi⟩

set_option maxRecDepth 100000 in
set_option maxHeartbeats 1000000 in
theorem fresh_any (ls : List Dt) (c : Nat) (A : Option Addr) (w : World) (hv : Dots w (· < w.heap.size) A ls) (hm : ls.length ≤ 1000000) :
    Calls Try.prog 78 #[.slice A ls.length c] w fun e w' => e = .returned (.slice (some ⟨w.heap.size, 0, none⟩) ls.length ls.length) ∧ w' = w.alloc (.cells (dots2 ls).toArray 25) := by
  have hmk := run_make_new (P := Try.prog) w 22 25 (.agg #[.int .i64 0, .int .u64 0]) 2 16 Try.underlying22 info25 ls.length (by omega) (by omega)
  have hcp : ∀ ty, (Builtin.copy_ #[22, 22] ty #[.slice (some ⟨w.heap.size, 0, none⟩) ls.length ls.length, .slice A ls.length c]).run Try.prog (w.alloc (.cells (madeCells (Value.agg #[.int .i64 0, .int .u64 0]).cells (ls.length * 2)) 25)) = .ok (goInt ls.length) (w.alloc (.cells (dots2 ls).toArray 25)) := fun ty =>
    run_copy_fresh w 22 22 ty 25 2 ls.length ls.length c A _ 25 (dots2 ls) Try.underlying22 size25 (size_madeCells _ _) (dots2_len _) (fun hp => hv.flat hp) dots2_one'
  obtain ⟨Z, hZ⟩ : ∃ Z, Z = madeCells (Value.agg #[.int .i64 0, .int .u64 0]).cells (ls.length * 2) := ⟨_, rfl⟩
  rw [← hZ] at hmk hcp
  obtain ⟨L, hL⟩ : ∃ L, L = (dots2 ls).toArray := ⟨_, rfl⟩
  rw [← hL] at hcp ⊢
  clear hv hm hZ hL
  go_enter Try.func78, Try.ntmps78
  go_wp2
  go_ret
  exact ⟨rfl, rfl⟩

def setF (zs : List Dt) : List Dt := (sortD zs).take 2000
theorem sortD_len (zs : List Dt) : (sortD zs).length ≤ zs.length := by
  unfold sortD Lib.compact Lib.compactUpTo
  rw [List.length_map]
  refine Nat.le_trans (List.length_filter_le _ _) ?_
  simp

set_option maxRecDepth 100000 in
set_option maxHeartbeats 1000000 in
theorem set_any (gf : Nat) (lb : Array Value) (zs : List Dt) (w : World) (hE : Enters gf) (hS : Yields gf lb zs w.heap.size w) (hm : zs.length ≤ 1000000) :
    Calls Try.prog 75 #[.func (.func gf) #[] lb] w fun e w' => ∃ g, e = .returned (.slice (some ⟨g, 0, none⟩) (setF zs).length (setF zs).length) ∧ w.heap.size ≤ g ∧ w'.heap[g]? = some (.cells (dots2 (setF zs)).toArray 25 (0, 0)) ∧ Below w.heap.size w w' := by
  have HC := Lib.hid (sorted_any gf lb zs w hE hS hm)
  have HM := Lib.hid hm
  clear hE hS hm
  go_enter Try.func75, Try.ntmps75
  go_wp2_with fail
  refine HC.out.mono ?_
  rintro e w1 ⟨A, c, rfl, hD, hc, hb⟩
  have HD := Lib.hid hD
  have HCC := Lib.hid hc
  have HB := Lib.hid hb
  have HL := Lib.hid (sortD_len zs)
  obtain ⟨so, hso⟩ : ∃ so, so = sortD zs := ⟨_, rfl⟩
  have HS : Hid (setF zs = so.take 2000) := Lib.hid (by unfold setF; rw [hso])
  rw [← hso] at HD HCC HL ⊢
  clear hD hc hb HC hso
  have fin : ∀ (r : List Dt) (c' : Nat), r = so.take 2000 → Calls Try.prog 78 #[.slice A r.length c'] w1 fun e w' => e = .returned (.slice (some ⟨w1.heap.size, 0, none⟩) r.length r.length) ∧ w' = w1.alloc (.cells (dots2 r).toArray 25) := fun r c' hr =>
    fresh_any r c' A w1 (by rw [hr]; exact (HD.out.loose fun b h => h.2).cut 2000) (by rw [hr, List.length_take]; have := HL.out; have := HM.out; omega)
  have HF := Lib.hid fin
  clear fin
  have post : ∀ (r : List Dt), r = so.take 2000 → ∃ g, Ending.returned (.slice (some ⟨w1.heap.size, 0, none⟩) r.length r.length) = .returned (.slice (some ⟨g, 0, none⟩) (setF zs).length (setF zs).length) ∧ w.heap.size ≤ g ∧ (w1.alloc (.cells (dots2 r).toArray 25)).heap[g]? = some (.cells (dots2 (setF zs)).toArray 25 (0, 0)) ∧ Below w.heap.size w (w1.alloc (.cells (dots2 r).toArray 25)) := fun r hr =>
    ⟨w1.heap.size, by rw [HS.out, hr], HB.out.size, by rw [HS.out, hr]; exact heap_alloc_new _ _, HB.out.trans ((below1 w1 _).mono HB.out.size)⟩
  have HP := Lib.hid post
  clear post
  obtain ⟨r, hr⟩ : ∃ r, r = so.take 2000 := ⟨_, rfl⟩
  have hmn : (min (so.length : Int) 2000).toNat = r.length := by rw [hr, List.length_take]; omega
  have HMN := Lib.hid hmn
  have HC2 := Lib.hid (fun c' => HF.out r c' hr)
  have HP2 := Lib.hid (HP.out r hr)
  have hci : (min (so.length : Int) 2000) ≤ (c : Int) := by have := HCC.out; omega
  have hc0 : (0 : Int) ≤ min (so.length : Int) 2000 := by omega
  clear hr hmn HF HP
  go_wp2_with fail
  rw [HMN.out]
  refine (HC2.out c).mono ?_
  rintro e w2 ⟨rfl, rfl⟩
  go_wp2_with fail
  go_ret
  exact HP2.out
end Go.Proofs.Ytnpacjdgbmldlaa

/- dots.Of and dots.Join. -/
namespace Go.Proofs.Ytnpacjdgbmldlaa
open Go.RowKit Go.Shelf Go.Lib Go.Sort

theorem enters110 : Enters 110 := enters_of Try.func110 (by kernel_rfl) rfl
theorem right_gives (Kp : Nat → World → World → Prop) (Pre : World → Prop) (Bs n₀ b o c : Nat) (LL : List (List Dt)) (hll : LL.length ≤ 1000) (hm : ∀ ls ∈ LL, ls.length ≤ 1000000) (w : World) (hB : Bs < w.heap.size)
    (hK : ∀ N X Y, Kp N X Y → Lists X n₀ b o LL → Lists Y n₀ b o LL) (hKB : ∀ N X Y, Kp N X Y → Below n₀ X Y)
    (hc : w.cell? ⟨Bs, 0, none⟩ = some (.slice (some ⟨b, o, none⟩) LL.length c)) (hL : Lists w n₀ b o LL) : Gives Try.prog 110 #[.pointer (some ⟨Bs, 0, none⟩)] (fun x : Dt => #[dotV x.1 x.2]) Kp Pre (rts LL) w :=
  fun m h1 l J W hW _ hJ hY h0 =>
    right1_in m h1 l Bs n₀ b o c LL hll hm (Kp W.heap.size) (hK _) (hKB _) J W hJ hY ((hW.cell (p := ⟨Bs, 0, none⟩) hB).trans hc) (hL.grow hW) h0
theorem right_yields (Bs n₀ b o c : Nat) (LL : List (List Dt)) (hll : LL.length ≤ 1000) (hm : ∀ ls ∈ LL, ls.length ≤ 1000000) (w : World) (hB : Bs < w.heap.size) (hb : b < n₀)
    (hc : w.cell? ⟨Bs, 0, none⟩ = some (.slice (some ⟨b, o, none⟩) LL.length c)) (hL : Lists w n₀ b o LL) : Yields 110 #[.pointer (some ⟨Bs, 0, none⟩)] (rts LL) n₀ w :=
  right_gives (KeepB n₀) _ Bs n₀ b o c LL hll hm w hB (fun _ _ _ h hL => hL.below h.below hb) (fun _ _ _ h => h.below) hc hL
set_option maxHeartbeats 400000 in
theorem rightV_any (A : Option Addr) (n c : Nat) (w : World) : Calls Try.prog 72 #[.slice A n c] w fun e w' => e = .returned (.func (.func 110) #[] #[.pointer (some ⟨w.heap.size, 0, none⟩)]) ∧ w' = w.alloc (.cells #[.slice A n c] 149) := by
  go_enter Try.func72, Try.ntmps72
  go_wp2
  go_ret
  exact ⟨rfl, rfl⟩

set_option maxRecDepth 100000 in
set_option maxHeartbeats 1000000 in
theorem dof_any (ls : List Dt) (c : Nat) (A : Option Addr) (w : World) (hv : Dots w (· < w.heap.size) A ls) (hm : ls.length ≤ 1000000) :
    Calls Try.prog 31 #[.slice A ls.length c] w fun e w' => ∃ g, e = .returned (.slice (some ⟨g, 0, none⟩) (setF (rt ls)).length (setF (rt ls)).length) ∧ w.heap.size ≤ g ∧ w'.heap[g]? = some (.cells (dots2 (setF (rt ls))).toArray 25 (0, 0)) ∧ Below w.heap.size w w' := by
  have HV := Lib.hid hv
  have HM := Lib.hid hm
  clear hv hm
  have HR := Lib.hid (fun W => rightV_any (some ⟨w.heap.size, 0, none⟩) 1 1 W)
  go_enter Try.func31, Try.ntmps31
  go_wp2_with fail
  refine (HR.out _).mono ?_
  rintro e w1 ⟨rfl, hw1⟩
  have hs1 : (w.alloc (.cells #[.slice A ls.length c] 22)).heap.size = w.heap.size + 1 := by simp
  have hsz : w1.heap.size = w.heap.size + 2 := by rw [hw1]; simp
  have hB1 : Below w.heap.size w w1 := by rw [hw1]; exact below2 _ _ _
  have hY : Yields 110 #[.pointer (some ⟨w.heap.size + 1, 0, none⟩)] (rts [ls]) w1.heap.size w1 :=
    right_yields _ _ w.heap.size 0 1 [ls] (by simp) (fun l hl => by rw [List.mem_singleton.1 hl]; exact HM.out) w1 (by omega) (by omega)
      (by rw [hw1, ← hs1, cell_of_row _ _ _ _ _ _ (heap_alloc_new _ _)]; rfl)
      ⟨fun i hi => by
        obtain rfl : i = 0 := by simpa using hi
        refine ⟨A, c, ?_, ?_⟩
        · rw [hw1, cell_of_row _ _ _ _ _ _ ((Below.heap_alloc _ _ _ (by simp)).trans (heap_alloc_new _ _))]
          rfl
        · exact (HV.out.below hB1).loose fun b hb => by omega⟩
  have hrt : rts [ls] = rt ls := by simp [rts]
  rw [hrt] at hY
  have HC := Lib.hid (set_any 110 _ (rt ls) w1 enters110 hY (Nat.le_trans (List.length_filter_le _ _) HM.out))
  have HB1 := Lib.hid hB1
  clear hY hw1 hrt hsz hB1 HR hs1
  go_wp2_with fail
  refine HC.out.mono ?_
  rintro e w2 ⟨g, rfl, hg, hr, hb⟩
  have HG := Lib.hid hg
  have HR := Lib.hid hr
  have HB := Lib.hid hb
  clear hg hr hb HC
  go_wp2_with fail
  go_ret
  exact ⟨g, rfl, Nat.le_trans HB1.out.size HG.out, HR.out, HB1.out.trans (HB.out.mono HB1.out.size)⟩
end Go.Proofs.Ytnpacjdgbmldlaa

/- The mathematics of Of: what is sorted and compact is what is inserted dot by dot. -/
namespace Go.Proofs.Ytnpacjdgbmldlaa
open Go.RowKit Go.Shelf Go.Lib Go.Sort

/-- Ahead: by node, then by number. -/
def Lt (a b : Dt) : Prop := Vec.less a.1 a.2 b.1 b.2 = true
theorem lt_iff {a b : Dt} : Lt a b ↔ a.1 < b.1 ∨ (a.1 = b.1 ∧ a.2 < b.2) := by unfold Lt Vec.less; simp
theorem Lt.trans {a b c : Dt} (h : Lt a b) (k : Lt b c) : Lt a c := by rw [lt_iff] at *; omega
theorem Lt.irrefl (a : Dt) : ¬ Lt a a := by rw [lt_iff]; omega
theorem Lt.tri (a b : Dt) : Lt a b ∨ a = b ∨ Lt b a := by
  rw [lt_iff, lt_iff]
  by_cases h1 : a.1 = b.1
  · by_cases h2 : a.2 = b.2
    · exact .inr (.inl (Prod.ext h1 h2))
    · omega
  · omega
/-- Lists that rise strictly, with the same members, are one. -/
theorem rise_unique : ∀ (xs ys : List Dt), xs.Pairwise Lt → ys.Pairwise Lt → (∀ d, d ∈ xs ↔ d ∈ ys) → xs = ys
  | [], ys, _, _, h => by
    cases ys with
    | nil => rfl
    | cons y ys => exact absurd ((h y).2 (by simp)) (by simp)
  | x :: xs, [], _, _, h => absurd ((h x).1 (by simp)) (by simp)
  | x :: xs, y :: ys, hx, hy, h => by
    rw [List.pairwise_cons] at hx hy
    have e : x = y := by
      rcases Lt.tri x y with h1 | h1 | h1
      · have h2 := (h x).1 (by simp)
        rcases List.mem_cons.1 h2 with h3 | h3
        · exact h3
        · exact absurd (h1.trans (hy.1 x h3)) (Lt.irrefl x)
      · exact h1
      · have h2 := (h y).2 (by simp)
        rcases List.mem_cons.1 h2 with h3 | h3
        · exact h3.symm
        · exact absurd (h1.trans (hx.1 y h3)) (Lt.irrefl y)
    subst e
    rw [rise_unique xs ys hx.2 hy.2 fun d => ?_]
    constructor
    · intro hd
      rcases List.mem_cons.1 ((h d).1 (List.mem_cons_of_mem _ hd)) with h3 | h3
      · exact absurd (h3 ▸ hx.1 d hd) (Lt.irrefl x)
      · exact h3
    · intro hd
      rcases List.mem_cons.1 ((h d).2 (List.mem_cons_of_mem _ hd)) with h3 | h3
      · exact absurd (h3 ▸ hy.1 d hd) (Lt.irrefl x)
      · exact h3

theorem compact_rise (d : Array Dt) (hs : ∀ i j, i < j → j < d.size → ¬ Lt d[j]! d[i]!) : ∀ m, m ≤ d.size → (compactUpTo d m).Pairwise Lt ∧ (∀ v, v ∈ compactUpTo d m ↔ ∃ j, j < m ∧ d[j]! = v) ∧ (∀ v ∈ compactUpTo d m, v = d[m - 1]! ∨ Lt v d[m - 1]!)
  | 0, _ => by simp [compactUpTo]
  | m + 1, h => by
    obtain ⟨h1, h2, h3⟩ := compact_rise d hs m (by omega)
    have mem : ∀ v, (∃ j, j < m + 1 ∧ d[j]! = v) ↔ (∃ j, j < m ∧ d[j]! = v) ∨ d[m]! = v := fun v => by
      constructor
      · rintro ⟨j, hj, e⟩
        by_cases ej : j = m
        · exact .inr (ej ▸ e)
        · exact .inl ⟨j, by omega, e⟩
      · rintro (⟨j, hj, e⟩ | e)
        · exact ⟨j, by omega, e⟩
        · exact ⟨m, by omega, e⟩
    rw [compactUpTo_succ, Nat.add_sub_cancel]
    by_cases hk : keeps d m = true
    · rw [if_pos hk]
      have lt : ∀ v ∈ compactUpTo d m, Lt v d[m]! := fun v hv => by
        have hm : m ≠ 0 := fun e => by subst e; simp [compactUpTo] at hv
        have hne : d[m]! ≠ d[m - 1]! := by
          simp only [keeps, decide_eq_true_eq] at hk
          rcases hk with hk | hk
          · exact absurd hk hm
          · exact hk
        have hlt : Lt d[m - 1]! d[m]! := by
          rcases Lt.tri d[m - 1]! d[m]! with e | e | e
          · exact e
          · exact absurd e.symm hne
          · exact absurd e (hs (m - 1) m (by omega) (by omega))
        rcases h3 v hv with e | e
        · rw [e]; exact hlt
        · exact e.trans hlt
      refine ⟨?_, fun v => ?_, fun v hv => ?_⟩
      · rw [List.pairwise_append]
        exact ⟨h1, by simp, fun a ha b hb => by rw [List.mem_singleton.1 hb]; exact lt a ha⟩
      · rw [List.mem_append, List.mem_singleton, h2 v, mem v]
        exact or_congr Iff.rfl eq_comm
      · rcases List.mem_append.1 hv with h4 | h4
        · exact .inr (lt v h4)
        · exact .inl (List.mem_singleton.1 h4)
    · rw [if_neg hk, List.append_nil]
      have he : m ≠ 0 ∧ d[m]! = d[m - 1]! := by
        simp only [keeps, decide_eq_true_eq, not_or, Classical.not_not] at hk
        exact hk
      refine ⟨h1, fun v => ?_, fun v hv => by rw [he.2]; exact h3 v hv⟩
      rw [h2 v, mem v]
      constructor
      · exact .inl
      · rintro (h4 | h4)
        · exact h4
        · exact ⟨m - 1, by omega, by rw [← he.2]; exact h4⟩

theorem sortD_spec (zs : List Dt) : (sortD zs).Pairwise Lt ∧ ∀ v, v ∈ sortD zs ↔ v ∈ zs := by
  obtain ⟨so, hso⟩ : ∃ so, so = zs.mergeSort fun x y => !(ltOf cmpD) y x := ⟨_, rfl⟩
  have hp : so.Pairwise fun a b => (!(ltOf cmpD) b a) = true := by
    rw [hso]
    refine List.pairwise_mergeSort (fun a b c h1 h2 => ?_) (fun a b => ?_) zs
    · rw [ltOf_cmpD] at *
      simp only [Vec.less, Bool.not_eq_true', decide_eq_false_iff_not] at *
      omega
    · rw [ltOf_cmpD, ltOf_cmpD]
      simp only [Vec.less, Bool.or_eq_true, Bool.not_eq_true', decide_eq_false_iff_not]
      omega
  have hs : ∀ i j, i < j → j < so.toArray.size → ¬ Lt so.toArray[j]! so.toArray[i]! := fun i j hij hj => by
    have hj' : j < so.length := by simpa using hj
    have h := List.pairwise_iff_getElem.1 hp i j (by omega) hj' hij
    rw [getElem!_pos so.toArray j hj, getElem!_pos so.toArray i (by omega)]
    rw [ltOf_cmpD] at h
    simp only [Bool.not_eq_true'] at h
    simp only [List.getElem_toArray]
    unfold Lt
    rw [h]
    simp
  obtain ⟨h1, h2, _⟩ := compact_rise so.toArray hs so.length (by simp)
  have he : sortD zs = compactUpTo so.toArray so.length := by unfold sortD Lib.compact; rw [← hso]
  rw [he]
  refine ⟨h1, fun v => ?_⟩
  rw [h2 v, show v ∈ zs ↔ v ∈ so by rw [hso, List.mem_mergeSort]]
  constructor
  · rintro ⟨j, hj, e⟩
    rw [getElem!_pos so.toArray j (by simpa using hj)] at e
    rw [← e]
    simp
  · intro hv
    obtain ⟨j, hj, e⟩ := List.getElem_of_mem hv
    exact ⟨j, hj, by rw [getElem!_pos so.toArray j (by simpa using hj)]; simpa using e⟩

theorem insertF_spec {ls : List Dt} (hp : ls.Pairwise Lt) (d : Dt) : (insertF ls d).Pairwise Lt ∧ ∀ v, v ∈ insertF ls d ↔ v ∈ ls ∨ (v = d ∧ Vec.right d.1 d.2 = true) := by
  unfold insertF
  split
  · next h =>
    obtain ⟨hr, hn⟩ := h
    have hsp := List.takeWhile_append_dropWhile (p := fun x : Dt => Vec.less x.1 x.2 d.1 d.2) (l := ls)
    have hdr : ∀ b ∈ ls.dropWhile (fun x : Dt => Vec.less x.1 x.2 d.1 d.2), Lt d b := by
      have hsuf : (ls.dropWhile (fun x : Dt => Vec.less x.1 x.2 d.1 d.2)).Pairwise Lt := hp.sublist (List.dropWhile_sublist _)
      cases hd : ls.dropWhile (fun x : Dt => Vec.less x.1 x.2 d.1 d.2) with
      | nil => intro b hb; simp at hb
      | cons y ys =>
        have hy : ¬ (Vec.less y.1 y.2 d.1 d.2 = true) := by
          have h1 := List.head_dropWhile_not (fun x : Dt => Vec.less x.1 x.2 d.1 d.2) (l := ls) (by rw [hd]; simp)
          simp only [hd, List.head_cons] at h1
          simp [h1]
        have hym : y ∈ ls := (List.dropWhile_sublist _).subset (by rw [hd]; simp)
        have hdy : Lt d y := by
          rcases Lt.tri d y with e | e | e
          · exact e
          · exact absurd (e ▸ hym) hn
          · exact absurd e hy
        rw [hd, List.pairwise_cons] at hsuf
        intro b hb
        rcases List.mem_cons.1 hb with e | e
        · rw [e]; exact hdy
        · exact hdy.trans (hsuf.1 b e)
    have htk : ∀ a ∈ ls.takeWhile (fun x : Dt => Vec.less x.1 x.2 d.1 d.2), Lt a d := fun a ha => List.all_eq_true.1 (List.all_takeWhile (p := fun x : Dt => Vec.less x.1 x.2 d.1 d.2) (l := ls)) a ha
    constructor
    · rw [List.pairwise_append, List.pairwise_cons]
      refine ⟨hp.sublist (List.takeWhile_sublist _), ⟨hdr, hp.sublist (List.dropWhile_sublist _)⟩, fun a ha b hb => ?_⟩
      rcases List.mem_cons.1 hb with e | e
      · rw [e]; exact htk a ha
      · exact (htk a ha).trans (hdr b e)
    · intro v
      have hm : v ∈ ls ↔ v ∈ ls.takeWhile (fun x : Dt => Vec.less x.1 x.2 d.1 d.2) ∨ v ∈ ls.dropWhile (fun x : Dt => Vec.less x.1 x.2 d.1 d.2) := by
        conv => lhs; rw [← hsp]
        exact List.mem_append
      rw [List.mem_append, List.mem_cons, hm]
      constructor
      · rintro (h1 | h1 | h1)
        · exact .inl (.inl h1)
        · exact .inr ⟨h1, hr⟩
        · exact .inl (.inr h1)
      · rintro ((h1 | h1) | h1)
        · exact .inl h1
        · exact .inr (.inr h1)
        · exact .inr (.inl h1.1)
  · next h =>
    refine ⟨hp, fun v => ⟨.inl, ?_⟩⟩
    rintro (h1 | ⟨rfl, h1⟩)
    · exact h1
    · by_cases hn : v ∈ ls
      · exact hn
      · exact absurd ⟨h1, hn⟩ h
theorem foldl_spec : ∀ (ls acc : List Dt), acc.Pairwise Lt → (ls.foldl insertF acc).Pairwise Lt ∧ ∀ v, v ∈ ls.foldl insertF acc ↔ v ∈ acc ∨ (v ∈ ls ∧ Vec.right v.1 v.2 = true)
  | [], acc, h => ⟨h, fun v => by simp⟩
  | d :: ls, acc, h => by
    obtain ⟨h1, h2⟩ := insertF_spec h d
    obtain ⟨h3, h4⟩ := foldl_spec ls (insertF acc d) h1
    refine ⟨h3, fun v => ?_⟩
    rw [List.foldl_cons, h4 v, h2 v, List.mem_cons]
    constructor
    · rintro ((a | ⟨rfl, b⟩) | ⟨a, b⟩)
      · exact .inl a
      · exact .inr ⟨.inl rfl, b⟩
      · exact .inr ⟨.inr a, b⟩
    · rintro (a | ⟨rfl | a, b⟩)
      · exact .inl (.inl a)
      · exact .inl (.inr ⟨rfl, b⟩)
      · exact .inr ⟨a, b⟩
theorem insAll_spec (ls : List Dt) : (insAll ls).Pairwise Lt ∧ ∀ v, v ∈ insAll ls ↔ v ∈ ls ∧ Vec.right v.1 v.2 = true := by
  obtain ⟨h1, h2⟩ := foldl_spec ls [] (by simp)
  exact ⟨h1, fun v => by rw [insAll, h2 v]; simp⟩
/-- The code's Of is the reference's. -/
theorem setF_rt (ls : List Dt) : setF (rt ls) = ofF ls := by
  obtain ⟨a1, a2⟩ := sortD_spec (rt ls)
  obtain ⟨b1, b2⟩ := insAll_spec ls
  unfold setF ofF
  rw [rise_unique _ _ a1 b1 fun d => ?_]
  rw [a2 d, b2 d]
  unfold rt
  rw [List.mem_filter]
theorem setF_rts (LL : List (List Dt)) : setF (rts LL) = ofF LL.flatten := by
  rw [← setF_rt]
  congr 1
  unfold rts rt
  rw [List.flatMap_def, List.filter_flatten]
end Go.Proofs.Ytnpacjdgbmldlaa

/- Numbers as bytes; bytes that are the call's own. -/
namespace Go.Proofs.Ytnpacjdgbmldlaa.Wr
open Go.RowKit
/-- The bytes of a number, the greatest first; f is fuel. -/
def beF : Nat → Nat → List Nat
  | 0, _ => []
  | f + 1, n => if n = 0 then [] else beF f (n / 256) ++ [n % 256]
def be (n : Nat) : List Nat := beF 8 n
/-- A number as it is written. -/
def numB (n : Nat) : List Nat := (be n).length :: be n
theorem beF_fuel : ∀ (f n : Nat), n < 256 ^ f → ∀ g, f ≤ g → beF g n = beF f n
  | 0, n, h, g, _ => by
    have : n = 0 := by simpa using h
    subst this
    cases g <;> simp [beF]
  | f + 1, n, h, g, hg => by
    obtain ⟨k, rfl⟩ : ∃ k, g = k + 1 := ⟨g - 1, by omega⟩
    unfold beF
    by_cases h0 : n = 0
    · rw [if_pos h0, if_pos h0]
    · rw [if_neg h0, if_neg h0, beF_fuel f (n / 256) (by rw [Nat.pow_succ] at h; exact Nat.div_lt_of_lt_mul (by omega)) k (by omega)]
theorem be_zero : be 0 = [] := rfl
theorem be_step (n : Nat) (h0 : n ≠ 0) (h : n < 18446744073709551616) : be n = be (n / 256) ++ [n % 256] := by
  unfold be
  rw [show (8 : Nat) = 7 + 1 from rfl, beF, if_neg h0, beF_fuel 7 (n / 256) (by omega) (7 + 1) (by omega)]
theorem be_lt (n : Nat) : ∀ f, ∀ x ∈ beF f n, x < 256 := by
  intro f
  induction f generalizing n with
  | zero => intro x hx; cases hx
  | succ f ih =>
    intro x hx
    unfold beF at hx
    split at hx
    · cases hx
    · rcases List.mem_append.1 hx with h | h
      · exact ih _ x h
      · rw [List.mem_singleton] at h
        omega
theorem be_length_le (n : Nat) : ∀ f, (beF f n).length ≤ f := by
  intro f
  induction f generalizing n with
  | zero => exact Nat.le_refl _
  | succ f ih =>
    unfold beF
    split
    · exact Nat.zero_le _
    · rw [List.length_append]
      have := ih (n / 256)
      simp only [List.length_cons, List.length_nil]
      omega
theorem numB_lt (n : Nat) : ∀ x ∈ numB n, x < 256 := by
  intro x hx
  rcases List.mem_cons.1 hx with rfl | h
  · have := be_length_le n 8
    unfold be
    omega
  · exact be_lt n 8 x h
theorem be_len8 (n : Nat) : (be n).length ≤ 8 := be_length_le n 8
/-- How many bytes: by the bits. -/
theorem be_length : ∀ n, n < 18446744073709551616 → (be n).length = (Lib.bitLen n + 7) / 8 := by
  intro n
  induction n using Nat.strongRecOn with
  | _ n ih =>
    intro h
    by_cases h0 : n = 0
    · subst h0; rfl
    · rw [be_step n h0 h, List.length_append, ih (n / 256) (by omega) (by omega)]
      by_cases hs : n < 256
      · have e : n / 256 = 0 := by omega
        have l := Lib.bitLen_le8 ⟨n, hs⟩
        have p : 0 < Lib.bitLen n := by rw [Lib.bitLen_half n h0 (by omega)]; omega
        simp only at l
        rw [e, show Lib.bitLen 0 = 0 from rfl]
        simp only [List.length_cons, List.length_nil]
        omega
      · rw [Lib.bitLen_shift8 n (by omega) h]
        simp only [List.length_cons, List.length_nil]
        omega
theorem take_snoc {α : Type} (l : List α) (x : α) : (l ++ [x]).take l.length = l := by simp
/-- What stands ahead of the last m bytes. -/
theorem be_take : ∀ (m n : Nat), n < 18446744073709551616 → m ≤ (be n).length → (be n).take ((be n).length - m) = be (n / 256 ^ m)
  | 0, n, _, _ => by simp
  | m + 1, n, h, hm => by
    have h0 : n ≠ 0 := by
      rintro rfl
      rw [be_zero] at hm
      simp at hm
    rw [be_step n h0 h] at hm ⊢
    rw [List.length_append] at hm ⊢
    simp only [List.length_cons, List.length_nil] at hm ⊢
    rw [List.take_append_of_le_length (by omega), show (be (n / 256)).length + (0 + 1) - (m + 1) = (be (n / 256)).length - m by omega, be_take m (n / 256) (by omega) (by omega), Nat.div_div_eq_div_mul, Nat.pow_succ, Nat.mul_comm 256]
/-- The byte that stands m behind the last. -/
theorem be_get (m n : Nat) (h : n < 18446744073709551616) (hm : m < (be n).length) : (be n).getD ((be n).length - 1 - m) 0 = n / 256 ^ m % 256 := by
  have h1 := be_take m n h (by omega)
  have h0 : n / 256 ^ m ≠ 0 := by
    intro e
    rw [e, be_zero] at h1
    have := congrArg List.length h1
    rw [List.length_take, List.length_nil] at this
    omega
  have h2 : n / 256 ^ m < 18446744073709551616 := Nat.lt_of_le_of_lt (Nat.div_le_self _ _) h
  rw [be_step _ h0 h2] at h1
  have h3 : ((be n).take ((be n).length - m))[(be n).length - 1 - m]? = some (n / 256 ^ m % 256) := by
    rw [h1, List.getElem?_append_right]
    · have hl := congrArg List.length h1
      rw [List.length_take, List.length_append] at hl
      simp only [List.length_cons, List.length_nil] at hl
      rw [show (be n).length - 1 - m - (be (n / 256 ^ m / 256)).length = 0 by omega]
      rfl
    · have hl := congrArg List.length h1
      rw [List.length_take, List.length_append] at hl
      simp only [List.length_cons, List.length_nil] at hl
      omega
  rw [List.getElem?_take, if_pos (by omega)] at h3
  rw [List.getD_eq_getElem?_getD, h3]
  rfl
def ints8 (xs : List Nat) : List Value := xs.map fun x => .int .u8 ((x : Nat) : Int)
theorem info5 : (Try.prog.info? 5).map (fun i => (i.zero, i.size, i.bytes)) = some (some (.int .u8 0), 1, 1) := by kernel_rfl
theorem ints8_length (xs : List Nat) : (ints8 xs).length = xs.length := by simp [ints8]
theorem ints8_append (xs ys : List Nat) : ints8 (xs ++ ys) = ints8 xs ++ ints8 ys := by simp [ints8]
theorem owns_empty (w : World) : (w.alloc (.cells #[] 5)).ownsRow w.heap.size 5 1 (.slice (some ⟨w.heap.size, 0, none⟩) 0 0) 0 [] :=
  ⟨rfl, .inr ⟨w.heap.size, 0, #[], rfl, Nat.le_refl _, heap_alloc_new _ _, Nat.le_refl _, Nat.zero_le _, rfl, rfl⟩⟩
theorem wpList_append_one {P : Program} {w : World} {ops : Array Oper} {rest : List Oper} {o : Oper} {a : Act} {Q : Exit → Act → World → Prop} (hgd : o.guard = none) (s x : Operand) (t : TypeId)
    (ho : o.op = .call { callee := .builtin .append, args := #[s, x], argTypes := #[t, t] }) (base : Nat) (e : TypeId) (z : Value) (bytes : Nat) (ht : P.underlying t = some (.slice e))
    (hinfo : (P.info? e).map (fun i => (i.zero, i.size, i.bytes)) = some (some z, 1, bytes)) (hzs : z.cells.size = 1)
    (v : Value) (n : Nat) (xs : List Value) (hs : a.eval s = v) (hown : w.ownsRow base e 1 v n xs) (u : Value) (te : TypeId)
    (hx : a.eval x = .slice (some ⟨w.heap.size, 0, none⟩) 1 1) (h1 : u.oneCell' = true) (h63 : n + 1 ≤ maxLen) (hbytes : (n + 1) * bytes ≤ 140737488355328) (hbase : base ≤ w.heap.size)
    (h : ∀ v' w', Hid (w'.ownsRow base e 1 v' (n + 1) (xs ++ [u])) → Hid (Below base w w') → wpList P ops Q rest (a.put o.dst v') w') : wpList P ops Q (o :: rest) a (w.alloc (.cells #[u] te)) := by
  obtain ⟨i, hi, hz, hsz, hby⟩ := info_parts hinfo
  refine wpList_append_own _ hgd s x t ho base e i z 1 bytes ht hi hz hsz hby hzs (by decide) v n xs hs (hown.alloc _) ⟨w.heap.size, 0, none⟩ 1 1 [u] hx rfl (cell_one_new _ _ _) (fun y hy => ?_) h63 hbytes (by rw [World.size_alloc]; omega) ?_
  · rw [List.mem_singleton] at hy
    subst hy
    exact h1
  · intro v' w' hown' hg _
    refine h v' w' hown' ((Below.alloc (Below.refl base w) hbase _).grown hg (by rw [World.size_alloc]; omega) fun k hk => ?_)
    exact ((hown.alloc (.cells #[u] te)).lt k hk).1

theorem wpList_append_bytes {w : World} {ops : Array Oper} {rest : List Oper} {o : Oper} {a : Act} {Q : Exit → Act → World → Prop} (hgd : o.guard = none) (s x : Operand)
    (ho : o.op = .call { callee := .builtin .append, args := #[s, x], argTypes := #[94, 94] }) (base : Nat)
    (v : Value) (n : Nat) (ys : List Nat) (hs : a.eval s = v) (hown : w.ownsRow base 5 1 v n (ints8 ys)) (A : Option Addr) (xs : List Nat) (c : Nat) (ok : Nat → Prop)
    (hx : a.eval x = .slice A xs.length c) (hb : Bytes w ok A xs) (hn : A = none → c = 0) (h63 : n + xs.length ≤ 1000000) (hbase : base ≤ w.heap.size)
    (h : ∀ v' w', Hid (w'.ownsRow base 5 1 v' (n + xs.length) (ints8 (ys ++ xs))) → Hid (Below base w w') → wpList Try.prog ops Q rest (a.put o.dst v') w') : wpList Try.prog ops Q (o :: rest) a w := by
  obtain ⟨i, hi, hz, hsz, hby⟩ := info_parts info5
  cases A with
  | none =>
    have h0 : xs = [] := by
      cases xs with
      | nil => rfl
      | cons y ys =>
        obtain ⟨b, o, e, _⟩ := hb.at_ (by simp)
        cases e
    subst h0
    have hc := hn rfl
    subst hc
    exact wpList_append_own_none hgd s x 94 ho base 5 i 1 Try.underlying94 hi v n (ints8 ys) hs hown hx (h v w (show w.ownsRow _ _ _ _ _ _ by simpa using hown) (Below.refl _ _))
  | some ad =>
    refine wpList_append_own _ hgd s x 94 ho base 5 i (.int .u8 0) 1 1 Try.underlying94 hi hz hsz hby rfl (by decide) v n (ints8 ys) hs hown ad xs.length c (ints8 xs) hx (by rw [ints8_length]; omega) (fun j u hu => ?_) (fun u hu => ?_) (by unfold maxLen; omega) (by omega) hbase ?_
    · have hj : j < xs.length := by
        have := (List.getElem?_eq_some_iff.1 hu).1
        rwa [ints8_length] at this
      obtain ⟨b, o, e, _, hc⟩ := hb.at_ (by omega)
      cases e
      rw [Go.WideShapes.add_plain, hc j hj]
      simp only [ints8, List.getElem?_map, List.getElem?_eq_getElem hj, Option.map_some] at hu
      rw [← hu]
      simp [List.getD_eq_getElem?_getD, hj]
    · simp only [ints8, List.mem_map] at hu
      obtain ⟨y, _, rfl⟩ := hu
      rfl
    · intro v' w' h1 h2 _
      refine h v' w' (by rw [ints8_append]; exact h1) ((Below.refl base w).grown h2 hbase fun k hk => ?_)
      exact (hown.lt k hk).1
theorem wpList_append_byte1 {w : World} {ops : Array Oper} {rest : List Oper} {o : Oper} {a : Act} {Q : Exit → Act → World → Prop} (hgd : o.guard = none) (s x : Operand)
    (ho : o.op = .call { callee := .builtin .append, args := #[s, x], argTypes := #[94, 94] }) (base : Nat)
    (v : Value) (n : Nat) (ys : List Nat) (hs : a.eval s = v) (hown : w.ownsRow base 5 1 v n (ints8 ys)) (y : Nat) (u : Int)
    (hx : a.eval x = .slice (some ⟨w.heap.size, 0, none⟩) 1 1) (hy : u = (y : Int)) (h63 : n ≤ 1000000) (hbase : base ≤ w.heap.size)
    (h : ∀ v' w', Hid (w'.ownsRow base 5 1 v' (n + 1) (ints8 (ys ++ [y]))) → Hid (Below base w w') → wpList Try.prog ops Q rest (a.put o.dst v') w') : wpList Try.prog ops Q (o :: rest) a (w.alloc (.cells #[.int .u8 u] 5)) := by
  subst hy
  refine wpList_append_one hgd s x 94 ho base 5 (.int .u8 0) 1 Try.underlying94 info5 rfl v n (ints8 ys) hs hown (.int .u8 (y : Int)) 5 hx rfl (by unfold maxLen; omega) (by omega) hbase fun v' w' h1 h2 => h v' w' ?_ h2
  rw [ints8_append]
  exact h1
theorem owns_slice {w : World} {base : Nat} {e : TypeId} {v : Value} {n : Nat} {l : List Value} (h : w.ownsRow base e 1 v n l) (hn : 0 < n) : ∃ g cap, v = .slice (some ⟨g, 0, none⟩) n cap := by
  rcases h.2 with ⟨_, h0⟩ | ⟨g, cap, _, hv, _⟩
  · omega
  · exact ⟨g, cap, hv⟩
theorem own_cell {w : World} {base : Nat} {g N cap : Nat} {P : List Nat} (h : w.ownsRow base 5 1 (.slice (some ⟨g, 0, none⟩) N cap) N (ints8 P)) {i : Nat} (hi : i < P.length) : w.cell? ⟨g, i, none⟩ = some (.int .u8 ((P.getD i 0 : Nat) : Int)) := by
  have hl := h.1
  rw [ints8_length] at hl
  rcases h.2 with ⟨hv, _⟩ | ⟨g', cap', cur, hv, _, hg, _, _, _, ht⟩
  · cases hv
  · injection hv with hv _ _
    injection hv with hv
    injection hv with hv
    subst hv
    have hi' : i < N * 1 := by omega
    have h1 : cur[i]? = some (.int .u8 ((P.getD i 0 : Nat) : Int)) := by
      have h2 : (cur.toList.take (N * 1))[i]? = (ints8 P)[i]? := by rw [ht]
      rw [List.getElem?_take, if_pos hi'] at h2
      rw [← Array.getElem?_toList, h2]
      simp [ints8, List.getD_eq_getElem?_getD, hi]
    rw [cell_of_row _ _ _ _ _ _ hg, h1]
theorem own_keep {a b : World} {base : Nat} {e : TypeId} {v : Value} {n : Nat} {l : List Value} (h : a.ownsRow base e 1 v n l) (hk : ∀ k, base ≤ k → k < a.heap.size → b.heap[k]? = a.heap[k]?) : b.ownsRow base e 1 v n l := by
  refine ⟨h.1, ?_⟩
  rcases h.2 with h0 | ⟨g, cap, cur, hv, hb, hg, hr⟩
  · exact .inl h0
  · refine .inr ⟨g, cap, cur, hv, hb, ?_, hr⟩
    have hlt : g < a.heap.size := by
      rcases Nat.lt_or_ge g a.heap.size with h1 | h1
      · exact h1
      · rw [Array.getElem?_eq_none h1] at hg
        cases hg
    rw [hk g hb hlt]
    exact hg
theorem own_bytes {w : World} {base : Nat} {v : Value} {n : Nat} {zs : List Nat} (h : w.ownsRow base 5 1 v n (ints8 zs)) (hz : ∀ z, z ∈ zs → z < 256) :
    ∃ A c, v = .slice A zs.length c ∧ (A = none → c = 0) ∧ Bytes w (· < w.heap.size) A zs := by
  have hl := h.1
  rw [ints8_length] at hl
  have hn : n = zs.length := by omega
  subst hn
  rcases h.2 with ⟨hv, h0⟩ | ⟨g, cap, cur, hv, _, hg, _⟩
  · refine ⟨none, 0, by rw [hv, h0], fun _ => rfl, hz, fun hp => by omega⟩
  · refine ⟨some ⟨g, 0, none⟩, cap, hv, (fun e => by cases e), hz, fun hp => ⟨g, 0, rfl, ?_, fun j hj => ?_⟩⟩
    · rcases Nat.lt_or_ge g w.heap.size with h1 | h1
      · exact h1
      · rw [Array.getElem?_eq_none h1] at hg
        cases hg
    · rw [Nat.zero_add]
      rw [hv] at h
      exact own_cell h hj
theorem run_sliceAt_to {P : Program} (t e : TypeId) (hu : P.underlying t = some (.slice e)) (hs : (P.info? e).map (·.size) = some 1) (A : Option Addr) (n c k : Nat) (hk : k ≤ c) (w : World) :
    (Instr.sliceAt t (.slice A n c) none (some (.int .i64 (k : Int))) none).run P w = .ok (.slice A k c) w := by
  have h : (Instr.slice t (.slice A n c) none (some (.int .i64 (k : Int))) none).run P w = .ok (.slice A k c) w := by
    cases hq : P.info? e with
    | none => simp [hq] at hs
    | some i =>
      have hi : i.size = 1 := by simpa [hq] using hs
      have ha : A.map (fun a : Addr => a.add 0) = A := by cases A <;> simp [Addr.add]
      simp [Instr.slice, Instr.sliceBounds, Instr.sliceBound, asIntOf, Sem.run_bind, run_underlying hu w, sizeOf, typeInfo, hq, hi, hk, Result.andThen, ha]
  simp only [Instr.sliceAt, Sem.run_bind, run_underlying hu w, Result.andThen, h]
theorem then2 {w x y : World} (h : Below w.heap.size w x) (hb : Below x.heap.size x y) : Below w.heap.size w y := h.trans (hb.mono h.size)
theorem owns_one (w : World) (y : Nat) {base : Nat} (hb : base ≤ w.heap.size) : (w.alloc (.cells #[.int .u8 (y : Int)] 5)).ownsRow base 5 1 (.slice (some ⟨w.heap.size, 0, none⟩) 1 1) 1 (ints8 [y]) :=
  ⟨rfl, .inr ⟨w.heap.size, 1, _, rfl, hb, heap_alloc_new _ _, Nat.le_refl _, by unfold maxLen; omega, rfl, rfl⟩⟩

theorem size5 : (Try.prog.info? 5).map (·.size) = some 1 := by kernel_rfl
theorem bytes_cells {w : World} {ok : Nat → Prop} {ad : Addr} {xs : List Nat} (h : Bytes w ok (some ad) xs) (hp : 0 < xs.length) : ∀ j v, (ints8 xs)[j]? = some v → w.cell? (ad.add j) = some v := fun j v hv => by
  obtain ⟨b, o, e, _, hc⟩ := h.at_ hp
  injection e with e
  subst e
  have hj : j < xs.length := by
    have := (List.getElem?_eq_some_iff.1 hv).1
    rwa [ints8_length] at this
  rw [Go.WideShapes.add_plain, hc j hj]
  simp only [ints8, List.getElem?_map, List.getElem?_eq_getElem hj, Option.map_some] at hv
  rw [← hv]
  simp [List.getD_eq_getElem?_getD, hj]
theorem ints8_one (xs : List Nat) : ∀ v ∈ ints8 xs, v.oneCell' = true := fun v hv => by
  simp only [ints8, List.mem_map] at hv
  obtain ⟨y, _, rfl⟩ := hv
  rfl

theorem full_cells {w : World} {base g n : Nat} {l : List Value} (h : w.ownsRow base 5 1 (.slice (some ⟨g, 0, none⟩) n n) n l) : ∃ cur, Hid (w.heap[g]? = some (.cells cur 5 (0, 0))) ∧ Hid (cur.size = n) := by
  rcases h.2 with ⟨hv, _⟩ | ⟨g', cap, cur, hv, _, hg, _, _, hcs, _⟩
  · cases hv
  injection hv with hv1 _ hv2
  injection hv1 with hv1
  injection hv1 with hv1
  subst hv1 hv2
  exact ⟨cur, hg, by show _ = _; omega⟩
set_option maxHeartbeats 1000000 in
theorem fresh_any (xs : List Nat) (c : Nat) (A : Option Addr) (w : World) (hx : Bytes w (· < w.heap.size) A xs) (hs : xs.length ≤ 1000000) :
    Calls Try.prog 108 #[.slice A xs.length c] w fun e w' => ∃ v, e = .returned v ∧ w'.ownsRow w.heap.size 5 1 v xs.length (ints8 xs) ∧ Below w.heap.size w w' := by
  have HX := Lib.hid hx
  clear hx
  obtain ⟨i, hi, hz, hsz, hby⟩ := info_parts info5
  have HI := Lib.hid hi
  have HZ := Lib.hid hz
  have HS := Lib.hid hsz
  have HBY := Lib.hid hby
  clear hi hz hsz hby
  obtain ⟨n, hn⟩ : ∃ n, n = xs.length := ⟨_, rfl⟩
  have b2 : Hid (i.bytes * n ≤ 281474976710656) := by show _ ≤ _; rw [HBY.out]; omega
  have b3 : Hid (n ≤ maxLen) := by show n ≤ maxLen; unfold maxLen; omega
  rw [← hn] at hs ⊢
  have HN := Lib.hid hn
  clear hn
  have HL : Hid (∀ w1 : World, w.grownBy w1 none → Below w.heap.size w w1) := fun _ h => (Below.refl _ _).grown h (Nat.le_refl _) (fun k hk => by cases hk)
  by_cases h0 : n = 0
  · subst h0
    go_enter Try.func108, Try.ntmps108
    go_wp2_with (first
      | (refine wpList_make_full _ rfl (.tmp 5) (.tmp 5) 94 rfl w.heap.size 5 i _ 1 Try.underlying94 HI.out HZ.out HS.out .i64 .i64 _ _ 0 rfl rfl rfl rfl b2.out b3.out (Nat.le_refl _) ?_; intro w1 ho1 hg1; obtain ⟨cur, HC, HSZ⟩ := full_cells ho1; have HB1 := Lib.hid (HL.out _ hg1); clear ho1 hg1)
      | (refine wpList_copy_nothing rfl (.tmp 7) (.tmp 8) 94 94 rfl 5 Try.underlying94 size5 _ _ _ _ _ _ rfl rfl rfl ?_))
    go_ret
    have hxs : xs = [] := List.length_eq_zero_iff.1 HN.out.symm
    subst hxs
    exact ⟨_, rfl, ⟨rfl, .inr ⟨w.heap.size, 0, cur, rfl, Nat.le_refl _, HC.out, Nat.le_refl _, Nat.zero_le _, by simpa using HSZ.out, rfl⟩⟩, HB1.out⟩
  · obtain ⟨b, o, hA, _, _⟩ := HX.out.at_ (by have := HN.out; omega)
    subst hA
    have hone := Lib.hid (ints8_one xs)
    have hlen : Hid ((ints8 xs).length = Nat.min n n) := by show _ = _; rw [ints8_length, HN.out]; exact (Nat.min_self _).symm
    go_enter Try.func108, Try.ntmps108
    go_wp2_with (first
      | (refine wpList_make_full _ rfl (.tmp 5) (.tmp 5) 94 rfl w.heap.size 5 i _ 1 Try.underlying94 HI.out HZ.out HS.out .i64 .i64 _ _ n rfl rfl rfl rfl b2.out b3.out (Nat.le_refl _) ?_; intro w1 ho1 hg1; obtain ⟨cur, HC, HSZ⟩ := full_cells ho1; have HB1 := Lib.hid (HL.out _ hg1); clear ho1 hg1; have hfit : Hid (0 + (ints8 xs).length ≤ cur.size) := (by show _ ≤ _; rw [ints8_length, HSZ.out, HN.out]; omega); have HCL := Lib.hid (bytes_cells (HX.out.below HB1.out) (by have := HN.out; omega)))
      | (refine wpList_copy_own rfl (.tmp 7) (.tmp 8) 94 94 rfl 5 Try.underlying94 size5 w.heap.size 0 n n ⟨b, o, none⟩ n c rfl rfl cur 5 HC.out (ints8 xs) hlen.out HCL.out hfit.out hone.out ?_))
    go_ret
    have hN := HN.out
    have hS := HSZ.out
    refine ⟨_, rfl, ?_, below_setRow' HB1.out (Nat.le_refl _) _⟩
    have e : ints8 xs ++ cur.toList.drop (ints8 xs).length = ints8 xs := by
      rw [List.drop_eq_nil_of_le (by rw [ints8_length]; simp; omega), List.append_nil]
    rw [e]
    refine ⟨by rw [ints8_length]; omega, .inr ⟨w.heap.size, n, (ints8 xs).toArray, rfl, Nat.le_refl _, setRow_heap _ _ _ _ _ _ HC.out, by omega, by unfold maxLen; omega, by simp [ints8_length]; omega, ?_⟩⟩
    rw [List.take_of_length_le (by simp [ints8_length]; omega)]

theorem own_weak {w : World} {b B : Nat} {v : Value} {n : Nat} {l : List Value} (h : w.ownsRow B 5 1 v n l) (hb : b ≤ B) : w.ownsRow b 5 1 v n l :=
  ⟨h.1, h.2.imp id fun ⟨g, cap, cur, h1, h2, h3⟩ => ⟨g, cap, cur, h1, Nat.le_trans hb h2, h3⟩⟩
end Go.Proofs.Ytnpacjdgbmldlaa.Wr

/- Appending, and what stays of the rows that were; what insert asks of mathematics. -/
namespace Go.Proofs.Ytnpacjdgbmldlaa
open Go.RowKit

/-- Rows of p dots stay, and blocks of two cells stay. -/
structure RI (B p j : Nat) (x y : World) : Prop where
  low : Below B x y
  all : j ≠ 7 → Below x.heap.size x y
  rows : ∀ (v : Value) (xs : List Value), x.ownsRow B 35 2 v p xs → y.ownsRow B 35 2 v p xs
  two : ∀ (k : Nat) (cs : Array Value), x.heap[k]? = some (Obj.cells cs 35 (0, 0)) → cs.size = 2 → y.heap[k]? = x.heap[k]?
theorem RI.of {B p j : Nat} {x y : World} (hB : B ≤ x.heap.size) (h : Below x.heap.size x y) : RI B p j x y :=
  ⟨h.mono hB, fun _ => h, fun _ _ ho => own_keep ho fun k _ hk => h.block k hk, fun k _ hk _ => h.block k (lt_of_row hk)⟩
theorem append_kept {P : Program} {x : World} {B p : Nat} (t ty : TypeId) (i : TypeInfo) (z : Value) (ht : P.underlying t = some (.slice 35)) (hi : P.info? 35 = some i) (hz : i.zero = some z) (hsize : i.size = 2) (hzs : z.cells.size = 2)
    (v : Value) (xs : List Value) (hown : x.ownsRow B 35 2 v p xs) (ad : Addr) (c : Nat) (d : Dt) (hnews : ∀ j u, (dcells d)[j]? = some u → x.cell? (ad.add j) = some u)
    (h63 : p + 1 ≤ maxLen) (hbytes : (p + 1) * i.bytes ≤ 140737488355328) (hB : B ≤ x.heap.size) (hp : p = 0 → v = .slice none 0 0) :
    ∃ v' w', (Builtin.append_ #[t, t] ty #[v, .slice (some ad) 1 c]).run P x = .ok v' w' ∧ w'.ownsRow B 35 2 v' (p + 1) (xs ++ dcells d) ∧ RI B p 7 x w' := by
  have h1 : ∀ u ∈ dcells d, u.oneCell' = true := fun y hy => by
    simp only [dcells, List.mem_cons, List.mem_nil_iff, or_false] at hy
    rcases hy with rfl | rfl <;> rfl
  obtain ⟨v', w', hr, h2, h3, _⟩ := run_append_own (P := P) x B t ty 35 i z 2 i.bytes ht hi hz hsize rfl hzs (by decide) v p xs hown ad 1 c (dcells d) rfl hnews h1 h63 hbytes hB
  have hlow : Below B x w' := (Below.refl B x).grown h3 hB fun k hk => (hown.lt k hk).1
  refine ⟨v', w', hr, h2, ?_⟩
  have fresh : (∀ k, k < x.heap.size → w'.heap[k]? = x.heap[k]?) → RI B p 7 x w' := fun h => ⟨hlow, fun e => absurd rfl e, fun _ _ ho => own_keep ho fun k _ hk => h k hk, fun k _ hk _ => h k (lt_of_row hk)⟩
  have hown' := hown
  rcases hown.2 with ⟨rfl, _⟩ | ⟨g, cap, cur, rfl, hbg, hg, hnc, hcm, hcs, htake⟩
  · exact fresh fun k hk => h3.block k hk (by simp [Value.ownBlock])
  · by_cases hroom : p + 1 ≤ cap
    · have hfit : p * i.size + (dcells d).length ≤ cur.size := by rw [hsize, hcs]; simp only [dcells, List.length_cons, List.length_nil]; omega
      have hr2 := run_append_room (P := P) x t ty 35 i ht hi g p cap cur hg ad 1 c (dcells d) (by rw [hsize]; rfl) hnews h1 hroom hfit
      rw [hr] at hr2
      injection hr2 with e1 e2
      have hne : ∀ k, k ≠ g → w'.heap[k]? = x.heap[k]? := fun k hk => by rw [e2]; exact setRow_other _ _ _ _ hk
      have hat : w'.heap[g]? = some (.cells (cur.toList.take (p * i.size) ++ dcells d ++ cur.toList.drop (p * i.size + (dcells d).length)).toArray 35 (0, 0)) := by rw [e2]; exact setRow_heap _ _ _ _ _ _ hg
      refine ⟨hlow, fun e => absurd rfl e, fun v2 xs2 ho => ?_, fun k cs hk h2 => ?_⟩
      · refine ⟨ho.1, ?_⟩
        rcases ho.2 with hn | ⟨g2, cap2, cur2, e, hb2, hg2, hn2, hm2, hc2, ht2⟩
        · exact .inl hn
        · by_cases eg : g2 = g
          · subst eg
            rw [hg] at hg2
            injection hg2 with hg2
            injection hg2 with hg2
            subst hg2
            refine .inr ⟨g2, cap2, _, e, hb2, hat, hn2, hm2, ?_, ?_⟩
            · simp only [List.size_toArray, List.length_append, List.length_take, List.length_drop, Array.length_toList]
              rw [← hc2]
              omega
            · simp only [List.append_assoc]
              rw [hsize, List.take_append_of_le_length (by rw [List.length_take, Array.length_toList]; omega), List.take_take, Nat.min_self]
              exact ht2
          · exact .inr ⟨g2, cap2, cur2, e, hb2, (hne g2 eg).trans hg2, hn2, hm2, hc2, ht2⟩
      · refine hne k fun e => ?_
        subst e
        rw [hg] at hk
        injection hk with hk
        injection hk with hk
        subst hk
        have hp0 : p ≠ 0 := fun e => by have := hp e; cases this
        omega
    · have holds : ∀ j u, xs[j]? = some u → x.cell? ((⟨g, 0, none⟩ : Addr).add j) = some u := hown'.cells (g := g) rfl
      have hr2 := run_append_grow (P := P) x t ty 35 i z ht hi hz ⟨g, 0, none⟩ p cap xs (by rw [hsize]; exact hown'.1) holds ad 1 c (dcells d) (by rw [hsize]; rfl) hnews (by omega) (by unfold maxLen at h63; omega) (growslice_fits (by omega) hbytes)
      rw [hr] at hr2
      injection hr2 with e1 e2
      exact fresh fun k hk => by rw [e2]; exact heap_alloc_old x.drew _ hk
theorem tw_facts (f : Dt → Bool) : ∀ ls : List Dt, (∀ i, i < (ls.takeWhile f).length → f (ls.getD i (0, 0)) = true) ∧ ((ls.takeWhile f).length < ls.length → f (ls.getD (ls.takeWhile f).length (0, 0)) = false) ∧ ls.take (ls.takeWhile f).length = ls.takeWhile f ∧ ls.drop (ls.takeWhile f).length = ls.dropWhile f
  | [] => by simp
  | x :: ls => by
    obtain ⟨h1, h2, h3, h4⟩ := tw_facts f ls
    by_cases hx : f x = true
    · rw [List.takeWhile_cons_of_pos hx, List.dropWhile_cons_of_pos hx]
      refine ⟨fun i hi => ?_, fun h => ?_, ?_, ?_⟩
      · cases i with
        | zero => exact hx
        | succ i => exact h1 i (by simpa using hi)
      · exact h2 (by simpa using h)
      · rw [List.length_cons, List.take_succ_cons, h3]
      · rw [List.length_cons, List.drop_succ_cons, h4]
    · rw [List.takeWhile_cons_of_neg hx, List.dropWhile_cons_of_neg hx]
      refine ⟨fun i hi => absurd hi (by simp), fun _ => ?_, rfl, rfl⟩
      exact Bool.eq_false_iff.2 hx
theorem tw_le (f : Dt → Bool) : ∀ ls : List Dt, (ls.takeWhile f).length ≤ ls.length
  | [] => by simp
  | x :: ls => by
    by_cases hx : f x = true
    · rw [List.takeWhile_cons_of_pos hx, List.length_cons, List.length_cons]; exact Nat.succ_le_succ (tw_le f ls)
    · rw [List.takeWhile_cons_of_neg hx]; simp
/-- `s[k:]` and `s[:k]` of slices whose elements have several cells. -/
def cutA2 (A : Option Addr) (cap k : Nat) : Option Addr := if cap = k then A else A.map (·.add (k * 2))
theorem run_sliceAt_from2 {P : Program} (t e : TypeId) (hu : P.underlying t = some (.slice e)) (hs : (P.info? e).map (·.size) = some 2) (A : Option Addr) (n c k : Nat) (hk : k ≤ n) (w : World) :
    (Instr.sliceAt t (.slice A n c) (some (.int .i64 (k : Int))) none none).run P w = .ok (.slice (cutA2 A c k) (n - k) (c - k)) w := by
  have h : (Instr.slice t (.slice A n c) (some (.int .i64 (k : Int))) none none).run P w = .ok (.slice (cutA2 A c k) (n - k) (c - k)) w := by
    cases hq : P.info? e with
    | none => simp [hq] at hs
    | some i =>
      have hi : i.size = 2 := by simpa [hq] using hs
      simp [Instr.slice, Instr.sliceBounds, Instr.sliceBound, asIntOf, Sem.run_bind, run_underlying hu w, sizeOf, typeInfo, hq, hi, hk, cutA2, Result.andThen]
  simp only [Instr.sliceAt, Sem.run_bind, run_underlying hu w, Result.andThen, h]
theorem run_sliceAt_to2 {P : Program} (t e : TypeId) (hu : P.underlying t = some (.slice e)) (hs : (P.info? e).map (·.size) = some 2) (A : Option Addr) (n c k : Nat) (hk : k ≤ c) (w : World) :
    (Instr.sliceAt t (.slice A n c) none (some (.int .i64 (k : Int))) none).run P w = .ok (.slice A k c) w := by
  have h : (Instr.slice t (.slice A n c) none (some (.int .i64 (k : Int))) none).run P w = .ok (.slice A k c) w := by
    cases hq : P.info? e with
    | none => simp [hq] at hs
    | some i =>
      have hi : i.size = 2 := by simpa [hq] using hs
      have ha : A.map (fun a : Addr => a.add 0) = A := by cases A <;> simp [Addr.add]
      simp [Instr.slice, Instr.sliceBounds, Instr.sliceBound, asIntOf, Sem.run_bind, run_underlying hu w, sizeOf, typeInfo, hq, hi, hk, Result.andThen, ha]
  simp only [Instr.sliceAt, Sem.run_bind, run_underlying hu w, Result.andThen, h]
theorem Dots.behind {w : World} {A : Option Addr} {ls : List Dt} {o : Nat → Prop} (h : Dots w o A ls) {k c : Nat} (hk : k ≤ ls.length) (hc : ls.length ≤ c) : Dots w o (cutA2 A c k) (ls.drop k) := ⟨fun hp => by
  rw [List.length_drop] at hp
  obtain ⟨b, off, rfl, hb, hcell⟩ := h.at_ (by omega)
  refine ⟨b, off + k * 2, ?_, hb, fun j hj => ?_⟩
  · rw [cutA2, if_neg (by omega)]
    simp only [Option.map_some, Addr.add_mid]
  · rw [List.length_drop] at hj
    have h1 := hcell (k + j) (by omega)
    have e : (ls.drop k).getD j (0, 0) = ls.getD (k + j) (0, 0) := by simp [List.getD_eq_getElem?_getD]
    rw [e, show off + k * 2 + j * 2 = off + (k + j) * 2 by omega]
    exact h1⟩
end Go.Proofs.Ytnpacjdgbmldlaa

/- Appending a slice of dots, whatever its capacity. -/
namespace Go.Proofs.Ytnpacjdgbmldlaa
open Go.RowKit

theorem run_append_nonec {P : Program} {w : World} (base : Nat) (t ty e : TypeId) (i : TypeInfo) (size : Nat) (ht : P.underlying t = some (.slice e)) (hi : P.info? e = some i) (v : Value) (n : Nat) (xs : List Value) (hown : w.ownsRow base e size v n xs) (c : Nat) :
    (Builtin.append_ #[t, t] ty #[v, .slice none 0 c]).run P w = .ok v w := by
  rcases hown.2 with ⟨rfl, _⟩ | ⟨g, cap, cur, rfl, hbg, hg, hnc, hcm, hcs, htake⟩
  · simp [Builtin.append_, run_underlying ht, sizeOf, typeInfo, hi, Builtin.lenOf, Builtin.firstCells, loadCells, loadCellsFrom]
  · simp [Builtin.append_, run_underlying ht, sizeOf, typeInfo, hi, Builtin.lenOf, Builtin.firstCells, loadCells, loadCellsFrom, hnc, storeCells]
theorem run_append_dotsc {P : Program} {w : World} (t ty e : TypeId) (base : Nat) (i : TypeInfo) (z : Value) (ht : P.underlying t = some (.slice e)) (hi : P.info? e = some i) (hz : i.zero = some z) (hsz : i.size = 2) (hzs : z.cells.size = 2)
    (v : Value) (n : Nat) (xs : List Value) (hown : w.ownsRow base e 2 v n xs) (ys : List Dt) (A : Option Addr) (c : Nat) (ok : Nat → Prop) (hD : Dots w ok A ys) (h63 : n + ys.length ≤ maxLen) (hbytes : (n + ys.length) * i.bytes ≤ 140737488355328) (hbase : base ≤ w.heap.size) :
    ∃ v' w', (Builtin.append_ #[t, t] ty #[v, .slice A ys.length c]).run P w = .ok v' w' ∧ w'.ownsRow base e 2 v' (n + ys.length) (xs ++ dots2 ys) ∧ w.grownBy w' v.ownBlock ∧ (v = .slice none 0 0 → ys.length = 0 → v' = .slice none 0 0) := by
  cases A with
  | none =>
    have h0 : ys = [] := by
      cases ys with
      | nil => rfl
      | cons d l =>
        obtain ⟨_, _, e, _⟩ := hD.at_ (by simp)
        cases e
    subst h0
    exact ⟨v, w, run_append_nonec base t ty e i 2 ht hi v n xs hown c, by simpa [dots2] using hown, ⟨rfl, rfl, rfl, Nat.le_refl _, fun _ _ _ => rfl⟩, fun h _ => h⟩
  | some ad =>
    obtain ⟨v', w', h1, h2, h3, h4⟩ := run_append_own (P := P) w base t ty e i z 2 i.bytes ht hi hz hsz rfl hzs (by decide) v n xs hown ad ys.length c (dots2 ys) (dots2_len ys) (fun j u hu => by
      have hj : j < ys.length * 2 := by
        have := (List.getElem?_eq_some_iff.1 hu).1
        rwa [dots2_len] at this
      obtain ⟨b, o', e, _, h2⟩ := hD.at_ (by omega)
      cases e
      have h3 := h2 (j / 2) (by omega)
      have hd := dots2_get ys (j / 2) (by omega)
      rw [Addr.add_mid]
      rcases (show j = j / 2 * 2 ∨ j = j / 2 * 2 + 1 by omega) with e | e
      · rw [e, hd.1] at hu
        have h4 := h3 0 u hu
        rwa [Nat.add_zero, ← e] at h4
      · rw [e, hd.2] at hu
        have h4 := h3 1 u hu
        rwa [Nat.add_assoc, ← e] at h4) (fun y hy => by
      unfold dots2 at hy
      obtain ⟨d, _, hy⟩ := List.mem_flatMap.1 hy
      simp only [dcells, List.mem_cons, List.mem_nil_iff, or_false] at hy
      rcases hy with rfl | rfl <;> rfl) h63 hbytes hbase
    exact ⟨v', w', h1, h2, h3, fun a b => h4.2 ⟨a, b⟩⟩
theorem exec_append {P : Program} {ev : Operand → Value} {o : Oper} {w w' : World} {v u v' : Value} (t : TypeId) (s x : Operand) (ho : o.op = .call { callee := .builtin .append, args := #[s, x], argTypes := #[t, t] }) (hs : ev s = v) (hx : ev x = u)
    (hr : (Builtin.append_ #[t, t] o.type #[v, u]).run P w = .ok v' w') : (execOp ev o).run P w = .ok (.value v') w' := by
  unfold execOp
  simp only [ho, resolve, invoke, builtin, Sem.run_bind, Sem.run_pure, Result.andThen_ok, List.map_toArray, List.map_cons, List.map_nil, hs, hx, hr]
theorem wpList_append_dotsc {P : Program} {w : World} {ops : Array Oper} {rest : List Oper} {o : Oper} {a : Act} {Q : Exit → Act → World → Prop} (hgd : o.guard = none) (s x : Operand) (t : TypeId)
    (ho : o.op = .call { callee := .builtin .append, args := #[s, x], argTypes := #[t, t] }) (base : Nat) (e : TypeId) (z : Value) (bytes : Nat) (ht : P.underlying t = some (.slice e))
    (hinfo : (P.info? e).map (fun i => (i.zero, i.size, i.bytes)) = some (some z, 2, bytes)) (hzs : z.cells.size = 2)
    (v : Value) (n : Nat) (xs : List Value) (hs : a.eval s = v) (hown : w.ownsRow base e 2 v n xs) (ys : List Dt) (A : Option Addr) (c : Nat) (ok : Nat → Prop)
    (hx : a.eval x = .slice A ys.length c) (hD : Dots w ok A ys) (h63 : n + ys.length ≤ maxLen) (hbytes : (n + ys.length) * bytes ≤ 140737488355328) (hbase : base ≤ w.heap.size)
    (h : ∀ v' w', Hid (w'.ownsRow base e 2 v' (n + ys.length) (xs ++ dots2 ys)) → Hid (Below base w w') → wpList P ops Q rest (a.put o.dst v') w') : wpList P ops Q (o :: rest) a w := by
  obtain ⟨i, hi, hz, hsz, hby⟩ := info_parts hinfo
  subst hby
  obtain ⟨v', w', h1, h2, h3, _⟩ := run_append_dotsc t o.type e base i z ht hi hz hsz hzs v n xs hown ys A c ok hD h63 hbytes hbase
  refine wpList_plain hgd fun K hK => ?_
  unfold Oper.wp
  rw [exec_append t s x ho hs hx h1]
  exact hK _ _ (h v' w' h2 ((Below.refl base w).grown h3 hbase fun k hk => (hown.lt k hk).1))
end Go.Proofs.Ytnpacjdgbmldlaa

/- The reference's insert, walked. -/
namespace Go.Proofs.Ytnpacjdgbmldlaa
open Go.RowKit

theorem exec_slice {P : Program} {ev : Operand → Value} {o : Oper} {w : World} {v r : Value} {lo hi : Option Value} (t : TypeId) (x : Operand) (l h m : Option Operand) (ho : o.op = .slice t x l h m) (hx : ev x = v) (hl : l.map ev = lo) (hh : h.map ev = hi) (hm : m = none)
    (hr : (Instr.sliceAt t v lo hi none).run P w = .ok r w) : (execOp ev o).run P w = .ok (.value r) w := by
  subst hm
  unfold execOp
  simp only [ho, hx, hl, hh, Option.map_none, Sem.run_bind, hr, Result.andThen_ok, Sem.run_pure]
/-- The list, and the dot in its box. -/
structure NI (w : World) (A : Option Addr) (ls : List Dt) (d : Dt) (x : World) : Prop where
  l : Dots x (· < w.heap.size) A ls
  dot : DotAt x w.heap.size 35 d.1 d.2
  below : Below w.heap.size w x
theorem NI.le {w x : World} {A : Option Addr} {ls : List Dt} {d : Dt} (h : NI w A ls d x) : w.heap.size + 1 ≤ x.heap.size := h.dot.lt
theorem NI.low {w x y : World} {A : Option Addr} {ls : List Dt} {d : Dt} (hb : Below (w.heap.size + 1) x y) (h : NI w A ls d x) : NI w A ls d y := ⟨h.l.below (hb.mono (Nat.le_succ _)), (hb.block _ (Nat.lt_succ_self _)).trans h.dot, h.below.trans (hb.mono (Nat.le_succ _))⟩
theorem NI.then_ {w x y : World} {A : Option Addr} {ls : List Dt} {d : Dt} (hb : Below x.heap.size x y) (h : NI w A ls d x) : NI w A ls d y := h.low (hb.mono h.le)
theorem NI.drew {w x : World} {A : Option Addr} {ls : List Dt} {d : Dt} (h : NI w A ls d x) : NI w A ls d x.drew := NI.then_ (x := x) (y := x.drew) ⟨rfl, rfl, rfl, Nat.le_refl _, fun _ _ => rfl⟩ h
theorem NI.now {w x : World} {A : Option Addr} {ls : List Dt} {d : Dt} (h : NI w A ls d x) : Dots x (· < x.heap.size) A ls := h.l.loose fun _ k => Nat.lt_of_lt_of_le k h.below.size
def P4 (B p : Nat) (ls : List Dt) (v : Value) (x : World) : Prop := x.ownsRow B 35 2 v p (dots2 (ls.take p)) ∧ (p = 0 → v = .slice none 0 0)
def P6 (d : Dt) (v : Value) (x : World) : Prop := ∃ g, v = .slice (some ⟨g, 0, none⟩) 1 1 ∧ x.heap[g]? = some (.cells (dotC d) 35 (0, 0))
def P7 (B p : Nat) (ls : List Dt) (d : Dt) (v : Value) (x : World) : Prop := x.ownsRow B 35 2 v (p + 1) (dots2 (ls.take p) ++ dcells d)
theorem dot_cells {x : World} {g : Nat} {d : Dt} (h : x.heap[g]? = some (.cells (dotC d) 35 (0, 0))) : ∀ j u, (dcells d)[j]? = some u → x.cell? ((⟨g, 0, none⟩ : Addr).add j) = some u := fun j u hu => by
  rw [Addr.add_mid, Nat.zero_add, cell_of_row _ _ _ _ _ _ h]
  match j, hu with
  | 0, hu => exact hu
  | 1, hu => exact hu
theorem size35o : (Try.prog.info? 35).map (·.size) = some 2 := by kernel_rfl

set_option maxRecDepth 100000 in
set_option maxHeartbeats 8000000 in
theorem insert_any : InsertIs := by
  intro ls c A d w hv hc hm
  have HI : Hid (NI w A ls d (w.alloc (.cells (dotC d) 35))) := Lib.hid ⟨hv.below (below1 _ _), DotAt.new w 35 d.1 d.2, below1 _ _⟩
  have HC := Lib.hid hc
  have HM := Lib.hid hm
  have HMM : Hid (ls.length ≤ 9223372036854775807) := Lib.hid (by omega)
  clear hv hc hm
  have HR := Lib.hid (rightR_any d.1 d.2 (w.alloc (.cells (dotC d) 35)))
  cases hr : Vec.right d.1 d.2 with
  | false =>
    have HE : Hid (insertF ls d = ls) := Lib.hid (by unfold insertF; rw [if_neg (fun h => by rw [hr] at h; exact Bool.false_ne_true h.1)])
    rw [hr] at HR
    clear hr
    go_enter Try.func76, Try.ntmps76
    have c0 := HI.out.dot.node
    have c1 := HI.out.dot.num
    go_wp2_with fail
    clear c0 c1
    refine HR.out.mono ?_
    rintro e w2 ⟨rfl, hb⟩
    replace HI := Lib.hid (HI.out.then_ hb)
    clear hb HR
    go_wp2
    go_ret
    refine ⟨A, c, ?_, by rw [HE.out]; exact HI.out.now, by rw [HE.out]; exact HC.out, HI.out.below⟩
    rw [HE.out]
    rfl
  | true =>
    rw [hr] at HR
    by_cases hmem : d ∈ ls
    · have HE : Hid (insertF ls d = ls) := Lib.hid (by unfold insertF; rw [if_neg (fun h => h.2 hmem)])
      have HD : Hid (decide (d ∈ ls) = true) := Lib.hid (decide_eq_true hmem)
      clear hr hmem
      go_enter Try.func76, Try.ntmps76
      have c0 := HI.out.dot.node
      have c1 := HI.out.dot.num
      go_wp2_with fail
      clear c0 c1
      refine HR.out.mono ?_
      rintro e w2 ⟨rfl, hb⟩
      replace HI := Lib.hid (HI.out.then_ hb)
      clear hb HR
      have h1 := dhasR_any ls c A d w2 HI.out.now HMM.out
      rw [HD.out] at h1
      have HH := Lib.hid h1
      have c0 := HI.out.dot.node
      have c1 := HI.out.dot.num
      clear h1
      go_wp2_with fail
      clear c0 c1
      refine HH.out.mono ?_
      rintro e w3 ⟨rfl, hb⟩
      replace HI := Lib.hid (HI.out.then_ hb)
      clear hb HH
      go_wp2
      go_ret
      refine ⟨A, c, ?_, by rw [HE.out]; exact HI.out.now, by rw [HE.out]; exact HC.out, HI.out.below⟩
      rw [HE.out]
      rfl
    · have HD : Hid (decide (d ∈ ls) = false) := Lib.hid (decide_eq_false hmem)
      obtain ⟨t1, t2, t3, t4⟩ := tw_facts (fun x => Vec.less x.1 x.2 d.1 d.2) ls
      have t5 := tw_le (fun x => Vec.less x.1 x.2 d.1 d.2) ls
      have HE : Hid (insertF ls d = (ls.takeWhile fun x => Vec.less x.1 x.2 d.1 d.2) ++ d :: ls.dropWhile fun x => Vec.less x.1 x.2 d.1 d.2) := Lib.hid (by unfold insertF; rw [if_pos ⟨hr, hmem⟩])
      obtain ⟨p, hp⟩ : ∃ p, p = (ls.takeWhile fun x => Vec.less x.1 x.2 d.1 d.2).length := ⟨_, rfl⟩
      rw [← hp] at t1 t2 t3 t4 t5
      rw [← t3, ← t4] at HE
      have HDD : Hid (dots2 (ls.take p) ++ dcells d ++ dots2 (ls.drop p) = dots2 (insertF ls d)) := Lib.hid (by rw [HE.out, dots2_append, List.append_assoc]; rfl)
      have T1 := Lib.hid t1
      have T2 := Lib.hid t2
      have HPL := Lib.hid t5
      have HTK : Hid ((ls.take p).length = p) := Lib.hid (by rw [List.length_take]; omega)
      have HPI : Hid (p < 9223372036854775807) := Lib.hid (by have := HM.out; omega)
      clear hr hmem t1 t2 t3 t4 t5 hp HE
      go_enter Try.func76, Try.ntmps76
      have c0 := HI.out.dot.node
      have c1 := HI.out.dot.num
      go_wp2_with fail
      clear c0 c1
      refine HR.out.mono ?_
      rintro e w2 ⟨rfl, hb⟩
      replace HI := Lib.hid (HI.out.then_ hb)
      clear hb HR
      have h1 := dhasR_any ls c A d w2 HI.out.now HMM.out
      rw [HD.out] at h1
      have HH := Lib.hid h1
      have c0 := HI.out.dot.node
      have c1 := HI.out.dot.num
      clear h1
      go_wp2_with fail
      clear c0 c1
      refine HH.out.mono ?_
      rintro e w3 ⟨rfl, hb⟩
      replace HI := Lib.hid (HI.out.then_ hb)
      clear hb HH
      go_wp2
      go_loopw [5] (fun v wr => ∃ i : Nat, i ≤ p ∧ v = .int .i64 i ∧ Hid (NI w A ls d wr)) (fun v _ => p - (intOf v).toNat)
      case atStart => exact ⟨0, by omega, rfl, HI⟩
      case round =>
        clear HI
        obtain ⟨i, hi, rfl, HI⟩ := hrel
        by_cases hlt : i < p
        · obtain ⟨b, o, hA⟩ := HI.out.l.some_ (by have := HPL.out; omega)
          subst hA
          obtain ⟨y, hy⟩ : ∃ y, y = ls.getD i (0, 0) := ⟨_, rfl⟩
          have HY := Lib.hid hy
          have HLS : Hid (Vec.less y.1 y.2 d.1 d.2 = true) := Lib.hid (by rw [hy]; exact T1.out i hlt)
          have HLT : Hid (i < ls.length) := Lib.hid (by have := HPL.out; omega)
          have hli : (i : Int) < (ls.length : Int) := by have := HPL.out; omega
          have eJ : IntKind.i64.wrap ((i : Int) + 1) = (i : Int) + 1 := by have := HPI.out; rw [IntKind.wrap_i64]; omega
          clear hy
          go_wp2_with fail
          refine WM.wp_region_kinds (fun _ x y => Below x.heap.size x y) (fun _ x => NI w (some ⟨b, o, none⟩) ls d x) (fun x => NI w (some ⟨b, o, none⟩) ls d x)
            [(8, .val (dotV y.1 y.2) fun _ => True), (9, .val (dotV d.1 d.2) fun _ => True), (10, .val (.bool true) fun _ => True)] (by kernel_rfl) (by kernel_rfl) (fun _ _ _ hb h => h.then_ hb) (fun _ _ _ _ _ hb h => h.then_ hb) ?_ HI.out.drew (fun _ => HI.out.drew) ?_
          · intro z hz
            simp only [List.mem_cons, List.mem_nil_iff, or_false] at hz
            rcases hz with rfl | rfl | rfl <;> exact fun _ _ _ _ _ _ => trivial
          iterate 3
            refine WM.mono_pure rfl rfl ?_
            apply Exists.intro
            refine ⟨fun x => ?_, ?_⟩
            · go_simp
              rfl
            apply Exists.intro
            refine ⟨by simp only [Act.put, List.setIfInBounds_toArray, List.set_cons_succ, List.set_cons_zero]; rfl, ?_⟩
          refine WM.mono_pure rfl rfl ?_
          refine ⟨.bool true, fun x => ?_, ?_⟩
          · go_simp
          apply Exists.intro
          refine ⟨by simp only [Act.put, List.setIfInBounds_toArray, List.set_cons_succ, List.set_cons_zero]; rfl, ?_⟩
          refine WM.mono_pure rfl rfl ?_
          refine ⟨.bool true, fun x => ?_, ?_⟩
          · go_simp
          apply Exists.intro
          refine ⟨by simp only [Act.put, List.setIfInBounds_toArray, List.set_cons_succ, List.set_cons_zero]; rfl, ?_⟩
          iterate 2
            refine WM.mono_pure rfl rfl ?_
            apply Exists.intro
            refine ⟨fun x => ?_, ?_⟩
            · go_simp
              rfl
            apply Exists.intro
            refine ⟨by simp only [Act.put, List.setIfInBounds_toArray, List.set_cons_succ, List.set_cons_zero]; rfl, ?_⟩
          refine WM.mono_pure rfl rfl ?_
          refine ⟨.pointer (some ⟨b, o + i * 2, none⟩), fun x => ?_, ?_⟩
          · go_simp
          apply Exists.intro
          refine ⟨by simp only [Act.put, List.setIfInBounds_toArray, List.set_cons_succ, List.set_cons_zero]; rfl, ?_⟩
          refine WM.mono_val rfl rfl (fun x hD hF => ?_) ?_
          · have hl := run_loadVar_arr (P := Try.prog) x b (o + i * 2) 35 (dotC y) _ (by rw [HY.out]; exact hD.l.at_j HLT.out) Try.underlying35 rfl size35
            rw [exec_load 35 (.tmp 23) rfl b (o + i * 2) rfl hl]
            exact ⟨Below.refl _ _, rfl, trivial⟩
          apply Exists.intro
          refine ⟨by simp only [Act.put, List.setIfInBounds_toArray, List.set_cons_succ, List.set_cons_zero]; rfl, ?_⟩
          refine WM.mono_val rfl rfl (fun x hD hF => ?_) ?_
          · have hl := run_loadVar_arr (P := Try.prog) x w.heap.size 0 35 (dotC d) _ hD.dot.range Try.underlying35 rfl size35
            rw [exec_load 35 (.tmp 3) rfl w.heap.size 0 rfl hl]
            exact ⟨Below.refl _ _, rfl, trivial⟩
          apply Exists.intro
          refine ⟨by simp only [Act.put, List.setIfInBounds_toArray, List.set_cons_succ, List.set_cons_zero]; rfl, ?_⟩
          refine WM.mono_val rfl rfl (fun x hD hF => ?_) ?_
          · go_simp
            refine (lessR_any y.1 y.2 d.1 d.2 x).mono ?_
            rintro e y ⟨rfl, hg⟩
            exact ⟨_, rfl, hg, by rw [HLS.out]⟩
          apply Exists.intro
          refine ⟨by simp only [Act.put, List.setIfInBounds_toArray, List.set_cons_succ, List.set_cons_zero]; rfl, ?_⟩
          refine WM.mono_pure rfl rfl ?_
          refine ⟨.bool true, fun x => ?_, ?_⟩
          · go_simp
          apply Exists.intro
          refine ⟨by simp only [Act.put, List.setIfInBounds_toArray, List.set_cons_succ, List.set_cons_zero]; rfl, ?_⟩
          refine WM.mono_nil ?_
          intro x hD hF
          have HX := Lib.hid hD
          clear hD hF HI
          go_simp
          go_wp2
          go_roundw
          case rel => exact ⟨i + 1, by omega, by go_num, HX⟩
          case measure => simp [intOf]; omega
        · obtain rfl : p = i := by omega
          by_cases hpl : p < ls.length
          · obtain ⟨b, o, hA⟩ := HI.out.l.some_ (by omega)
            subst hA
            obtain ⟨y, hy⟩ : ∃ y, y = ls.getD p (0, 0) := ⟨_, rfl⟩
            have HY := Lib.hid hy
            have HLS : Hid (Vec.less y.1 y.2 d.1 d.2 = false) := Lib.hid (by rw [hy]; exact T2.out hpl)
            have HLT := Lib.hid hpl
            have hli : (p : Int) < (ls.length : Int) := by omega
            clear hy
            go_wp2_with fail
            refine WM.wp_region_kinds (fun _ x y => Below x.heap.size x y) (fun _ x => NI w (some ⟨b, o, none⟩) ls d x) (fun x => NI w (some ⟨b, o, none⟩) ls d x)
              [(8, .val (dotV y.1 y.2) fun _ => True), (9, .val (dotV d.1 d.2) fun _ => True), (10, .val (.bool false) fun _ => True)] (by kernel_rfl) (by kernel_rfl) (fun _ _ _ hb h => h.then_ hb) (fun _ _ _ _ _ hb h => h.then_ hb) ?_ HI.out.drew (fun _ => HI.out.drew) ?_
            · intro z hz
              simp only [List.mem_cons, List.mem_nil_iff, or_false] at hz
              rcases hz with rfl | rfl | rfl <;> exact fun _ _ _ _ _ _ => trivial
            iterate 3
              refine WM.mono_pure rfl rfl ?_
              apply Exists.intro
              refine ⟨fun x => ?_, ?_⟩
              · go_simp
                rfl
              apply Exists.intro
              refine ⟨by simp only [Act.put, List.setIfInBounds_toArray, List.set_cons_succ, List.set_cons_zero]; rfl, ?_⟩
            refine WM.mono_pure rfl rfl ?_
            refine ⟨.bool true, fun x => ?_, ?_⟩
            · go_simp
            apply Exists.intro
            refine ⟨by simp only [Act.put, List.setIfInBounds_toArray, List.set_cons_succ, List.set_cons_zero]; rfl, ?_⟩
            refine WM.mono_pure rfl rfl ?_
            refine ⟨.bool true, fun x => ?_, ?_⟩
            · go_simp
            apply Exists.intro
            refine ⟨by simp only [Act.put, List.setIfInBounds_toArray, List.set_cons_succ, List.set_cons_zero]; rfl, ?_⟩
            iterate 2
              refine WM.mono_pure rfl rfl ?_
              apply Exists.intro
              refine ⟨fun x => ?_, ?_⟩
              · go_simp
                rfl
              apply Exists.intro
              refine ⟨by simp only [Act.put, List.setIfInBounds_toArray, List.set_cons_succ, List.set_cons_zero]; rfl, ?_⟩
            refine WM.mono_pure rfl rfl ?_
            refine ⟨.pointer (some ⟨b, o + p * 2, none⟩), fun x => ?_, ?_⟩
            · go_simp
            apply Exists.intro
            refine ⟨by simp only [Act.put, List.setIfInBounds_toArray, List.set_cons_succ, List.set_cons_zero]; rfl, ?_⟩
            refine WM.mono_val rfl rfl (fun x hD hF => ?_) ?_
            · have hl := run_loadVar_arr (P := Try.prog) x b (o + p * 2) 35 (dotC y) _ (by rw [HY.out]; exact hD.l.at_j HLT.out) Try.underlying35 rfl size35
              rw [exec_load 35 (.tmp 23) rfl b (o + p * 2) rfl hl]
              exact ⟨Below.refl _ _, rfl, trivial⟩
            apply Exists.intro
            refine ⟨by simp only [Act.put, List.setIfInBounds_toArray, List.set_cons_succ, List.set_cons_zero]; rfl, ?_⟩
            refine WM.mono_val rfl rfl (fun x hD hF => ?_) ?_
            · have hl := run_loadVar_arr (P := Try.prog) x w.heap.size 0 35 (dotC d) _ hD.dot.range Try.underlying35 rfl size35
              rw [exec_load 35 (.tmp 3) rfl w.heap.size 0 rfl hl]
              exact ⟨Below.refl _ _, rfl, trivial⟩
            apply Exists.intro
            refine ⟨by simp only [Act.put, List.setIfInBounds_toArray, List.set_cons_succ, List.set_cons_zero]; rfl, ?_⟩
            refine WM.mono_val rfl rfl (fun x hD hF => ?_) ?_
            · go_simp
              refine (lessR_any y.1 y.2 d.1 d.2 x).mono ?_
              rintro e y ⟨rfl, hg⟩
              exact ⟨_, rfl, hg, by rw [HLS.out]⟩
            apply Exists.intro
            refine ⟨by simp only [Act.put, List.setIfInBounds_toArray, List.set_cons_succ, List.set_cons_zero]; rfl, ?_⟩
            refine WM.mono_pure rfl rfl ?_
            refine ⟨.bool false, fun x => ?_, ?_⟩
            · go_simp
            apply Exists.intro
            refine ⟨by simp only [Act.put, List.setIfInBounds_toArray, List.set_cons_succ, List.set_cons_zero]; rfl, ?_⟩
            refine WM.mono_nil ?_
            intro x hD hF
            have HX := Lib.hid hD
            clear hD hF HI
            go_simp
            go_wp2_with fail
            refine WM.wp_region_front 11 [] (fun j x y => RI (w.heap.size + 1) p j x y) (fun _ x => NI w (some ⟨b, o, none⟩) ls d x) (fun x => NI w (some ⟨b, o, none⟩) ls d x)
              [(4, .mem (P4 (w.heap.size + 1) p ls)), (5, .val (dotV d.1 d.2) fun _ => True), (6, .mem (P6 d)), (7, .mem (P7 (w.heap.size + 1) p ls d))] (by kernel_rfl) (by kernel_rfl) (by kernel_rfl) (by kernel_rfl) (of_decide_eq_true (by kernel_rfl)) ?_ ?_ (fun _ _ _ hb => hb.low.size) (fun _ _ _ hb h => h.low hb.low) (fun _ _ _ _ _ hb h => h.low hb.low) ?_ HX.out.drew (fun _ => HX.out.drew) ?_
            · intro p hp
              cases hp
            · intro p hp
              cases hp
            · intro z hz
              simp only [List.mem_cons, List.mem_nil_iff, or_false] at hz
              rcases hz with rfl | rfl | rfl | rfl
              · exact fun j v x y _ hr h => ⟨hr.rows _ _ h.1, h.2⟩
              · exact fun _ _ _ _ _ _ => trivial
              · exact fun j v x y _ hr ⟨g, e, h⟩ => ⟨g, e, (hr.two g _ h rfl).trans h⟩
              · exact fun j v x y hne hr h => own_keep h fun k _ hk => (hr.all (fun e => hne e.symm)).block k hk
            iterate 3
              refine WM.mono_pure rfl rfl ?_
              apply Exists.intro
              refine ⟨fun x => ?_, ?_⟩
              · go_simp
                rfl
              apply Exists.intro
              refine ⟨by simp only [Act.put, List.setIfInBounds_toArray, List.set_cons_succ, List.set_cons_zero]; rfl, ?_⟩
            refine WM.mono_pure rfl rfl ?_
            refine ⟨.slice (some ⟨b, o, none⟩) p c, fun x => ?_, ?_⟩
            · exact exec_slice 30 (.tmp 31) none (some (.tmp 32)) none rfl rfl rfl rfl rfl (run_sliceAt_to2 30 35 Try.underlying30 size35o (some ⟨b, o, none⟩) ls.length c p (by have := HC.out; have := HPL.out; omega) x)
            apply Exists.intro
            refine ⟨by simp only [Act.put, List.setIfInBounds_toArray, List.set_cons_succ, List.set_cons_zero]; rfl, ?_⟩
            refine WM.mono_mem rfl rfl (fun x hD hF => ?_) (fun v34 => ?_)
            · obtain ⟨i, h1, h2, h3, h4⟩ := info_parts info35
              obtain ⟨v1, w1, r1, r2, r3, r4⟩ := run_append_dotsc (P := Try.prog) (w := x) 30 30 35 (w.heap.size + 1) i _ Try.underlying30 h1 h2 h3 rfl (.slice none 0 0) 0 [] (World.ownsRow_nil _ _ _ _) (ls.take p) (some ⟨b, o, none⟩) c (· < w.heap.size) (hD.l.cut p) (by have := HPL.out; have := HM.out; rw [HTK.out]; unfold maxLen; omega) (by have := HPL.out; have := HM.out; rw [HTK.out, h4]; omega) hD.le
              rw [HTK.out] at r1 r2 r4
              simp only [Nat.zero_add, List.nil_append] at r2
              rw [exec_append 30 (.tmp 30) (.tmp 33) rfl rfl rfl r1]
              exact ⟨RI.of hD.le ((Below.refl _ _).grown r3 (Nat.le_refl _) (fun k hk => by cases hk)), r2, fun e => r4 rfl e⟩
            apply Exists.intro
            refine ⟨by simp only [Act.put, List.setIfInBounds_toArray, List.set_cons_succ, List.set_cons_zero]; rfl, ?_⟩
            refine WM.mono_val rfl rfl (fun x hD hF => ?_) ?_
            · have hl := run_loadVar_arr (P := Try.prog) x w.heap.size 0 35 (dotC d) _ hD.dot.range Try.underlying35 rfl size35
              rw [exec_load 35 (.tmp 3) rfl w.heap.size 0 rfl hl]
              exact ⟨RI.of hD.le (Below.refl _ _), rfl, trivial⟩
            apply Exists.intro
            refine ⟨by simp only [Act.put, List.setIfInBounds_toArray, List.set_cons_succ, List.set_cons_zero]; rfl, ?_⟩
            refine WM.mono_mem rfl rfl (fun x hD hF => ?_) (fun v36 => ?_)
            · go_simp
              exact ⟨RI.of hD.le (below1 _ _), _, rfl, heap_alloc_new _ _⟩
            apply Exists.intro
            refine ⟨by simp only [Act.put, List.setIfInBounds_toArray, List.set_cons_succ, List.set_cons_zero]; rfl, ?_⟩
            refine WM.mono_mem rfl rfl (fun x hD hF => ?_) (fun v37 => ?_)
            · have f4 : P4 (w.heap.size + 1) p ls v34 x := (hF 4 _ 34 rfl rfl (by decide)).1
              obtain ⟨g, e6, hg⟩ : P6 d v36 x := (hF 6 _ 36 rfl rfl (by decide)).1
              subst e6
              obtain ⟨i, h1, h2, h3, h4⟩ := info_parts info35
              obtain ⟨v1, w1, r1, r2, r3⟩ := append_kept (P := Try.prog) 30 30 i _ Try.underlying30 h1 h2 h3 rfl v34 _ f4.1 ⟨g, 0, none⟩ 1 d (dot_cells hg) (by have := HPI.out; have := HPL.out; have := HM.out; unfold maxLen; omega) (by have := HPL.out; have := HM.out; rw [h4]; omega) hD.le f4.2
              rw [exec_append 30 (.tmp 34) (.tmp 36) rfl rfl rfl r1]
              exact ⟨r3, r2⟩
            apply Exists.intro
            refine ⟨by simp only [Act.put, List.setIfInBounds_toArray, List.set_cons_succ, List.set_cons_zero]; rfl, ?_⟩
            iterate 2
              refine WM.mono_pure rfl rfl ?_
              apply Exists.intro
              refine ⟨fun x => ?_, ?_⟩
              · go_simp
                rfl
              apply Exists.intro
              refine ⟨by simp only [Act.put, List.setIfInBounds_toArray, List.set_cons_succ, List.set_cons_zero]; rfl, ?_⟩
            refine WM.mono_pure rfl rfl ?_
            refine ⟨.slice (cutA2 (some ⟨b, o, none⟩) c p) (ls.length - p) (c - p), fun x => ?_, ?_⟩
            · exact exec_slice 30 (.tmp 38) (some (.tmp 39)) none none rfl rfl rfl rfl rfl (run_sliceAt_from2 30 35 Try.underlying30 size35o (some ⟨b, o, none⟩) ls.length c p HPL.out x)
            apply Exists.intro
            refine ⟨by simp only [Act.put, List.setIfInBounds_toArray, List.set_cons_succ, List.set_cons_zero]; rfl, ?_⟩
            refine WM.mono_nil ?_
            intro x hD hF _
            have H7 : Hid (P7 (w.heap.size + 1) p ls d v37 x) := Lib.hid (hF 7).1
            refine wpList_append_dotsc rfl (.tmp 37) (.tmp 40) 30 rfl (w.heap.size + 1) 35 (.agg #[.int .i64 0, .int .u64 0]) 16 Try.underlying30 info35 rfl _ (p + 1) _ rfl H7.out (ls.drop p) (cutA2 (some ⟨b, o, none⟩) c p) (c - p) (· < w.heap.size) (by rw [List.length_drop]; rfl) (hD.l.behind HPL.out HC.out) (by have := HPL.out; have := HM.out; rw [List.length_drop]; unfold maxLen; omega) (by have := HPL.out; have := HM.out; rw [List.length_drop]; omega) hD.le ?_
            intro v5 w5 H5 B5
            rw [HDD.out] at H5
            obtain ⟨A5, c5, rfl, hd5, hl5, _⟩ := own_dots H5.out
            have HB5 : Hid (Below w.heap.size w w5) := Lib.hid (hD.below.trans (B5.out.mono (Nat.le_succ _)))
            have HD5 : Hid (Dots w5 (· < w5.heap.size) A5 (insertF ls d)) := Lib.hid (hd5.loose fun b h => h.2)
            have HL5 := Lib.hid hl5
            clear hD hF hd5 hl5 H7 HX
            go_simp
            go_wp2
            go_ret
            exact ⟨A5, c5, rfl, HD5.out, HL5.out, HB5.out⟩
          · have hli : ¬ (p : Int) < (ls.length : Int) := by omega
            go_wp2_with fail
            refine WM.wp_region_kinds (fun _ x y => Below x.heap.size x y) (fun _ x => NI w A ls d x) (fun x => NI w A ls d x)
              [] (by kernel_rfl) (by kernel_rfl) (fun _ _ _ hb h => h.then_ hb) (fun _ _ _ _ _ hb h => h.then_ hb) ?_ HI.out.drew (fun _ => HI.out.drew) ?_
            · intro z hz
              cases hz
            iterate 3
              refine WM.mono_pure rfl rfl ?_
              apply Exists.intro
              refine ⟨fun x => ?_, ?_⟩
              · go_simp
                rfl
              apply Exists.intro
              refine ⟨by simp only [Act.put, List.setIfInBounds_toArray, List.set_cons_succ, List.set_cons_zero]; rfl, ?_⟩
            refine WM.mono_pure rfl rfl ?_
            refine ⟨.bool false, fun x => ?_, ?_⟩
            · go_simp
            apply Exists.intro
            refine ⟨by simp only [Act.put, List.setIfInBounds_toArray, List.set_cons_succ, List.set_cons_zero]; rfl, ?_⟩
            refine WM.mono_pure rfl rfl ?_
            refine ⟨.bool false, fun x => ?_, ?_⟩
            · go_simp
            apply Exists.intro
            refine ⟨by simp only [Act.put, List.setIfInBounds_toArray, List.set_cons_succ, List.set_cons_zero]; rfl, ?_⟩
            refine WM.mono_skip rfl ?_
            apply Exists.intro
            refine ⟨by simp only [Act.put, List.setIfInBounds_toArray, List.set_cons_succ, List.set_cons_zero]; rfl, ?_⟩
            refine WM.mono_skip rfl ?_
            apply Exists.intro
            refine ⟨by simp only [Act.put, List.setIfInBounds_toArray, List.set_cons_succ, List.set_cons_zero]; rfl, ?_⟩
            refine WM.mono_skip rfl ?_
            apply Exists.intro
            refine ⟨by simp only [Act.put, List.setIfInBounds_toArray, List.set_cons_succ, List.set_cons_zero]; rfl, ?_⟩
            refine WM.mono_skip rfl ?_
            apply Exists.intro
            refine ⟨by simp only [Act.put, List.setIfInBounds_toArray, List.set_cons_succ, List.set_cons_zero]; rfl, ?_⟩
            refine WM.mono_skip rfl ?_
            apply Exists.intro
            refine ⟨by simp only [Act.put, List.setIfInBounds_toArray, List.set_cons_succ, List.set_cons_zero]; rfl, ?_⟩
            refine WM.mono_skip rfl ?_
            apply Exists.intro
            refine ⟨by simp only [Act.put, List.setIfInBounds_toArray, List.set_cons_succ, List.set_cons_zero]; rfl, ?_⟩
            refine WM.mono_pure rfl rfl ?_
            refine ⟨.bool false, fun x => ?_, ?_⟩
            · go_simp
            apply Exists.intro
            refine ⟨by simp only [Act.put, List.setIfInBounds_toArray, List.set_cons_succ, List.set_cons_zero]; rfl, ?_⟩
            refine WM.mono_nil ?_
            intro x hD hF
            have HX := Lib.hid hD
            clear hD hF HI
            go_simp
            go_wp2_with fail
            refine WM.wp_region_front 11 [] (fun j x y => RI (w.heap.size + 1) p j x y) (fun _ x => NI w A ls d x) (fun x => NI w A ls d x)
              [(4, .mem (P4 (w.heap.size + 1) p ls)), (5, .val (dotV d.1 d.2) fun _ => True), (6, .mem (P6 d)), (7, .mem (P7 (w.heap.size + 1) p ls d))] (by kernel_rfl) (by kernel_rfl) (by kernel_rfl) (by kernel_rfl) (of_decide_eq_true (by kernel_rfl)) ?_ ?_ (fun _ _ _ hb => hb.low.size) (fun _ _ _ hb h => h.low hb.low) (fun _ _ _ _ _ hb h => h.low hb.low) ?_ HX.out.drew (fun _ => HX.out.drew) ?_
            · intro p hp
              cases hp
            · intro p hp
              cases hp
            · intro z hz
              simp only [List.mem_cons, List.mem_nil_iff, or_false] at hz
              rcases hz with rfl | rfl | rfl | rfl
              · exact fun j v x y _ hr h => ⟨hr.rows _ _ h.1, h.2⟩
              · exact fun _ _ _ _ _ _ => trivial
              · exact fun j v x y _ hr ⟨g, e, h⟩ => ⟨g, e, (hr.two g _ h rfl).trans h⟩
              · exact fun j v x y hne hr h => own_keep h fun k _ hk => (hr.all (fun e => hne e.symm)).block k hk
            iterate 3
              refine WM.mono_pure rfl rfl ?_
              apply Exists.intro
              refine ⟨fun x => ?_, ?_⟩
              · go_simp
                rfl
              apply Exists.intro
              refine ⟨by simp only [Act.put, List.setIfInBounds_toArray, List.set_cons_succ, List.set_cons_zero]; rfl, ?_⟩
            refine WM.mono_pure rfl rfl ?_
            refine ⟨.slice A p c, fun x => ?_, ?_⟩
            · exact exec_slice 30 (.tmp 31) none (some (.tmp 32)) none rfl rfl rfl rfl rfl (run_sliceAt_to2 30 35 Try.underlying30 size35o A ls.length c p (by have := HC.out; have := HPL.out; omega) x)
            apply Exists.intro
            refine ⟨by simp only [Act.put, List.setIfInBounds_toArray, List.set_cons_succ, List.set_cons_zero]; rfl, ?_⟩
            refine WM.mono_mem rfl rfl (fun x hD hF => ?_) (fun v34 => ?_)
            · obtain ⟨i, h1, h2, h3, h4⟩ := info_parts info35
              obtain ⟨v1, w1, r1, r2, r3, r4⟩ := run_append_dotsc (P := Try.prog) (w := x) 30 30 35 (w.heap.size + 1) i _ Try.underlying30 h1 h2 h3 rfl (.slice none 0 0) 0 [] (World.ownsRow_nil _ _ _ _) (ls.take p) A c (· < w.heap.size) (hD.l.cut p) (by have := HPL.out; have := HM.out; rw [HTK.out]; unfold maxLen; omega) (by have := HPL.out; have := HM.out; rw [HTK.out, h4]; omega) hD.le
              rw [HTK.out] at r1 r2 r4
              simp only [Nat.zero_add, List.nil_append] at r2
              rw [exec_append 30 (.tmp 30) (.tmp 33) rfl rfl rfl r1]
              exact ⟨RI.of hD.le ((Below.refl _ _).grown r3 (Nat.le_refl _) (fun k hk => by cases hk)), r2, fun e => r4 rfl e⟩
            apply Exists.intro
            refine ⟨by simp only [Act.put, List.setIfInBounds_toArray, List.set_cons_succ, List.set_cons_zero]; rfl, ?_⟩
            refine WM.mono_val rfl rfl (fun x hD hF => ?_) ?_
            · have hl := run_loadVar_arr (P := Try.prog) x w.heap.size 0 35 (dotC d) _ hD.dot.range Try.underlying35 rfl size35
              rw [exec_load 35 (.tmp 3) rfl w.heap.size 0 rfl hl]
              exact ⟨RI.of hD.le (Below.refl _ _), rfl, trivial⟩
            apply Exists.intro
            refine ⟨by simp only [Act.put, List.setIfInBounds_toArray, List.set_cons_succ, List.set_cons_zero]; rfl, ?_⟩
            refine WM.mono_mem rfl rfl (fun x hD hF => ?_) (fun v36 => ?_)
            · go_simp
              exact ⟨RI.of hD.le (below1 _ _), _, rfl, heap_alloc_new _ _⟩
            apply Exists.intro
            refine ⟨by simp only [Act.put, List.setIfInBounds_toArray, List.set_cons_succ, List.set_cons_zero]; rfl, ?_⟩
            refine WM.mono_mem rfl rfl (fun x hD hF => ?_) (fun v37 => ?_)
            · have f4 : P4 (w.heap.size + 1) p ls v34 x := (hF 4 _ 34 rfl rfl (by decide)).1
              obtain ⟨g, e6, hg⟩ : P6 d v36 x := (hF 6 _ 36 rfl rfl (by decide)).1
              subst e6
              obtain ⟨i, h1, h2, h3, h4⟩ := info_parts info35
              obtain ⟨v1, w1, r1, r2, r3⟩ := append_kept (P := Try.prog) 30 30 i _ Try.underlying30 h1 h2 h3 rfl v34 _ f4.1 ⟨g, 0, none⟩ 1 d (dot_cells hg) (by have := HPI.out; have := HPL.out; have := HM.out; unfold maxLen; omega) (by have := HPL.out; have := HM.out; rw [h4]; omega) hD.le f4.2
              rw [exec_append 30 (.tmp 34) (.tmp 36) rfl rfl rfl r1]
              exact ⟨r3, r2⟩
            apply Exists.intro
            refine ⟨by simp only [Act.put, List.setIfInBounds_toArray, List.set_cons_succ, List.set_cons_zero]; rfl, ?_⟩
            iterate 2
              refine WM.mono_pure rfl rfl ?_
              apply Exists.intro
              refine ⟨fun x => ?_, ?_⟩
              · go_simp
                rfl
              apply Exists.intro
              refine ⟨by simp only [Act.put, List.setIfInBounds_toArray, List.set_cons_succ, List.set_cons_zero]; rfl, ?_⟩
            refine WM.mono_pure rfl rfl ?_
            refine ⟨.slice (cutA2 A c p) (ls.length - p) (c - p), fun x => ?_, ?_⟩
            · exact exec_slice 30 (.tmp 38) (some (.tmp 39)) none none rfl rfl rfl rfl rfl (run_sliceAt_from2 30 35 Try.underlying30 size35o A ls.length c p HPL.out x)
            apply Exists.intro
            refine ⟨by simp only [Act.put, List.setIfInBounds_toArray, List.set_cons_succ, List.set_cons_zero]; rfl, ?_⟩
            refine WM.mono_nil ?_
            intro x hD hF _
            have H7 : Hid (P7 (w.heap.size + 1) p ls d v37 x) := Lib.hid (hF 7).1
            refine wpList_append_dotsc rfl (.tmp 37) (.tmp 40) 30 rfl (w.heap.size + 1) 35 (.agg #[.int .i64 0, .int .u64 0]) 16 Try.underlying30 info35 rfl _ (p + 1) _ rfl H7.out (ls.drop p) (cutA2 A c p) (c - p) (· < w.heap.size) (by rw [List.length_drop]; rfl) (hD.l.behind HPL.out HC.out) (by have := HPL.out; have := HM.out; rw [List.length_drop]; unfold maxLen; omega) (by have := HPL.out; have := HM.out; rw [List.length_drop]; omega) hD.le ?_
            intro v5 w5 H5 B5
            rw [HDD.out] at H5
            obtain ⟨A5, c5, rfl, hd5, hl5, _⟩ := own_dots H5.out
            have HB5 : Hid (Below w.heap.size w w5) := Lib.hid (hD.below.trans (B5.out.mono (Nat.le_succ _)))
            have HD5 : Hid (Dots w5 (· < w5.heap.size) A5 (insertF ls d)) := Lib.hid (hd5.loose fun b h => h.2)
            have HL5 := Lib.hid hl5
            clear hD hF hd5 hl5 H7 HX
            go_simp
            go_wp2
            go_ret
            exact ⟨A5, c5, rfl, HD5.out, HL5.out, HB5.out⟩
end Go.Proofs.Ytnpacjdgbmldlaa

/- sort.Search; whether a dot is among others that are in order. -/
namespace Go.Proofs.Ytnpacjdgbmldlaa
open Go.RowKit Go.Shelf Go.Lib Go.Sort

set_option maxRecDepth 100000 in
set_option maxHeartbeats 2000000 in
theorem search_any (g : Nat) (lb : Array Value) (n : Nat) (p : Nat → Bool) (w : World) (hE : Enters g) (hn : n ≤ 1000000)
    (hf : ∀ (i : Nat) W, i < n → Below w.heap.size w W → Calls Try.prog g (#[.int .i64 (i : Int)] ++ lb) W fun e W' => e = .returned (.bool (p i)) ∧ Below W.heap.size W W') :
    Calls Try.prog 88 #[.int .i64 (n : Int), .func (.func g) #[] lb] w fun e w' => ∃ r : Nat, e = .returned (.int .i64 (r : Int)) ∧ r ≤ n ∧ (r = 0 ∨ p (r - 1) = false) ∧ (r = n ∨ p r = true) ∧ Below w.heap.size w w' := by
  have HF := Lib.hid hf
  have HN := Lib.hid hn
  have eg : ∀ args w, (callFunc g args).run Try.prog w = .ok (.enter g args) w := hE
  clear hf hn hE
  go_enter Try.func88, Try.ntmps88
  go_wp2
  go_loopw [5, 6] (fun a b wr => ∃ lo hi : Nat, a = .int .i64 (lo : Int) ∧ b = .int .i64 (hi : Int) ∧ lo ≤ hi ∧ hi ≤ n ∧ Hid (lo = 0 ∨ p (lo - 1) = false) ∧ Hid (hi = n ∨ p hi = true) ∧ Hid (Below w.heap.size w wr)) (fun a b _ => (intOf b).toNat - (intOf a).toNat)
  case atStart => exact ⟨0, n, rfl, rfl, by omega, Nat.le_refl _, Lib.hid (.inl rfl), Lib.hid (.inl rfl), Lib.hid (Below.refl _ _)⟩
  case round =>
    obtain ⟨lo, hi, rfl, rfl, h1, h2, HL, HH, HB⟩ := hrel
    by_cases hlt : lo < hi
    · obtain ⟨m, hm⟩ : ∃ m : Nat, m = (lo + hi) / 2 := ⟨_, rfl⟩
      have hm1 : lo ≤ m := by omega
      have hm2 : m < hi := by omega
      have e1 : IntKind.i64.wrap ((lo : Int) + (hi : Int)) = ((lo + hi : Nat) : Int) := by have := HN.out; rw [IntKind.wrap_i64]; omega
      have e3 : IntKind.i64.wrap ((m : Int) + 1) = (m : Int) + 1 := by have := HN.out; rw [IntKind.wrap_i64]; omega
      have E2 : Hid (wrap64 (IntKind.u64.wrap ((lo : Int) + (hi : Int)) / 2) = (m : Int)) := Lib.hid (by
        have hu : IntKind.u64.wrap ((lo : Int) + (hi : Int)) = (lo : Int) + (hi : Int) := by have := HN.out; simp [IntKind.wrap, IntKind.bits, IntKind.signed]; omega
        rw [hu, hm]
        unfold wrap64
        have := HN.out
        omega)
      clear hm
      go_wp2_with fail
      rw [E2.out]
      refine (HF.out m wr (by omega) HB.out).mono ?_
      rintro e w2 ⟨rfl, hb⟩
      have HB2 := Lib.hid (HB.out.trans (hb.mono HB.out.size))
      clear hb HB e1
      cases hp : p m with
      | true =>
        have HP := Lib.hid hp
        clear hp e3
        go_wp2_with fail
        go_roundw
        case rel => exact ⟨lo, m, rfl, rfl, by omega, by omega, HL, Lib.hid (.inr HP.out), HB2⟩
        case measure => simp [intOf]; omega
      | false =>
        have HP := Lib.hid hp
        clear hp
        go_wp2_with fail
        go_roundw
        all_goals clear e3
        case rel => exact ⟨m + 1, hi, by go_num, rfl, by omega, by omega, Lib.hid (.inr (by simpa using HP.out)), HH, HB2⟩
        case measure => simp [intOf]; omega
    · obtain rfl : lo = hi := by omega
      go_wp2_with fail
      go_ret
      exact ⟨lo, rfl, h2, HL.out, HH.out, HB.out⟩

/-! ### among -/
set_option maxRecDepth 100000 in
set_option maxHeartbeats 2000000 in
theorem among1_any (ls : List Dt) (c : Nat) (A : Option Addr) (d : Dt) (b1 b2 : Nat) (i : Nat) (w : World) (hv : Dots w (· < w.heap.size) A ls) (hi : i < ls.length) (hm : ls.length ≤ 1000000)
    (h1 : w.cell? ⟨b1, 0, none⟩ = some (.slice A ls.length c)) (h2 : DotAt w b2 25 d.1 d.2) :
    Calls Try.prog 132 #[.int .i64 (i : Int), .pointer (some ⟨b1, 0, none⟩), .pointer (some ⟨b2, 0, none⟩)] w fun e w' => e = .returned (.bool (!Vec.less (ls.getD i (0, 0)).1 (ls.getD i (0, 0)).2 d.1 d.2)) ∧ Below w.heap.size w w' := by
  obtain ⟨b, o, hA⟩ := hv.some_ (by omega)
  subst hA
  obtain ⟨x, hx⟩ : ∃ x, x = ls.getD i (0, 0) := ⟨_, rfl⟩
  have HR : Hid (rangeA w b (o + i * 2) (dotC x)) := Lib.hid (by rw [hx]; exact hv.at_j hi)
  obtain ⟨c0, c1⟩ := hv.cells hi
  rw [← hx] at c0 c1 ⊢
  have d0 := h2.node
  have d1 := h2.num
  have hii : (i : Int) < (ls.length : Int) := by omega
  have HC := Lib.hid (fun W => less_any x.1 x.2 d.1 d.2 W)
  clear hx hv h2
  go_enter Try.func132, Try.ntmps132
  go_wp2_with fail
  go_region_with (refine (HC.out _).mono ?_; rintro e w2 ⟨rfl, hb⟩)
  all_goals
    have HB := Lib.hid (below_from_drew hb)
    clear hb HC
    go_wp2
    go_ret
    exact ⟨rfl, HB.out⟩

theorem among_math {ls : List Dt} (hs : ls.Pairwise Lt) (d : Dt) (r : Nat) (h1 : r = 0 ∨ (!Vec.less (ls.getD (r - 1) (0, 0)).1 (ls.getD (r - 1) (0, 0)).2 d.1 d.2) = false)
    (h2 : r = ls.length ∨ (!Vec.less (ls.getD r (0, 0)).1 (ls.getD r (0, 0)).2 d.1 d.2) = true) (hr : r ≤ ls.length) : d ∈ ls ↔ r < ls.length ∧ ls.getD r (0, 0) = d := by
  constructor
  · intro hd
    obtain ⟨j, hj, e⟩ := List.getElem_of_mem hd
    have ej : ls.getD j (0, 0) = d := by rw [List.getD_eq_getElem?_getD, List.getElem?_eq_getElem hj]; exact e
    have lt : ∀ a b, a < b → b < ls.length → Lt (ls.getD a (0, 0)) (ls.getD b (0, 0)) := fun a b hab hb => by
      have h := List.pairwise_iff_getElem.1 hs a b (by omega) hb hab
      rw [List.getD_eq_getElem?_getD, List.getElem?_eq_getElem (by omega), List.getD_eq_getElem?_getD, List.getElem?_eq_getElem hb]
      exact h
    have e2 : j = r := by
      rcases Nat.lt_trichotomy j r with h | h | h
      · rcases h1 with h1 | h1
        · omega
        · have h3 : Lt (ls.getD (r - 1) (0, 0)) d := by simpa [Lt] using h1
          rcases Nat.lt_or_ge j (r - 1) with h4 | h4
          · have h5 := lt j (r - 1) h4 (by omega)
            rw [ej] at h5
            exact absurd (h5.trans h3) (Lt.irrefl d)
          · rw [show r - 1 = j by omega, ej] at h3
            exact absurd h3 (Lt.irrefl d)
      · exact h
      · rcases h2 with h2 | h2
        · omega
        · have h5 := lt r j h hj
          rw [ej] at h5
          unfold Lt at h5
          rw [h5] at h2
          simp at h2
    subst e2
    exact ⟨hj, ej⟩
  · rintro ⟨h3, h4⟩
    rw [← h4, List.getD_eq_getElem?_getD, List.getElem?_eq_getElem h3]
    exact List.getElem_mem h3
theorem enters132 : Enters 132 := enters_of Try.func132 (by kernel_rfl) rfl

set_option maxRecDepth 100000 in
set_option maxHeartbeats 4000000 in
theorem among_any (ls : List Dt) (c : Nat) (A : Option Addr) (d : Dt) (w : World) (hv : Dots w (· < w.heap.size) A ls) (hm : ls.length ≤ 1000000) (hs : ls.Pairwise Lt) :
    Calls Try.prog 113 #[.slice A ls.length c, dotV d.1 d.2] w fun e w' => e = .returned (.bool (decide (d ∈ ls))) ∧ Below w.heap.size w w' := by
  have HV := Lib.hid hv
  have HM := Lib.hid hm
  have HS := Lib.hid hs
  clear hv hm hs
  obtain ⟨w1, hw1⟩ : ∃ w1, w1 = (w.alloc (.cells #[.slice A ls.length c] 22)).alloc (.cells (dotC d) 25) := ⟨_, rfl⟩
  have hs1 : (w.alloc (.cells #[.slice A ls.length c] 22)).heap.size = w.heap.size + 1 := by simp
  have hB1 : Below w.heap.size w w1 := by rw [hw1]; exact below2 _ _ _
  have hb1 : w1.heap[w.heap.size]? = some (.cells #[.slice A ls.length c] 22 (0, 0)) := by rw [hw1]; exact (Below.heap_alloc _ _ _ (by simp)).trans (heap_alloc_new _ _)
  have hd1 : DotAt w1 (w.heap.size + 1) 25 d.1 d.2 := by rw [hw1, ← hs1]; exact DotAt.new _ 25 d.1 d.2
  have HB1 := Lib.hid hB1
  have HX1 := Lib.hid hb1
  have HD1 := Lib.hid hd1
  have HSE := Lib.hid (search_any 132 #[.pointer (some ⟨w.heap.size, 0, none⟩), .pointer (some ⟨w.heap.size + 1, 0, none⟩)] ls.length (fun i => !Vec.less (ls.getD i (0, 0)).1 (ls.getD i (0, 0)).2 d.1 d.2) w1 enters132 HM.out (fun i W hi hW => by
    have hB := HB1.out.trans (hW.mono HB1.out.size)
    exact among1_any ls c A d w.heap.size (w.heap.size + 1) i W ((HV.out.below hB).loose fun b hb => Nat.lt_of_lt_of_le hb hB.size) hi HM.out
      (by rw [cell_of_row _ _ _ _ _ _ ((hW.block _ (lt_of_row hb1)).trans hb1)]; rfl) (HD1.out.below hW HD1.out.lt)))
  have HW1 := Lib.hid hw1
  clear hB1 hb1 hd1 hs1
  go_enter Try.func113, Try.ntmps113
  go_wp2_with fail
  rw [show (w.alloc (Obj.cells #[Value.slice A ls.length c] 22)).alloc (Obj.cells (dotC d) 25) = w1 from hw1.symm]
  clear hw1
  refine HSE.out.mono ?_
  rintro e w2 ⟨r, rfl, hr, hr1, hr2, hb⟩
  have HMEM := Lib.hid (among_math HS.out d r hr1 hr2 hr)
  have HB2 := Lib.hid (HB1.out.trans (hb.mono HB1.out.size))
  have hx2 : w2.cell? ⟨w.heap.size, 0, none⟩ = some (.slice A ls.length c) := by rw [cell_of_row _ _ _ _ _ _ ((hb.block _ (lt_of_row HX1.out)).trans HX1.out)]; rfl
  have HD2 := Lib.hid (HD1.out.below hb HD1.out.lt)
  have d0 := HD2.out.node
  have d1 := HD2.out.num
  clear hr1 hr2 hb HSE HX1 HD1 HD2
  by_cases hlt : r < ls.length
  · obtain ⟨b, o, hA⟩ := HV.out.some_ (by omega)
    subst hA
    obtain ⟨c0, c1⟩ := (HV.out.below HB2.out).cells hlt
    obtain ⟨x, hx⟩ : ∃ x, x = ls.getD r (0, 0) := ⟨_, rfl⟩
    have HX := Lib.hid hx
    rw [← hx] at c0 c1
    have HMM : Hid (decide (d ∈ ls) = decide (x = d)) := Lib.hid (by rw [HX.out]; exact decide_eq_decide.2 (HMEM.out.trans ⟨fun h => h.2, fun h => ⟨hlt, h⟩⟩))
    have hri : (r : Int) < (ls.length : Int) := by omega
    clear hx
    obtain ⟨x1, x2⟩ := x
    obtain ⟨d1', d2'⟩ := d
    simp only at d0 d1
    by_cases e1 : x1 = d1'
    · by_cases e2 : x2 = d2'
      · subst e1 e2
        have HE : Hid (decide ((x1, x2) ∈ ls) = true) := Lib.hid (by rw [HMM.out]; simp)
        clear HMM
        go_wp2_with fail
        go_region
        go_wp2
        go_ret
        exact ⟨ret_bool HE.out.symm, HB2.out.drew⟩
      · subst e1
        have HE : Hid (decide ((x1, d2') ∈ ls) = false) := Lib.hid (by rw [HMM.out]; exact decide_eq_false fun e => e2 (by injection e))
        have b2 : ((x2 : Int) == (d2' : Int)) = false := by rw [beq_eq_false_iff_ne]; omega
        clear HMM e2
        go_wp2_with fail
        go_region
        go_wp2
        go_ret
        exact ⟨ret_bool HE.out.symm, HB2.out.drew⟩
    · have HE : Hid (decide ((d1', d2') ∈ ls) = false) := Lib.hid (by rw [HMM.out]; exact decide_eq_false fun e => e1 (by injection e))
      have b2 : (x1 == d1') = false := by rw [beq_eq_false_iff_ne]; exact e1
      clear HMM e1
      go_wp2_with fail
      go_region
      go_wp2
      go_ret
      exact ⟨ret_bool HE.out.symm, HB2.out.drew⟩
  · have HE : Hid (decide (d ∈ ls) = false) := Lib.hid (decide_eq_false fun h => hlt (HMEM.out.1 h).1)
    have hri : ¬ ((r : Int) < (ls.length : Int)) := by omega
    clear HMEM
    go_wp2_with fail
    go_region
    go_wp2
    go_ret
    exact ⟨ret_bool HE.out.symm, HB2.out.drew⟩
end Go.Proofs.Ytnpacjdgbmldlaa

/- The iterator over the dots of one list that stand in another, or don't. -/
namespace Go.Proofs.Ytnpacjdgbmldlaa
open Go.RowKit Go.Shelf Go.Lib Go.Sort
attribute [local go_sem] Oper.semAt_some

theorem YieldAt.deep {m : Nat} (m' : Nat) {P : Program} {l : Nat} {args : Array Value} {W : World} {R : Ending → World → Prop} (h : YieldAt Fence.wide m P l args W R) : YieldAt Fence.wide m' P l args W R := by
  obtain ⟨fn, tmps, assign, body, hy, hR⟩ := h
  exact ⟨fn, tmps, assign, body, hy, hR.1, fun c cs _ => hR.2 c cs (room_wide _)⟩
theorem RoundIn.deepIn {m : Nat} (m' l' : Nat) {P : Program} {l : Nat} {f : FuncId} {tmps : Array Value} {assign body : Code} {w : World} {R : Ending → World → Prop} (h : RoundIn Fence.wide m P l f tmps assign body w R) : RoundIn (Fence.wide.inRound l') m' P l f tmps assign body w R :=
  ⟨h.1, fun c cs _ => h.2 c cs (room_wide _)⟩
def pickF (xs ys : List Dt) (q : Bool) : List Dt := (rt xs).filter fun d => decide (d ∈ rt ys) == q

/-- What the iterator laid itself, and what its caller collects in box n₀: between two rounds. -/
structure PickI (n₀ : Nat) (W V : World) (X : World) : Prop where
  below : Below n₀ W X
  mine : ∀ k o, W.heap.size ≤ k → V.heap[k]? = some o → o.isCells = true → X.heap[k]? = some o
  own : ∀ k, boxOwn n₀ X = some k → k < W.heap.size ∨ V.heap.size ≤ k
  size : V.heap.size ≤ X.heap.size
theorem PickI.grow {n₀ : Nat} {W V X Y : World} (h : PickI n₀ W V X) (hn : n₀ < W.heap.size) (hW : W.heap.size ≤ V.heap.size) (hb : Below X.heap.size X Y) : PickI n₀ W V Y where
  below := h.below.trans (hb.mono (by have := h.size; omega))
  mine k o h1 h2 h3 := (hb.block k (lt_of_row (h.mine k o h1 h2 h3))).trans (h.mine k o h1 h2 h3)
  own k hk := by
    rw [boxOwn_eq (hb.block n₀ (by have := h.size; omega))] at hk
    exact h.own k hk
  size := Nat.le_trans h.size hb.size
theorem PickI.round {n₀ : Nat} {W V X Y : World} (h : PickI n₀ W V X) (hn : n₀ < W.heap.size) {N : Nat} (hk : KeepB n₀ N X Y) : PickI n₀ W V Y where
  below := h.below.trans hk.below
  mine k o h1 h2 h3 := hk.kept k o (h.mine k o h1 h2 h3) h3 (by omega) fun e => by
    rcases h.own k e with h4 | h4
    · omega
    · have := lt_of_row h2
      omega
  own k he := by
    rcases hk.own k he with h1 | h1
    · exact h.own k h1
    · exact .inr (Nat.le_trans h.size h1)
  size := Nat.le_trans h.size hk.below.size
theorem PickI.own_ {n₀ : Nat} {W V : World} (hn : n₀ < W.heap.size) (hW : W.heap.size ≤ V.heap.size) {β : Type} : OwnFrom V.heap.size (fun (_ : β) X => PickI n₀ W V X) := fun _ A C row hs hg hr => by
  have hne : ∀ k, k < V.heap.size → some k ≠ row := fun k hk e => by
    have := (hr k e.symm).1
    omega
  refine ⟨hs.below.grown hg (by have := hs.size; omega) (fun k e => ?_), fun k o h1 h2 h3 => ?_, fun k hk => ?_, Nat.le_trans hs.size hg.size⟩
  · have := (hr k e).1
    omega
  · exact (hg.block k (lt_of_row (hs.mine k o h1 h2 h3)) (hne k (lt_of_row h2))).trans (hs.mine k o h1 h2 h3)
  · rw [boxOwn_eq (hg.block n₀ (by have := hs.size; omega) (hne n₀ (by omega)))] at hk
    exact hs.own k hk

set_option maxRecDepth 100000 in
set_option maxHeartbeats 4000000 in
theorem picked_yields (xs ys : List Dt) (q : Bool) (bx by_ bq n₀ : Nat) (A B : Option Addr) (cA cB : Nat) (w : World) (hnx : bx < n₀) (hny : by_ < n₀) (hnq : bq < n₀) (hn : n₀ ≤ w.heap.size)
    (hx : w.heap[bx]? = some (.cells #[.slice A xs.length cA] 22 (0, 0))) (hy : w.heap[by_]? = some (.cells #[.slice B ys.length cB] 22 (0, 0))) (hq : w.heap[bq]? = some (.cells #[.bool q] 4 (0, 0)))
    (hX : Dots w (· < n₀) A xs) (hYY : Dots w (· < n₀) B ys) (hmx : xs.length ≤ 1000000) (hmy : ys.length ≤ 1000000) :
    Yields 112 #[.pointer (some ⟨by_, 0, none⟩), .pointer (some ⟨bx, 0, none⟩), .pointer (some ⟨bq, 0, none⟩)] (pickF xs ys q) n₀ w := by
  intro m h1 l J W hW hPre hJ hY h0
  obtain ⟨hp1, hp2⟩ := hPre
  refine (callsIn_wide (n := m)).2 ((callsIn_wide (n := 9)).1 ?_)
  have HY := Lib.hid (fun pre x W1 hj hl => YieldAt.deep 5 (hY pre x W1 hj hl))
  have HJ := Lib.hid hJ
  have HW := Lib.hid (hW.mono hn)
  have HX := Lib.hid (hX.below HW.out)
  have HYY := Lib.hid (hYY.below HW.out)
  have hbx : W.heap[bx]? = some (.cells #[.slice A xs.length cA] 22 (0, 0)) := (HW.out.block bx hnx).trans hx
  have hby : W.heap[by_]? = some (.cells #[.slice B ys.length cB] 22 (0, 0)) := (HW.out.block by_ hny).trans hy
  have hbq : W.heap[bq]? = some (.cells #[.bool q] 4 (0, 0)) := (HW.out.block bq hnq).trans hq
  have HBX := Lib.hid hbx
  have HBY := Lib.hid hby
  have HBQ := Lib.hid hbq
  have HP1 := Lib.hid hp1
  have HP2 := Lib.hid hp2
  have H0 := Lib.hid h0
  have HMX := Lib.hid hmx
  have HMY := Lib.hid hmy
  have HNW : Hid (n₀ ≤ W.heap.size) := Lib.hid (Nat.le_of_lt hp1)
  clear hY hJ hX hYY hx hy hq hbx hbq hp2 h0 hW hmx hmy
  have hcy : W.cell? ⟨by_, 0, none⟩ = some (.slice B ys.length cB) := by rw [cell_of_row _ _ _ _ _ _ hby]; rfl
  have hyy : by_ ≠ W.heap.size := by have := lt_of_row hby; omega
  clear hby
  change CallsIn Fence.wide 9 Try.prog 112 #[.func (.yield l) #[] #[], .pointer (some ⟨by_, 0, none⟩), .pointer (some ⟨bx, 0, none⟩), .pointer (some ⟨bq, 0, none⟩)] W _
  refine callsIn_of_wp_marks Try.func112 rfl trivial ?_ rfl
  simp only [Try.ntmps112, List.size_toArray, List.length_cons, List.length_nil, Nat.reduceAdd, Nat.reduceSub, Array.replicate_succ, Array.replicate_zero, List.push_toArray, List.append_toArray, List.nil_append, List.cons_append]
  have hcy1 : (W.alloc (.cells #[.func (.yield l) #[] #[]] 51)).cell? ⟨by_, 0, none⟩ = some (.slice B ys.length cB) := (World.cell?_alloc_old _ _ _ hyy).trans hcy
  clear hcy hyy
  gi_wp2_with fail
  refine ⟨trivial, (callsIn_wide.2 (rightV_any _ 1 1 _)).mono ?_⟩
  rintro e w3 ⟨rfl, hw3⟩
  have hsz3 : w3.heap.size = W.heap.size + 3 := by rw [hw3]; simp
  have hB3 : Below W.heap.size W w3 := by rw [hw3]; exact (below2 _ _ _).alloc (by simp; omega) _
  have hby3 : w3.heap[W.heap.size]? = some (.cells #[.func (.yield l) #[] #[]] 51 (0, 0)) := by
    rw [hw3, Below.heap_alloc _ _ _ (by simp; omega), Below.heap_alloc _ _ _ (by simp)]
    exact heap_alloc_new _ _
  have hrow3 : w3.heap[W.heap.size + 1]? = some (.cells #[.slice B ys.length cB] 22 (0, 0)) := by
    rw [hw3, Below.heap_alloc _ _ _ (by simp)]
    have h := heap_alloc_new (W.alloc (.cells #[.func (.yield l) #[] #[]] 51)) (.cells #[.slice B ys.length cB] 22)
    rwa [World.size_alloc] at h
  have hbox3 : w3.heap[W.heap.size + 2]? = some (.cells #[.slice (some ⟨W.heap.size + 1, 0, none⟩) 1 1] 149 (0, 0)) := by
    rw [hw3]
    have h := heap_alloc_new ((W.alloc (.cells #[.func (.yield l) #[] #[]] 51)).alloc (.cells #[.slice B ys.length cB] 22)) (.cells #[.slice (some ⟨W.heap.size + 1, 0, none⟩) 1 1] 149)
    rwa [World.size_alloc, World.size_alloc] at h
  have HY3 : Hid (Dots w3 (· < w3.heap.size) B ys) := Lib.hid ((HYY.out.below (hB3.mono HNW.out)).loose fun b h => by have := HNW.out; omega)
  have hrts : rts [ys] = rt ys := by simp [rts]
  have hyl := right_yields (W.heap.size + 2) w3.heap.size (W.heap.size + 1) 0 1 [ys] (by simp) (fun l hl => by rw [List.mem_singleton.1 hl]; exact HMY.out) w3 (by omega) (by omega)
    (by rw [cell_of_row _ _ _ _ _ _ hbox3]; rfl)
    ⟨fun i hi => by
      obtain rfl : i = 0 := by simpa using hi
      exact ⟨B, cB, by rw [cell_of_row _ _ _ _ _ _ hrow3]; rfl, HY3.out⟩⟩
  rw [hrts] at hyl
  have HSO := Lib.hid (sorted_any 110 _ (rt ys) w3 enters110 hyl (Nat.le_trans (List.length_filter_le _ _) HMY.out))
  have HB3 := Lib.hid hB3
  have HBY3 := Lib.hid hby3
  have HZ3 := Lib.hid hsz3
  clear hw3 hsz3 hB3 hby3 hrow3 hbox3 hrts hyl hcy1
  gi_wp2_with fail
  refine ⟨trivial, (callsIn_wide.2 HSO.out).mono ?_⟩
  rintro e w4 ⟨A', c', rfl, hD4, hc4, hB4⟩
  have hB5 := HB3.out.trans (hB4.mono (by have := HZ3.out; omega))
  have hby4 := (hB4.block _ (lt_of_row HBY3.out)).trans HBY3.out
  obtain ⟨hd, hhd⟩ : ∃ hd, hd = sortD (rt ys) := ⟨_, rfl⟩
  have HHD := Lib.hid hhd
  rw [← hhd] at hD4 hc4 ⊢
  have HD4 := Lib.hid hD4
  have HC4 := Lib.hid hc4
  have HB4 := Lib.hid hB5
  have HBY4 := Lib.hid hby4
  have HW3 : Hid (W.heap.size ≤ w3.heap.size) := Lib.hid (by have := HZ3.out; omega)
  have HZ4 : Hid (W.heap.size + 3 ≤ w4.heap.size) := Lib.hid (by have := hB4.size; have := HZ3.out; omega)
  have hbx4 : w4.heap[bx]? = some (.cells #[.slice A xs.length cA] 22 (0, 0)) := (hB5.block bx (by have := lt_of_row HBX.out; omega)).trans HBX.out
  have hcx5 : (w4.alloc (.cells #[.slice A' hd.length c'] 22)).cell? ⟨bx, 0, none⟩ = some (.slice A xs.length cA) := by
    rw [World.cell?_alloc_old _ _ _ (by have := lt_of_row hbx4; show bx ≠ w4.heap.size; omega), cell_of_row _ _ _ _ _ _ hbx4]
    rfl
  clear hhd hD4 hc4 hB4 hB5 hby4 HSO HY3 HB3 HBY3 HZ3 hbx4
  gi_wp2_with fail
  refine ⟨trivial, (callsIn_wide.2 (rightV_any _ 1 1 _)).mono ?_⟩
  rintro e V ⟨rfl, hw7⟩
  have hsz7 : V.heap.size = w4.heap.size + 3 := by rw [hw7]; simp
  have hB7 : Below w4.heap.size w4 V := by rw [hw7]; exact (below2 _ _ _).alloc (by simp; omega) _
  have hhb7 : V.heap[w4.heap.size]? = some (.cells #[.slice A' hd.length c'] 22 (0, 0)) := by
    rw [hw7, Below.heap_alloc _ _ _ (by simp; omega), Below.heap_alloc _ _ _ (by simp)]
    exact heap_alloc_new _ _
  have hrow7 : V.heap[w4.heap.size + 1]? = some (.cells #[.slice A xs.length cA] 22 (0, 0)) := by
    rw [hw7, Below.heap_alloc _ _ _ (by simp)]
    have h := heap_alloc_new (w4.alloc (.cells #[.slice A' hd.length c'] 22)) (.cells #[.slice A xs.length cA] 22)
    rwa [World.size_alloc] at h
  have hbox7 : V.heap[w4.heap.size + 2]? = some (.cells #[.slice (some ⟨w4.heap.size + 1, 0, none⟩) 1 1] 149 (0, 0)) := by
    rw [hw7]
    have h := heap_alloc_new ((w4.alloc (.cells #[.slice A' hd.length c'] 22)).alloc (.cells #[.slice A xs.length cA] 22)) (.cells #[.slice (some ⟨w4.heap.size + 1, 0, none⟩) 1 1] 149)
    rwa [World.size_alloc, World.size_alloc] at h
  have hBV : Below W.heap.size W V := HB4.out.trans (hB7.mono (by have := HZ4.out; omega))
  have hpv : PickI n₀ W V V := ⟨hBV.mono HNW.out, fun k o _ h _ => h, fun k hk => by
    rw [boxOwn_eq (hBV.block n₀ HP1.out)] at hk
    exact .inl (HP2.out k hk), Nat.le_refl _⟩
  have hj7 : J [] V := HJ.out _ _ _ none H0.out (only_below hBV none) (fun r e => by cases e)
  have hX7 : Dots V (· < n₀) A xs := HX.out.below (hBV.mono HNW.out)
  have hD7 : Dots V (fun b => W.heap.size ≤ b ∧ b < w4.heap.size) A' hd := (HD4.out.loose fun b h => ⟨by have := h.1; have := HW3.out; omega, h.2⟩).keep fun b j hb _ => World.cell?_of_block (w := w4) (a := ⟨b, j, none⟩) (hB7.block b hb.2)
  have hby7 : V.heap[W.heap.size]? = some (.cells #[.func (.yield l) #[] #[]] 51 (0, 0)) := (hB7.block _ (lt_of_row HBY4.out)).trans HBY4.out
  have hbq7 : V.heap[bq]? = some (.cells #[.bool q] 4 (0, 0)) := (hBV.block bq (lt_of_row HBQ.out)).trans HBQ.out
  have HSP := Lib.hid (sortD_spec (rt ys))
  rw [← HHD.out] at HSP
  have HHL : Hid (hd.length ≤ 1000000) := Lib.hid (by rw [HHD.out]; exact Nat.le_trans (sortD_len _) (Nat.le_trans (List.length_filter_le _ _) HMY.out))
  have HBV := Lib.hid hBV
  have HZ7 : Hid (W.heap.size + 3 ≤ w4.heap.size ∧ V.heap.size = w4.heap.size + 3) := Lib.hid ⟨HZ4.out, hsz7⟩
  have HJ7 := Lib.hid hj7
  have HX7 := Lib.hid hX7
  have HD7 := Lib.hid hD7
  have HBY7 := Lib.hid hby7
  have HBQ7 := Lib.hid hbq7
  have HHB7 := Lib.hid hhb7
  have HPV := Lib.hid hpv
  have hrts : rts [xs] = rt xs := by simp [rts]
  have hrg := right_gives (fun _ X Y => Below n₀ X Y ∧ ∀ k o, W.heap.size ≤ k → V.heap[k]? = some o → o.isCells = true → Y.heap[k]? = X.heap[k]?) (fun _ => True) (w4.heap.size + 2) n₀ (w4.heap.size + 1) 0 1 [xs] (by simp) (fun l hl => by rw [List.mem_singleton.1 hl]; exact HMX.out) V (by omega)
    (fun _ X Y hk hL => hL.kept hk.1 fun _ => hk.2 _ _ (by have := HZ4.out; omega) hrow7 rfl) (fun _ X Y hk => hk.1)
    (by rw [cell_of_row _ _ _ _ _ _ hbox7]; rfl)
    ⟨fun i hi => by
      obtain rfl : i = 0 := by simpa using hi
      exact ⟨A, cA, by rw [cell_of_row _ _ _ _ _ _ hrow7]; rfl, hX7⟩⟩
  rw [hrts] at hrg
  have HRG := Lib.hid hrg
  clear hw7 hsz7 hB7 hhb7 hrow7 hbox7 hBV hpv hj7 hX7 hD7 hby7 hbq7 hrts hrg hcx5 HHD HB4 HBY4 HD4 HC4 HX HYY HBX HBY H0 HP2 HW3 HZ4
  gi_wp2_with fail
  have s25 : ∀ d, Hid ((Try.prog.info? 25).map (·.size) = some (dotC d).size) := fun d => Lib.hid (dot_size25 d)
  obtain ⟨f, hf⟩ : ∃ f : Dt → Bool, f = fun d => decide (d ∈ rt ys) == q := ⟨_, rfl⟩
  have HF := Lib.hid hf
  have HPF : Hid (pickF xs ys q = (rt xs).filter f) := Lib.hid (by rw [hf]; rfl)
  clear hf
  refine wpIn_range_gives (n := 9) (by decide) (gf := 110) (lb := #[.pointer (some ⟨w4.heap.size + 2, 0, none⟩)]) rfl enters110 HRG.out (fun _ _ => trivial)
    (fun h k => ⟨h.1.trans k.1, fun j o a b c => (k.2 j o a b c).trans (h.2 j o a b c)⟩)
    (fun X l o o' hl _ ho hc => ⟨below_putObj (by have := HZ7.out; have := HNW.out; omega) _, fun k x h1 h2 h3 => World.putObj_heap_other (by have := lt_of_row h2; omega)⟩)
    (Below.refl _ _) (fun _ => rfl)
    (fun pre X => J (pre.filter f) X ∧ PickI n₀ W V X)
    (OwnFrom.and (fun s A B row hs hg hr => HJ.out _ A B row hs hg fun r e => ⟨by have := (hr r e).1; have := HZ7.out; omega, (hr r e).2⟩) (PickI.own_ HP1.out (by have := HZ7.out; omega)))
    ⟨HJ7.out, HPV.out⟩
    (fun x a' X => ∃ Bx, V.heap.size ≤ Bx ∧ DotAt X Bx 25 x.1 x.2 ∧ a' = { tmps := #[.func (.yield l) #[] #[], .pointer (some ⟨by_, 0, none⟩), .pointer (some ⟨bx, 0, none⟩), .pointer (some ⟨bq, 0, none⟩), .pointer (some ⟨W.heap.size, 0, none⟩), .pointer (some ⟨w4.heap.size, 0, none⟩), .pointer (some ⟨Bx, 0, none⟩), .slice B ys.length cB, .slice (some ⟨W.heap.size + 1, 0, none⟩) 1 1, .func (.func 110) #[] #[.pointer (some ⟨W.heap.size + 1 + 1, 0, none⟩)], .slice A' hd.length c', .slice A xs.length cA, .slice (some ⟨w4.heap.size + 1, 0, none⟩) 1 1, .func (.func 110) #[] #[.pointer (some ⟨w4.heap.size + 1 + 1, 0, none⟩)], .agg (dotC x), undef, undef, undef, undef, undef, undef, undef, undef, undef, undef, undef], defers := [] })
    (fun x a' _ X Y row hs hg hr => by obtain ⟨Bx, h1, h2, h3⟩ := hs; exact ⟨Bx, h1, dotAt_own Bx 25 (fun (_ : Unit) => x.1) (fun _ => x.2) () X Y row h2 hg (fun r e => (hr r e).2), h3⟩)
    ?assign ?body ?done
  case assign =>
    rintro l' pre x X K ⟨hjx, hpx⟩ hK
    gi_wp2_with (first
      | (refine wpListIn_store_row rfl 25 _ _ rfl X.heap.size (dotC x) rfl rfl 25 _ (heap_alloc_new _ _) (s25 x).out rfl rfl ?_; rw [World.setRow_alloc_new])
      | fail)
    refine hK _ _ ((KeepsOthers.alloc _ _).from _) ⟨(below1 X _).mono (by have := hpx.size; have := HZ7.out; have := HNW.out; omega), fun k o h1 h2 h3 => Below.heap_alloc _ _ _ (lt_of_row (hpx.mine k o h1 h2 h3))⟩
      ⟨HJ.out _ _ _ none hjx (World.grownBy_alloc X _ none) (fun r e => by cases e), hpx.grow HP1.out (by have := HZ7.out; omega) (below1 X _)⟩ ⟨X.heap.size, hpx.size, DotAt.new X 25 x.1 x.2, rfl⟩
  case body =>
    rintro l' pre x a' X ⟨hjx, hpx⟩ ⟨Bx, hBx, bX, rfl⟩ hpre
    have hmix : Try.prog.follows .mixedOrders = true := by kernel_rfl
    have hhb : X.heap[w4.heap.size]? = some (.cells #[.slice A' hd.length c'] 22 (0, 0)) := hpx.mine _ _ (by have := HZ7.out; omega) HHB7.out rfl
    have hyb : X.heap[W.heap.size]? = some (.cells #[.func (.yield l) #[] #[]] 51 (0, 0)) := hpx.mine _ _ (Nat.le_refl _) HBY7.out rfl
    have hqb : X.heap[bq]? = some (.cells #[.bool q] 4 (0, 0)) := (hpx.below.block bq hnq).trans HBQ.out
    have hDX : Dots X (· < X.heap.size) A' hd := ⟨fun hp => by
      obtain ⟨b, o, e, hb, hc⟩ := HD7.out.at_ hp
      refine ⟨b, o, e, by have := hpx.size; have := HZ7.out; omega, fun j hj i v hi => ?_⟩
      have h1 := hc j hj i v hi
      obtain ⟨ob, hob, hoc⟩ := cells_of_cell h1
      have h2 := hpx.mine b ob (by omega) hob hoc
      rw [← h1]
      exact World.cell?_of_block (w := V) (a := ⟨b, o + j * 2 + i, none⟩) (h2.trans hob.symm)⟩
    have HAM := Lib.hid (fun Y (hY : Below X.heap.size X Y) => among_any hd c' A' x Y ((hDX.below hY).loose fun b h => Nat.lt_of_lt_of_le h hY.size) HHL.out HSP.out.1)
    have hc5 : X.cell? ⟨w4.heap.size, 0, none⟩ = some (.slice A' hd.length c') := by rw [cell_of_row _ _ _ _ _ _ hhb]; rfl
    have hc4 : X.cell? ⟨W.heap.size, 0, none⟩ = some (.func (.yield l) #[] #[]) := by rw [cell_of_row _ _ _ _ _ _ hyb]; rfl
    have hc3 : X.cell? ⟨bq, 0, none⟩ = some (.bool q) := by rw [cell_of_row _ _ _ _ _ _ hqb]; rfl
    have hd0 := bX.node
    have hd1 := bX.num
    have HJX := Lib.hid hjx
    have HPX := Lib.hid hpx
    have HBX := Lib.hid bX
    clear hjx hpx bX hDX
    obtain ⟨bb, hbb⟩ : ∃ bb, bb = decide (x ∈ hd) := ⟨_, rfl⟩
    have HFX : Hid (f x = (bb == q)) := Lib.hid (by rw [HF.out, hbb]; simp only [decide_eq_decide.2 (HSP.out.2 x)])
    have HAM2 := Lib.hid (fun Y hY => by have h := HAM.out Y hY; rw [← hbb] at h; exact h)
    have HFP : Hid ((pre ++ [x]).filter f = pre.filter f ++ if (bb == q) = true then [x] else []) := Lib.hid (by rw [List.filter_append, List.filter_cons, HFX.out]; cases (bb == q) <;> simp)
    have HPX2 : Hid ((pre ++ [x]).filter f <+: pickF xs ys q) := Lib.hid (by rw [HPF.out]; exact List.IsPrefix.filter f hpre)
    rw [HFP.out] at HPX2
    clear hbb HAM
    have nxt : ∀ Y, Below X.heap.size X Y → Y.cell? ⟨bq, 0, none⟩ = some (.bool q) ∧ Y.cell? ⟨W.heap.size, 0, none⟩ = some (.func (.yield l) #[] #[]) ∧ DotAt Y Bx 25 x.1 x.2 ∧ J (pre.filter f) Y ∧ PickI n₀ W V Y := fun Y hY =>
      ⟨(World.cell?_of_block (w := X) (a := ⟨bq, 0, none⟩) (hY.block _ (lt_of_row hqb))).trans hc3, (World.cell?_of_block (w := X) (a := ⟨W.heap.size, 0, none⟩) (hY.block _ (lt_of_row hyb))).trans hc4, HBX.out.below hY HBX.out.lt,
        HJ.out _ _ _ none HJX.out (only_below hY none) (fun r e => by cases e), HPX.out.grow HP1.out (by have := HZ7.out; omega) hY⟩
    have NXT := Lib.hid nxt
    clear nxt hpre hhb hyb hqb
    have HXD : Hid (Below X.heap.size X X.drew) := Lib.hid (Below.refl _ _).drew
    by_cases hbq2 : bb = q
    · subst hbq2
      rw [if_pos (by simp)] at HPX2 HFP
      gi_wp2_with fail
      gi_region_with_o (first
        | (refine ⟨trivial, (CallsIn.inRound l' (callsIn_wide.2 (HAM2.out _ HXD.out))).mono ?_⟩
           rintro e w9 ⟨rfl, hb9⟩
           obtain ⟨hc3', hc4', hbx', hj', hp'⟩ := NXT.out w9 (HXD.out.trans hb9)
           have hd0' := hbx'.node
           have hd1' := hbx'.num
           have HP9 := Lib.hid hp'
           obtain ⟨fn, tmps, assign, body, hy, hR⟩ := HY.out (pre.filter f) x w9 hj' HPX2.out
           have HR := Lib.hid hR
           have HB9 := Lib.hid (HXD.out.trans hb9)
           clear hp' hj' hbx' hb9 hR)
        | (refine RoundIn.mono (RoundIn.deepIn 6 l' HR.out) ?_
           rintro e w10 ⟨rfl, hj10, hk10⟩
           have HJ10 := Lib.hid hj10
           have HK10 := Lib.hid hk10
           clear hj10 hk10 hy HR))
      all_goals
        gi_wp2_with fail
        have HP10 : PickI n₀ W V w10 := HP9.out.round HP1.out HK10.out
        refine ⟨⟨Nat.le_trans HB9.out.size HK10.out.below.size, fun k o hk ho hc => HK10.out.others k o (by have := HZ7.out; omega) ((HB9.out.block k (lt_of_row ho)).trans ho) hc⟩, ⟨(HB9.out.mono (by have := HPX.out.size; have := HZ7.out; have := HNW.out; omega)).trans HK10.out.below, fun k o h1 h2 h3 => (HP10.mine k o h1 h2 h3).trans (HPX.out.mine k o h1 h2 h3).symm⟩, ?_, HP10⟩
        rw [HFP.out]
        exact HJ10.out
    · have hbqf : (bb == q) = false := by rw [beq_eq_false_iff_ne]; exact hbq2
      rw [if_neg (by rw [hbqf]; simp), List.append_nil] at HFP
      have hqb2 : (q == bb) = false := by rw [beq_eq_false_iff_ne]; exact fun e => hbq2 e.symm
      gi_wp2_with fail
      gi_region_with_o (first
        | (refine ⟨trivial, (CallsIn.inRound l' (callsIn_wide.2 (HAM2.out _ HXD.out))).mono ?_⟩
           rintro e w9 ⟨rfl, hb9⟩
           obtain ⟨hc3', hc4', hbx', hj', hp'⟩ := NXT.out w9 (HXD.out.trans hb9)
           have HP9 := Lib.hid hp'
           have HJ9 := Lib.hid hj'
           have HB9 := Lib.hid (HXD.out.trans hb9)
           clear hp' hj' hbx' hb9)
        | (refine ⟨fun _ h => (by cases h), ?_⟩))
      all_goals
        gi_wp2_with fail
        refine ⟨⟨HB9.out.size, fun k o hk ho hc => (HB9.out.block k (lt_of_row ho)).trans ho⟩, ⟨HB9.out.mono (by have := HPX.out.size; have := HZ7.out; have := HNW.out; omega), fun k o h1 h2 h3 => (HP9.out.mine k o h1 h2 h3).trans (HPX.out.mine k o h1 h2 h3).symm⟩, ?_, HP9.out⟩
        rw [HFP.out]
        exact HJ9.out
  case done =>
    rintro D X hD ⟨hjx, hpx⟩ hK
    have HK := Lib.hid hK
    have HJX := Lib.hid hjx
    have HPX := Lib.hid hpx
    clear hK hjx hpx
    gi_wp2_with fail
    refine ⟨by simp, .inl ⟨_, _, rfl, run_takeDeferred HK.out, ?_⟩⟩
    refine ⟨_, results_none rfl _ _ _, ⟨_, rfl⟩, ?_⟩
    rw [HPF.out]
    exact HJ.out _ _ _ (some D) HJX.out (grownBy_putObj' X D _) (fun r e => by cases e; exact ⟨by have := HZ7.out; omega, _, HK.out, rfl⟩)

theorem enters112 : Enters 112 := enters_of Try.func112 (by kernel_rfl) rfl
set_option maxHeartbeats 400000 in
theorem pickedV_any (A B : Option Addr) (n c m d : Nat) (q : Bool) (w : World) : Calls Try.prog 77 #[.slice A n c, .slice B m d, .bool q] w fun e w' => e = .returned (.func (.func 112) #[] #[.pointer (some ⟨w.heap.size + 1, 0, none⟩), .pointer (some ⟨w.heap.size, 0, none⟩), .pointer (some ⟨w.heap.size + 1 + 1, 0, none⟩)]) ∧ w' = ((w.alloc (.cells #[.slice A n c] 22)).alloc (.cells #[.slice B m d] 22)).alloc (.cells #[.bool q] 4) := by
  go_enter Try.func77, Try.ntmps77
  go_wp2
  go_ret
  exact ⟨rfl, rfl⟩
theorem pickF_of (xs ys : List Dt) (q : Bool) : setF (pickF xs ys q) = ofF (someF xs ys q) := by
  rw [← setF_rt]
  congr 1
  unfold pickF someF rt
  rw [List.filter_filter, List.filter_filter]
  refine List.filter_congr fun d _ => ?_
  cases hr : Vec.right d.1 d.2 with
  | false => simp
  | true =>
    have h : (d ∈ ys.filter fun d => Vec.right d.1 d.2) ↔ d ∈ ys := by rw [List.mem_filter]; simp [hr]
    simp only [decide_eq_decide.2 h, Bool.and_true, Bool.true_and]

set_option maxRecDepth 100000 in
set_option maxHeartbeats 1000000 in
theorem meet_any (k : Nat) (q : Bool) (hk : (k = 35 ∧ q = true) ∨ (k = 37 ∧ q = false)) (xs ys : List Dt) (c c' : Nat) (A B : Option Addr) (w : World) (hx : Dots w (· < w.heap.size) A xs) (hy : Dots w (· < w.heap.size) B ys) (hmx : xs.length ≤ 1000000) (hmy : ys.length ≤ 1000000) :
    Calls Try.prog k #[.slice A xs.length c, .slice B ys.length c'] w fun e w' => ∃ g, e = .returned (.slice (some ⟨g, 0, none⟩) (ofF (someF xs ys q)).length (ofF (someF xs ys q)).length) ∧ w.heap.size ≤ g ∧ w'.heap[g]? = some (.cells (dots2 (ofF (someF xs ys q))).toArray 25 (0, 0)) ∧ Below w.heap.size w w' := by
  have HP := Lib.hid (pickedV_any A B xs.length c ys.length c' q w)
  obtain ⟨w1, hw1⟩ : ∃ w1, w1 = ((w.alloc (.cells #[.slice A xs.length c] 22)).alloc (.cells #[.slice B ys.length c'] 22)).alloc (.cells #[.bool q] 4) := ⟨_, rfl⟩
  have hs1 : w1.heap.size = w.heap.size + 3 := by rw [hw1]; simp
  have hB1 : Below w.heap.size w w1 := by rw [hw1]; exact (below2 _ _ _).alloc (by simp; omega) _
  have h0 : w1.heap[w.heap.size]? = some (.cells #[.slice A xs.length c] 22 (0, 0)) := by
    rw [hw1, Below.heap_alloc _ _ _ (by simp; omega), Below.heap_alloc _ _ _ (by simp)]
    exact heap_alloc_new _ _
  have h1 : w1.heap[w.heap.size + 1]? = some (.cells #[.slice B ys.length c'] 22 (0, 0)) := by
    rw [hw1, Below.heap_alloc _ _ _ (by simp)]
    have h := heap_alloc_new (w.alloc (.cells #[.slice A xs.length c] 22)) (.cells #[.slice B ys.length c'] 22)
    rwa [World.size_alloc] at h
  have h2 : w1.heap[w.heap.size + 2]? = some (.cells #[.bool q] 4 (0, 0)) := by
    rw [hw1]
    have h := heap_alloc_new ((w.alloc (.cells #[.slice A xs.length c] 22)).alloc (.cells #[.slice B ys.length c'] 22)) (.cells #[.bool q] 4)
    rwa [World.size_alloc, World.size_alloc] at h
  have hX1 : Dots w1 (· < w1.heap.size) A xs := (hx.below hB1).loose fun b h => by omega
  have hY1 : Dots w1 (· < w1.heap.size) B ys := (hy.below hB1).loose fun b h => by omega
  have hyl := picked_yields xs ys q w.heap.size (w.heap.size + 1) (w.heap.size + 1 + 1) w1.heap.size A B c c' w1 (by omega) (by omega) (by omega) (Nat.le_refl _) h0 h1 h2 hX1 hY1 hmx hmy
  have hpl : (pickF xs ys q).length ≤ 1000000 := Nat.le_trans (List.length_filter_le _ _) (Nat.le_trans (List.length_filter_le _ _) hmx)
  have HC := Lib.hid (set_any 112 _ (pickF xs ys q) w1 enters112 hyl hpl)
  rw [pickF_of] at HC
  rw [← hw1] at HP
  have HB1 := Lib.hid hB1
  clear hw1 hs1 hB1 h0 h1 h2 hX1 hY1 hyl hpl hx hy hmx hmy
  obtain ⟨r, hr⟩ : ∃ r, r = ofF (someF xs ys q) := ⟨_, rfl⟩
  rw [← hr] at HC ⊢
  clear hr
  rcases hk with ⟨rfl, rfl⟩ | ⟨rfl, rfl⟩
  · go_enter Try.func35, Try.ntmps35
    go_wp2_with fail
    refine HP.out.mono ?_
    rintro e w2 ⟨rfl, rfl⟩
    go_wp2_with fail
    refine HC.out.mono ?_
    rintro e w2 ⟨g, rfl, hg, hr, hb⟩
    have HG := Lib.hid hg
    have HR := Lib.hid hr
    have HB := Lib.hid hb
    clear hg hr hb HC
    go_wp2_with fail
    go_ret
    exact ⟨g, rfl, Nat.le_trans HB1.out.size HG.out, HR.out, HB1.out.trans (HB.out.mono HB1.out.size)⟩
  · go_enter Try.func37, Try.ntmps37
    go_wp2_with fail
    refine HP.out.mono ?_
    rintro e w2 ⟨rfl, rfl⟩
    go_wp2_with fail
    refine HC.out.mono ?_
    rintro e w2 ⟨g, rfl, hg, hr, hb⟩
    have HG := Lib.hid hg
    have HR := Lib.hid hr
    have HB := Lib.hid hb
    clear hg hr hb HC
    go_wp2_with fail
    go_ret
    exact ⟨g, rfl, Nat.le_trans HB1.out.size HG.out, HR.out, HB1.out.trans (HB.out.mono HB1.out.size)⟩
end Go.Proofs.Ytnpacjdgbmldlaa

/- dots.Join, Span, Within. -/
namespace Go.Proofs.Ytnpacjdgbmldlaa
open Go.RowKit Go.Shelf Go.Lib Go.Sort
attribute [local go_sem] Oper.semAt_some

set_option maxRecDepth 100000 in
set_option maxHeartbeats 1000000 in
theorem djoin_any (xs ys : List Dt) (c c' : Nat) (A B : Option Addr) (w : World) (hx : Dots w (· < w.heap.size) A xs) (hy : Dots w (· < w.heap.size) B ys) (hmx : xs.length ≤ 400000) (hmy : ys.length ≤ 400000) :
    Calls Try.prog 33 #[.slice A xs.length c, .slice B ys.length c'] w fun e w' => ∃ g, e = .returned (.slice (some ⟨g, 0, none⟩) (ofF (xs ++ ys)).length (ofF (xs ++ ys)).length) ∧ w.heap.size ≤ g ∧ w'.heap[g]? = some (.cells (dots2 (ofF (xs ++ ys))).toArray 25 (0, 0)) ∧ Below w.heap.size w w' := by
  have HX := Lib.hid hx
  have HY := Lib.hid hy
  have HMX := Lib.hid hmx
  have HMY := Lib.hid hmy
  clear hx hy hmx hmy
  obtain ⟨r, hr⟩ : ∃ r, r = ofF (xs ++ ys) := ⟨_, rfl⟩
  rw [← hr]
  have HRR := Lib.hid hr
  clear hr
  have HR := Lib.hid (fun W => rightV_any (some ⟨w.heap.size, 0, none⟩) 2 2 W)
  go_enter Try.func33, Try.ntmps33
  go_wp2_with fail
  refine (HR.out _).mono ?_
  rintro e w1 ⟨rfl, hw1⟩
  have hs1 : (w.alloc (.cells #[.slice A xs.length c, .slice B ys.length c'] 22)).heap.size = w.heap.size + 1 := by simp
  have hsz : w1.heap.size = w.heap.size + 2 := by rw [hw1]; simp
  have hB1 : Below w.heap.size w w1 := by rw [hw1]; exact below2 _ _ _
  have hrow : w1.heap[w.heap.size]? = some (.cells #[.slice A xs.length c, .slice B ys.length c'] 22 (0, 0)) := by rw [hw1, Below.heap_alloc _ _ _ (by simp)]; exact heap_alloc_new _ _
  have hY : Yields 110 #[.pointer (some ⟨w.heap.size + 1, 0, none⟩)] (rts [xs, ys]) w1.heap.size w1 :=
    right_yields _ _ w.heap.size 0 2 [xs, ys] (by simp) (fun l hl => by
        simp only [List.mem_cons, List.mem_nil_iff, or_false] at hl
        rcases hl with rfl | rfl
        · have := HMX.out; omega
        · have := HMY.out; omega) w1 (by omega) (by omega)
      (by rw [hw1, ← hs1, cell_of_row _ _ _ _ _ _ (heap_alloc_new _ _)]; rfl)
      ⟨fun i hi => by
        have hi' : i < 2 := by simpa using hi
        rcases (show i = 0 ∨ i = 1 by omega) with rfl | rfl
        · exact ⟨A, c, by rw [cell_of_row _ _ _ _ _ _ hrow]; rfl, (HX.out.below hB1).loose fun b hb => by omega⟩
        · exact ⟨B, c', by rw [cell_of_row _ _ _ _ _ _ hrow]; rfl, (HY.out.below hB1).loose fun b hb => by omega⟩⟩
  have hl : (rts [xs, ys]).length ≤ 1000000 := by
    have h1 : rts [xs, ys] = rt xs ++ rt ys := by simp [rts]
    have h2 : (rt xs).length ≤ xs.length := List.length_filter_le _ _
    have h3 : (rt ys).length ≤ ys.length := List.length_filter_le _ _
    rw [h1, List.length_append]
    have := HMX.out
    have := HMY.out
    omega
  have HC := Lib.hid (set_any 110 _ (rts [xs, ys]) w1 enters110 hY hl)
  have hof : setF (rts [xs, ys]) = ofF (xs ++ ys) := by rw [setF_rts]; simp
  rw [hof] at HC
  have HB1 := Lib.hid hB1
  rw [← HRR.out] at HC
  clear hY hw1 hsz hB1 HR hs1 hrow hl hof
  go_wp2_with fail
  refine HC.out.mono ?_
  rintro e w2 ⟨g, rfl, hg, hr, hb⟩
  have HG := Lib.hid hg
  have HR := Lib.hid hr
  have HB := Lib.hid hb
  clear hg hr hb HC
  go_wp2_with fail
  go_ret
  exact ⟨g, rfl, Nat.le_trans HB1.out.size HG.out, HR.out, HB1.out.trans (HB.out.mono HB1.out.size)⟩

/-! ### Span -/
theorem block_own {β : Type} (B : Nat) (t : TypeId) (f : β → Array Value) : Own (fun s W => W.heap[B]? = some (.cells (f s) t (0, 0))) := fun s X Y row hs hg hrow => by
  refine (hg.block B (lt_of_row hs) (fun e' => ?_)).trans hs
  obtain ⟨o, ho, hc⟩ := hrow B e'.symm
  rw [hs] at ho
  cases ho
  cases hc
theorem keeps_setRow {W : World} {g : Nat} {cs : Array Value} {t : TypeId} {fr : Nat × Nat} (h : W.heap[g]? = some (.cells cs t fr)) (cs' : Array Value) : KeepsOthers W (W.setRow g cs') where
  size := by simp
  same k o hk ho := by
    rw [setRow_other W g k cs' (fun e => by rw [e, h] at hk; cases hk; cases ho)]
    exact hk
theorem below_keeps {W Y : World} (h : Below W.heap.size W Y) : KeepsOthers W Y where
  size := h.size
  same k o hk _ := (h.block k (lt_of_row hk)).trans hk
theorem spanF_rt (ls : List Dt) : spanF (rt ls) = spanF ls := by
  have h : ∀ (ls : List Dt) (f : Nat → Nat), (rt ls).foldl (fun f d => Vec.with_ f d.1 d.2) f = ls.foldl (fun f d => Vec.with_ f d.1 d.2) f := by
    intro ls
    induction ls with
    | nil => intro f; rfl
    | cons d ls ih =>
      intro f
      cases hr : Vec.right d.1 d.2 with
      | true =>
        rw [show rt (d :: ls) = d :: rt ls by unfold rt; rw [List.filter_cons, if_pos hr]]
        exact ih _
      | false =>
        rw [show rt (d :: ls) = rt ls by unfold rt; rw [List.filter_cons, if_neg (by rw [hr]; simp)], List.foldl_cons, ih]
        congr 1
        unfold Vec.with_
        rw [hr]
        simp
  exact h ls _
theorem spanF_snoc (ls : List Dt) (d : Dt) : spanF (ls ++ [d]) = Vec.with_ (spanF ls) d.1 d.2 := by
  unfold spanF
  rw [List.foldl_append]
  rfl
theorem size27v (f : Nat → Nat) : (Try.prog.info? 27).map (·.size) = some (arrOf .u64 8 f).size := by rw [arrOf_size]; exact size27

set_option maxRecDepth 100000 in
set_option maxHeartbeats 4000000 in
theorem dspan_any (ls : List Dt) (c : Nat) (A : Option Addr) (w : World) (hv : Dots w (· < w.heap.size) A ls) (hm : ls.length ≤ 1000000) :
    Calls Try.prog 27 #[.slice A ls.length c] w fun e w' => e = .returned (vecV (spanF ls)) ∧ Below w.heap.size w w' := by
  refine (callsIn_wide (n := 9)).1 ?_
  have HV := Lib.hid hv
  have HM := Lib.hid hm
  obtain ⟨f, hf⟩ : ∃ f, f = spanF ls := ⟨_, rfl⟩
  rw [← hf]
  have HFS := Lib.hid hf
  clear hv hm hf
  refine callsIn_of_wp_marks Try.func27 rfl trivial ?_ rfl
  simp only [Try.ntmps27, List.size_toArray, List.length_cons, List.length_nil, Nat.reduceAdd, Nat.reduceSub, Array.replicate_succ, Array.replicate_zero, List.push_toArray, List.append_toArray, List.nil_append, List.cons_append]
  gi_wp2_with fail
  refine ⟨trivial, (callsIn_wide.2 (rightV_any _ 1 1 _)).mono ?_⟩
  rintro e w1 ⟨rfl, hw1⟩
  have hsz : w1.heap.size = w.heap.size + 4 := by rw [hw1]; simp
  obtain ⟨a0, ha0⟩ : ∃ a0, a0 = w.alloc (.cells #[.int .u64 0, .int .u64 0, .int .u64 0, .int .u64 0, .int .u64 0, .int .u64 0, .int .u64 0, .int .u64 0] 27) := ⟨_, rfl⟩
  obtain ⟨a1, ha1⟩ : ∃ a1, a1 = a0.alloc (.cells #[.int .u64 0, .int .u64 0, .int .u64 0, .int .u64 0, .int .u64 0, .int .u64 0, .int .u64 0, .int .u64 0] 27) := ⟨_, rfl⟩
  obtain ⟨a2, ha2⟩ : ∃ a2, a2 = a1.alloc (.cells #[.slice A ls.length c] 22) := ⟨_, rfl⟩
  rw [← ha0, ← ha1, ← ha2] at hw1
  have z0 : a0.heap.size = w.heap.size + 1 := by rw [ha0, World.size_alloc]
  have z1 : a1.heap.size = w.heap.size + 2 := by rw [ha1, World.size_alloc, z0]
  have z2 : a2.heap.size = w.heap.size + 3 := by rw [ha2, World.size_alloc, z1]
  have b0 : Below w.heap.size w a0 := by rw [ha0]; exact below1 _ _
  have b1 : Below a0.heap.size a0 a1 := by rw [ha1]; exact below1 _ _
  have b2 : Below a1.heap.size a1 a2 := by rw [ha2]; exact below1 _ _
  have b3 : Below a2.heap.size a2 w1 := by rw [hw1]; exact below1 _ _
  have hr0 : a0.heap[w.heap.size]? = some (.cells (arrOf .u64 8 fun _ => 0) 27 (0, 0)) := by rw [ha0]; exact heap_alloc_new _ _
  have hr1 : a1.heap[w.heap.size + 1]? = some (.cells (arrOf .u64 8 fun _ => 0) 27 (0, 0)) := by rw [ha1, ← z0]; exact heap_alloc_new _ _
  have hr2 : a2.heap[w.heap.size + 2]? = some (.cells #[.slice A ls.length c] 22 (0, 0)) := by rw [ha2, ← z1]; exact heap_alloc_new _ _
  have hr3 : w1.heap[w.heap.size + 3]? = some (.cells #[.slice (some ⟨w.heap.size + 2, 0, none⟩) 1 1] 149 (0, 0)) := by rw [hw1, ← z2]; exact heap_alloc_new _ _
  replace hr2 := (b3.block _ (by omega)).trans hr2
  replace hr1 := (b3.block _ (by omega)).trans ((b2.block _ (by omega)).trans hr1)
  replace hr0 := (b3.block _ (by omega)).trans ((b2.block _ (by omega)).trans ((b1.block _ (by omega)).trans hr0))
  have hB : Below w.heap.size w w1 := b0.trans ((b1.mono (by omega)).trans ((b2.mono (by omega)).trans (b3.mono (by omega))))
  have hD : Dots w1 (· < w.heap.size) A ls := HV.out.below hB
  have hrts : rts [ls] = rt ls := by simp [rts]
  have hrg := right_gives (fun _ X Y => Below (w.heap.size + 1) X Y ∧ ∀ k, w.heap.size + 1 < k → k < w1.heap.size → Y.heap[k]? = X.heap[k]?) (fun _ => True) (w.heap.size + 3) w.heap.size (w.heap.size + 2) 0 1 [ls] (by simp) (fun l hl => by rw [List.mem_singleton.1 hl]; exact HM.out) w1 (by omega)
    (fun _ X Y hk hL => hL.kept (hk.1.mono (by omega)) fun _ => hk.2 _ (by omega) (by omega)) (fun _ X Y hk => hk.1.mono (by omega))
    (by rw [cell_of_row _ _ _ _ _ _ hr3]; rfl)
    ⟨fun i hi => by
      obtain rfl : i = 0 := by simpa using hi
      exact ⟨A, c, by rw [cell_of_row _ _ _ _ _ _ hr2]; rfl, hD⟩⟩
  rw [hrts] at hrg
  have HRG := Lib.hid hrg
  have HSZ := Lib.hid hsz
  have HR0 := Lib.hid hr0
  have HR1 := Lib.hid hr1
  have HB := Lib.hid hB
  have HSP := Lib.hid (spanF_rt ls)
  have s25 : ∀ d, Hid ((Try.prog.info? 25).map (·.size) = some (dotC d).size) := fun d => Lib.hid (dot_size25 d)
  clear hw1 hsz ha0 ha1 ha2 z0 z1 z2 b0 b1 b2 b3 hr0 hr1 hr2 hr3 hB hD hrts hrg
  gi_wp2_with fail
  refine wpIn_range_gives (n := 9) (by decide) (gf := 110) (lb := #[.pointer (some ⟨w.heap.size + 3, 0, none⟩)]) rfl enters110 HRG.out (fun _ _ => trivial)
    (fun h k => ⟨h.1.trans k.1, fun j a b => (k.2 j a b).trans (h.2 j a b)⟩)
    (fun X l o o' hl _ ho hc => ⟨below_putObj (by have := HSZ.out; omega) _, fun k h1 h2 => World.putObj_heap_other (by omega)⟩)
    (Below.refl _ _) (fun _ => rfl)
    (fun pre X => (X.heap[w.heap.size + 1]? = some (.cells (arrOf .u64 8 (spanF pre)) 27 (0, 0)) ∧ X.heap[w.heap.size]? = some (.cells (arrOf .u64 8 fun _ => 0) 27 (0, 0))) ∧ Below w.heap.size w1 X)
    (OwnFrom.and (OwnFrom.and (Own.from (block_own _ _ _) _) (Own.from (block_own (w.heap.size) 27 (fun (_ : List Dt) => arrOf .u64 8 fun _ => 0)) _)) (ownFrom_below (by have := HSZ.out; omega) (by have := HSZ.out; omega)))
    ⟨⟨HR1.out, HR0.out⟩, Below.refl _ _⟩
    (fun x a' X => ∃ Bx, w1.heap.size ≤ Bx ∧ DotAt X Bx 25 x.1 x.2 ∧ a' = { tmps := #[.slice A ls.length c, undef, .pointer (some ⟨w.heap.size, 0, none⟩), .pointer (some ⟨w.heap.size + 1, 0, none⟩), .pointer (some ⟨Bx, 0, none⟩), .slice A ls.length c, .slice (some ⟨w.heap.size + 1 + 1, 0, none⟩) 1 1, .func (.func 110) #[] #[.pointer (some ⟨w.heap.size + 1 + 1 + 1, 0, none⟩)], .agg (dotC x), undef, undef, undef, undef], defers := [] })
    (fun x a' _ X Y row hs hg hr => by obtain ⟨Bx, h1, h2, h3⟩ := hs; exact ⟨Bx, h1, dotAt_own Bx 25 (fun (_ : Unit) => x.1) (fun _ => x.2) () X Y row h2 hg (fun r e => (hr r e).2), h3⟩)
    ?assign ?body ?done
  case assign =>
    rintro l' pre x X K ⟨⟨h1, h0⟩, hb⟩ hK
    gi_wp2_with (first
      | (refine wpListIn_store_row rfl 25 _ _ rfl X.heap.size (dotC x) rfl rfl 25 _ (heap_alloc_new _ _) (s25 x).out rfl rfl ?_; rw [World.setRow_alloc_new])
      | fail)
    have hsX := hb.size
    have hsW := HSZ.out
    exact hK _ _ ((KeepsOthers.alloc _ _).from _) ⟨(below1 X _).mono (by omega), fun k _ hk => Below.heap_alloc _ _ _ (by omega)⟩
      ⟨⟨(Below.heap_alloc _ _ _ (by omega)).trans h1, (Below.heap_alloc _ _ _ (by omega)).trans h0⟩, hb.trans ((below1 X _).mono (by omega))⟩ ⟨X.heap.size, hsX, DotAt.new X 25 x.1 x.2, rfl⟩
  case body =>
    rintro l' pre x a' X ⟨⟨h1, h0⟩, hb⟩ ⟨Bx, hBx, bX, rfl⟩ hpre
    have H1 := Lib.hid h1
    have H0 := Lib.hid h0
    have HB2 := Lib.hid hb
    have HBX := Lib.hid bX
    have HS := Lib.hid (spanF_snoc pre x)
    obtain ⟨f, hf⟩ : ∃ f, f = spanF pre := ⟨_, rfl⟩
    rw [← hf] at H1 HS
    have hr27 : Hid (rangeA X (w.heap.size + 1) 0 (arrOf .u64 8 f)) := Lib.hid (fun j v hv => by rw [cell_of_row _ _ _ _ _ _ H1.out, Nat.zero_add]; exact hv)
    clear h1 h0 hb bX hpre hf
    gi_wp2_with (first
      | (refine wpListIn_load_arr rfl 25 _ rfl Bx 0 rfl (dotC x) _ HBX.out.range Try.underlying25 rfl (s25 x).out ?_)
      | (refine wpListIn_load_arr rfl 27 _ rfl (w.heap.size + 1) 0 rfl (arrOf .u64 8 f) _ hr27.out Try.underlying27 rfl (size27v f) ?_)
      | fail)
    refine ⟨trivial, (CallsIn.inRound l' (callsIn_wide.2 (with_any f x.1 x.2 X))).mono ?_⟩
    rintro e w9 ⟨rfl, hb9⟩
    have H19 : Hid (w9.heap[w.heap.size + 1]? = some (.cells (arrOf .u64 8 f) 27 (0, 0))) := Lib.hid ((hb9.block _ (lt_of_row H1.out)).trans H1.out)
    have H09 : Hid (w9.heap[w.heap.size]? = some (.cells (arrOf .u64 8 fun _ => 0) 27 (0, 0))) := Lib.hid ((hb9.block _ (lt_of_row H0.out)).trans H0.out)
    have HB9 := Lib.hid hb9
    obtain ⟨g, hg⟩ : ∃ g, g = Vec.with_ f x.1 x.2 := ⟨_, rfl⟩
    rw [← hg] at HS ⊢
    clear hb9 hg
    gi_wp2_with (first
      | (refine wpListIn_store_row rfl 27 _ _ rfl (w.heap.size + 1) (arrOf .u64 8 g) rfl rfl 27 _ H19.out (size27v g) (by rw [arrOf_size, arrOf_size]) (arrOf_one _ _ _) ?_)
      | fail)
    have hsX := HB2.out.size
    have hsW := HSZ.out
    have hs9 := HB9.out.size
    have hbr : Below (w.heap.size + 1) X (w9.setRow (w.heap.size + 1) (arrOf .u64 8 g)) := below_setRow' (HB9.out.mono (by omega)) (Nat.le_refl _) _
    refine ⟨((below_keeps HB9.out).trans (keeps_setRow H19.out _)).from _, ⟨hbr, fun k h1 h2 => ?_⟩, ⟨?_, ?_⟩, HB2.out.trans (hbr.mono (by omega))⟩
    · rw [setRow_other _ _ _ _ (by omega)]
      exact HB9.out.block k (by omega)
    · rw [HS.out]
      exact setRow_heap _ _ _ _ _ _ H19.out
    · rw [setRow_other _ _ _ _ (by omega)]
      exact H09.out
  case done =>
    rintro D X hD ⟨⟨h1, h0⟩, hb⟩ hK
    rw [HSP.out, ← HFS.out] at h1
    have H1 := Lib.hid h1
    have H0 := Lib.hid h0
    have HB2 := Lib.hid (HB.out.trans hb)
    have HK := Lib.hid hK
    have HDD : Hid (w.heap.size + 4 ≤ D) := Lib.hid (by have := HSZ.out; omega)
    have hr27 : Hid (rangeA X (w.heap.size + 1) 0 (arrOf .u64 8 f)) := Lib.hid (fun j v hv => by rw [cell_of_row _ _ _ _ _ _ H1.out, Nat.zero_add]; exact hv)
    clear h1 h0 hb hK HSP HFS
    gi_wp2_with (first
      | (refine wpListIn_load_arr rfl 27 _ rfl (w.heap.size + 1) 0 rfl (arrOf .u64 8 f) _ hr27.out Try.underlying27 rfl (size27v f) ?_)
      | (refine wpListIn_store_row rfl 27 _ _ rfl w.heap.size (arrOf .u64 8 f) rfl rfl 27 _ H0.out (size27v f) (by rw [arrOf_size, arrOf_size]) (arrOf_one _ _ _) ?_)
      | fail)
    have hKD : (X.setRow w.heap.size (arrOf .u64 8 f)).heap[D]? = some (.deferred (some [])) := by
      rw [setRow_other _ _ _ _ (by have := HDD.out; omega)]
      exact HK.out
    refine ⟨by simp, .inl ⟨_, _, rfl, run_takeDeferred hKD, ?_⟩⟩
    refine ⟨_, results_cell_row Try.results27 _ _ w.heap.size 27 (arrOf .u64 8 f) (0, 0) _ rfl ?_ Try.underlying27 rfl (size27v f), rfl, ?_⟩
    · rw [World.putObj_heap_other (by have := HDD.out; omega)]
      exact setRow_heap _ _ _ _ _ _ H0.out
    · exact (below_setRow' HB2.out (Nat.le_refl _) _).trans (below_putObj (by have := HDD.out; omega) _)
end Go.Proofs.Ytnpacjdgbmldlaa

/- dots.Within. -/
namespace Go.Proofs.Ytnpacjdgbmldlaa
open Go.RowKit Go.Shelf Go.Lib Go.Sort
attribute [local go_sem] Oper.semAt_some

def winF (f : Nat → Nat) (ls : List Dt) : List Dt := ls.filter fun d => Vec.has f d.1 d.2
theorem winF_rt (f : Nat → Nat) (ls : List Dt) : winF f (rt ls) = winF f ls := by
  unfold winF rt
  rw [List.filter_filter]
  refine List.filter_congr fun d _ => ?_
  unfold Vec.has
  cases Vec.right d.1 d.2 <;> simp
theorem winF_snoc (f : Nat → Nat) (pre : List Dt) (d : Dt) : winF f (pre ++ [d]) = winF f pre ++ if Vec.has f d.1 d.2 = true then [d] else [] := by
  unfold winF
  rw [List.filter_append, List.filter_cons]
  simp

set_option maxRecDepth 100000 in
set_option maxHeartbeats 4000000 in
theorem dwithin_any (f : Nat → Nat) (ls : List Dt) (c : Nat) (A : Option Addr) (w : World) (hv : Dots w (· < w.heap.size) A ls) (hm : ls.length ≤ 1000000) :
    Calls Try.prog 38 #[.slice A ls.length c, vecV f] w fun e w' => ∃ g, e = .returned (.slice (some ⟨g, 0, none⟩) (winF f ls).length (winF f ls).length) ∧ w.heap.size ≤ g ∧ w'.heap[g]? = some (.cells (dots2 (winF f ls)).toArray 25 (0, 0)) ∧ Below w.heap.size w w' := by
  refine (callsIn_wide (n := 9)).1 ?_
  have HV := Lib.hid hv
  have HM := Lib.hid hm
  obtain ⟨r, hr⟩ : ∃ r, r = winF f ls := ⟨_, rfl⟩
  rw [← hr]
  have HRS := Lib.hid hr
  clear hv hm hr
  refine callsIn_of_wp_marks Try.func38 rfl trivial ?_ rfl
  simp only [Try.ntmps38, List.size_toArray, List.length_cons, List.length_nil, Nat.reduceAdd, Nat.reduceSub, Array.replicate_succ, Array.replicate_zero, List.push_toArray, List.append_toArray, List.nil_append, List.cons_append]
  gi_wp2_with fail
  refine ⟨trivial, (callsIn_wide.2 (rightV_any _ 1 1 _)).mono ?_⟩
  rintro e w1 ⟨rfl, hw1⟩
  have hsz : w1.heap.size = w.heap.size + 4 := by rw [hw1]; simp
  obtain ⟨a0, ha0⟩ : ∃ a0, a0 = w.alloc (.cells (arrOf .u64 8 f) 27) := ⟨_, rfl⟩
  obtain ⟨a1, ha1⟩ : ∃ a1, a1 = a0.alloc (.cells #[.slice none 0 0] 22) := ⟨_, rfl⟩
  obtain ⟨a2, ha2⟩ : ∃ a2, a2 = a1.alloc (.cells #[.slice A ls.length c] 22) := ⟨_, rfl⟩
  rw [← ha0, ← ha1, ← ha2] at hw1
  have z0 : a0.heap.size = w.heap.size + 1 := by rw [ha0, World.size_alloc]
  have z1 : a1.heap.size = w.heap.size + 2 := by rw [ha1, World.size_alloc, z0]
  have z2 : a2.heap.size = w.heap.size + 3 := by rw [ha2, World.size_alloc, z1]
  have b0 : Below w.heap.size w a0 := by rw [ha0]; exact below1 _ _
  have b1 : Below a0.heap.size a0 a1 := by rw [ha1]; exact below1 _ _
  have b2 : Below a1.heap.size a1 a2 := by rw [ha2]; exact below1 _ _
  have b3 : Below a2.heap.size a2 w1 := by rw [hw1]; exact below1 _ _
  have hr0 : a0.heap[w.heap.size]? = some (.cells (arrOf .u64 8 f) 27 (0, 0)) := by rw [ha0]; exact heap_alloc_new _ _
  have hr1 : Boxed a1 (w.heap.size + 1) 22 (.slice none 0 0) := by rw [ha1, ← z0]; exact Boxed.new _ _ _
  have hr2 : a2.heap[w.heap.size + 2]? = some (.cells #[.slice A ls.length c] 22 (0, 0)) := by rw [ha2, ← z1]; exact heap_alloc_new _ _
  have hr3 : w1.heap[w.heap.size + 3]? = some (.cells #[.slice (some ⟨w.heap.size + 2, 0, none⟩) 1 1] 149 (0, 0)) := by rw [hw1, ← z2]; exact heap_alloc_new _ _
  replace hr2 := (b3.block _ (by omega)).trans hr2
  replace hr1 : Boxed w1 (w.heap.size + 1) 22 (.slice none 0 0) := (b3.block _ (by omega)).trans ((b2.block _ (by omega)).trans hr1)
  replace hr0 := (b3.block _ (by omega)).trans ((b2.block _ (by omega)).trans ((b1.block _ (by omega)).trans hr0))
  have hB : Below w.heap.size w w1 := b0.trans ((b1.mono (by omega)).trans ((b2.mono (by omega)).trans (b3.mono (by omega))))
  have hD : Dots w1 (· < w.heap.size) A ls := HV.out.below hB
  have hrts : rts [ls] = rt ls := by simp [rts]
  have hrg := right_gives (fun _ X Y => Below w.heap.size X Y ∧ Y.heap[w.heap.size + 2]? = X.heap[w.heap.size + 2]?) (fun _ => True) (w.heap.size + 3) w.heap.size (w.heap.size + 2) 0 1 [ls] (by simp) (fun l hl => by rw [List.mem_singleton.1 hl]; exact HM.out) w1 (by omega)
    (fun _ X Y hk hL => hL.kept hk.1 fun _ => hk.2) (fun _ X Y hk => hk.1)
    (by rw [cell_of_row _ _ _ _ _ _ hr3]; rfl)
    ⟨fun i hi => by
      obtain rfl : i = 0 := by simpa using hi
      exact ⟨A, c, by rw [cell_of_row _ _ _ _ _ _ hr2]; rfl, hD⟩⟩
  rw [hrts] at hrg
  have HRG := Lib.hid hrg
  have HSZ := Lib.hid hsz
  have HR0 := Lib.hid hr0
  have HR1 := Lib.hid hr1
  have HR2 := Lib.hid hr2
  have HB := Lib.hid hB
  have HSP := Lib.hid (winF_rt f ls)
  have s25 : ∀ d, Hid ((Try.prog.info? 25).map (·.size) = some (dotC d).size) := fun d => Lib.hid (dot_size25 d)
  clear hw1 hsz ha0 ha1 ha2 z0 z1 z2 b0 b1 b2 b3 hr0 hr1 hr2 hr3 hB hD hrts hrg
  gi_wp2_with fail
  refine wpIn_range_gives (n := 9) (by decide) (gf := 110) (lb := #[.pointer (some ⟨w.heap.size + 3, 0, none⟩)]) rfl enters110 HRG.out (fun _ _ => trivial)
    (fun h k => ⟨h.1.trans k.1, k.2.trans h.2⟩)
    (fun X l o o' hl _ ho hc => ⟨below_putObj (by have := HSZ.out; omega) _, World.putObj_heap_other (by have := HSZ.out; omega)⟩)
    (Below.refl _ _) (fun _ => rfl)
    (fun pre X => ((∃ v, Boxed X (w.heap.size + 1) 22 v ∧ X.ownsRow w.heap.size 25 2 v (winF f pre).length (dots2 (winF f pre)) ∧ True) ∧ (X.heap[w.heap.size]? = some (.cells (arrOf .u64 8 f) 27 (0, 0)) ∧ X.heap[w.heap.size + 2]? = some (.cells #[.slice A ls.length c] 22 (0, 0)))) ∧ Below w.heap.size w1 X)
    (OwnFrom.and (OwnFrom.and (Own.from (holdsRow_own w.heap.size (w.heap.size + 1) 22 25 2 (fun pre => (winF f pre).length) (fun pre => dots2 (winF f pre)) (fun _ _ => True)) _) (OwnFrom.and (Own.from (block_own w.heap.size 27 (fun (_ : List Dt) => arrOf .u64 8 f)) _) (Own.from (block_own (w.heap.size + 2) 22 (fun (_ : List Dt) => #[.slice A ls.length c])) _))) (ownFrom_below (by have := HSZ.out; omega) (by have := HSZ.out; omega)))
    ⟨⟨⟨_, HR1.out, World.ownsRow_nil _ _ _ _, trivial⟩, HR0.out, HR2.out⟩, Below.refl _ _⟩
    (fun x a' X => ∃ Bx, w1.heap.size ≤ Bx ∧ DotAt X Bx 25 x.1 x.2 ∧ a' = { tmps := #[.slice A ls.length c, vecV f, undef, .pointer (some ⟨w.heap.size, 0, none⟩), .slice none 0 0, .pointer (some ⟨w.heap.size + 1, 0, none⟩), .pointer (some ⟨Bx, 0, none⟩), .slice A ls.length c, .slice (some ⟨w.heap.size + 1 + 1, 0, none⟩) 1 1, .func (.func 110) #[] #[.pointer (some ⟨w.heap.size + 1 + 1 + 1, 0, none⟩)], .agg (dotC x), undef, undef, undef, undef, undef, undef, undef, undef, undef], defers := [] })
    (fun x a' _ X Y row hs hg hr => by obtain ⟨Bx, h1, h2, h3⟩ := hs; exact ⟨Bx, h1, dotAt_own Bx 25 (fun (_ : Unit) => x.1) (fun _ => x.2) () X Y row h2 hg (fun r e => (hr r e).2), h3⟩)
    ?assign ?body ?done
  case assign =>
    rintro l' pre x X K ⟨⟨⟨v, bv, hv, _⟩, h0, h2⟩, hb⟩ hK
    gi_wp2_with (first
      | (refine wpListIn_store_row rfl 25 _ _ rfl X.heap.size (dotC x) rfl rfl 25 _ (heap_alloc_new _ _) (s25 x).out rfl rfl ?_; rw [World.setRow_alloc_new])
      | fail)
    have hsX := hb.size
    have hsW := HSZ.out
    exact hK _ _ ((KeepsOthers.alloc _ _).from _) ⟨(below1 X _).mono (by omega), Below.heap_alloc _ _ _ (by omega)⟩
      ⟨⟨⟨v, bv.alloc _, hv.alloc _, trivial⟩, (Below.heap_alloc _ _ _ (by omega)).trans h0, (Below.heap_alloc _ _ _ (by omega)).trans h2⟩, hb.trans ((below1 X _).mono (by omega))⟩ ⟨X.heap.size, hsX, DotAt.new X 25 x.1 x.2, rfl⟩
  case body =>
    rintro l' pre x a' X ⟨⟨⟨v, bv, hv, _⟩, h0, h2⟩, hb⟩ ⟨Bx, hBx, bX, rfl⟩ hpre
    have H0 := Lib.hid h0
    have H2 := Lib.hid h2
    have HB2 := Lib.hid hb
    have HBX := Lib.hid bX
    have HBV := Lib.hid bv
    have HV1 := Lib.hid hv
    have HS := Lib.hid (winF_snoc f pre x)
    have HLEN : Hid ((winF f pre).length ≤ 1000000) := Lib.hid (by
      have h1 := hpre.length_le
      have h2 : (winF f pre).length ≤ pre.length := List.length_filter_le _ _
      have h3 : (rt ls).length ≤ ls.length := List.length_filter_le _ _
      have := HM.out
      simp at h1
      omega)
    obtain ⟨acc, hacc⟩ : ∃ acc, acc = winF f pre := ⟨_, rfl⟩
    rw [← hacc] at HV1 HS HLEN
    have hr27 : Hid (rangeA X w.heap.size 0 (arrOf .u64 8 f)) := Lib.hid (fun j v hv => by rw [cell_of_row _ _ _ _ _ _ H0.out, Nat.zero_add]; exact hv)
    clear h0 h2 hb bX bv hv hpre hacc
    gi_wp2_with (first
      | (refine wpListIn_load_arr rfl 25 _ rfl Bx 0 rfl (dotC x) _ HBX.out.range Try.underlying25 rfl (s25 x).out ?_)
      | (refine wpListIn_load_arr rfl 27 _ rfl w.heap.size 0 rfl (arrOf .u64 8 f) _ hr27.out Try.underlying27 rfl (size27v f) ?_)
      | fail)
    refine ⟨trivial, (CallsIn.inRound l' (callsIn_wide.2 (has_any f x.1 x.2 X))).mono ?_⟩
    rintro e w9 ⟨rfl, hb9⟩
    have hsX := HB2.out.size
    have hsW := HSZ.out
    have HB9 := Lib.hid hb9
    have H09 : Hid (w9.heap[w.heap.size]? = some (.cells (arrOf .u64 8 f) 27 (0, 0))) := Lib.hid ((hb9.block _ (lt_of_row H0.out)).trans H0.out)
    have H29 : Hid (w9.heap[w.heap.size + 2]? = some (.cells #[.slice A ls.length c] 22 (0, 0))) := Lib.hid ((hb9.block _ (lt_of_row H2.out)).trans H2.out)
    have HBV9 : Hid (Boxed w9 (w.heap.size + 1) 22 v) := Lib.hid ((hb9.block _ HBV.out.lt).trans HBV.out)
    have HV9 : Hid (w9.ownsRow w.heap.size 25 2 v acc.length (dots2 acc)) := Lib.hid (own_keep HV1.out fun k _ hk => hb9.block k hk)
    have HBX9 : Hid (DotAt w9 Bx 25 x.1 x.2) := Lib.hid (HBX.out.below hb9 HBX.out.lt)
    have hc9 := HBV9.out.cell
    have hs9 := hb9.size
    clear hb9
    cases hh : Vec.has f x.1 x.2 with
    | false =>
      rw [hh, if_neg (by simp), List.append_nil] at HS
      clear hc9
      gi_wp2_with fail
      refine ⟨(below_keeps HB9.out).from _, ⟨HB9.out.mono (by omega), HB9.out.block _ (by omega)⟩, ⟨⟨v, HBV9.out, ?_, trivial⟩, H09.out, H29.out⟩, HB2.out.trans (HB9.out.mono (by omega))⟩
      rw [HS.out]
      exact HV9.out
    | true =>
      rw [hh, if_pos rfl] at HS
      clear hh
      have HSW : Hid (w.heap.size ≤ w9.heap.size ∧ w.heap.size + 4 ≤ X.heap.size ∧ X.heap.size ≤ w9.heap.size) := Lib.hid ⟨by omega, by omega, hs9⟩
      clear hsX hsW hs9
      gi_wp2_with (first
        | (refine wpListIn_load_arr rfl 25 _ rfl Bx 0 rfl (dotC x) _ HBX9.out.range Try.underlying25 rfl (s25 x).out ?_)
        | (refine wpListIn_append_dot rfl (.tmp 14) (.tmp 16) 22 rfl w.heap.size 25 (.agg #[.int .i64 0, .int .u64 0]) 16 Try.underlying22 info25 rfl _ acc.length _ rfl HV9.out x 25 rfl (by have := HLEN.out; omega) (by omega) HSW.out.1 ?_; intro v1 w3 H1 G1 S1; obtain ⟨g', cap', rfl⟩ := ownsRow_succ H1.out; obtain ⟨hv1, hv2, hr2, hk2, hb2⟩ := HBV9.out.appended (by decide) HV9.out HSW.out.1 (Nat.le_succ _) H1.out G1.out; have hc1 := hv1.cell; have hf1 := hv1.frozen)
        | fail)
      have hlrow : ∀ k o t, w9.heap[k]? = some (.cells o t (0, 0)) → t ≠ 25 → k ≠ w.heap.size + 1 → (w3.setCell ⟨w.heap.size + 1, 0, none⟩ (.slice (some ⟨g', 0, none⟩) (acc.length + 1) cap')).heap[k]? = some (.cells o t (0, 0)) := fun k o t hk ht hne => by
        have hno : some k ≠ v.ownBlock := fun e => by
          rcases HV9.out.2 with ⟨rfl, _⟩ | ⟨g, cap, cur, rfl, _, hg, _⟩
          · simp [Value.ownBlock] at e
          · obtain rfl : k = g := by simpa [Value.ownBlock] using e
            rw [hk] at hg
            injection hg with hg
            injection hg with _ hg
            exact ht hg
        rw [Below.heap_setCell _ _ _ k (fun e => hne e), G1.out.block k (by rw [World.size_alloc]; have := lt_of_row hk; omega) hno, Below.heap_alloc _ _ _ (lt_of_row hk)]
        exact hk
      have hX2 := hlrow _ _ _ H29.out (by decide) (by omega)
      have hX0 := hlrow _ _ _ H09.out (by decide) (by omega)
      have hq := HSW.out
      have hkb : Below w.heap.size X (w3.setCell ⟨w.heap.size + 1, 0, none⟩ (.slice (some ⟨g', 0, none⟩) (acc.length + 1) cap')) := (HB9.out.mono (by omega)).trans hb2
      refine ⟨((below_keeps HB9.out).trans hk2).from _, ⟨hkb, hX2.trans H2.out.symm⟩, ⟨⟨_, hv2, ?_, trivial⟩, hX0, hX2⟩, HB2.out.trans hkb⟩
      rw [HS.out, List.length_append, List.length_singleton, dots2_append, dots2_one]
      exact hr2
  case done =>
    rintro D X hD ⟨⟨⟨v, bv, hv, _⟩, h0, h2⟩, hb⟩ hK
    rw [HSP.out, ← HRS.out] at hv
    obtain ⟨A1, c1, rfl, hd1, hc1, hn1⟩ := own_dots hv
    have HD1 := Lib.hid hd1
    have HB2 := Lib.hid (HB.out.trans hb)
    have HK := Lib.hid hK
    have HDD : Hid (w.heap.size + 4 ≤ D) := Lib.hid (by have := HSZ.out; omega)
    have hcell := bv.cell
    have HF := Lib.hid (fresh_any r c1 A1 X (hd1.loose fun b h => h.2) (by rw [HRS.out]; exact Nat.le_trans (List.length_filter_le _ _) HM.out))
    clear h0 h2 hb hK hd1 hc1 hn1 hv bv
    gi_wp2_with fail
    refine ⟨trivial, (callsIn_wide.2 HF.out).mono ?_⟩
    rintro e w8 ⟨rfl, hw8⟩
    have HX8 : Hid (w8.heap[X.heap.size]? = some (.cells (dots2 r).toArray 25 (0, 0))) := Lib.hid (by rw [hw8]; exact heap_alloc_new _ _)
    have HB8 : Hid (Below X.heap.size X w8) := Lib.hid (by rw [hw8]; exact below1 _ _)
    have HK8 : Hid (w8.heap[D]? = some (.deferred (some []))) := Lib.hid ((HB8.out.block D (lt_of_row HK.out)).trans HK.out)
    clear hw8 hcell HF
    gi_wp2_with fail
    refine ⟨by simp, .inl ⟨_, _, rfl, run_takeDeferred HK8.out, ?_⟩⟩
    have hDX := lt_of_row HK.out
    refine ⟨_, results_tmp rfl _ _ _, X.heap.size, rfl, HB2.out.size, ?_, (HB2.out.trans (HB8.out.mono HB2.out.size)).trans (below_putObj (by have := HDD.out; omega) _)⟩
    rw [World.putObj_heap_other (by omega)]
    exact HX8.out
end Go.Proofs.Ytnpacjdgbmldlaa

/- A writer's Num and Bytes. -/
namespace Go.Proofs.Ytnpacjdgbmldlaa.Wr
open Go.RowKit
/-- The same block, or a new one. -/
def SameOrNew (N : Nat) (b b' : Option Nat) : Prop := b' = b ∨ ∀ k, b' = some k → N ≤ k
theorem append_fresh {w : World} {base : Nat} {v : Value} {n : Nat} {ys : List Value} (hown : w.ownsRow base 5 1 v n ys) (ad : Addr) (m c : Nat) (news : List Value) (ty : TypeId) (hl : news.length = m * 1)
    (hnews : ∀ j u, news[j]? = some u → w.cell? (ad.add j) = some u) (h1 : ∀ u ∈ news, u.oneCell' = true) (h63 : n + m ≤ 1000000) (hbase : base ≤ w.heap.size) :
    ∃ v' w', (Builtin.append_ #[94, 94] ty #[v, .slice (some ad) m c]).run Try.prog w = .ok v' w' ∧ w'.ownsRow base 5 1 v' (n + m) (ys ++ news) ∧ w.grownBy w' v.ownBlock ∧ SameOrNew w.heap.size v.ownBlock v'.ownBlock := by
  obtain ⟨i, hi, hz, hsz, hby⟩ := info_parts info5
  have hm : n + m ≤ maxLen := by unfold maxLen; omega
  obtain ⟨v', w', hr, h2, h3, _⟩ := run_append_own (P := Try.prog) w base 94 ty 5 i (.int .u8 0) 1 1 Try.underlying94 hi hz hsz hby rfl (by decide) v n ys hown ad m c news hl hnews h1 hm (by omega) hbase
  refine ⟨v', w', hr, h2, h3, ?_⟩
  have again : w.ownsRow w.heap.size 5 1 v n ys → SameOrNew w.heap.size v.ownBlock v'.ownBlock := fun ho => by
    obtain ⟨u, x, hr', h2', _, _⟩ := run_append_own (P := Try.prog) w w.heap.size 94 ty 5 i (.int .u8 0) 1 1 Try.underlying94 hi hz hsz hby rfl (by decide) v n ys ho ad m c news hl hnews h1 hm (by omega) (Nat.le_refl _)
    rw [hr] at hr'
    injection hr' with e1 e2
    subst e1 e2
    exact .inr fun k hk => (h2'.lt k hk).1
  rcases hown.2 with ⟨rfl, rfl⟩ | ⟨g, cap, cur, rfl, hbg, hg, hnc, hcm, hcs, htake⟩
  · exact again ⟨hown.1, .inl ⟨rfl, rfl⟩⟩
  · by_cases hroom : n + m ≤ cap
    · have hr' := run_append_room (P := Try.prog) w 94 ty 5 i Try.underlying94 hi g n cap cur hg ad m c news (by rw [hsz]; exact hl) hnews h1 hroom (by rw [hl, hcs, hsz, ← Nat.add_mul]; exact Nat.mul_le_mul_right _ hroom)
      rw [hr] at hr'
      injection hr' with e1 e2
      subst e1
      exact .inl rfl
    · have holds : ∀ j u, ys[j]? = some u → w.cell? ((⟨g, 0, none⟩ : Addr).add j) = some u := hown.cells (g := g) rfl
      have hr' := run_append_grow (P := Try.prog) w 94 ty 5 i (.int .u8 0) Try.underlying94 hi hz ⟨g, 0, none⟩ n cap ys (by rw [hsz]; exact hown.1) holds ad m c news (by rw [hsz]; exact hl) hnews (by omega) (by omega) (growslice_fits (by omega) (by rw [hby]; omega))
      rw [hr] at hr'
      injection hr' with e1 e2
      subst e1
      exact .inr fun k hk => by
        have : w.heap.size = k := by simpa [Value.ownBlock] using hk
        omega

/-- Bytes appended to a slice that is the call's own; what turns is told. -/
theorem wpList_append_turn {w : World} {ops : Array Oper} {rest : List Oper} {o : Oper} {a : Act} {Q : Exit → Act → World → Prop} (hgd : o.guard = none) (s x : Operand)
    (ho : o.op = .call { callee := .builtin .append, args := #[s, x], argTypes := #[94, 94] }) (base : Nat)
    (v : Value) (n : Nat) (ys : List Nat) (hs : a.eval s = v) (hown : w.ownsRow base 5 1 v n (ints8 ys)) (A : Option Addr) (xs : List Nat) (c : Nat) (ok : Nat → Prop)
    (hx : a.eval x = .slice A xs.length c) (hb : Bytes w ok A xs) (hn : A = none → c = 0) (h63 : n + xs.length ≤ 1000000) (hbase : base ≤ w.heap.size)
    (h : ∀ v' w', Hid (w'.ownsRow base 5 1 v' (n + xs.length) (ints8 (ys ++ xs))) → Hid (w.grownBy w' v.ownBlock) → Hid (SameOrNew w.heap.size v.ownBlock v'.ownBlock) → wpList Try.prog ops Q rest (a.put o.dst v') w') : wpList Try.prog ops Q (o :: rest) a w := by
  cases A with
  | none =>
    have h0 : xs = [] := by
      cases xs with
      | nil => rfl
      | cons y ys =>
        obtain ⟨b, o, e, _⟩ := hb.at_ (by simp)
        cases e
    subst h0
    have hc := hn rfl
    subst hc
    obtain ⟨i, hi, _⟩ := info_parts info5
    exact wpList_append_own_none hgd s x 94 ho base 5 i 1 Try.underlying94 hi v n (ints8 ys) hs hown hx (h v w (show w.ownsRow _ _ _ _ _ _ by simpa using hown) (World.grownBy.refl _ _) (.inl rfl))
  | some ad =>
    have hcell : ∀ j u, (ints8 xs)[j]? = some u → w.cell? (ad.add j) = some u := fun j u hu => by
      have hj : j < xs.length := by
        have := (List.getElem?_eq_some_iff.1 hu).1
        rwa [ints8_length] at this
      exact bytes_cells hb (by omega) j u hu
    obtain ⟨v', w', hr, h2, h3, h4⟩ := append_fresh hown ad xs.length c (ints8 xs) o.type (by rw [ints8_length]; omega) hcell (ints8_one xs) h63 hbase
    refine wpList_plain hgd fun K hK => ?_
    unfold Oper.wp execOp
    simp only [ho, resolve, invoke, builtin, Sem.run_bind, Sem.run_pure, Result.andThen_ok, List.map_toArray, List.map_cons, List.map_nil, hs, hx, hr]
    exact hK _ _ (h v' w' (by rw [ints8_append]; exact h2) h3 h4)
theorem step_append_turn {w : World} {ops : Array Oper} {o : Oper} {a : Act} {K : Act → World → Prop} {Q : Exit → Act → World → Prop} {E : Prop} (hgd : o.guard = none) (s x : Operand)
    (ho : o.op = .call { callee := .builtin .append, args := #[s, x], argTypes := #[94, 94] }) (base : Nat)
    (v : Value) (n : Nat) (ys : List Nat) (hs : a.eval s = v) (hown : w.ownsRow base 5 1 v n (ints8 ys)) (A : Option Addr) (xs : List Nat) (c : Nat) (ok : Nat → Prop)
    (hx : a.eval x = .slice A xs.length c) (hb : Bytes w ok A xs) (hn : A = none → c = 0) (h63 : n + xs.length ≤ 1000000) (hbase : base ≤ w.heap.size)
    (h : ∀ v' w', Hid (w'.ownsRow base 5 1 v' (n + xs.length) (ints8 (ys ++ xs))) → Hid (w.grownBy w' v.ownBlock) → Hid (SameOrNew w.heap.size v.ownBlock v'.ownBlock) → K (a.put o.dst v') w') :
    if Region.wanted o (yielded ops a.tmps) = true then Oper.wp Try.prog o a w K Q else E := by
  have hw : Region.wanted o (yielded ops a.tmps) = true := by simp [Region.wanted, hgd]
  rw [if_pos hw]
  cases A with
  | none =>
    have h0 : xs = [] := by
      cases xs with
      | nil => rfl
      | cons y ys =>
        obtain ⟨b, o, e, _⟩ := hb.at_ (by simp)
        cases e
    subst h0
    have hc := hn rfl
    subst hc
    obtain ⟨i, hi, _⟩ := info_parts info5
    have hr := run_append_owned_none (P := Try.prog) (w := w) base 94 o.type 5 i 1 Try.underlying94 hi v n (ints8 ys) hown
    unfold Oper.wp execOp
    simp only [ho, resolve, invoke, builtin, Sem.run_bind, Sem.run_pure, Result.andThen_ok, List.map_toArray, List.map_cons, List.map_nil, hs, hx, List.length_nil, hr]
    exact h v w (show w.ownsRow _ _ _ _ _ _ by simpa using hown) (World.grownBy.refl _ _) (.inl rfl)
  | some ad =>
    have hcell : ∀ j u, (ints8 xs)[j]? = some u → w.cell? (ad.add j) = some u := fun j u hu => by
      have hj : j < xs.length := by
        have := (List.getElem?_eq_some_iff.1 hu).1
        rwa [ints8_length] at this
      exact bytes_cells hb (by omega) j u hu
    obtain ⟨v', w', hr, h2, h3, h4⟩ := append_fresh hown ad xs.length c (ints8 xs) o.type (by rw [ints8_length]; omega) hcell (ints8_one xs) h63 hbase
    unfold Oper.wp execOp
    simp only [ho, resolve, invoke, builtin, Sem.run_bind, Sem.run_pure, Result.andThen_ok, List.map_toArray, List.map_cons, List.map_nil, hs, hx, hr]
    exact h v' w' (by rw [ints8_append]; exact h2) h3 h4

/-- What a writer's call turns: its own block W, and the block b of its bytes, which may be another one (b') behind. -/
structure Turn (x y : World) (W : Nat) (b b' : Option Nat) : Prop where
  os : y.os = x.os
  tape : y.tape = x.tape
  output : y.output = x.output
  size : x.heap.size ≤ y.heap.size
  block : ∀ k, k < x.heap.size → k ≠ W → b ≠ some k → y.heap[k]? = x.heap[k]?
  new : SameOrNew x.heap.size b b'
theorem Turn.refl (x : World) (W : Nat) (b : Option Nat) : Turn x x W b b := ⟨rfl, rfl, rfl, Nat.le_refl _, fun _ _ _ _ => rfl, .inl rfl⟩
theorem Turn.trans {x y z : World} {W : Nat} {b b' b'' : Option Nat} (h : Turn x y W b b') (k : Turn y z W b' b'') : Turn x z W b b'' := by
  refine ⟨k.os.trans h.os, k.tape.trans h.tape, k.output.trans h.output, Nat.le_trans h.size k.size, fun j hj hW hb => ?_, ?_⟩
  · refine (k.block j (Nat.lt_of_lt_of_le hj h.size) hW ?_).trans (h.block j hj hW hb)
    rcases h.new with e | e
    · rw [e]; exact hb
    · exact fun e' => by have := e j e'; omega
  · rcases k.new with e | e
    · rw [e]; exact h.new
    · exact .inr fun j hj => Nat.le_trans h.size (e j hj)
theorem Turn.below {x y : World} {W B : Nat} {b b' : Option Nat} (h : Turn x y W b b') (hW : B ≤ W) (hb : ∀ k, b = some k → B ≤ k) (hB : B ≤ x.heap.size) : Below B x y :=
  ⟨h.os, h.tape, h.output, h.size, fun k hk => h.block k (by omega) (by omega) (fun e => by have := hb k e; omega)⟩
theorem Turn.of_below {x y : World} {W : Nat} {b : Option Nat} (h : Below x.heap.size x y) : Turn x y W b b := ⟨h.os, h.tape, h.output, h.size, fun k hk _ _ => h.block k hk, .inl rfl⟩
/-- A writer: block W holds the slice v, which is of the bytes xs. -/
structure WAt (x : World) (base W : Nat) (v : Value) (xs : List Nat) : Prop where
  row : x.heap[W]? = some (.cells #[v] 96 (0, 0))
  own : x.ownsRow base 5 1 v xs.length (ints8 xs)
  le : base ≤ W
theorem WAt.ne {x : World} {base W : Nat} {v : Value} {xs : List Nat} (h : WAt x base W v xs) : v.ownBlock ≠ some W := fun e => by
  rcases h.own.2 with ⟨rfl, _⟩ | ⟨g, cap, cur, rfl, _, hg, _⟩
  · cases e
  · have : g = W := by simpa [Value.ownBlock] using e
    subst this
    have := h.row
    rw [hg] at this
    injection this with this
    injection this with _ this
    exact absurd this (by decide)
theorem WAt.lt {x : World} {base W : Nat} {v : Value} {xs : List Nat} (h : WAt x base W v xs) : W < x.heap.size := (Array.getElem?_eq_some_iff.1 h.row).1
theorem WAt.blk {x : World} {base W : Nat} {v : Value} {xs : List Nat} (h : WAt x base W v xs) : ∀ k, v.ownBlock = some k → base ≤ k := fun k hk => (h.own.lt k hk).1
theorem WAt.base_le {x : World} {base W : Nat} {v : Value} {xs : List Nat} (h : WAt x base W v xs) : base ≤ x.heap.size := Nat.le_trans h.le (Nat.le_of_lt h.lt)
theorem WAt.below {x y : World} {base W : Nat} {v : Value} {xs : List Nat} (h : WAt x base W v xs) (hb : Below x.heap.size x y) : WAt y base W v xs :=
  ⟨(hb.block W h.lt).trans h.row, own_keep h.own fun k _ hk => hb.block k hk, h.le⟩
/-- Behind the append, the new slice is stored. -/
theorem WAt.next {x y : World} {base W : Nat} {v v' : Value} {xs ys : List Nat} (h : WAt x base W v xs) (ho : y.ownsRow base 5 1 v' (xs.length + ys.length) (ints8 (xs ++ ys))) (hg : x.grownBy y v.ownBlock) (hn : SameOrNew x.heap.size v.ownBlock v'.ownBlock) :
    WAt (y.setCell ⟨W, 0, none⟩ v') base W v' (xs ++ ys) ∧ Turn x (y.setCell ⟨W, 0, none⟩ v') W v.ownBlock v'.ownBlock := by
  have hy : y.heap[W]? = some (.cells #[v] 96 (0, 0)) := (hg.block W h.lt (fun e => h.ne e.symm)).trans h.row
  have hlt : W < y.heap.size := Nat.lt_of_lt_of_le h.lt hg.size
  have hother : ∀ k, k ≠ W → (y.setCell ⟨W, 0, none⟩ v').heap[k]? = y.heap[k]? := fun k hk => Below.heap_setCell y ⟨W, 0, none⟩ v' k hk
  have hrow : (y.setCell ⟨W, 0, none⟩ v').heap[W]? = some (.cells #[v'] 96 (0, 0)) := by
    simp [World.setCell, Array.getElem?_modify, hy]
  have hnew : v'.ownBlock ≠ some W := by
    rcases hn with e | e
    · rw [e]; exact h.ne
    · exact fun e' => by have := e W e'; have := h.lt; omega
  refine ⟨⟨hrow, ?_, h.le⟩, ⟨hg.os, hg.tape, hg.output, by simpa [World.setCell] using hg.size, fun k hk hW hb => (hother k hW).trans (hg.block k hk (fun e => hb e.symm)), hn⟩⟩
  rw [List.length_append]
  exact ho.kept (only_setCell (only_refl y (some W)) (p := ⟨W, 0, none⟩) (.inl rfl) v') (.inr hnew)
theorem WAt.cell {x : World} {base W : Nat} {v : Value} {xs : List Nat} (h : WAt x base W v xs) : x.cell? ⟨W, 0, none⟩ = some v := by rw [cell_of_row _ _ _ _ _ _ h.row]; rfl
theorem WAt.frozen {x : World} {base W : Nat} {v : Value} {xs : List Nat} (h : WAt x base W v xs) : x.frozen? ⟨W, 0, none⟩ = false := by
  have hr : x.rowIs W 96 1 (fun _ => v) := ⟨_, h.row, rfl, fun i hi => by
    match i, hi with
    | 0, _ => rfl⟩
  exact hr.frozen 0
theorem ret_i64 {a b : Int} (h : a = b) : Ending.returned (.int .i64 a) = .returned (.int .i64 b) := by rw [h]

theorem len64_any (n : Nat) (w : World) (h : n < 18446744073709551616) : Calls Try.prog 126 #[.int .u64 (n : Int)] w fun e w' => e = .returned (.int .i64 ((Lib.bitLen n : Nat) : Int)) ∧ w' = w := by
  have h := Any.bits_Len64 Try.lays129 (n : Int) w (by omega) (by omega)
  rwa [Int.toNat_natCast] at h

theorem bytes_one (w : World) (y : Nat) (hy : y < 256) : Bytes (w.alloc (.cells #[.int .u8 (y : Int)] 5)) (fun _ => True) (some ⟨w.heap.size, 0, none⟩) [y] := by
  refine ⟨fun x hx => by rw [List.mem_singleton] at hx; omega, fun _ => ⟨_, _, rfl, trivial, fun j hj => ?_⟩⟩
  rw [Nat.zero_add, cell_of_row _ _ _ _ _ _ (heap_alloc_new _ _)]
  match j, hj with
  | 0, _ => rfl
theorem WAt.slice {x : World} {base W : Nat} {v : Value} {xs : List Nat} (h : WAt x base W v xs) : ∃ A c, v = .slice A xs.length c := by
  rcases h.own.2 with ⟨e, h0⟩ | ⟨g, cap, cur, e, _⟩
  · exact ⟨none, 0, by rw [e, h0]⟩
  · exact ⟨_, _, e⟩
theorem take_next (n m : Nat) (h : n < 18446744073709551616) (hm : m + 1 ≤ (be n).length) : (be n).take ((be n).length - (m + 1)) ++ [n / 256 ^ m % 256] = (be n).take ((be n).length - m) := by
  rw [← be_get m n h (by omega), show (be n).length - m = ((be n).length - (m + 1)) + 1 by omega, List.take_add_one, show (be n).length - (m + 1) = (be n).length - 1 - m by omega, List.getD_eq_getElem?_getD, List.getElem?_eq_getElem (by omega)]
  rfl
/-- What the loop keeps: m bytes are left. -/
structure NInv (w : World) (base W : Nat) (b0 : Option Nat) (xs : List Nat) (n m : Nat) (v : Value) (wr : World) : Prop where
  at_ : WAt wr base W v (xs ++ [(be n).length] ++ (be n).take ((be n).length - m))
  turn : Turn w wr W b0 v.ownBlock
set_option maxRecDepth 100000 in
set_option maxHeartbeats 2000000 in
theorem num_any (n : Nat) (w : World) (base W : Nat) (v : Value) (xs : List Nat) (h : n < 18446744073709551616) (hw : WAt w base W v xs) (hs : xs.length ≤ 900000) :
    Calls Try.prog 102 #[.pointer (some ⟨W, 0, none⟩), .int .u64 (n : Int)] w fun e w' => e = .returned (.tuple #[]) ∧ ∃ v', WAt w' base W v' (xs ++ numB n) ∧ Turn w w' W v.ownBlock v'.ownBlock := by
  have HW := Lib.hid hw
  have hk8 := be_len8 n
  have hbl := be_length n h
  obtain ⟨L, hL⟩ : ∃ L, L = (be n).length := ⟨_, rfl⟩
  rw [← hL] at hk8 hbl
  have HC := Lib.hid (len64_any n w h)
  obtain ⟨bl, hb⟩ : ∃ bl, bl = Lib.bitLen n := ⟨_, rfl⟩
  rw [← hb] at hbl HC
  clear hb
  have eI : ((bl : Int) + 7) / 8 = (L : Int) := by omega
  have eU : IntKind.u8.wrap (L : Int) = (L : Int) := by rw [IntKind.wrap_u8]; omega
  have blb : bl ≤ 64 := by omega
  have HL := Lib.hid hL
  clear hL hbl
  have c0 := hw.cell
  have f0 := hw.frozen
  clear hw
  obtain ⟨A, c, rfl⟩ := HW.out.slice
  have HX := Lib.hid (HW.out.below (below1 w (.cells #[.int .u8 (L : Int)] 5)))
  have HB1 := Lib.hid (bytes_one w L (by omega))
  have S0 := Lib.hid HX.out.base_le
  go_enter Try.func102, Try.ntmps102
  go_upto_region 2 with (go_at_call 126; refine HC.out.mono ?_; rintro e w' ⟨rfl, ew⟩; obtain rfl := ew.symm)
  rw [eI]
  go_wp2_with (first
    | (refine wpList_append_turn rfl (.tmp 15) (.tmp 18) rfl base _ xs.length xs rfl HX.out.own (some ⟨w.heap.size, 0, none⟩) [L] 1 (fun _ => True) rfl HB1.out (fun h => by cases h) (by simp; omega) S0.out ?_
       intro v1 w1 H1 G1 N1
       obtain ⟨g1, cap1, rfl⟩ := owns_slice H1.out (by simp)
       have R1 := Lib.hid (HX.out.next H1.out G1.out N1.out)
       have c1 : w1.cell? ⟨W, 0, none⟩ = some (.slice A xs.length c) := (World.cell?_of_block (w := w.alloc (.cells #[.int .u8 (L : Int)] 5)) (a := ⟨W, 0, none⟩) (G1.out.block W HX.out.lt (fun e => HX.out.ne e.symm))).trans HX.out.cell
       have f1 : w1.frozen? ⟨W, 0, none⟩ = false := (World.frozen?_of_block (w := w.alloc (.cells #[.int .u8 (L : Int)] 5)) (a := ⟨W, 0, none⟩) (G1.out.block W HX.out.lt (fun e => HX.out.ne e.symm))).trans HX.out.frozen))
  have HI0 : Hid (NInv w base W (Value.ownBlock (.slice A xs.length c)) xs n L (.slice (some ⟨g1, 0, none⟩) (xs.length + [L].length) cap1) (w1.setCell ⟨W, 0, none⟩ (.slice (some ⟨g1, 0, none⟩) (xs.length + [L].length) cap1))) := by
    refine ⟨?_, (Turn.of_below (below1 w _)).trans R1.out.2⟩
    have h := R1.out.1
    rw [HL.out] at h ⊢
    simpa using h
  have HN := Lib.hid h
  have hxl : xs.length ≤ 900000 := hs
  clear R1 c1 f1 H1 G1 N1 HX HB1 S0 c0 f0 HW HC blb eI eU h hs
  have l1 : xs.length + [L].length = xs.length + 1 := rfl
  rw [l1] at HI0
  generalize w1.setCell ⟨W, 0, none⟩ (.slice (some ⟨g1, 0, none⟩) (xs.length + 1) cap1) = w2 at *
  go_loopw [4] (fun a wr => ∃ (m : Nat), m ≤ L ∧ a = .int .i64 (m : Int) ∧ Hid (∃ v, NInv w base W (Value.ownBlock (.slice A xs.length c)) xs n m v wr)) (fun a _ => (intOf a).toNat)
  case atStart => exact ⟨L, Nat.le_refl _, rfl, ⟨_, HI0⟩⟩
  case round =>
    clear HI0
    obtain ⟨m, hm, rfl, HI⟩ := hrel
    by_cases h0 : 0 < m
    · have h0' : (0 : Int) < (m : Int) := by omega
      obtain ⟨k, rfl⟩ : ∃ k, m = k + 1 := ⟨m - 1, by omega⟩
      obtain ⟨v, hI⟩ := HI.out
      obtain ⟨ys, hys⟩ : ∃ ys, ys = xs ++ [(be n).length] ++ (be n).take ((be n).length - (k + 1)) := ⟨_, rfl⟩
      have hat := hI.at_
      rw [← hys] at hat
      have HTU := Lib.hid hI.turn
      have hyl : ys.length ≤ 900010 := by
        rw [hys, List.length_append, List.length_append, List.length_take]
        simp only [List.length_cons, List.length_nil]
        have := be_len8 n
        omega
      have HYS := Lib.hid hys
      clear hys hI HI
      obtain ⟨A2, c2, rfl⟩ := hat.slice
      have c3 := hat.cell
      have f3 := hat.frozen
      obtain ⟨y, hy⟩ : ∃ y, y = n / 256 ^ k % 256 := ⟨_, rfl⟩
      have hy2 : y < 256 := by omega
      have ey : IntKind.u8.wrap ((n : Int) / 2 ^ (8 * (k : Int)).toNat) = (y : Int) := by
        have e1 : ((n : Int) / 2 ^ (8 * k)) = ((n / 2 ^ (8 * k) : Nat) : Int) := by rw [Int.natCast_ediv, Int.natCast_pow]; rfl
        rw [IntKind.wrap_u8, hy, show (8 * (k : Int)).toNat = 8 * k by omega, e1, show (2 : Nat) ^ (8 * k) = 256 ^ k by rw [Nat.pow_mul]]
        omega
      have HY := Lib.hid hy
      have HX0 : Hid (WAt (wr.alloc (.cells #[.int .u8 (y : Int)] 5)).drew base W (.slice A2 ys.length c2) ys) := by
        have h := hat.below (below1 wr (.cells #[.int .u8 (y : Int)] 5))
        exact ⟨h.row, h.own, h.le⟩
      have HB0 : Hid (Bytes (wr.alloc (.cells #[.int .u8 (y : Int)] 5)).drew (fun _ => True) (some ⟨wr.heap.size, 0, none⟩) [y]) := by
        have h := bytes_one wr y hy2
        exact ⟨h.lt, h.at_⟩
      have SB := Lib.hid HX0.out.base_le
      have HTW : Hid (Turn wr (wr.alloc (.cells #[.int .u8 (y : Int)] 5)).drew W (Value.ownBlock (.slice A2 ys.length c2)) (Value.ownBlock (.slice A2 ys.length c2))) := by
        have h := below1 wr (.cells #[.int .u8 (y : Int)] 5)
        exact Turn.of_below ⟨h.os, h.tape, h.output, h.size, h.block⟩
      have c5 : (wr.alloc (.cells #[.int .u8 (y : Int)] 5)).cell? ⟨W, 0, none⟩ = some (.slice A2 ys.length c2) := (hat.below (below1 wr (.cells #[.int .u8 (y : Int)] 5))).cell
      have f5 : (wr.alloc (.cells #[.int .u8 (y : Int)] 5)).frozen? ⟨W, 0, none⟩ = false := (hat.below (below1 wr (.cells #[.int .u8 (y : Int)] 5))).frozen
      clear hy hat
      have w8 : IntKind.i64.wrap (8 * (k : Int)) = 8 * (k : Int) := IntWalk.i64_in _ (by omega)
      have s0 : 0 ≤ 8 * (k : Int) := by omega
      have s1 : 8 * (k : Int) < 64 := by omega
      go_wp2_with fail
      go_region_law (
        refine step_append_turn rfl (.tmp 30) (.tmp 36) rfl base _ ys.length ys rfl HX0.out.own (some ⟨wr.heap.size, 0, none⟩) [y] 1 (fun _ => True) rfl HB0.out (fun h => by cases h) (by simp; omega) SB.out ?_
        intro v3 w3 H3 G3 N3
        obtain ⟨g3, cap3, rfl⟩ := owns_slice H3.out (by simp)
        have R3 := Lib.hid (HX0.out.next H3.out G3.out N3.out)
        have c4 : w3.cell? ⟨W, 0, none⟩ = some (.slice A2 ys.length c2) := (World.cell?_of_block (w := (wr.alloc (.cells #[.int .u8 (y : Int)] 5)).drew) (a := ⟨W, 0, none⟩) (G3.out.block W HX0.out.lt (fun e => HX0.out.ne e.symm))).trans HX0.out.cell
        have f4 : w3.frozen? ⟨W, 0, none⟩ = false := (World.frozen?_of_block (w := (wr.alloc (.cells #[.int .u8 (y : Int)] 5)).drew) (a := ⟨W, 0, none⟩) (G3.out.block W HX0.out.lt (fun e => HX0.out.ne e.symm))).trans HX0.out.frozen)
      all_goals
        go_wp2_with fail
        go_roundw
        case rel =>
          refine ⟨k, by omega, by go_num, _, ?_, HTU.out.trans (HTW.out.trans R3.out.2)⟩
          have h := R3.out.1
          have hk : k + 1 ≤ (be n).length := by rw [← HL.out]; exact hm
          have e : ys ++ [y] = xs ++ [(be n).length] ++ (be n).take ((be n).length - k) := by
            rw [HYS.out, HY.out, List.append_assoc, take_next n k HN.out hk]
          rw [e] at h
          exact h
        case measure => simp [intOf]
    · obtain rfl : m = 0 := by omega
      go_wp2
      obtain ⟨v, hI⟩ := HI.out
      have h := hI.at_
      rw [Nat.sub_zero, List.take_length, List.append_assoc] at h
      go_end0
      exact ⟨rfl, v, h, hI.turn⟩
theorem own_slice {w : World} {base : Nat} {v : Value} {n : Nat} {l : List Value} (h : w.ownsRow base 5 1 v n l) : ∃ A c, v = .slice A n c := by
  rcases h.2 with ⟨e, h0⟩ | ⟨g, cap, cur, e, _⟩
  · exact ⟨none, 0, by rw [e, h0]⟩
  · exact ⟨_, _, e⟩
set_option maxHeartbeats 1000000 in
theorem bytes_any (w : World) (base W : Nat) (v : Value) (xs : List Nat) (hw : WAt w base W v xs) (hz : ∀ z, z ∈ xs → z < 256) (hs : xs.length ≤ 1000000) :
    Calls Try.prog 65 #[.pointer (some ⟨W, 0, none⟩)] w fun e w' => ∃ u, e = .returned u ∧ w'.ownsRow w.heap.size 5 1 u xs.length (ints8 xs) ∧ Below w.heap.size w w' := by
  obtain ⟨A, c, rfl, hn, hb⟩ := own_bytes hw.own hz
  have HC := Lib.hid (fresh_any xs c A w hb hs)
  have c0 := hw.cell
  clear hw hb
  go_enter Try.func65, Try.ntmps65
  go_wp2_with (go_at_call 108; refine HC.out.mono ?_; rintro e w1 ⟨u, rfl, hr⟩; have HR := Lib.hid hr; clear hr)
  go_ret
  exact ⟨u, rfl, HR.out⟩
end Go.Proofs.Ytnpacjdgbmldlaa.Wr

/- A reader's take. -/
namespace Go.Proofs.Ytnpacjdgbmldlaa.Wr
open Go.RowKit
theorem run_sliceAt_three {P : Program} (t e : TypeId) (hu : P.underlying t = some (.slice e)) (hs : (P.info? e).map (·.size) = some 1) (A : Option Addr) (n c i j : Nat) (hi : i ≤ j) (hj : j ≤ c) (w : World) :
    (Instr.sliceAt t (.slice A n c) (some (.int .i64 (i : Int))) (some (.int .i64 (j : Int))) (some (.int .i64 (j : Int)))).run P w = .ok (.slice (if j = i then A else A.map (·.add i)) (j - i) (j - i)) w := by
  have h : (Instr.slice t (.slice A n c) (some (.int .i64 (i : Int))) (some (.int .i64 (j : Int))) (some (.int .i64 (j : Int)))).run P w = .ok (.slice (if j = i then A else A.map (·.add i)) (j - i) (j - i)) w := by
    cases hq : P.info? e with
    | none => simp [hq] at hs
    | some x =>
      have hx : x.size = 1 := by simpa [hq] using hs
      have h1 : (j : Int) ≤ (c : Int) := by omega
      have h2 : (i : Int) ≤ (j : Int) := by omega
      simp [Instr.slice, Instr.sliceBounds, Instr.sliceBound, asIntOf, Sem.run_bind, run_underlying hu w, sizeOf, typeInfo, hq, hx, h1, h2, Result.andThen, hi, hj]
  simp only [Instr.sliceAt, Sem.run_bind, run_underlying hu w, Result.andThen, h]

end Go.Proofs.Ytnpacjdgbmldlaa.Wr
namespace Go.Proofs.Ytnpacjdgbmldlaa
theorem Bytes.sub {w : World} {P : Nat → Prop} {A : Option Addr} {xs : List Nat} (h : Bytes w P A xs) {k n : Nat} (hn : n ≤ xs.length - k) (h0 : 0 < n) : Bytes w P (A.map (·.add k)) ((xs.drop k).take n) := by
  obtain ⟨b, o, rfl, hb, hc⟩ := h.at_ (by omega)
  refine ⟨fun x hx => h.lt x (List.mem_of_mem_drop (List.mem_of_mem_take hx)), fun _ => ⟨b, o + k, by rw [Option.map_some, Addr.add_mid], hb, fun j hj => ?_⟩⟩
  rw [List.length_take, List.length_drop] at hj
  rw [Nat.add_assoc, hc (k + j) (by omega), List.getD_eq_getElem?_getD, List.getD_eq_getElem?_getD, List.getElem?_take, if_pos (by omega), List.getElem?_drop]
end Go.Proofs.Ytnpacjdgbmldlaa
namespace Go.Proofs.Ytnpacjdgbmldlaa.Wr
open Go.RowKit

/-- The cells of a reader. -/
def rF (s : Value) (at_ e : Int) (i : Nat) : Value := if i = 0 then .bool true else if i = 1 then s else if i = 2 then .int .i64 at_ else .int .i64 e
/-- A reader: block R; its bytes bs, its place, its fault. -/
structure RAt (x : World) (R : Nat) (A : Option Addr) (c : Nat) (bs : List Nat) (at_ : Nat) (e : Int) : Prop where
  row : x.rowIs R 147 4 (rF (.slice A bs.length c) at_ e)
  by_ : Bytes x (· ≠ R) A bs
  le : at_ ≤ bs.length
  cap : bs.length ≤ c
  some_ : A = none → c = 0
theorem RAt.only {x y : World} {R : Nat} {A : Option Addr} {c : Nat} {bs : List Nat} {at_ : Nat} {e : Int} (h : RAt x R A c bs at_ e) (hb : Below x.heap.size x y) : RAt y R A c bs at_ e :=
  ⟨row_below h.row hb h.row.lt, h.by_.keep fun b j _ hl => World.cell?_of_block (w := x) (a := ⟨b, j, none⟩) (hb.block b hl), h.le, h.cap, h.some_⟩
theorem RAt.setAt {x : World} {R : Nat} {A : Option Addr} {c : Nat} {bs : List Nat} {at_ at' : Nat} {e : Int} (h : RAt x R A c bs at_ e) (hl : at' ≤ bs.length) : RAt (x.setCell ⟨R, 2, none⟩ (.int .i64 (at' : Int))) R A c bs at' e ∧ x.grownBy (x.setCell ⟨R, 2, none⟩ (.int .i64 (at' : Int))) (some R) := by
  refine ⟨⟨(h.row.set 2 _).congr fun i hi => ?_, h.by_.only (only_setCell (only_refl x (some R)) (.inl rfl) _), hl, h.cap, h.some_⟩, only_setCell (only_refl x (some R)) (.inl rfl) _⟩
  by_cases h2 : i = 2
  · subst h2; rfl
  · simp only [if_neg h2, rF]
theorem RAt.setE {x : World} {R : Nat} {A : Option Addr} {c : Nat} {bs : List Nat} {at_ : Nat} {e e' : Int} (h : RAt x R A c bs at_ e) : RAt (x.setCell ⟨R, 3, none⟩ (.int .i64 e')) R A c bs at_ e' ∧ x.grownBy (x.setCell ⟨R, 3, none⟩ (.int .i64 e')) (some R) := by
  refine ⟨⟨(h.row.set 3 _).congr fun i hi => ?_, h.by_.only (only_setCell (only_refl x (some R)) (.inl rfl) _), h.le, h.cap, h.some_⟩, only_setCell (only_refl x (some R)) (.inl rfl) _⟩
  by_cases h2 : i = 3
  · subst h2; rfl
  · by_cases h1 : i = 2
    · subst h1; simp [rF]
    · simp only [if_neg h2, rF, if_neg h1]
      by_cases h0 : i = 0
      · simp [h0]
      · have : i = 1 := by omega
        subst this; rfl
theorem size59 : (Try.prog.info? 147).map (·.size) = some 4 := by kernel_rfl

theorem err_any (w : World) (R : Nat) (A : Option Addr) (c : Nat) (bs : List Nat) (at_ : Nat) (e : Int) (h : RAt w R A c bs at_ e) : Calls Try.prog 105 #[.pointer (some ⟨R, 0, none⟩)] w fun r w' => r = .returned (.int .i64 e) ∧ w' = w := by
  have c0 := h.row.cell (i := 0) (by omega)
  have c3 := h.row.cell (i := 3) (by omega)
  simp only [rF, Nat.reduceEqDiff, if_false, if_true] at c0 c3
  clear h
  go_enter Try.func105, Try.ntmps105
  go_wp2
  go_ret
  exact ⟨rfl, rfl⟩
set_option maxHeartbeats 1000000 in
theorem left_any (w : World) (R : Nat) (A : Option Addr) (c : Nat) (bs : List Nat) (at_ : Nat) (e : Int) (h : RAt w R A c bs at_ e) (hs : bs.length ≤ 1000000) :
    Calls Try.prog 161 #[.pointer (some ⟨R, 0, none⟩)] w fun r w' => r = .returned (.int .i64 (if e = 0 then ((bs.length - at_ : Nat) : Int) else 0)) ∧ Below w.heap.size w w' := by
  have HC := Lib.hid (err_any w R A c bs at_ e h)
  have c1 := h.row.cell (i := 1) (by omega)
  have c2 := h.row.cell (i := 2) (by omega)
  have hle := h.le
  simp only [rF, Nat.reduceEqDiff, if_false, if_true] at c1 c2
  clear h
  by_cases he : e = 0
  · subst he
    go_enter Try.func161, Try.ntmps161
    go_wp2_with (go_at_call 105; refine HC.out.mono ?_; rintro r w' ⟨rfl, ew⟩; obtain rfl := ew.symm)
    go_region
    go_wp2_with fail
    go_ret
    exact ⟨ret_int (by omega), (Below.refl _ _).drew⟩
  · have he' : (e != 0) = true := by simpa using he
    go_enter Try.func161, Try.ntmps161
    go_wp2_with (go_at_call 105; refine HC.out.mono ?_; rintro r w' ⟨rfl, ew⟩; obtain rfl := ew.symm)
    go_ret
    exact ⟨rfl, Below.refl _ _⟩
set_option maxHeartbeats 1000000 in
theorem fail_any (w : World) (R : Nat) (A : Option Addr) (c : Nat) (bs : List Nat) (at_ : Nat) (e x : Int) (h : RAt w R A c bs at_ e) :
    Calls Try.prog 128 #[.pointer (some ⟨R, 0, none⟩), .int .i64 x] w fun r w' => r = .returned (.tuple #[]) ∧ RAt w' R A c bs at_ (if e = 0 then x else e) ∧ w.grownBy w' (some R) := by
  have HC := Lib.hid (err_any w R A c bs at_ e h)
  have HR := Lib.hid h
  have c3 := h.row.cell (i := 3) (by omega)
  have f3 := h.row.frozen 3
  simp only [rF, Nat.reduceEqDiff, if_false, if_true] at c3
  clear h
  by_cases he : e = 0
  · subst he
    go_enter Try.func128, Try.ntmps128
    go_wp2_with (go_at_call 105; refine HC.out.mono ?_; rintro r w' ⟨rfl, ew⟩; obtain rfl := ew.symm)
    go_end0
    exact ⟨rfl, HR.out.setE⟩
  · have he' : (e == 0) = false := by simpa using he
    go_enter Try.func128, Try.ntmps128
    go_wp2_with (go_at_call 105; refine HC.out.mono ?_; rintro r w' ⟨rfl, ew⟩; obtain rfl := ew.symm)
    go_end0
    exact ⟨rfl, HR.out, only_refl _ _⟩

theorem take_err (w : World) (R : Nat) (A : Option Addr) (c : Nat) (bs : List Nat) (at_ : Nat) (e : Int) (n : Nat) (h : RAt w R A c bs at_ e) (he : e ≠ 0) :
    Calls Try.prog 152 #[.pointer (some ⟨R, 0, none⟩), .int .u64 (n : Int)] w fun r w' => r = .returned (.slice none 0 0) ∧ w' = w := by
  have HC := Lib.hid (err_any w R A c bs at_ e h)
  have he' : (e != 0) = true := by simpa using he
  clear h
  go_enter Try.func152, Try.ntmps152
  go_wp2_with (go_at_call 105; refine HC.out.mono ?_; rintro r w' ⟨rfl, ew⟩; obtain rfl := ew.symm)
  go_ret
  exact ⟨rfl, rfl⟩
set_option maxHeartbeats 1000000 in
theorem take_short (w : World) (R : Nat) (A : Option Addr) (c : Nat) (bs : List Nat) (at_ n : Nat) (h : RAt w R A c bs at_ 0) (hs : bs.length ≤ 1000000) (hn : bs.length - at_ < n) (hn2 : n < 18446744073709551616) :
    Calls Try.prog 152 #[.pointer (some ⟨R, 0, none⟩), .int .u64 (n : Int)] w fun r w' => r = .returned (.slice none 0 0) ∧ RAt w' R A c bs at_ 8 ∧ w.grownBy w' (some R) := by
  have HC := Lib.hid (err_any w R A c bs at_ 0 h)
  obtain ⟨d, hd⟩ : ∃ d, d = bs.length - at_ := ⟨_, rfl⟩
  have HL := Lib.hid (left_any w R A c bs at_ 0 h hs)
  rw [if_pos rfl, ← hd] at HL
  rw [← hd] at hn
  have HR := Lib.hid h
  have dl : d ≤ 1000000 := by omega
  have ud : IntKind.u64.wrap (d : Int) = (d : Int) := by rw [IntKind.wrap_u64]; omega
  have hlt : (d : Int) < (n : Int) := by omega
  clear h hd
  go_enter Try.func152, Try.ntmps152
  go_wp2_with (first
    | (go_at_call 105; refine HC.out.mono ?_; rintro r w' ⟨rfl, ew⟩; obtain rfl := ew.symm)
    | (go_at_call 161; refine HL.out.mono ?_; rintro r w1 ⟨rfl, hb⟩; have HB := Lib.hid hb; have HF := Lib.hid (fail_any w1 R A c bs at_ 0 8 (HR.out.only hb)); clear hb)
    | (go_at_call 128; refine HF.out.mono ?_; rintro r w2 ⟨rfl, hr2, hg2⟩; have HR2 := Lib.hid hr2; have HG2 := Lib.hid hg2; clear hr2 hg2))
  go_ret
  have h2 := HR2.out
  simp only [if_true] at h2
  exact ⟨rfl, h2, only_trans (only_below HB.out _) HG2.out⟩
set_option maxHeartbeats 2000000 in
theorem take_ok (w : World) (R : Nat) (A : Option Addr) (c : Nat) (bs : List Nat) (at_ n : Nat) (h : RAt w R A c bs at_ 0) (hs : bs.length ≤ 1000000) (hn : n ≤ bs.length - at_) :
    Calls Try.prog 152 #[.pointer (some ⟨R, 0, none⟩), .int .u64 (n : Int)] w fun r w' => ∃ A', r = .returned (.slice A' n n) ∧ Bytes w' (· ≠ R) A' ((bs.drop at_).take n) ∧ (A' = none → n = 0) ∧ RAt w' R A c bs (at_ + n) 0 ∧ w.grownBy w' (some R) := by
  have HC := Lib.hid (err_any w R A c bs at_ 0 h)
  obtain ⟨d, hd⟩ : ∃ d, d = bs.length - at_ := ⟨_, rfl⟩
  have HL := Lib.hid (left_any w R A c bs at_ 0 h hs)
  rw [if_pos rfl, ← hd] at HL
  have HR := Lib.hid h
  have hle := h.le
  have hcap := h.cap
  have dl : d ≤ 1000000 := by omega
  have ud : IntKind.u64.wrap (d : Int) = (d : Int) := by rw [IntKind.wrap_u64]; omega
  have hlt : (n : Int) ≤ (d : Int) := by omega
  have un : IntKind.i64.wrap (n : Int) = (n : Int) := IntWalk.i64_in _ (by omega)
  obtain ⟨q, hq⟩ : ∃ q, q = at_ + n := ⟨_, rfl⟩
  have uq : (at_ : Int) + (n : Int) = (q : Int) := by omega
  have hql : q ≤ bs.length := by omega
  have hsl := fun x => run_sliceAt_three (P := Try.prog) 94 5 Try.underlying94 size5 A bs.length c at_ q (by omega) (by omega) x
  have HQ := Lib.hid hq
  clear hq
  clear h hd
  go_enter Try.func152, Try.ntmps152
  go_wp2_with (first
    | (go_at_call 105; refine HC.out.mono ?_; rintro r w' ⟨rfl, ew⟩; obtain rfl := ew.symm)
    | (go_at_call 161; refine HL.out.mono ?_; rintro r w1 ⟨rfl, hb⟩; have HB := Lib.hid hb; have HR1 := Lib.hid (HR.out.only hb)
       have c1 : w1.cell? ⟨R, 2, none⟩ = some (.int .i64 (at_ : Int)) := by simpa [rF] using HR1.out.row.cell (i := 2) (by omega)
       have f1 := HR1.out.row.frozen 2
       clear hb))
  obtain ⟨w2, hw2⟩ : ∃ w2, w2 = w1.setCell ⟨R, 2, none⟩ (.int .i64 (q : Int)) := ⟨_, rfl⟩
  rw [← hw2]
  have HS : Hid (RAt w2 R A c bs q 0 ∧ w1.grownBy w2 (some R)) := by rw [hw2]; exact HR1.out.setAt hql
  clear hw2 f1 c1
  have c1 : w2.cell? ⟨R, 1, none⟩ = some (.slice A bs.length c) := by simpa [rF] using HS.out.1.row.cell (i := 1) (by omega)
  have c2 : w2.cell? ⟨R, 2, none⟩ = some (.int .i64 (q : Int)) := by simpa [rF] using HS.out.1.row.cell (i := 2) (by omega)
  go_region
  go_wp2_with fail
  · have hn0 : n = 0 := by have := HQ.out; omega
    subst hn0
    go_ret
    refine ⟨A, rfl, ?_, by simp, ?_, ?_⟩
    · rw [List.take_zero]
      exact ⟨fun _ h => (by cases h), fun h => (by cases h)⟩
    · have h := HS.out.1
      rw [HQ.out] at h
      exact ⟨h.row, ⟨h.by_.lt, h.by_.at_⟩, h.le, h.cap, h.some_⟩
    · exact only_drew (only_trans (only_below HB.out _) HS.out.2)
  · have hqn : q - at_ = n := by have := HQ.out; omega
    have hq0 : 0 < n := by have := HQ.out; omega
    rw [hqn]
    go_ret
    refine ⟨_, rfl, ?_, ?_, ?_, ?_⟩
    · have h := (HS.out.1.by_).sub (k := at_) (n := n) (by omega) hq0
      exact ⟨h.lt, h.at_⟩
    · intro e
      obtain ⟨b, o, eA, _⟩ := HS.out.1.by_.at_ (by omega)
      rw [eA] at e
      cases e
    · have h := HS.out.1
      rw [HQ.out] at h
      exact ⟨h.row, ⟨h.by_.lt, h.by_.at_⟩, h.le, h.cap, h.some_⟩
    · exact only_drew (only_trans (only_below HB.out _) HS.out.2)
end Go.Proofs.Ytnpacjdgbmldlaa.Wr

/- A reader's Num, Small; From. -/
namespace Go.Proofs.Ytnpacjdgbmldlaa.Wr
open Go.RowKit
theorem be_nil {n : Nat} (h : n < 18446744073709551616) (e : be n = []) : n = 0 := by
  by_cases h0 : n = 0
  · exact h0
  · rw [be_step n h0 h] at e
    simp at e
theorem div_len (n : Nat) (h : n < 18446744073709551616) : n / 256 ^ (be n).length = 0 := by
  have h1 := be_take (be n).length n h (Nat.le_refl _)
  rw [Nat.sub_self, List.take_zero] at h1
  exact be_nil (Nat.lt_of_le_of_lt (Nat.div_le_self _ _) h) h1.symm
theorem be_head (n : Nat) (h : n < 18446744073709551616) (h0 : 0 < (be n).length) : (be n).getD 0 0 ≠ 0 := by
  have h1 := be_get ((be n).length - 1) n h (by omega)
  rw [Nat.sub_self] at h1
  rw [h1]
  have h2 := be_take ((be n).length - 1) n h (by omega)
  have h3 : n / 256 ^ ((be n).length - 1) ≠ 0 := by
    intro e
    rw [e, be_zero] at h2
    have := congrArg List.length h2
    rw [List.length_take, List.length_nil] at this
    omega
  have h4 : n / 256 ^ ((be n).length - 1) < 256 := by
    have h5 := div_len n h
    obtain ⟨L, hL⟩ : ∃ L, (be n).length = L + 1 := ⟨(be n).length - 1, by omega⟩
    rw [hL, Nat.pow_succ, ← Nat.div_div_eq_div_mul] at h5
    rw [hL, Nat.add_sub_cancel]
    exact (Nat.div_eq_zero_iff.1 h5).resolve_left (by decide)
  rw [Nat.mod_eq_of_lt h4]
  exact h3
theorem acc_step (n j : Nat) (h : n < 18446744073709551616) (hj : j < (be n).length) : n / 256 ^ ((be n).length - j) * 256 + (be n).getD j 0 = n / 256 ^ ((be n).length - (j + 1)) := by
  have h1 := be_get ((be n).length - 1 - j) n h (by omega)
  rw [show (be n).length - 1 - ((be n).length - 1 - j) = j by omega] at h1
  rw [h1, show (be n).length - j = ((be n).length - 1 - j) + 1 by omega, show (be n).length - (j + 1) = (be n).length - 1 - j by omega, Nat.pow_succ, ← Nat.div_div_eq_div_mul]
  omega
theorem shl_or (x y : Nat) (hx : x * 256 < 18446744073709551616) (hy : y < 256) : bits BinOp.or IntKind.u64 ((x * 256 : Nat) : Int) (y : Int) = ((x * 256 + y : Nat) : Int) := by
  rw [u64_or_nat _ _ hx (by omega), nat_join 8 _ _ (by omega) (by omega)]
theorem numB_len (n : Nat) : (numB n).length = (be n).length + 1 := by rw [numB, List.length_cons]

set_option maxRecDepth 100000 in
set_option maxHeartbeats 4000000 in
theorem rnum_ok (n : Nat) (w : World) (R : Nat) (A : Option Addr) (c : Nat) (bs rest : List Nat) (at_ : Nat) (hn : n < 18446744073709551616) (h : RAt w R A c bs at_ 0) (hs : bs.length ≤ 1000000) (hb : bs.drop at_ = numB n ++ rest) :
    Calls Try.prog 127 #[.pointer (some ⟨R, 0, none⟩)] w fun r w' => r = .returned (.int .u64 (n : Int)) ∧ RAt w' R A c bs (at_ + (numB n).length) 0 ∧ w.grownBy w' (some R) := by
  have hl := congrArg List.length hb
  rw [List.length_drop, List.length_append, numB_len] at hl
  obtain ⟨L, hL⟩ : ∃ L, L = (be n).length := ⟨_, rfl⟩
  rw [← hL] at hl
  have hL8 : L ≤ 8 := by rw [hL]; exact be_len8 n
  have t1 : (bs.drop at_).take 1 = [L] := by rw [hb, numB, ← hL]; rfl
  have t2 : (bs.drop (at_ + 1)).take L = be n := by
    rw [← List.drop_drop, hb, numB, List.cons_append, List.drop_succ_cons, List.drop_zero, hL]
    exact List.take_left
  have HT1 := Lib.hid (take_ok w R A c bs at_ 1 h hs (by omega))
  have HT2 : Hid (∀ x, RAt x R A c bs (at_ + 1) 0 → Calls Try.prog 152 #[.pointer (some ⟨R, 0, none⟩), .int .u64 (L : Int)] x fun r w' => ∃ A', r = .returned (.slice A' L L) ∧ Bytes w' (· ≠ R) A' (be n) ∧ (A' = none → L = 0) ∧ RAt w' R A c bs (at_ + 1 + L) 0 ∧ x.grownBy w' (some R)) := fun x hx => by
    have := take_ok x R A c bs (at_ + 1) L hx hs (by omega)
    rw [t2] at this
    exact this
  rw [t1] at HT1
  have HL := Lib.hid hL
  have HN := Lib.hid hn
  clear h hb hl t1 t2 hL hn
  go_enter Try.func127, Try.ntmps127
  go_wp2_with fail
  refine HT1.out.mono ?_
  rintro r w1 ⟨A1, rfl, hb1, hn1, hr1, hg1⟩
  obtain ⟨b1, o1, rfl, hne1, hc1⟩ := hb1.at_ (by simp)
  have c1 : w1.cell? ⟨b1, o1, none⟩ = some (.int .u8 (L : Int)) := hc1 0 (by simp)
  have HG1 := Lib.hid hg1
  have HC2 := Lib.hid (HT2.out w1 hr1)
  have L8 : (L : Int) ≤ 8 := by omega
  have u1 : IntKind.u64.wrap (L : Int) = (L : Int) := by rw [IntKind.wrap_u64]; omega
  clear hb1 hn1 hr1 hg1 hc1 hne1 HT1 HT2
  go_wp2_with fail
  refine HC2.out.mono ?_
  rintro r w2 ⟨A2, rfl, hb2, hn2, hr2, hg2⟩
  have HB2 := Lib.hid hb2
  have HR2 := Lib.hid hr2
  have HG2 := Lib.hid (only_trans HG1.out hg2)
  have HD0 := Lib.hid (div_len n HN.out)
  clear hb2 hn2 hr2 hg2 HG1 HC2 c1
  go_wp2_with fail
  go_loopw [4, 25] (fun a4 a25 wr => ∃ j : Nat, j ≤ L ∧ a25 = .int .i64 (j : Int) ∧ (∃ q : Nat, a4 = .int .u64 (q : Int) ∧ Hid (q = n / 256 ^ (L - j))) ∧ Hid (wr = w2)) (fun _ v _ => L - (intOf v).toNat)
  case atStart => exact ⟨0, by omega, rfl, ⟨0, rfl, by show 0 = _; rw [Nat.sub_zero, HL.out, HD0.out]⟩, rfl⟩
  case round =>
    obtain ⟨j, hj, rfl, ⟨q, rfl, HQ⟩, HW⟩ := hrel
    by_cases hlt : j < L
    · obtain ⟨b2, o2, hA2, hne2, hc2⟩ := HB2.out.at_ (by rw [← HL.out]; omega)
      subst hA2
      obtain ⟨x, hx⟩ : ∃ x, x = (be n).getD j 0 := ⟨_, rfl⟩
      have c2 : wr.cell? ⟨b2, o2 + j, none⟩ = some (.int .u8 (x : Int)) := by rw [HW.out, hx]; exact hc2 j (by rw [← HL.out]; exact hlt)
      have x256 : x < 256 := by
        rw [hx]
        have hm : j < (be n).length := by rw [← HL.out]; exact hlt
        rw [List.getD_eq_getElem?_getD, List.getElem?_eq_getElem hm]
        exact HB2.out.lt _ (List.getElem_mem hm)
      have hst := acc_step n j HN.out (by rw [← HL.out]; exact hlt)
      rw [← HL.out, ← HQ.out, ← hx] at hst
      have hd : n / 256 ^ (L - (j + 1)) ≤ n := Nat.div_le_self _ _
      have hq64 : q * 256 < 18446744073709551616 := by have := HN.out; omega
      obtain ⟨q2, hq2⟩ : ∃ q2, q2 = q * 256 + x := ⟨_, rfl⟩
      have so : bits BinOp.or IntKind.u64 ((q : Int) * 256) (x : Int) = (q2 : Int) := by
        have := shl_or q x hq64 x256
        rw [← hq2, Int.natCast_mul] at this
        exact this
      have hw : IntKind.u64.wrap ((q : Int) * 256) = (q : Int) * 256 := by rw [IntKind.wrap_u64]; omega
      rw [← hq2] at hst
      clear hq2
      have ux : IntKind.u64.wrap (x : Int) = (x : Int) := by rw [IntKind.wrap_u64]; omega
      have hx0 : j = 0 → x ≠ 0 := fun e => by
        subst e
        rw [hx]
        exact be_head n HN.out (by rw [← HL.out]; exact hlt)
      have HST := Lib.hid hst
      have HX := Lib.hid hx
      clear hx hst hd hc2 hne2 hq64
      by_cases hj0 : j = 0
      · subst hj0
        have hxz : ((x : Int) == 0) = false := by have := hx0 rfl; simp; omega
        clear hx0
        rw [Nat.add_zero] at c2
        go_wp2_with fail
        go_roundw
        case rel => exact ⟨1, by omega, by go_num, ⟨q2, rfl, HST.out⟩, HW⟩
        case measure => simp [intOf]; omega
      · have hjz : ((j : Int) == 0) = false := by simp; omega
        clear hx0
        go_wp2_with fail
        go_roundw
        case rel => exact ⟨j + 1, by omega, by go_num, ⟨q2, rfl, HST.out⟩, HW⟩
        case measure => simp [intOf]; omega
    · obtain rfl : j = L := by omega
      go_wp2
      go_ret
      have hq := HQ.out
      rw [Nat.sub_self, Nat.pow_zero, Nat.div_one] at hq
      subst hq
      refine ⟨rfl, ?_, by rw [HW.out]; exact HG2.out⟩
      rw [HW.out, numB_len, ← HL.out, show at_ + (j + 1) = at_ + 1 + j by omega]
      exact HR2.out
set_option maxHeartbeats 1000000 in
theorem rsmall_ok (n : Nat) (most : Int) (w : World) (R : Nat) (A : Option Addr) (c : Nat) (bs rest : List Nat) (at_ : Nat) (hn : (n : Int) ≤ most) (hm : most ≤ 9223372036854775807) (h : RAt w R A c bs at_ 0) (hs : bs.length ≤ 1000000) (hb : bs.drop at_ = numB n ++ rest) :
    Calls Try.prog 104 #[.pointer (some ⟨R, 0, none⟩), .int .i64 most] w fun r w' => r = .returned (.int .i64 (n : Int)) ∧ RAt w' R A c bs (at_ + (numB n).length) 0 ∧ w.grownBy w' (some R) := by
  have HC := Lib.hid (rnum_ok n w R A c bs rest at_ (by omega) h hs hb)
  clear h hb
  have g0 : ¬ most < 0 := by omega
  have g1 : IntKind.u64.wrap most = most := by rw [IntKind.wrap_u64]; omega
  have g2 : ¬ most < (n : Int) := by omega
  have g3 : IntKind.i64.wrap (n : Int) = (n : Int) := IntWalk.i64_in _ (by omega)
  go_enter Try.func104, Try.ntmps104
  go_wp2_with (go_at_call 127; refine HC.out.mono ?_; rintro r w1 ⟨rfl, hr⟩; have HR := Lib.hid hr; clear hr)
  go_ret
  exact ⟨rfl, HR.out⟩
theorem ownsRow_ne {w : World} {base : Nat} {v : Value} {n : Nat} {l : List Value} {R : Nat} (h : w.ownsRow base 5 1 v n l) (hR : w.heap.size = R) : ∀ k, v.ownBlock = some k → k ≠ R := fun k hk => by have := (h.lt k hk).2; omega
set_option maxHeartbeats 1000000 in
theorem from_any (xs : List Nat) (c : Nat) (A : Option Addr) (w : World) (hx : Bytes w (· < w.heap.size) A xs) (hs : xs.length ≤ 1000000) :
    Calls Try.prog 64 #[.slice A xs.length c] w fun r w' => ∃ R A' c', r = .returned (.pointer (some ⟨R, 0, none⟩)) ∧ RAt w' R A' c' xs 0 0 ∧ Below w.heap.size w w' ∧ w.heap.size ≤ R := by
  have HC := Lib.hid (fresh_any xs c A w hx hs)
  have HX := Lib.hid hx.lt
  clear hx
  go_enter Try.func64, Try.ntmps64
  go_wp2_with fail
  refine HC.out.mono ?_
  rintro r w1 ⟨v, rfl, ho, hb⟩
  obtain ⟨A1, c1, rfl, hn1, hb1⟩ := own_bytes ho HX.out
  have hcap : xs.length ≤ c1 := by
    rcases ho.2 with ⟨e, h0⟩ | ⟨g, cap, cur, e, _, _, hc, _⟩
    · omega
    · injection e with _ _ e
      omega
  have HB := Lib.hid hb
  have HY := Lib.hid hb1
  have HN := Lib.hid hn1
  have HCP := Lib.hid hcap
  clear ho hb hb1 hn1 hcap HC
  go_wp2_with fail
  go_ret
  have hb2 := below1 w1 (.cells #[.bool true, .slice A1 xs.length c1, .int .i64 0, .int .i64 0] 147)
  refine ⟨w1.heap.size, A1, c1, rfl, ⟨World.rowIs_alloc w1 #[.bool true, .slice A1 xs.length c1, .int .i64 0, .int .i64 0] 147 (rF (.slice A1 xs.length c1) ((0 : Nat) : Int) 0) (fun i hi => ?_), ?_, Nat.zero_le _, HCP.out, HN.out⟩, HB.out.trans (hb2.mono HB.out.size), HB.out.size⟩
  · match i, hi with
    | 0, _ => rfl
    | 1, _ => rfl
    | 2, _ => rfl
    | 3, _ => rfl
  · exact (HY.out.below hb2).weak fun b hb _ => Nat.ne_of_lt hb
end Go.Proofs.Ytnpacjdgbmldlaa.Wr

/- One dot, written and read. -/
namespace Go.Proofs.Ytnpacjdgbmldlaa
open Go.RowKit Go.Shelf Go.Lib Go.Sort Wr

theorem alloc_turn (x : World) (W : Nat) (b : Option Nat) (o : Obj) : Turn x (x.alloc o) W b b := Turn.of_below (below1 x o)
set_option maxRecDepth 100000 in
set_option maxHeartbeats 1000000 in
theorem vput1 (w : World) (base W : Nat) (v : Value) (xs : List Nat) (hw : WAt w base W v xs) (hs : xs.length ≤ 100000) :
    Calls Try.prog 103 #[.pointer (some ⟨W, 0, none⟩), .agg (dotC (1, 1))] w fun e w' => e = .returned (.tuple #[]) ∧ ∃ v', WAt w' base W v' (xs ++ numB 1 ++ numB 1) ∧ Turn w w' W v.ownBlock v'.ownBlock := by
  have HW := Lib.hid (hw.below (below1 w (.cells (dotC (1, 1)) 25)))
  have HS := Lib.hid hs
  have hWl := hw.lt
  have hne := hw.blk
  have hown : v.ownBlock ≠ some w.heap.size := fun e => by have := (hw.own.lt _ e).2; omega
  have HN := Lib.hid hown
  have HWL := Lib.hid hWl
  have hd1 : DotAt (w.alloc (.cells (dotC (1, 1)) 25)) w.heap.size 25 1 1 := DotAt.new w 25 1 1
  have HD := Lib.hid hd1
  have HC := Lib.hid (num_any 1 (w.alloc (.cells (dotC (1, 1)) 25)) base W v xs (by omega) HW.out (by omega))
  clear hw hs hWl hne hown hd1
  go_enter Try.func103, Try.ntmps103
  go_wp2_with fail
  refine HC.out.mono ?_
  rintro e w1 ⟨rfl, v1, hw1, ht1⟩
  have HW1 := Lib.hid hw1
  have HT1 := Lib.hid ht1
  have hd2 : DotAt w1 w.heap.size 25 1 1 := (ht1.block w.heap.size (by simp) (by have := HWL.out; omega) HN.out).trans HD.out
  have c1 := hd2.num
  have HC2 := Lib.hid (num_any 1 w1 base W v1 (xs ++ numB 1) (by omega) hw1 (by have := HS.out; simp [numB, be, beF]; omega))
  clear hw1 ht1 hd2 HC
  go_wp2_with fail
  refine HC2.out.mono ?_
  rintro e w2 ⟨rfl, v2, hw2, ht2⟩
  have HW2 := Lib.hid hw2
  have HT2 := Lib.hid ht2
  clear hw2 ht2 HC2 c1
  go_wp2_with fail
  go_end0
  exact ⟨rfl, v2, HW2.out, (alloc_turn w W _ _).trans (HT1.out.trans HT2.out)⟩

theorem rest_wrap (j : Nat) (h : j ≤ 1000) : IntKind.i64.wrap ((j : Int) + 1) = (j : Int) + 1 := by rw [IntKind.wrap_i64]; omega
set_option maxRecDepth 100000 in
set_option maxHeartbeats 1000000 in
theorem dput1 (w : World) (base W g c : Nat) (v : Value) (xs : List Nat) (hw : WAt w base W v xs) (hs : xs.length ≤ 90000) (hg : g < base) (hd : w.heap[g]? = some (.cells (dots2 [(1, 1)]).toArray 25 (0, 0))) :
    Calls Try.prog 62 #[.pointer (some ⟨W, 0, none⟩), .slice (some ⟨g, 0, none⟩) 1 c] w fun e w' => e = .returned (.tuple #[]) ∧ ∃ v', WAt w' base W v' (xs ++ numB 1 ++ (numB 1 ++ numB 1)) ∧ Turn w w' W v.ownBlock v'.ownBlock := by
  have HC := Lib.hid (num_any 1 w base W v xs (by omega) hw (by omega))
  have hgk : ∀ {x y : World} {u u' : Value} {zs : List Nat}, WAt x base W u zs → Turn x y W u.ownBlock u'.ownBlock → x.heap[g]? = some (.cells (dots2 [(1, 1)]).toArray 25 (0, 0)) → y.heap[g]? = some (.cells (dots2 [(1, 1)]).toArray 25 (0, 0)) := fun hx ht h =>
    (ht.block g (lt_of_row h) (by have := hx.le; omega) (fun e => by have := hx.blk _ e; omega)).trans h
  have HGK : Hid (∀ (x y : World) (u u' : Value) (zs : List Nat), WAt x base W u zs → Turn x y W u.ownBlock u'.ownBlock → x.heap[g]? = some (.cells (dots2 [(1, 1)]).toArray 25 (0, 0)) → y.heap[g]? = some (.cells (dots2 [(1, 1)]).toArray 25 (0, 0))) := Lib.hid (fun x y u u' zs a b h => hgk a b h)
  have HW := Lib.hid hw
  have HS := Lib.hid hs
  have HD := Lib.hid hd
  clear hgk hw hs hd
  have s25 := Lib.hid (dot_size25 (1, 1))
  go_enter Try.func62, Try.ntmps62
  go_wp2_with fail
  refine HC.out.mono ?_
  rintro e w1 ⟨rfl, v1, hw1, ht1⟩
  have HD1 := Lib.hid (HGK.out _ _ _ _ _ HW.out ht1 HD.out)
  have HW1 := Lib.hid hw1
  have HT1 := Lib.hid ht1
  clear hw1 ht1 HC
  go_wp2
  go_loopw [13] (fun u wr => ∃ (j : Nat) (v2 : Value), j ≤ 1 ∧ u = .int .i64 j ∧ Hid (WAt wr base W v2 (xs ++ numB 1 ++ if j = 0 then [] else numB 1 ++ numB 1)) ∧ Hid (Turn w wr W v.ownBlock v2.ownBlock) ∧ Hid (wr.heap[g]? = some (.cells (dots2 [(1, 1)]).toArray 25 (0, 0)))) (fun u _ => 1 - (intOf u).toNat)
  case atStart => exact ⟨0, v1, by omega, rfl, Lib.hid (by rw [if_pos rfl, List.append_nil]; exact HW1.out), HT1, HD1⟩
  case round =>
    clear HW1 HT1 HD1
    obtain ⟨j, v2, hj, rfl, HW2, HT2, HD2⟩ := hrel
    rcases (show j = 0 ∨ j = 1 by omega) with rfl | rfl
    · rw [if_pos rfl, List.append_nil] at HW2
      have hr : Hid (rangeA wr g 0 (dotC (1, 1))) := Lib.hid (fun j v hv => by rw [cell_of_row _ _ _ _ _ _ HD2.out, Nat.zero_add]; exact hv)
      have HWA := Lib.hid (HW2.out.below (below1 wr (.cells (dotC (1, 1)) 25)))
      have HDA : Hid ((wr.alloc (.cells (dotC (1, 1)) 25)).heap[g]? = some (.cells (dots2 [(1, 1)]).toArray 25 (0, 0))) := Lib.hid ((Below.heap_alloc _ _ _ (lt_of_row HD2.out)).trans HD2.out)
      have HN : Hid (DotAt (wr.alloc (.cells (dotC (1, 1)) 25)) wr.heap.size 25 1 1) := Lib.hid (DotAt.new wr 25 1 1)
      have HC3 := Lib.hid (vput1 (wr.alloc (.cells (dotC (1, 1)) 25)) base W v2 (xs ++ numB 1) HWA.out (by have := HS.out; simp [numB, be, beF]; omega))
      go_wp2_with (first
        | (refine wpList_load_arr rfl 25 _ rfl g 0 rfl (dotC (1, 1)) _ hr.out Try.underlying25 rfl s25.out ?_)
        | (refine wpList_store_row rfl 25 _ _ rfl wr.heap.size (dotC (1, 1)) rfl rfl 25 _ (heap_alloc_new _ _) s25.out rfl rfl ?_; rw [World.setRow_alloc_new])
        | (refine wpList_load_arr rfl 25 _ rfl wr.heap.size 0 rfl (dotC (1, 1)) _ HN.out.range Try.underlying25 rfl s25.out ?_)
        | fail)
      refine HC3.out.mono ?_
      rintro e w3 ⟨rfl, v3, hw3, ht3⟩
      have HW3 := Lib.hid hw3
      have HT3 := Lib.hid (HT2.out.trans ((alloc_turn wr W v2.ownBlock (.cells (dotC (1, 1)) 25)).trans ht3))
      have HD3 := Lib.hid (HGK.out _ _ _ _ _ HWA.out ht3 HDA.out)
      clear hw3 ht3 HC3 HWA HDA HN hr
      go_wp2_with fail
      go_roundw
      case rel => exact ⟨1, v3, by omega, by go_num, Lib.hid (by rw [if_neg (by omega), ← List.append_assoc]; exact HW3.out), HT3, HD3⟩
      case measure => simp [intOf]
    · rw [if_neg (by omega)] at HW2
      go_wp2_with fail
      go_end0
      exact ⟨rfl, v2, HW2.out, HT2.out⟩

/-! ### A dot read -/
theorem dotC_one (d : Dt) : (dotC d).all (·.oneCell') = true := by simp [dotC, Value.oneCell']
theorem only_below_trans' {a b c : World} {row : Option Nat} (h : a.grownBy b row) (k : Below a.heap.size b c) : a.grownBy c row :=
  ⟨k.os.trans h.os, k.tape.trans h.tape, k.output.trans h.output, Nat.le_trans h.size k.size, fun i hi hne => (k.block i hi).trans (h.block i hi hne)⟩
theorem only_setRow {a w : World} {row : Option Nat} {g : Nat} (h : a.grownBy w row) (hg : a.heap.size ≤ g) (cs : Array Value) : a.grownBy (w.setRow g cs) row :=
  ⟨h.os, h.tape, h.output, by simpa using h.size, fun i hi hne => (setRow_other w g i cs (by omega)).trans (h.block i hi hne)⟩
set_option maxRecDepth 100000 in
set_option maxHeartbeats 400000 in
theorem must_true (p : Value) (w : World) : Calls Try.prog 107 #[p, .bool true] w fun e w' => e = .returned (.tuple #[]) ∧ w' = w := by
  go_enter Try.func107, Try.ntmps107
  go_wp2
  go_end0
  exact ⟨rfl, rfl⟩

set_option maxRecDepth 100000 in
set_option maxHeartbeats 2000000 in
theorem vtake1 (w : World) (R : Nat) (A : Option Addr) (c : Nat) (bs rest : List Nat) (at_ : Nat) (h : RAt w R A c bs at_ 0) (hs : bs.length ≤ 1000000) (hb : bs.drop at_ = numB 1 ++ (numB 1 ++ rest)) :
    Calls Try.prog 106 #[.pointer (some ⟨R, 0, none⟩)] w fun e w' => e = .returned (.agg (dotC (1, 1))) ∧ RAt w' R A c bs (at_ + 4) 0 ∧ w.grownBy w' (some R) := by
  have HS := Lib.hid hs
  have HBY := Lib.hid h.by_
  have hRl : R < w.heap.size := h.row.lt
  have h0 := h.only (below1 w (.cells #[.int .i64 0, .int .u64 0] 25))
  have HC := Lib.hid (rsmall_ok 1 8 _ R A c bs _ at_ (by omega) (by omega) h0 hs hb)
  have hb2 : bs.drop (at_ + (numB 1).length) = numB 1 ++ rest := by rw [← List.drop_drop, hb]; simp
  have HB2 := Lib.hid hb2
  have HRL := Lib.hid hRl
  have l1 : (numB 1).length = 2 := by decide
  have HL1 := Lib.hid l1
  have z0 : (w.alloc (.cells #[.int .i64 0, .int .u64 0] 25)).heap[w.heap.size]? = some (.cells #[.int .i64 0, .int .u64 0] 25 (0, 0)) := heap_alloc_new _ _
  have Z0 := Lib.hid z0
  have s25 := Lib.hid (dot_size25 (1, 1))
  clear h hs hb h0 hb2 hRl l1 z0
  go_enter Try.func106, Try.ntmps106
  go_wp2_with fail
  refine HC.out.mono ?_
  rintro e w1 ⟨rfl, hr1, hg1⟩
  have HR1 := Lib.hid hr1
  have HG1 := Lib.hid (only_alloc (only_refl w (some R)) (.cells #[.int .i64 0, .int .u64 0] 25))
  have HG1' := Lib.hid (only_trans HG1.out ⟨hg1.os, hg1.tape, hg1.output, hg1.size, hg1.block⟩)
  have Z1 : Hid (w1.heap[w.heap.size]? = some (.cells #[.int .i64 0, .int .u64 0] 25 (0, 0))) := Lib.hid ((hg1.block _ (by simp) (fun e => by injection e with e; have := HRL.out; omega)).trans Z0.out)
  have HC2 := Lib.hid (rnum_ok 1 w1 R A c bs rest _ (by omega) hr1 HS.out HB2.out)
  clear hr1 hg1 HC HG1 Z0
  go_wp2_with fail
  refine HC2.out.mono ?_
  rintro e w2 ⟨rfl, hr2, hg2⟩
  have HR2 : Hid (RAt w2 R A c bs (at_ + 4) 0) := Lib.hid (by have h := hr2; rw [HL1.out] at h; rwa [show at_ + 2 + 2 = at_ + 4 by omega] at h)
  have HG2 := Lib.hid (only_trans HG1'.out hg2)
  have Z2 : Hid (w2.heap[w.heap.size]? = some (.cells #[.int .i64 0, .int .u64 0] 25 (0, 0))) := Lib.hid ((hg2.block _ (lt_of_row Z1.out) (fun e => by injection e with e; have := HRL.out; omega)).trans Z1.out)
  clear hr2 hg2 HC2 HG1' Z1
  have HR3 := Lib.hid (HR2.out.only (below1 w2 (.cells (dotC (1, 1)) 25)))
  have HG3 := Lib.hid (only_alloc HG2.out (.cells (dotC (1, 1)) 25))
  have Z3 : Hid ((w2.alloc (.cells (dotC (1, 1)) 25)).heap[w.heap.size]? = some (.cells #[.int .i64 0, .int .u64 0] 25 (0, 0))) := Lib.hid ((Below.heap_alloc _ _ _ (lt_of_row Z2.out)).trans Z2.out)
  have D3 : Hid (DotAt (w2.alloc (.cells (dotC (1, 1)) 25)) w2.heap.size 25 1 1) := Lib.hid (DotAt.new w2 25 1 1)
  have HZL := Lib.hid (lt_of_row Z2.out)
  clear HR2 HG2 Z2
  go_wp2_with (first
    | (refine wpList_store_row rfl 25 _ _ rfl w2.heap.size (dotC (1, 1)) rfl rfl 25 _ (heap_alloc_new _ _) s25.out rfl rfl ?_; rw [World.setRow_alloc_new])
    | (refine wpList_load_arr rfl 25 _ rfl w2.heap.size 0 rfl (dotC (1, 1)) _ D3.out.range Try.underlying25 rfl s25.out ?_)
    | fail)
  refine (right_any 1 1 _).mono ?_
  rintro e w4 ⟨rfl, hb4⟩
  rw [show Vec.right 1 1 = true by decide]
  have HR4 := Lib.hid (HR3.out.only hb4)
  have HG4 := Lib.hid (only_below_trans HG3.out hb4)
  have Z4 : Hid (w4.heap[w.heap.size]? = some (.cells #[.int .i64 0, .int .u64 0] 25 (0, 0))) := Lib.hid ((hb4.block _ (lt_of_row Z3.out)).trans Z3.out)
  have D4 : Hid (DotAt w4 w2.heap.size 25 1 1) := Lib.hid (D3.out.below hb4 D3.out.lt)
  clear hb4 HR3 HG3 Z3 D3
  go_wp2_with fail
  refine (must_true _ _).mono ?_
  rintro e w5 ⟨rfl, rfl⟩
  go_wp2_with fail
  refine (err_any w5 R A c bs _ 0 HR4.out).mono ?_
  rintro e w6 ⟨rfl, rfl⟩
  have hne : w6.heap.size ≠ w6.heap.size + 1 := by omega
  have hRz : R ≠ w.heap.size := by have := HRL.out; omega
  go_wp2_with (first
    | (refine wpList_load_arr rfl 25 _ rfl w2.heap.size 0 rfl (dotC (1, 1)) _ D4.out.range Try.underlying25 rfl s25.out ?_)
    | (refine wpList_store_row rfl 25 _ _ rfl w.heap.size (dotC (1, 1)) rfl rfl 25 _ Z4.out s25.out rfl (dotC_one (1, 1)) ?_)
    | fail)
  have hG : w.grownBy (w6.setRow w.heap.size (dotC (1, 1))) (some R) := only_setRow HG4.out (Nat.le_refl _) _
  exact bodyPost_ret (results_cell_row Try.results106 _ _ w.heap.size 25 (dotC (1, 1)) (0, 0) _ rfl (setRow_heap _ _ _ _ _ _ Z4.out) Try.underlying25 rfl s25.out) rfl
    ⟨rfl, ⟨HR4.out.row.of_block (setRow_other _ _ _ _ hRz), HBY.out.only hG, HR4.out.le, HR4.out.cap, HR4.out.some_⟩, hG⟩

theorem RAt_carry {w x y : World} {R : Nat} {A : Option Addr} {c : Nat} {bs : List Nat} {at_ : Nat} {e : Int} (h0 : Bytes w (· ≠ R) A bs) (h : RAt x R A c bs at_ e) (hg : w.grownBy y (some R)) (hr : y.heap[R]? = x.heap[R]?) : RAt y R A c bs at_ e :=
  ⟨h.row.of_block hr, h0.only hg, h.le, h.cap, h.some_⟩
theorem isSet_one : isSet [(1, 1)] = true := by decide
set_option maxRecDepth 100000 in
set_option maxHeartbeats 2000000 in
theorem dtake1 (w : World) (R : Nat) (A : Option Addr) (c : Nat) (bs rest : List Nat) (at_ : Nat) (h : RAt w R A c bs at_ 0) (hs : bs.length ≤ 1000000) (hb : bs.drop at_ = numB 1 ++ (numB 1 ++ (numB 1 ++ rest))) :
    Calls Try.prog 63 #[.pointer (some ⟨R, 0, none⟩)] w fun e w' => ∃ g, e = .returned (.slice (some ⟨g, 0, none⟩) 1 1) ∧ w.heap.size ≤ g ∧ w'.heap[g]? = some (.cells (dots2 [(1, 1)]).toArray 25 (0, 0)) ∧ w.grownBy w' (some R) := by
  have HS := Lib.hid hs
  have HBY := Lib.hid h.by_
  have hRl : R < w.heap.size := h.row.lt
  have HRL := Lib.hid hRl
  have HC := Lib.hid (rsmall_ok 1 2000 w R A c bs _ at_ (by omega) (by omega) h hs hb)
  have hb2 : bs.drop (at_ + (numB 1).length) = numB 1 ++ (numB 1 ++ rest) := by rw [← List.drop_drop, hb]; simp
  have HB2 := Lib.hid hb2
  obtain ⟨at2, hat2⟩ : ∃ at2, at2 = at_ + (numB 1).length := ⟨_, rfl⟩
  rw [← hat2] at HC HB2
  clear h hs hb hRl hb2 hat2
  go_enter Try.func63, Try.ntmps63
  go_wp2_with fail
  refine HC.out.mono ?_
  rintro e w1 ⟨rfl, hr1, hg1⟩
  have HR1 := Lib.hid hr1
  have HG1 := Lib.hid hg1
  clear hr1 hg1 HC
  go_wp2
  go_loopw [4, 5] (fun u v wr => Hid (w.grownBy wr (some R)) ∧ ((v = .int .i64 0 ∧ u = .slice none 0 0 ∧ Hid (RAt wr R A c bs at2 0)) ∨ (v = .int .i64 1 ∧ Hid (wr.ownsRow w.heap.size 25 2 u 1 (dots2 [(1, 1)])) ∧ ∃ a, Hid (RAt wr R A c bs a 0)))) (fun _ v _ => 1 - (intOf v).toNat)
  case atStart => exact ⟨HG1, .inl ⟨rfl, rfl, HR1⟩⟩
  case round =>
    clear HR1 HG1
    obtain ⟨HG, hrel⟩ := hrel
    rcases hrel with ⟨rfl, rfl, HR⟩ | ⟨rfl, HO, a, HR⟩
    · have HE := Lib.hid (err_any wr R A c bs at2 0 HR.out)
      have HT := Lib.hid (vtake1 wr R A c bs rest at2 HR.out HS.out HB2.out)
      go_wp2_with fail
      refine HE.out.mono ?_
      rintro e w2 ⟨rfl, rfl⟩
      clear HE
      go_wp2_with fail
      refine HT.out.mono ?_
      rintro e w3 ⟨rfl, hr3, hg3⟩
      have HR3 := Lib.hid hr3
      have HG3 := Lib.hid (only_trans HG.out hg3)
      have S3 : Hid (w.heap.size ≤ w3.heap.size) := Lib.hid HG3.out.size
      clear hr3 hg3 HT
      go_wp2_with (first
        | (refine wpList_append_dot rfl (.tmp 18) (.tmp 21) 22 rfl w.heap.size 25 (.agg #[.int .i64 0, .int .u64 0]) 16 Try.underlying22 info25 rfl _ 0 [] rfl (World.ownsRow_nil _ _ _ _) (1, 1) 25 rfl (by unfold maxLen; omega) (by omega) S3.out ?_; intro v1 w4 H1 B1)
        | fail)
      go_roundw
      case rel =>
        have hG4 : w.grownBy w4 (some R) := only_below_trans' HG3.out B1.out
        exact ⟨Lib.hid hG4, .inr ⟨rfl, H1, _, Lib.hid (RAt_carry HBY.out HR3.out hG4 (B1.out.block R HRL.out))⟩⟩
      case measure => simp [intOf]
    · obtain ⟨Ax, cx, rfl, hd, hcx, hnx⟩ := own_dots (ls := [(1, 1)]) HO.out
      have HE := Lib.hid (fun x (hx : RAt x R A c bs a 0) => err_any x R A c bs a 0 hx)
      have hds : Dots wr (· < wr.heap.size) Ax [(1, 1)] := hd.loose fun b h => h.2
      have HRT := Lib.hid (dright_any [(1, 1)] cx Ax wr hds (by simp))
      rw [isSet_one] at HRT
      have HDS := Lib.hid hds
      clear hd hcx hnx hds
      go_wp2_with fail
      refine HRT.out.mono ?_
      rintro e w5 ⟨rfl, hb5⟩
      have HR5 := Lib.hid (HR.out.only hb5)
      have HG5 := Lib.hid (only_below_trans HG.out hb5)
      have HD5 : Hid (Dots w5 (· < w5.heap.size) Ax [(1, 1)]) := Lib.hid ((HDS.out.below hb5).loose fun b h => Nat.lt_of_lt_of_le h hb5.size)
      clear hb5 HRT
      go_wp2_with fail
      refine (must_true _ _).mono ?_
      rintro e w6 ⟨rfl, rfl⟩
      go_wp2_with fail
      refine (HE.out _ HR5.out).mono ?_
      rintro e w7 ⟨rfl, rfl⟩
      have HF := Lib.hid (fresh_any [(1, 1)] cx Ax w7 HD5.out (by simp))
      have HG7 := Lib.hid HG5.out
      go_wp2_with fail
      refine HF.out.mono ?_
      rintro e w8 ⟨rfl, hw8⟩
      have HX8 : Hid (w8.heap[w7.heap.size]? = some (.cells (dots2 [(1, 1)]).toArray 25 (0, 0))) := Lib.hid (by rw [hw8]; exact heap_alloc_new _ _)
      have HG8 : Hid (w.grownBy w8 (some R)) := Lib.hid (by rw [hw8]; exact only_alloc HG7.out _)
      clear hw8
      go_wp2_with fail
      go_ret
      exact ⟨w7.heap.size, rfl, HG7.out.size, HX8.out, HG8.out⟩
end Go.Proofs.Ytnpacjdgbmldlaa
