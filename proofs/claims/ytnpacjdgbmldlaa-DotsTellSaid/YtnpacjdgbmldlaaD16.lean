/- slices.Compact of a row of dots. -/
import Derived.Test.YtnpacjdgbmldlaaD15
import Derived.Lib.SlicesCompact
import Derived.Lib.SliceRun
namespace Go.Proofs.Ytnpacjdgbmldlaa
open Go.RowKit Go.Shelf Go.Lib Go.Sort

/-- Block g holds the dots d from its beginning on; none of their cells is frozen. -/
structure RowD (w : World) (g : Nat) (d : Array Dt) : Prop where
  node : ∀ j, j < d.size → w.cell? ⟨g, j * 2, none⟩ = some (.int .i64 d[j]!.1) ∧ w.frozen? ⟨g, j * 2, none⟩ = false
  num : ∀ j, j < d.size → w.cell? ⟨g, j * 2 + 1, none⟩ = some (.int .u64 ((d[j]!.2 : Nat) : Int)) ∧ w.frozen? ⟨g, j * 2 + 1, none⟩ = false
theorem RowD.drew {w : World} {g : Nat} {d : Array Dt} (h : RowD w g d) : RowD w.drew g d := ⟨h.node, h.num⟩
theorem cell_set_other {w : World} {p a : Addr} {v : Value} (h : p ≠ a) : (w.setCell p v).cell? a = w.cell? a := World.cell?_setCell_other _ _ _ _ h
theorem RowD.set {w : World} {g : Nat} {d : Array Dt} (h : RowD w g d) {k : Nat} (hk : k < d.size) (u : Dt) :
    RowD ((w.setCell ⟨g, k * 2, none⟩ (.int .i64 u.1)).setCell ⟨g, k * 2 + 1, none⟩ (.int .u64 (u.2 : Int))) g (d.setIfInBounds k u) := by
  constructor
  · intro j hj
    rw [Array.size_setIfInBounds] at hj
    refine ⟨?_, by rw [World.frozen?_setCell, World.frozen?_setCell]; exact (h.node j hj).2⟩
    rw [cell_set_other (by intro e; injection e with _ e; omega)]
    by_cases e : j = k
    · subst e
      rw [World.cell?_setCell_same' _ _ _ (by rw [(h.node j hj).1]; rfl), getElem!_set_same _ _ _ hj]
    · rw [cell_set_other (by intro e'; injection e' with _ e'; omega), getElem!_set_other _ _ _ _ e]
      exact (h.node j hj).1
  · intro j hj
    rw [Array.size_setIfInBounds] at hj
    refine ⟨?_, by rw [World.frozen?_setCell, World.frozen?_setCell]; exact (h.num j hj).2⟩
    by_cases e : j = k
    · subst e
      rw [World.cell?_setCell_same' _ _ _ (by rw [cell_set_other (by intro e'; injection e' with _ e'; omega), (h.num j hj).1]; rfl), getElem!_set_same _ _ _ hj]
    · rw [cell_set_other (by intro e'; injection e' with _ e'; omega), cell_set_other (by intro e'; injection e' with _ e'; omega), getElem!_set_other _ _ _ _ e]
      exact (h.num j hj).1
theorem only_setCells {a w : World} {g : Nat} (h : a.grownBy w (some g)) : ∀ (vs : List Value) (o : Nat), a.grownBy (w.setCells g o vs) (some g) := by
  intro vs
  induction vs generalizing w with
  | nil => intro o; exact h
  | cons v vs ih => intro o; exact ih (only_setCell h (.inl rfl) _) (o + 1)

theorem run_clear_dots {P : Program} (w : World) (t e ty : TypeId) (n1 n2 : Value) (ht : P.underlying t = some (.slice e)) (hv : ∀ w, (zeroValue e).run P w = .ok (.agg #[n1, n2]) w) (h1 : n1.oneCell' = true) (h2 : n2.oneCell' = true) (b o n c : Nat) (hn : 0 < n)
    (hc : ∀ j, j < n * 2 → (w.cell? ⟨b, o + j, none⟩).isSome = true) (hf : ∀ j, j < n * 2 → w.frozen? ⟨b, o + j, none⟩ = false) :
    ∃ L, (Builtin.clear_ #[t] ty #[.slice (some ⟨b, o, none⟩) n c]).run P w = .ok (.tuple #[]) (w.setCells b o L) := by
  refine ⟨(Builtin.zeroCells #[n1, n2] n).toList, ?_⟩
  have hl : (Builtin.zeroCells #[n1, n2] n).toList.length = n * 2 := by simp [Builtin.zeroCells]
  have hst := run_storeCells_cells (P := P) b o (Builtin.zeroCells #[n1, n2] n).toList 0 w (by rw [hl]; simpa using hc) (by rw [hl]; simpa using hf) (by
    intro v hv'
    simp only [Builtin.zeroCells, Array.toList_map, List.mem_map] at hv'
    obtain ⟨i, _, rfl⟩ := hv'
    have : i % 2 = 0 ∨ i % 2 = 1 := by omega
    rcases this with e | e <;> simp [e, h1, h2])
  simp only [Nat.add_zero] at hst
  obtain ⟨m, rfl⟩ : ∃ m, n = m + 1 := ⟨n - 1, by omega⟩
  simp [Builtin.clear_, run_underlying ht, hv, Value.cells, hst]

theorem RowD.of {w : World} {g : Nat} {d : Array Dt} (h : RowD w g d) {L : List Dt} (hl : ∀ j, j < L.length → L[j]? = some d[j]!) (hs : L.length ≤ d.size) : RowD w g L.toArray := by
  have e : ∀ j, j < L.length → L.toArray[j]! = d[j]! := fun j hj => by
    have h1 := hl j hj
    rw [List.getElem?_eq_getElem hj] at h1
    injection h1 with h1
    rw [getElem!_pos L.toArray j (by simpa using hj)]
    simpa using h1
  constructor
  · intro j hj
    have hj' : j < L.length := by simpa using hj
    rw [e j hj']
    exact h.node j (by omega)
  · intro j hj
    have hj' : j < L.length := by simpa using hj
    rw [e j hj']
    exact h.num j (by omega)
theorem RowD.behind {w : World} {g : Nat} {d : Array Dt} (h : RowD w g d) {o : Nat} (ho : d.size * 2 ≤ o) (L : List Value) : RowD (w.setCells g o L) g d := by
  constructor
  · intro j hj
    rw [World.cell?_setCells_out g L o w ⟨g, j * 2, none⟩ (fun _ _ => .inl (show j * 2 < o by omega)), World.frozen?_setCells]
    exact h.node j hj
  · intro j hj
    rw [World.cell?_setCells_out g L o w ⟨g, j * 2 + 1, none⟩ (fun _ _ => .inl (show j * 2 + 1 < o by omega)), World.frozen?_setCells]
    exact h.num j hj

set_option maxRecDepth 100000 in
set_option maxHeartbeats 4000000 in
theorem compact_any (g cap : Nat) (d : Array Dt) (w : World) (hR : RowD w g d) (hm : d.size ≤ 1000000000) (hcap : d.size ≤ cap) :
    Calls Try.prog 131 #[.slice (some ⟨g, 0, none⟩) d.size cap] w fun e w' => e = .returned (.slice (some ⟨g, 0, none⟩) (compactUpTo d d.size).length cap) ∧ RowD w' g (compactUpTo d d.size).toArray ∧ w.grownBy w' (some g) := by
  have same : (∀ j, j < d.size → keeps d j = true) → (compactUpTo d d.size).length = d.size ∧ (compactUpTo d d.size).toArray = d := fun hall => by
    have e : compactUpTo d d.size = d.toList := by rw [compactUpTo_all d _ hall, range_map_get]
    rw [e]
    exact ⟨by simp, by simp⟩
  have HS := Lib.hid same
  have HM := Lib.hid hm
  have HCAP := Lib.hid hcap
  have HR := Lib.hid hR
  clear same hm hR hcap
  by_cases h2 : d.size < 2
  · go_enter Try.func131, Try.ntmps131
    go_wp2
    go_ret
    obtain ⟨e1, e2⟩ := HS.out (fun j hj => keeps_lt_one d j (by omega))
    exact ⟨by rw [e1]; rfl, by rw [e2]; exact HR.out, only_refl _ _⟩
  · go_enter Try.func131, Try.ntmps131
    go_wp2
    go_loopw [3] (fun s3 wr => ∃ k : Nat, 1 ≤ k ∧ k ≤ d.size ∧ s3 = .int .i64 k ∧ Hid (RowD wr g d) ∧ Hid (w.grownBy wr (some g)) ∧ Hid (∀ j, j < k → keeps d j = true)) (fun s3 _ => d.size - (intOf s3).toNat)
    case atStart => exact ⟨1, Nat.le_refl _, by omega, rfl, HR, Lib.hid (only_refl _ _), Lib.hid (keeps_lt_one d)⟩
    case round =>
      clear HR
      obtain ⟨k, hk1, hk, rfl, HR, HB, HA⟩ := hrel
      by_cases hlt : k < d.size
      · obtain ⟨c1, f1⟩ := HR.out.node k hlt
        obtain ⟨c2, f2⟩ := HR.out.num k hlt
        obtain ⟨c3, f3⟩ := HR.out.node (k - 1) (by omega)
        obtain ⟨c4, f4⟩ := HR.out.num (k - 1) (by omega)
        clear f1 f2 f3 f4
        obtain ⟨x, hx⟩ : ∃ x, x = d[k]! := ⟨_, rfl⟩
        obtain ⟨y, hy⟩ : ∃ y, y = d[k - 1]! := ⟨_, rfl⟩
        have HX := Lib.hid hx
        have HY := Lib.hid hy
        rw [← hx] at c1 c2
        rw [← hy] at c3 c4
        obtain ⟨x1, x2⟩ := x
        obtain ⟨y1, y2⟩ := y
        have eK : IntKind.i64.wrap ((k : Int) + 1) = (k : Int) + 1 := by have := HM.out; rw [IntKind.wrap_i64]; omega
        have eK1 : IntKind.i64.wrap ((k : Int) - 1) = ((k - 1 : Nat) : Int) := by have := HM.out; rw [IntKind.wrap_i64]; omega
        have HRd : Hid (RowD wr.drew g d) := Lib.hid HR.out.drew
        have HBd : Hid (w.grownBy wr.drew (some g)) := Lib.hid (only_drew HB.out)
        have hki : ((k - 1 : Nat) : Int) < (d.size : Int) := by omega
        clear hx hy HR HB
        by_cases e1 : x1 = y1
        · by_cases e2 : x2 = y2
          · subst e1 e2
            have HD : Hid (keeps d k = false) := Lib.hid (keeps_neg (by omega) (by rw [← HX.out, ← HY.out]))
            go_wp2_with fail
            go_region
            clear c1 c2 c3 c4
            have hck : ¬ cap = k := by have := HCAP.out; omega
            go_wp2_with fail
            go_loopw [3, 5] (fun s3 s5 wr => ∃ (kk k2 : Nat) (dk : Array Dt), s3 = .int .i64 kk ∧ s5 = .int .i64 k2 ∧ 1 ≤ k2 ∧ k + k2 ≤ d.size ∧ Hid (RowD wr g dk) ∧ Hid (w.grownBy wr (some g)) ∧ Hid (CompInv d (k + k2) kk dk)) (fun _ s5 _ => d.size - (intOf s5).toNat)
            case atStart => exact ⟨k, 1, d, rfl, rfl, Nat.le_refl _, by omega, HRd, HBd, CompInv.start HA.out HD.out⟩
            case round =>
              clear HRd HBd
              obtain ⟨kk, k2, dk, rfl, rfl, h1, hle, HR, HB, HI⟩ := hrel
              have hkk := HI.out.lt
              have hds := HI.out.size
              by_cases hlt2 : k + k2 < d.size
              · obtain ⟨c1, f1⟩ := HR.out.node (k + k2) (by omega)
                obtain ⟨c2, f2⟩ := HR.out.num (k + k2) (by omega)
                obtain ⟨c3, f3⟩ := HR.out.node (k + k2 - 1) (by omega)
                obtain ⟨c4, f4⟩ := HR.out.num (k + k2 - 1) (by omega)
                obtain ⟨c5, f5⟩ := HR.out.node kk (by omega)
                obtain ⟨c6, f6⟩ := HR.out.num kk (by omega)
                rw [HI.out.high (k + k2) (by omega)] at c1 c2
                rw [HI.out.high (k + k2 - 1) (by omega)] at c3 c4
                rw [show (k + k2) * 2 = k * 2 + k2 * 2 by omega] at c1 c2
                rw [show (k + k2 - 1) * 2 = k * 2 + (k2 - 1) * 2 by omega] at c3 c4
                clear f1 f2 f3 f4
                generalize dk[kk]! = old at c5 c6
                obtain ⟨x, hx⟩ : ∃ x, x = d[k + k2]! := ⟨_, rfl⟩
                obtain ⟨y, hy⟩ : ∃ y, y = d[k + k2 - 1]! := ⟨_, rfl⟩
                have HX2 := Lib.hid hx
                have HY2 := Lib.hid hy
                rw [← hx] at c1 c2
                rw [← hy] at c3 c4
                obtain ⟨u1, u2⟩ := x
                obtain ⟨v1, v2⟩ := y
                have e2K : IntKind.i64.wrap ((k2 : Int) + 1) = (k2 : Int) + 1 := by have := HM.out; rw [IntKind.wrap_i64]; omega
                have e2K1 : IntKind.i64.wrap ((k2 : Int) - 1) = ((k2 - 1 : Nat) : Int) := by have := HM.out; rw [IntKind.wrap_i64]; omega
                have ekk : IntKind.i64.wrap ((kk : Int) + 1) = (kk : Int) + 1 := by have := HM.out; rw [IntKind.wrap_i64]; omega
                have HR2 : Hid (RowD wr.drew g dk) := Lib.hid HR.out.drew
                have HB2 : Hid (w.grownBy wr.drew (some g)) := Lib.hid (only_drew HB.out)
                have hi1 : ((k2 - 1 : Nat) : Int) < ((d.size - k : Nat) : Int) := by omega
                have hi2 : (k2 : Int) < ((d.size - k : Nat) : Int) := by omega
                have hi3 : (kk : Int) < (d.size : Int) := by omega
                clear hx hy HR HB
                by_cases e1 : u1 = v1
                · by_cases e2 : u2 = v2
                  · subst e1 e2
                    have HD2 : Hid (keeps d (k + k2) = false) := Lib.hid (keeps_neg (by omega) (by rw [← HX2.out, ← HY2.out]))
                    go_wp2_with fail
                    go_region
                    go_wp2_with fail
                    go_roundw
                    all_goals clear eK eK1 e2K e2K1 ekk
                    case rel => exact ⟨kk, k2 + 1, dk, rfl, by go_num, by omega, by omega, HR2, HB2, HI.out.skip HD2.out⟩
                    case measure => simp [intOf]; omega
                  · subst e1
                    have HNE : Hid (keeps d (k + k2) = true) := Lib.hid (keeps_pos (by rw [← HX2.out, ← HY2.out]; exact fun e => e2 (by injection e)))
                    have HIS : Hid (CompInv d (k + (k2 + 1)) (kk + 1) (dk.setIfInBounds kk (u1, u2))) := Lib.hid (by rw [show (u1, u2) = d[k + k2]! from HX2.out]; exact HI.out.keep hlt2 HNE.out)
                    have HRS : Hid (RowD ((wr.drew.setCell ⟨g, kk * 2, none⟩ (.int .i64 u1)).setCell ⟨g, kk * 2 + 1, none⟩ (.int .u64 (u2 : Int))) g (dk.setIfInBounds kk (u1, u2))) := Lib.hid (HR2.out.set (by omega) (u1, u2))
                    have HBS : Hid (w.grownBy ((wr.drew.setCell ⟨g, kk * 2, none⟩ (.int .i64 u1)).setCell ⟨g, kk * 2 + 1, none⟩ (.int .u64 (u2 : Int))) (some g)) := Lib.hid (only_setCell (only_setCell HB2.out (.inl rfl) _) (.inl rfl) _)
                    have b2 : ((u2 : Int) != (v2 : Int)) = true := by rw [bne_iff_ne]; omega
                    have b3 : ((u2 : Int) == (v2 : Int)) = false := by rw [beq_eq_false_iff_ne]; omega
                    clear e2
                    go_wp2_with fail
                    go_region
                    go_wp2_with fail
                    go_roundw
                    all_goals clear eK eK1 e2K e2K1 ekk
                    case rel => exact ⟨kk + 1, k2 + 1, _, by go_num, by go_num, by omega, by omega, HRS, HBS, HIS⟩
                    case measure => simp [intOf]; omega
                · have b2 : (u1 != v1) = true := by rw [bne_iff_ne]; exact e1
                  have b3 : (u1 == v1) = false := by rw [beq_eq_false_iff_ne]; exact e1
                  have HNE : Hid (keeps d (k + k2) = true) := Lib.hid (keeps_pos (by rw [← HX2.out, ← HY2.out]; exact fun e => e1 (by injection e)))
                  have HIS : Hid (CompInv d (k + (k2 + 1)) (kk + 1) (dk.setIfInBounds kk (u1, u2))) := Lib.hid (by rw [show (u1, u2) = d[k + k2]! from HX2.out]; exact HI.out.keep hlt2 HNE.out)
                  have HRS : Hid (RowD ((wr.drew.setCell ⟨g, kk * 2, none⟩ (.int .i64 u1)).setCell ⟨g, kk * 2 + 1, none⟩ (.int .u64 (u2 : Int))) g (dk.setIfInBounds kk (u1, u2))) := Lib.hid (HR2.out.set (by omega) (u1, u2))
                  have HBS : Hid (w.grownBy ((wr.drew.setCell ⟨g, kk * 2, none⟩ (.int .i64 u1)).setCell ⟨g, kk * 2 + 1, none⟩ (.int .u64 (u2 : Int))) (some g)) := Lib.hid (only_setCell (only_setCell HB2.out (.inl rfl) _) (.inl rfl) _)
                  clear e1
                  go_wp2_with fail
                  go_region
                  go_wp2_with fail
                  go_roundw
                  all_goals clear eK eK1 e2K e2K1 ekk
                  case rel => exact ⟨kk + 1, k2 + 1, _, by go_num, by go_num, by omega, by omega, HRS, HBS, HIS⟩
                  case measure => simp [intOf]; omega
              · have hend : k + k2 = d.size := by omega
                have hckk : ¬ cap = kk := by have := HCAP.out; omega
                obtain ⟨L, hcl⟩ := run_clear_dots (P := Try.prog) wr 22 25 0 (.int .i64 0) (.int .u64 0) Try.underlying22 Try.zeroValue25 rfl rfl g (kk * 2) (d.size - kk) (cap - kk) (by omega) (fun j hj => by
                  rcases (show j % 2 = 0 ∨ j % 2 = 1 by omega) with e | e
                  · have h := (HR.out.node (kk + j / 2) (by omega)).1
                    rw [show (kk + j / 2) * 2 = kk * 2 + j by omega] at h
                    rw [h]; rfl
                  · have h := (HR.out.num (kk + j / 2) (by omega)).1
                    rw [show (kk + j / 2) * 2 + 1 = kk * 2 + j by omega] at h
                    rw [h]; rfl) (fun j hj => by
                  rcases (show j % 2 = 0 ∨ j % 2 = 1 by omega) with e | e
                  · have h := (HR.out.node (kk + j / 2) (by omega)).2
                    rwa [show (kk + j / 2) * 2 = kk * 2 + j by omega] at h
                  · have h := (HR.out.num (kk + j / 2) (by omega)).2
                    rwa [show (kk + j / 2) * 2 + 1 = kk * 2 + j by omega] at h)
                have hcl' : ∀ ty, (Builtin.clear_ #[22] ty #[.slice (some ⟨g, kk * 2, none⟩) (d.size - kk) (cap - kk)]).run Try.prog wr = .ok (.tuple #[]) (wr.setCells g (kk * 2) L) := fun _ => hcl
                have hkc : kk ≤ cap := by have := HCAP.out; omega
                have hkci : (kk : Int) ≤ (cap : Int) := by omega
                have HL : Hid ((compactUpTo d d.size).length = kk) := Lib.hid (by rw [← hend]; exact HI.out.len)
                have HRF : Hid (RowD (wr.setCells g (kk * 2) L) g (compactUpTo d d.size).toArray) := Lib.hid (RowD.behind (HR.out.of (fun j hj => by rw [← hend]; exact HI.out.low j (by have := HL.out; omega)) (by have := HL.out; omega)) (by have := HL.out; simp; omega) L)
                have HBF : Hid (w.grownBy (wr.setCells g (kk * 2) L) (some g)) := Lib.hid (only_setCells HB.out L _)
                clear hcl HR HB
                go_wp2_with fail
                go_ret
                exact ⟨by rw [HL.out]; rfl, HRF.out, HBF.out⟩
          · subst e1
            have HNE : Hid (keeps d k = true) := Lib.hid (keeps_pos (by rw [← HX.out, ← HY.out]; exact fun e => e2 (by injection e)))
            have b2 : ((x2 : Int) == (y2 : Int)) = false := by rw [beq_eq_false_iff_ne]; omega
            clear e2
            go_wp2_with fail
            go_region
            go_wp2_with fail
            go_roundw
            all_goals clear eK eK1
            case rel =>
              refine ⟨k + 1, by omega, by omega, by go_num, HRd, HBd, Lib.hid (fun j hj => ?_)⟩
              by_cases e : j = k
              · subst e
                exact HNE.out
              · exact HA.out j (by omega)
            case measure => simp [intOf]; omega
        · have HNE : Hid (keeps d k = true) := Lib.hid (keeps_pos (by rw [← HX.out, ← HY.out]; exact fun e => e1 (by injection e)))
          have b2 : (x1 == y1) = false := by rw [beq_eq_false_iff_ne]; exact e1
          clear e1
          go_wp2_with fail
          go_region
          go_wp2_with fail
          go_roundw
          all_goals clear eK eK1
          case rel =>
            refine ⟨k + 1, by omega, by omega, by go_num, HRd, HBd, Lib.hid (fun j hj => ?_)⟩
            by_cases e : j = k
            · subst e
              exact HNE.out
            · exact HA.out j (by omega)
          case measure => simp [intOf]; omega
      · obtain rfl : k = d.size := by omega
        obtain ⟨e1, e2⟩ := HS.out HA.out
        have HE1 := Lib.hid e1
        have HE2 := Lib.hid e2
        clear e1 e2
        go_wp2_with fail
        go_ret
        exact ⟨by rw [HE1.out]; rfl, by rw [HE2.out]; exact HR.out, HB.out⟩
end Go.Proofs.Ytnpacjdgbmldlaa
