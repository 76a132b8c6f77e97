/- Points that are a call's own; points in order. -/
import Derived.Test.YtdbhboglccggdaaGreatDoorR5
import Derived.Test.YtdbhboglccggdaaGreatDoorShelf
set_option maxRecDepth 100000
set_option linter.unusedVariables false
set_option linter.unusedSimpArgs false
namespace Go.Proofs.YtdbhboglccggdaaGreatDoor
open Go.RowKit Go.Shelf Go.Lib Go.Sort
def pts2 (ls : List Pt) : List Value := ls.flatMap ptL
theorem pts2_append (xs ys : List Pt) : pts2 (xs ++ ys) = pts2 xs ++ pts2 ys := by simp [pts2]
theorem pts2_one (d : Pt) : pts2 [d] = ptL d := by simp [pts2]
theorem pts2_len : ∀ ls : List Pt, (pts2 ls).length = ls.length * 2
  | [] => rfl
  | d :: ls => by
    have h := pts2_len ls
    rw [show d :: ls = [d] ++ ls from rfl, pts2_append, List.length_append, pts2_one, h, List.length_append]
    simp [ptL]
    omega
theorem pts2_get : ∀ (ls : List Pt) (j : Nat), j < ls.length → (pts2 ls)[j * 2]? = some (.int .u64 (((ls.getD j (0, 0)).1 : Nat) : Int)) ∧ (pts2 ls)[j * 2 + 1]? = some (.int .i64 (((ls.getD j (0, 0)).2 : Nat) : Int))
  | [], _, h => by cases h
  | d :: ls, 0, _ => by simp [pts2, ptL]
  | d :: ls, j + 1, h => by
    have k := pts2_get ls j (by simpa using h)
    have e : pts2 (d :: ls) = ptL d ++ pts2 ls := by rw [show d :: ls = [d] ++ ls from rfl, pts2_append, pts2_one]
    rw [e, show (j + 1) * 2 = j * 2 + 2 by omega, show j * 2 + 2 + 1 = j * 2 + 1 + 2 by omega]
    simpa [ptL] using k
theorem info79 : (Tryz.prog.info? 101).map (fun i => (i.zero, i.size, i.bytes)) = some (some (.agg #[.int .u64 0, .int .i64 0]), 2, 16) := by kernel_rfl
theorem wpList_append_pt {P : Program} {w : World} {ops : Array Oper} {rest : List Oper} {o : Oper} {a : Act} {Q : Exit → Act → World → Prop} (hgd : o.guard = none) (s x : Operand) (t : TypeId)
    (ho : o.op = .call { callee := .builtin .append, args := #[s, x], argTypes := #[t, t] }) (base : Nat) (e : TypeId) (z : Value) (bytes : Nat) (ht : P.underlying t = some (.slice e))
    (hinfo : (P.info? e).map (fun i => (i.zero, i.size, i.bytes)) = some (some z, 2, bytes)) (hzs : z.cells.size = 2)
    (v : Value) (n : Nat) (xs : List Value) (hs : a.eval s = v) (hown : w.ownsRow base e 2 v n xs) (d : Pt) (te : TypeId)
    (hx : a.eval x = .slice (some ⟨w.heap.size, 0, none⟩) 1 1) (h63 : n + 1 ≤ maxLen) (hbytes : (n + 1) * bytes ≤ 140737488355328) (hbase : base ≤ w.heap.size)
    (h : ∀ v' w', Hid (w'.ownsRow base e 2 v' (n + 1) (xs ++ ptL d)) → Hid (Below base w w') → wpList P ops Q rest (a.put o.dst v') w') : wpList P ops Q (o :: rest) a (w.alloc (.cells (ptC d) te)) := by
  obtain ⟨i, hi, hz, hsz, hby⟩ := info_parts hinfo
  refine wpList_append_own _ hgd s x t ho base e i z 2 bytes ht hi hz hsz hby hzs (by decide) v n xs hs (hown.alloc _) ⟨w.heap.size, 0, none⟩ 1 1 (ptL d) hx rfl (fun j u hu => ?_) (fun y hy => ?_) h63 hbytes (by rw [World.size_alloc]; omega) ?_
  · rw [Go.WideShapes.add_plain, Nat.zero_add, cell_of_row _ _ _ _ _ _ (heap_alloc_new _ _)]
    match j, hu with
    | 0, hu => exact hu
    | 1, hu => exact hu
  · simp only [ptL, List.mem_cons, List.mem_nil_iff, or_false] at hy
    rcases hy with rfl | rfl <;> rfl
  · intro v' w' hown' hg _
    refine h v' w' hown' ((Below.alloc (Below.refl base w) hbase _).grown hg (by rw [World.size_alloc]; omega) fun k hk => ?_)
    exact ((hown.alloc (.cells (ptC d) te)).lt k hk).1
/-- The order. -/
theorem cmpP_neg (x y : Pt) : cmpP x y < 0 ↔ x.1 < y.1 ∨ x.1 = y.1 ∧ x.2 < y.2 := by
  unfold cmpP orI cmpI
  split <;> split <;> (try split) <;> (try split) <;> omega
theorem ltOf_cmpP (x y : Pt) : ltOf cmpP x y = !Ring.le y x := by
  unfold ltOf Ring.le
  rw [Bool.eq_iff_iff, decide_eq_true_eq, cmpP_neg, Bool.not_eq_true', decide_eq_false_iff_not]
  omega
theorem swo_cmpP : SWO (ltOf cmpP) where
  irrefl x := by rw [ltOf_cmpP]; simp [Ring.le]
  trans x y z h1 h2 := by rw [ltOf_cmpP] at *; simp only [Ring.le, Bool.not_eq_true', decide_eq_false_iff_not] at *; omega
  ntrans x y z h1 h2 := by rw [ltOf_cmpP] at *; simp only [Ring.le, Bool.not_eq_false', decide_eq_true_eq] at *; omega
theorem total_cmpP (x y : Pt) (h : ltOf cmpP x y = false) (k : ltOf cmpP y x = false) : x = y := by
  rw [ltOf_cmpP] at h k
  exact Ring.le_anti x y (by simpa using k) (by simpa using h)
theorem cmpLays70 (blk off size : Nat) (w : World) : CmpLays Tryz.prog 100 #[] ptL 2 cmpP blk off size w :=
  fun _ _ _ _ x y => (order1_any x y _).mono fun _ _ ⟨he, q, os, hw⟩ => ⟨he, q, os, hw⟩
theorem sort_any (blk off cap : Nat) (d : Array Pt) (w : World) (hH : HoldsK ptL 2 w blk off d) (hblk : blk < w.heap.size) (hsz : d.size < 4611686018427387904) :
    Calls Tryz.prog 99 #[.slice (some ⟨blk, off, none⟩) d.size cap, .func (.func 100) #[] #[]] w fun e w' => e = .returned (.tuple #[]) ∧ ∃ n os, w' = sortWorldK ptL 2 w blk off n (d.toList.mergeSort Ring.le).toArray os := by
  have h := AnyQ.slices_SortFunc_total Tryz.sortPt 2 Tryz.isAgg101 Tryz.sizeOf101 ptL (fun _ => rfl) (fun x v hv => by simp [ptL] at hv; rcases hv with rfl | rfl <;> rfl) cmpP swo_cmpP 100 #[] blk off cap d w
    (enters_of Tryz.func100 (by kernel_rfl) rfl) (cmpLays70 blk off d.size w) hH hblk hsz total_cmpP
  rw [show (fun x y => !(ltOf cmpP) y x) = Ring.le from by funext x y; rw [ltOf_cmpP, Bool.not_not]] at h
  exact h
theorem sort_none (p : Option Addr) (cap : Nat) (fv : Value) (w : World) : Calls Tryz.prog 99 #[.slice p 0 cap, fv] w fun e w' => e = .returned (.tuple #[]) ∧ w' = w :=
  AnyF.slices_SortFunc_none Tryz.sortPt p cap fv w
theorem own_holds {w : World} {base : Nat} {v : Value} {zs : List Pt} (h : w.ownsRow base 101 2 v zs.length (pts2 zs)) (hne : zs ≠ []) : ∃ g cap cur, v = .slice (some ⟨g, 0, none⟩) zs.length cap ∧ base ≤ g ∧ w.heap[g]? = some (.cells cur 101 (0, 0)) ∧ HoldsK ptL 2 w g 0 zs.toArray ∧ zs.length ≤ cap := by
  rcases h.2 with ⟨_, h0⟩ | ⟨g, cap, cur, hv, hg, hr, hle, hcs, _, ht⟩
  · exact absurd (List.length_eq_zero_iff.1 h0) hne
  · refine ⟨g, cap, cur, hv, hg, hr, ?_, hle⟩
    have h2 : ∀ k, k < zs.length * 2 → cur[k]? = (pts2 zs)[k]? := fun k hk => by
      have h3 : (cur.toList.take (zs.length * 2))[k]? = (pts2 zs)[k]? := by rw [ht]
      rw [List.getElem?_take, if_pos hk] at h3
      rw [← Array.getElem?_toList, h3]
    have hf : ∀ x, w.frozen? ⟨g, x, none⟩ = false := fun x => by simp [World.frozen?, hr]
    have hgd : ∀ j, j < zs.length → zs.toArray[j]! = zs.getD j (0, 0) := fun j hj => by
      rw [getElem!_pos zs.toArray j (by simpa using hj), List.getD_eq_getElem?_getD, List.getElem?_eq_getElem hj]
      rfl
    intro j hj
    rw [size_flatK] at hj
    have hj' : j < zs.length * 2 := hj
    refine ⟨?_, hf _⟩
    rw [get_flatK _ _ _ _ hj, Nat.zero_add, cell_of_row _ _ _ _ _ _ hr, h2 j hj', hgd (j / 2) (by omega)]
    have hp := pts2_get zs (j / 2) (by omega)
    rcases (show j % 2 = 0 ∨ j % 2 = 1 by omega) with e | e
    · rw [show j / 2 * 2 = j by omega] at hp
      rw [hp.1, e]
      rfl
    · rw [show j / 2 * 2 + 1 = j by omega] at hp
      rw [hp.2, e]
      rfl
theorem holds_prow {w : World} {g : Nat} {ls : List Pt} {cs : Array Value} {fr : Nat × Nat} (h : HoldsK ptL 2 w g 0 ls.toArray) (ht : w.heap[g]? = some (.cells cs 101 fr)) {ok : Nat → Prop} (hg : ok g) : PRow w ok (some ⟨g, 0, none⟩) ls := ⟨fun hp => by
  refine ⟨g, 0, rfl, hg, ⟨cs, fr, ht⟩, fun j hj => ?_⟩
  have hgd : ls.toArray[j]! = ls.getD j (0, 0) := by
    rw [getElem!_pos ls.toArray j (by simpa using hj), List.getD_eq_getElem?_getD, List.getElem?_eq_getElem hj]
    rfl
  have hs : ls.toArray.size = ls.length := by simp
  constructor
  · have h1 := (h (j * 2) (by rw [size_flatK, hs]; omega)).1
    rw [get_flatK _ _ _ _ (by rw [hs]; omega), show j * 2 / 2 = j by omega, show j * 2 % 2 = 0 by omega, hgd] at h1
    exact h1
  · have h1 := (h (j * 2 + 1) (by rw [size_flatK, hs]; omega)).1
    rw [get_flatK _ _ _ _ (by rw [hs]; omega), show (j * 2 + 1) / 2 = j by omega, show (j * 2 + 1) % 2 = 1 by omega, hgd] at h1
    exact h1⟩
theorem sortWorld_grown (w : World) (g o n : Nat) (d : Array Pt) (os : Array Obj) : w.grownBy (sortWorldK ptL 2 w g o n d os) (some g) := by
  unfold sortWorldK
  refine ⟨rfl, rfl, rfl, ?_, fun k hk hne => ?_⟩
  · rw [size_grow, size_putRowK]
    exact Nat.le_add_right _ _
  · rw [heap_grow_old _ _ (by rw [size_putRowK]; exact hk)]
    unfold putRowK putRow mapBlock
    simp only [Array.getElem?_modify]
    rw [if_neg (fun e => hne (by rw [e]))]
    rfl
theorem sortWorld_tag (w : World) (g o n : Nat) (d : Array Pt) (os : Array Obj) {cs : Array Value} {t : TypeId} {fr : Nat × Nat} (h : w.heap[g]? = some (.cells cs t fr)) : ∃ cs', (sortWorldK ptL 2 w g o n d os).heap[g]? = some (.cells cs' t fr) := by
  have hl : g < w.heap.size := (Array.getElem?_eq_some_iff.1 h).1
  have e : (sortWorldK ptL 2 w g o n d os).heap[g]? = (w.heap[g]?).map (onCells (putCells id o (flatK ptL 2 d))) := by
    unfold sortWorldK
    rw [heap_grow_old _ _ (by rw [size_putRowK]; exact hl)]
    unfold putRowK putRow mapBlock
    simp only [Array.getElem?_modify, if_pos]
    rfl
  rw [e, h]
  exact ⟨_, rfl⟩
set_option maxHeartbeats 1000000 in
/-- Points that are one's own, in order. -/
theorem inOrder_any (ls : List Pt) (v : Value) (base : Nat) (w : World) (h : w.ownsRow base 101 2 v ls.length (pts2 ls)) (hb : base ≤ w.heap.size) (hm : ls.length ≤ 1000000) :
    Calls Tryz.prog 84 #[v] w fun e w' => e = .returned (.tuple #[]) ∧ ∃ A c, v = .slice A ls.length c ∧ ls.length ≤ c ∧ PRow w' (fun b => base ≤ b) A (ls.mergeSort Ring.le) ∧ Below base w w' := by
  by_cases hne : ls = []
  · subst hne
    have hv : ∃ p c, v = .slice p 0 c := by
      rcases h.2 with ⟨hv, _⟩ | ⟨g, cap, cur, hv, _⟩
      · exact ⟨_, _, hv⟩
      · exact ⟨_, _, hv⟩
    obtain ⟨p, c, rfl⟩ := hv
    clear h
    go_enter Tryz.func84, Tryz.ntmps84
    go_wp2_with (go_at_call 99; refine (sort_none p c _ _).mono ?_; rintro e w' ⟨rfl, rfl⟩)
    go_end0
    exact ⟨rfl, p, c, rfl, Nat.zero_le _, by rw [List.mergeSort_nil]; exact PRow.nil _ _ _, Below.refl _ _⟩
  · obtain ⟨g, cap, cur, rfl, hg, hr, hH, hle⟩ := own_holds h hne
    have hl : g < w.heap.size := (Array.getElem?_eq_some_iff.1 hr).1
    have HS := Lib.hid (sort_any g 0 cap ls.toArray w hH hl (by simp; omega))
    have HP : Hid (∀ n os, PRow (sortWorldK ptL 2 w g 0 n (ls.mergeSort Ring.le).toArray os) (fun b => base ≤ b) (some ⟨g, 0, none⟩) (ls.mergeSort Ring.le) ∧ Below base w (sortWorldK ptL 2 w g 0 n (ls.mergeSort Ring.le).toArray os)) := Lib.hid (fun n os => by
      have h1 := holdsK_sortWorldK ptL 2 w g 0 n ls.toArray (ls.mergeSort Ring.le).toArray os hl hH (by simp)
      obtain ⟨cs', h2⟩ := sortWorld_tag w g 0 n (ls.mergeSort Ring.le).toArray os hr
      exact ⟨holds_prow h1 h2 hg, (Below.refl base w).grown (sortWorld_grown w g 0 n _ os) hb (fun k hk => by injection hk with hk; omega)⟩)
    have HL := Lib.hid hle
    clear h hH hr hl hm hle
    rw [show ls.toArray.size = ls.length from by simp, show ls.toArray.toList = ls from rfl] at HS
    go_enter Tryz.func84, Tryz.ntmps84
    go_wp2_with (go_at_call 99; refine HS.out.mono ?_; rintro e w' ⟨rfl, n, os, rfl⟩)
    go_end0
    exact ⟨rfl, _, _, rfl, HL.out, (HP.out n os).1, (HP.out n os).2⟩
end Go.Proofs.YtdbhboglccggdaaGreatDoor
