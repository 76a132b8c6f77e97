/- slices.IndexFunc, ContainsFunc and DeleteFunc of numbers, whatever is asked of each. slices.DeleteFunc of numbers of one's own, whatever is asked of each. Numbers that came in: slices.Contains, and the law's and the reference's own search. Route: closures over a node, and over who is up; what they are asked. -/
import Derived.Test.YtdbhboglccggdaaGreatDoorMs
import Derived.Shelf.Abstract
set_option maxRecDepth 100000
set_option linter.unusedVariables false
set_option linter.unusedSimpArgs false
namespace Go.Proofs.YtdbhboglccggdaaGreatDoor
open Go.RowKit
/-- What a function value tells of numbers, where Φ holds. -/
structure Asks (ok G : Nat → Prop) (Φ : World → Prop) (f : Nat) (lb : Array Value) (p : Nat → Bool) : Prop where
  enters : ∀ args w, (callFunc f args).run Tryz.prog w = .ok (.enter f args) w
  put : ∀ x y b cur, ok b → x.heap[b]? = some (.cells cur 3 (0, 0)) → x.grownBy y (some b) → Φ x → Φ y
  call : ∀ (n : Nat) x, Φ x → Calls Tryz.prog f (#[.int .i64 ((n : Nat) : Int)] ++ lb) x fun e y => e = .returned (.bool (p n)) ∧ Only G x y ∧ Φ y
  tag : ∀ x b, Φ x → G b → ∃ cs fr, x.heap[b]? = some (.cells cs 71 fr)
def IdxR (p : Nat → Bool) (ls : List Nat) (r : Int) : Prop :=
  (r = -1 ∧ ∀ j, j < ls.length → p (ls.getD j 0) = false) ∨ ∃ k : Nat, r = (k : Int) ∧ k < ls.length ∧ p (ls.getD k 0) = true ∧ ∀ j, j < k → p (ls.getD j 0) = false
set_option maxHeartbeats 4000000 in
theorem indexF_any {ok G : Nat → Prop} {Φ : World → Prop} {f : Nat} {lb : Array Value} {p : Nat → Bool} (E : Asks ok G Φ f lb p) (ls : List Nat) (c : Nat) (A : Option Addr) (w : World) (h : Row .i64 w ok A ls) (ho : ∀ b, ok b → ¬ G b) (hm : ls.length ≤ 1000000) (hw : Φ w) :
    Calls Tryz.prog 32 #[.slice A ls.length c, .func (.func f) #[] lb] w fun e y => ∃ r : Int, e = .returned (.int .i64 r) ∧ IdxR p ls r ∧ Only G w y ∧ Φ y := by
  have HC := Lib.hid E.call
  have eg := E.enters
  have HR := Lib.hid h
  have HO := Lib.hid ho
  have HF := Lib.hid hw
  have HM := Lib.hid hm
  clear E h ho hw hm
  go_enter Tryz.func32, Tryz.ntmps32
  go_wp2
  go_loopw [8] (fun v x => ∃ j : Nat, j ≤ ls.length ∧ v = .int .i64 j ∧ Hid (∀ i, i < j → p (ls.getD i 0) = false) ∧ Hid (Row .i64 x ok A ls) ∧ Hid (Only G w x) ∧ Hid (Φ x)) (fun v _ => ls.length - (intOf v).toNat)
  case atStart => exact ⟨0, by omega, rfl, Lib.hid (fun i hi => absurd hi (Nat.not_lt_zero _)), HR, Lib.hid (Only.refl _ _), HF⟩
  case round =>
    clear HR HF
    obtain ⟨j, hj, rfl, HN, HR, HW, HF⟩ := hrel
    by_cases hlt : j < ls.length
    · obtain ⟨b, o, hA, hb0, hc⟩ := HR.out.at_ (by omega)
      have hc1 := hc j hlt
      subst hA
      obtain ⟨d, hd⟩ : ∃ d, d = ls.getD j 0 := ⟨_, rfl⟩
      rw [← hd] at hc1
      have eJ : IntKind.i64.wrap ((j : Int) + 1) = (j : Int) + 1 := by have := HM.out; rw [IntKind.wrap_i64]; omega
      have HCD := Lib.hid (HC.out d wr HF.out)
      have HD := Lib.hid hd
      have hlt' : (j : Int) < (ls.length : Int) := by omega
      clear hd hb0 hc
      cases hp : p d with
      | true =>
        rw [hp] at HCD
        have HP := Lib.hid hp
        clear hp
        go_wp2_with fail
        refine HCD.out.mono ?_
        rintro e w2 ⟨rfl, hb, hf⟩
        have HB2 := Lib.hid (HW.out.trans hb)
        have HF2 := Lib.hid hf
        clear hb hf
        go_wp2_with fail
        go_ret
        exact ⟨_, rfl, .inr ⟨j, rfl, hlt, by rw [← HD.out]; exact HP.out, HN.out⟩, HB2.out, HF2.out⟩
      | false =>
        rw [hp] at HCD
        have HP := Lib.hid hp
        clear hp
        go_wp2_with fail
        refine HCD.out.mono ?_
        rintro e w2 ⟨rfl, hb, hf⟩
        have HB2 := Lib.hid (HW.out.trans hb)
        have HR2 := Lib.hid (HR.out.kept hb HO.out)
        have HF2 := Lib.hid hf
        clear hb hf hc1
        go_wp2_with fail
        go_roundw
        all_goals clear eJ
        case rel => exact ⟨j + 1, by omega, by go_num, Lib.hid (fun i hi => by
          by_cases e : i = j
          · subst e
            rw [← HD.out]
            exact HP.out
          · exact HN.out i (by omega)), HR2, HB2, HF2⟩
        case measure => simp [intOf]; omega
    · obtain rfl : j = ls.length := by omega
      go_wp2
      go_ret
      exact ⟨_, rfl, .inl ⟨rfl, HN.out⟩, HW.out, HF.out⟩
theorem IdxR.any {p : Nat → Bool} {ls : List Nat} {r : Int} (h : IdxR p ls r) : decide (0 ≤ r) = ls.any p := by
  rcases h with ⟨rfl, h⟩ | ⟨k, rfl, hk, hp, _⟩
  · rw [show decide ((0 : Int) ≤ -1) = false from rfl]
    symm
    rw [List.any_eq_false]
    intro x hx
    obtain ⟨j, hj, rfl⟩ := List.mem_iff_getElem.1 hx
    have := h j hj
    rw [List.getD_eq_getElem?_getD, List.getElem?_eq_getElem hj] at this
    simpa using this
  · rw [decide_eq_true (by omega)]
    symm
    rw [List.any_eq_true]
    exact ⟨ls.getD k 0, by rw [List.getD_eq_getElem?_getD, List.getElem?_eq_getElem hk]; exact List.getElem_mem _, hp⟩
set_option maxHeartbeats 2000000 in
theorem containsF_any {ok G : Nat → Prop} {Φ : World → Prop} {f : Nat} {lb : Array Value} {p : Nat → Bool} (E : Asks ok G Φ f lb p) (ls : List Nat) (c : Nat) (A : Option Addr) (w : World) (h : Row .i64 w ok A ls) (ho : ∀ b, ok b → ¬ G b) (hm : ls.length ≤ 1000000) (hw : Φ w) :
    Calls Tryz.prog 38 #[.slice A ls.length c, .func (.func f) #[] lb] w fun e y => e = .returned (.bool (ls.any p)) ∧ Only G w y ∧ Φ y := by
  have HC := Lib.hid (indexF_any E ls c A w h ho hm hw)
  clear E h ho hm hw
  go_enter Tryz.func38, Tryz.ntmps38
  go_wp2_with (go_at_call 32; refine HC.out.mono ?_; rintro e w2 ⟨r, rfl, hr, hb, hf⟩; have HX := Lib.hid hr.any; have HB2 := Lib.hid hb; have HF2 := Lib.hid hf; clear hr hb hf)
  go_ret
  exact ⟨by rw [← HX.out]; rfl, HB2.out, HF2.out⟩
theorem setCells_heap {g : Nat} {t : TypeId} : ∀ (vs : List Value) (o : Nat) (x : World) (cur : Array Value), x.heap[g]? = some (.cells cur t (0, 0)) → ∃ cur', (x.setCells g o vs).heap[g]? = some (.cells cur' t (0, 0)) ∧ cur'.size = cur.size ∧ ∀ m, m < o → cur'[m]? = cur[m]?
  | [], o, x, cur, h => ⟨cur, h, rfl, fun _ _ => rfl⟩
  | v :: vs, o, x, cur, h => by
    obtain ⟨c', h1, h2, h3⟩ := setCells_heap vs (o + 1) (x.setCell ⟨g, o, none⟩ v) _ (heap_setCell_same x g o cur t v h)
    refine ⟨c', h1, by rw [h2, Array.size_setIfInBounds], fun m hm => ?_⟩
    rw [h3 m (by omega), Array.getElem?_setIfInBounds, if_neg (by omega)]
theorem setCells_only {a x : World} {g : Nat} (h : a.grownBy x (some g)) : ∀ (vs : List Value) (o : Nat), a.grownBy (x.setCells g o vs) (some g) := by
  intro vs
  induction vs generalizing x with
  | nil => intro o; exact h
  | cons v vs ih => intro o; exact ih (only_setCell h (.inl rfl) _) (o + 1)
end Go.Proofs.YtdbhboglccggdaaGreatDoor

set_option maxRecDepth 100000
set_option linter.unusedVariables false
set_option linter.unusedSimpArgs false
namespace Go.Proofs.YtdbhboglccggdaaGreatDoor
open Go.RowKit
/-- What stays of the first j. -/
def keptF (p : Nat → Bool) (ls : List Nat) (j : Nat) : List Nat := (ls.take j).filter fun x => !p x
theorem take_succ_getD {ls : List Nat} {j : Nat} (h : j < ls.length) : ls.take (j + 1) = ls.take j ++ [ls.getD j 0] := by
  rw [List.take_add_one, List.getElem?_eq_getElem h, List.getD_eq_getElem?_getD, List.getElem?_eq_getElem h]
  rfl
theorem keptF_drop {p : Nat → Bool} {ls : List Nat} {j : Nat} (h : j < ls.length) (hp : p (ls.getD j 0) = true) : keptF p ls (j + 1) = keptF p ls j := by
  unfold keptF
  rw [take_succ_getD h, List.filter_append, List.filter_cons, if_neg (by rw [hp]; decide), List.filter_nil, List.append_nil]
theorem keptF_keep {p : Nat → Bool} {ls : List Nat} {j : Nat} (h : j < ls.length) (hp : p (ls.getD j 0) = false) : keptF p ls (j + 1) = keptF p ls j ++ [ls.getD j 0] := by
  unfold keptF
  rw [take_succ_getD h, List.filter_append, List.filter_cons, if_pos (by rw [hp]; decide), List.filter_nil]
theorem keptF_len (p : Nat → Bool) (ls : List Nat) (j : Nat) : (keptF p ls j).length ≤ j := by
  unfold keptF
  exact Nat.le_trans (List.length_filter_le _ _) (by rw [List.length_take]; omega)
theorem keptF_end (p : Nat → Bool) (ls : List Nat) : keptF p ls ls.length = ls.filter fun x => !p x := by
  unfold keptF
  rw [List.take_length]
theorem keptF_all {p : Nat → Bool} {ls : List Nat} : ∀ {j : Nat}, j ≤ ls.length → (∀ i, i < j → p (ls.getD i 0) = false) → keptF p ls j = ls.take j
  | 0, _, _ => rfl
  | j + 1, hj, h => by
    rw [keptF_keep (by omega) (h j (by omega)), keptF_all (by omega) (fun i hi => h i (by omega)), take_succ_getD (by omega)]
theorem getD_append_left {xs ys : List Nat} {m : Nat} (h : m < xs.length) : (xs ++ ys).getD m 0 = xs.getD m 0 := by
  rw [List.getD_eq_getElem?_getD, List.getD_eq_getElem?_getD, List.getElem?_append_left h]
theorem getD_append_one {xs : List Nat} {y : Nat} : (xs ++ [y]).getD xs.length 0 = y := by
  rw [List.getD_eq_getElem?_getD, List.getElem?_append_right (Nat.le_refl _), Nat.sub_self]
  rfl
/-- On the way: the kept ones stand ahead, what is to come as it was. -/
structure DS (p : Nat → Bool) (ls : List Nat) (b c j : Nat) (x : World) : Prop where
  row : ∃ cur, x.heap[b]? = some (.cells cur 3 (0, 0)) ∧ c ≤ cur.size ∧ (∀ m, m < (keptF p ls j).length → cur[m]? = some (.int .i64 (((keptF p ls j).getD m 0 : Nat) : Int))) ∧ ∀ m, j ≤ m → m < ls.length → cur[m]? = some (.int .i64 ((ls.getD m 0 : Nat) : Int))
theorem DS.cell {p : Nat → Bool} {ls : List Nat} {b c j : Nat} {x : World} (h : DS p ls b c j x) {m : Nat} (hj : j ≤ m) (hm : m < ls.length) : x.cell? ⟨b, m, none⟩ = some (.int .i64 ((ls.getD m 0 : Nat) : Int)) := by
  obtain ⟨cur, hh, _, _, h2⟩ := h.row
  rw [cell_of_row _ _ _ _ _ _ hh]
  exact h2 m hj hm
theorem DS.some_ {p : Nat → Bool} {ls : List Nat} {b c j : Nat} {x : World} (h : DS p ls b c j x) {m : Nat} (hm : m < c) : ∃ v, x.cell? ⟨b, m, none⟩ = some v := by
  obtain ⟨cur, hh, hc, _, _⟩ := h.row
  rw [cell_of_row _ _ _ _ _ _ hh]
  exact ⟨_, Array.getElem?_eq_getElem (by omega)⟩
theorem DS.frozen {p : Nat → Bool} {ls : List Nat} {b c j : Nat} {x : World} (h : DS p ls b c j x) (m : Nat) : x.frozen? ⟨b, m, none⟩ = false := by
  obtain ⟨cur, hh, _, _, _⟩ := h.row
  simp [World.frozen?, hh]
theorem DS.keep {p : Nat → Bool} {ls : List Nat} {b c j : Nat} {x y : World} (h : DS p ls b c j x) (hb : y.heap[b]? = x.heap[b]?) : DS p ls b c j y := by
  obtain ⟨cur, hh, r⟩ := h.row
  exact ⟨cur, hb.trans hh, r⟩
theorem DS.lt {p : Nat → Bool} {ls : List Nat} {b c j : Nat} {x : World} (h : DS p ls b c j x) : b < x.heap.size := by
  obtain ⟨cur, hh, _⟩ := h.row
  exact (Array.getElem?_eq_some_iff.1 hh).1
theorem DS.only {p : Nat → Bool} {ls : List Nat} {b c j : Nat} {x y : World} {G : Nat → Prop} (h : DS p ls b c j x) (ho : Only G x y) (hb : ¬ G b) : DS p ls b c j y := h.keep (ho.block b h.lt hb)
theorem DS.drop {p : Nat → Bool} {ls : List Nat} {b c j : Nat} {x : World} (h : DS p ls b c j x) (hj : j < ls.length) (hp : p (ls.getD j 0) = true) : DS p ls b c (j + 1) x := by
  obtain ⟨cur, hh, hc, h1, h2⟩ := h.row
  refine ⟨cur, hh, hc, ?_, fun m hm hl => h2 m (by omega) hl⟩
  rw [keptF_drop hj hp]
  exact h1
theorem DS.put {p : Nat → Bool} {ls : List Nat} {b c j : Nat} {x : World} (h : DS p ls b c j x) (hj : j < ls.length) (hc0 : ls.length ≤ c) (hp : p (ls.getD j 0) = false) :
    DS p ls b c (j + 1) (x.setCell ⟨b, (keptF p ls j).length, none⟩ (.int .i64 ((ls.getD j 0 : Nat) : Int))) := by
  obtain ⟨cur, hh, hc, h1, h2⟩ := h.row
  have hl := keptF_len p ls j
  refine ⟨_, heap_setCell_same x b _ cur 3 _ hh, by rw [Array.size_setIfInBounds]; exact hc, ?_, fun m hm hl2 => ?_⟩
  · rw [keptF_keep hj hp]
    intro m hm
    rw [List.length_append, List.length_singleton] at hm
    rw [Array.getElem?_setIfInBounds]
    by_cases e : m = (keptF p ls j).length
    · subst e
      rw [if_pos rfl, if_pos (by omega), getD_append_one]
    · rw [if_neg (fun e' => e e'.symm), getD_append_left (by omega)]
      exact h1 m (by omega)
  · rw [Array.getElem?_setIfInBounds, if_neg (by omega)]
    exact h2 m (by omega) hl2
theorem Only.add {G : Nat → Prop} {x y : World} {b : Nat} (hg : x.grownBy y (some b)) : Only (fun k => G k ∨ k = b) x y :=
  ⟨hg.os, hg.tape, hg.output, hg.size, fun k hk hn => hg.block k hk (fun e => by injection e with e; exact hn (.inr e))⟩
theorem Only.lax {G H : Nat → Prop} {x y : World} (h : Only G x y) (hi : ∀ k, G k → H k) : Only H x y :=
  ⟨h.os, h.tape, h.output, h.size, fun k hk hn => h.block k hk (fun hg => hn (hi k hg))⟩
theorem zero3 (w : World) : (zeroValue 3).run Tryz.prog w = .ok (.int .i64 0) w := by kernel_rfl
theorem grown_setCell (x : World) (b m : Nat) (v : Value) : x.grownBy (x.setCell ⟨b, m, none⟩ v) (some b) := only_setCell ⟨rfl, rfl, rfl, Nat.le_refl _, fun _ _ _ => rfl⟩ (.inl rfl) v
/-- What comes of it. -/
def DelR (G : Nat → Prop) (Φ : World → Prop) (p : Nat → Bool) (ls : List Nat) (ok : Nat → Prop) (A : Option Addr) (c : Nat) (w : World) (e : Ending) (y : World) : Prop :=
  e = .returned (.slice A (ls.filter fun x => !p x).length c) ∧ Mine y ok A c (ls.filter fun x => !p x) ∧ Only (fun k => G k ∨ ok k) w y ∧ Φ y
set_option maxHeartbeats 8000000 in
theorem deleteF_any {ok G : Nat → Prop} {Φ : World → Prop} {f : Nat} {lb : Array Value} {p : Nat → Bool} (E : Asks ok G Φ f lb p) (ls : List Nat) (c : Nat) (A : Option Addr) (w : World) (h : Mine w ok A c ls) (ho : ∀ b, ok b → ¬ G b) (hm : ls.length ≤ 1000000) (hw : Φ w) :
    Calls Tryz.prog 41 #[.slice A ls.length c, .func (.func f) #[] lb] w (DelR G Φ p ls ok A c w) := by
  have HI := Lib.hid (indexF_any E ls c A w h.row ho hm hw)
  have HE := Lib.hid E
  have eg := E.enters
  have HH := Lib.hid h
  have HO := Lib.hid ho
  have HM := Lib.hid hm
  clear E h ho hm hw
  go_enter Tryz.func41, Tryz.ntmps41
  go_wp2_with fail
  refine HI.out.mono ?_
  rintro e w1 ⟨r, rfl, hr, hb, hf⟩
  have HB := Lib.hid hb
  have HF := Lib.hid hf
  clear hb hf HI
  rcases hr with ⟨rfl, hall⟩ | ⟨k, rfl, hk, hp, hall⟩
  · have HA := Lib.hid hall
    clear hall
    go_wp2_with fail
    go_ret
    have hfl : (ls.filter fun x => !p x) = ls := by
      have := keptF_all (Nat.le_refl ls.length) HA.out
      rwa [keptF_end, List.take_length] at this
    unfold DelR
    rw [hfl]
    exact ⟨rfl, HH.out.keep (fun b hb hl => HB.out.block b hl (HO.out b hb)), HB.out.lax (fun k hk => .inl hk), HF.out⟩
  · obtain ⟨b, cur, hA, hb0, hh, hc, ht⟩ := HH.out.at_ (by omega)
    subst hA
    have HOB := Lib.hid hb0
    have hlc := HH.out.le
    have hct := HH.out.top
    unfold maxLen at hct
    have hml := HM.out
    have hd0 : DS p ls b c k w := by
      refine ⟨cur, hh, hc, ?_, fun m _ hl => take_get ht hl⟩
      rw [keptF_all (by omega) hall]
      intro m hm
      rw [List.length_take] at hm
      rw [List.getD_eq_getElem?_getD, List.getElem?_take, if_pos (by omega), ← List.getD_eq_getElem?_getD]
      exact take_get ht (by omega)
    have HD := Lib.hid ((hd0.only HB.out (HO.out b hb0)).drop hk hp)
    have HKL : Hid ((keptF p ls (k + 1)).length = k) := Lib.hid (by
      rw [keptF_drop hk hp, keptF_all (by omega) hall, List.length_take]
      omega)
    have HNB : Hid (¬ G b) := Lib.hid (HO.out b hb0)
    have HB1 : Hid (Only (fun k => G k ∨ ok k) w w1) := Lib.hid (HB.out.lax (fun k hk => .inl hk))
    have eK : IntKind.i64.wrap ((k : Int) + 1) = ((k + 1 : Nat) : Int) := by rw [IntKind.wrap_i64]; omega
    have hne : ((k : Int) == -1) = false := by rw [beq_eq_false_iff_ne]; omega
    have HP := Lib.hid hp
    clear hd0 ht hall hh hc hp HB hb0
    go_wp2_with fail
    go_loopw [5, 6] (fun iv v x => ∃ i j : Nat, k < j ∧ j ≤ ls.length ∧ v = .int .i64 (j : Int) ∧ iv = .int .i64 (i : Int) ∧ i < j ∧ Hid ((keptF p ls j).length = i) ∧ Hid (DS p ls b c j x) ∧ Hid (Only (fun k => G k ∨ ok k) w x) ∧ Hid (Φ x)) (fun _ v _ => ls.length - (intOf v).toNat)
    case atStart => exact ⟨k, k + 1, by omega, by omega, rfl, rfl, by omega, HKL, HD, HB1, HF⟩
    case round =>
      clear HD HB1 HF HKL eK
      obtain ⟨i, j, hkj, hj, rfl, rfl, hij, HL, HD, HB, HF⟩ := hrel
      by_cases hlt : j < ls.length
      · have hc1 := HD.out.cell (Nat.le_refl j) hlt
        obtain ⟨d, hd⟩ : ∃ d, d = ls.getD j 0 := ⟨_, rfl⟩
        rw [← hd] at hc1
        have eJ : IntKind.i64.wrap ((j : Int) + 1) = ((j + 1 : Nat) : Int) := by rw [IntKind.wrap_i64]; omega
        have eI : IntKind.i64.wrap ((i : Int) + 1) = ((i + 1 : Nat) : Int) := by rw [IntKind.wrap_i64]; omega
        have HCD := Lib.hid (HE.out.call d wr HF.out)
        have HDD := Lib.hid hd
        have hlt' : (j : Int) < (ls.length : Int) := by omega
        clear hd
        cases hp : p d with
        | true =>
          rw [hp] at HCD
          have HDN := Lib.hid (HD.out.drop hlt (by rw [← HDD.out]; exact hp))
          have HLN : Hid ((keptF p ls (j + 1)).length = i) := Lib.hid (by rw [keptF_drop hlt (by rw [← HDD.out]; exact hp)]; exact HL.out)
          clear hp HD HL
          go_wp2_with fail
          refine HCD.out.mono ?_
          rintro e w2 ⟨rfl, hb, hf⟩
          have HB2 := Lib.hid (HB.out.trans (hb.lax (fun k hk => .inl hk)))
          have HD2 := Lib.hid (HDN.out.only hb HNB.out)
          have HF2 := Lib.hid hf
          clear hb hf hc1 HDN HCD HF HB
          go_wp2_with fail
          go_roundw
          all_goals clear eJ eI
          case rel => exact ⟨i, j + 1, by omega, by omega, rfl, rfl, by omega, HLN, HD2, HB2, HF2⟩
          case measure => simp [intOf]; omega
        | false =>
          rw [hp] at HCD
          have HP2 : Hid (p (ls.getD j 0) = false) := Lib.hid (by rw [← HDD.out]; exact hp)
          clear hp
          go_wp2_with fail
          refine HCD.out.mono ?_
          rintro e w2 ⟨rfl, hb, hf⟩
          have HB2 := Lib.hid (HB.out.trans (hb.lax (fun k hk => .inl hk)))
          have hd2 := HD.out.only hb HNB.out
          have hdp := hd2.put hlt hlc HP2.out
          rw [HL.out, ← HDD.out] at hdp
          have HD2 := Lib.hid hdp
          have HLN : Hid ((keptF p ls (j + 1)).length = i + 1) := Lib.hid (by rw [keptF_keep hlt HP2.out, List.length_append, HL.out]; rfl)
          obtain ⟨v0, hv0⟩ := hd2.some_ (m := i) (by omega)
          have hfz := hd2.frozen i
          have HF2 : Hid (Φ (w2.setCell ⟨b, i, none⟩ (.int .i64 (d : Int)))) := Lib.hid (by
            obtain ⟨cur, hh, _⟩ := hd2.row
            exact HE.out.put _ _ b cur HOB.out hh (grown_setCell _ _ _ _) hf)
          have HB3 : Hid (Only (fun k => G k ∨ ok k) w (w2.setCell ⟨b, i, none⟩ (.int .i64 (d : Int)))) := Lib.hid (HB2.out.trans ((Only.add (G := G) (grown_setCell w2 b i (.int .i64 (d : Int)))).lax (fun k hk => by
            rcases hk with h | rfl
            · exact .inl h
            · exact .inr HOB.out)))
          have hil : (i : Int) < (ls.length : Int) := by omega
          have hil2 : i < ls.length := by omega
          clear hb hf hc1 HCD HF HB HD HL hd2 hdp HB2
          go_wp2_with fail
          go_roundw
          all_goals clear eJ eI
          case rel => exact ⟨i + 1, j + 1, by omega, by omega, rfl, rfl, by omega, HLN, HD2, HB3, HF2⟩
          case measure => simp [intOf]; omega
      · obtain rfl : j = ls.length := by omega
        have hcl := Lib.run_clear_slice (P := Tryz.prog) wr 24 3 0 (.int .i64 0) Tryz.underlying24 zero3 rfl rfl b i (ls.length - i) (c - i) (by omega) (fun m hm => by
          obtain ⟨v, hv⟩ := HD.out.some_ (m := i + m) (by omega)
          rw [hv]
          rfl) (fun m _ => HD.out.frozen _)
        have hcl' : ∀ ty, (Builtin.clear_ #[24] ty #[.slice (some ⟨b, i, none⟩) (ls.length - i) (c - i)]).run Tryz.prog wr = .ok (.tuple #[]) (wr.setCells b i (List.replicate (ls.length - i) (.int .i64 0))) := fun _ => hcl
        have hg := setCells_only (a := wr) (x := wr) (g := b) ⟨rfl, rfl, rfl, Nat.le_refl _, fun _ _ _ => rfl⟩ (List.replicate (ls.length - i) (.int .i64 0)) i
        have HF2 : Hid (Φ (wr.setCells b i (List.replicate (ls.length - i) (.int .i64 0)))) := Lib.hid (by
          obtain ⟨cur, hh, _⟩ := HD.out.row
          exact HE.out.put _ _ b cur HOB.out hh hg HF.out)
        have HB3 : Hid (Only (fun k => G k ∨ ok k) w (wr.setCells b i (List.replicate (ls.length - i) (.int .i64 0)))) := Lib.hid (HB.out.trans ((Only.add (G := G) hg).lax (fun k hk => by
            rcases hk with h | rfl
            · exact .inl h
            · exact .inr HOB.out)))
        have HMN : Hid (Mine (wr.setCells b i (List.replicate (ls.length - i) (.int .i64 0))) ok (some ⟨b, 0, none⟩) c (keptF p ls ls.length)) := Lib.hid (by
          have hl := HL.out
          refine ⟨by omega, by unfold maxLen; omega, (fun e => by cases e), fun _ => ?_⟩
          obtain ⟨cur, hh, hc, h1, _⟩ := HD.out.row
          obtain ⟨cur', h2, h3, h4⟩ := setCells_heap (List.replicate (ls.length - i) (.int .i64 0)) i wr cur hh
          refine ⟨b, cur', rfl, HOB.out, h2, by omega, get_take fun m hm => ?_⟩
          rw [h4 m (by omega)]
          exact h1 m hm)
        have HLL : Hid ((keptF p ls ls.length).length = i) := HL
        have hic : i ≤ c := by omega
        have hici : (i : Int) ≤ (c : Int) := by omega
        have hcne : ¬ c = i := by omega
        have hili : (i : Int) ≤ (ls.length : Int) := by omega
        have hil : i ≤ ls.length := by omega
        clear hcl hg HF HB HD HL
        go_wp2_with fail
        go_ret
        unfold DelR
        rw [← keptF_end, HLL.out]
        exact ⟨rfl, HMN.out, HB3.out, HF2.out⟩
end Go.Proofs.YtdbhboglccggdaaGreatDoor

set_option maxRecDepth 100000
set_option linter.unusedVariables false
set_option linter.unusedSimpArgs false
namespace Go.Proofs.YtdbhboglccggdaaGreatDoor
open Go.RowKit
structure RowZ (w : World) (ok : Nat → Prop) (A : Option Addr) (zs : List Int) : Prop where
  at_ : 0 < zs.length → ∃ b o, A = some ⟨b, o, none⟩ ∧ ok b ∧ ∀ j, j < zs.length → w.cell? ⟨b, o + j, none⟩ = some (.int .i64 (zs.getD j 0))
theorem RowZ.keep {w w' : World} {ok : Nat → Prop} {A : Option Addr} {zs : List Int} (h : RowZ w ok A zs) (hk : ∀ b, ok b → b < w.heap.size → w'.heap[b]? = w.heap[b]?) : RowZ w' ok A zs :=
  ⟨fun hp => by
    obtain ⟨b, o, e, hb, hc⟩ := h.at_ hp
    refine ⟨b, o, e, hb, fun j hj => ?_⟩
    rw [World.cell?_of_block (w := w) (a := ⟨b, o + j, none⟩) (hk b hb (World.block_lt_of_cell? w _ (hc j hj)))]
    exact hc j hj⟩
theorem RowZ.weak {w : World} {P Q : Nat → Prop} {A : Option Addr} {zs : List Int} (h : RowZ w P A zs) (hq : ∀ b, P b → b < w.heap.size → Q b) : RowZ w Q A zs :=
  ⟨fun hp => by
    obtain ⟨b, o, e, hb, hc⟩ := h.at_ hp
    exact ⟨b, o, e, hq b hb (World.block_lt_of_cell? w _ (hc 0 hp)), hc⟩⟩
theorem getD_map (ls : List Nat) (j : Nat) : (ls.map fun (x : Nat) => (x : Int)).getD j 0 = ((ls.getD j 0 : Nat) : Int) := by
  rw [List.getD_eq_getElem?_getD, List.getD_eq_getElem?_getD, List.getElem?_map]
  cases ls[j]? <;> rfl
theorem Row.z {w : World} {ok : Nat → Prop} {A : Option Addr} {ls : List Nat} (h : Row .i64 w ok A ls) : RowZ w ok A (ls.map fun (x : Nat) => (x : Int)) :=
  ⟨fun hp => by
    rw [List.length_map] at hp
    obtain ⟨b, o, e, hb, hc⟩ := h.at_ hp
    refine ⟨b, o, e, hb, fun j hj => ?_⟩
    rw [List.length_map] at hj
    rw [getD_map]
    exact hc j hj⟩
def hasZ (zs : List Int) (x : Int) : Bool := zs.any fun y => decide (y = x)
theorem hasZ_nat (ls : List Nat) (x : Int) : hasZ (ls.map fun (x : Nat) => (x : Int)) x = hasI ls x := by
  unfold hasZ hasI
  rw [List.any_map]
  rfl
theorem hasZ_true {ls : List Int} {x : Int} {j : Nat} (hj : j < ls.length) (h : ls.getD j 0 = x) : hasZ ls x = true := by
  unfold hasZ
  rw [List.any_eq_true]
  refine ⟨ls.getD j 0, ?_, decide_eq_true h⟩
  rw [List.getD_eq_getElem?_getD, List.getElem?_eq_getElem hj]
  exact List.getElem_mem _
theorem hasZ_false {ls : List Int} {x : Int} (h : ∀ j, j < ls.length → ls.getD j 0 ≠ x) : hasZ ls x = false := by
  unfold hasZ
  rw [List.any_eq_false]
  intro y hy
  obtain ⟨i, hi, rfl⟩ := List.getElem_of_mem hy
  have := h i hi
  rw [List.getD_eq_getElem?_getD, List.getElem?_eq_getElem hi] at this
  simpa using this
set_option maxHeartbeats 2000000 in
theorem indexZ_any (ls : List Int) (c : Nat) (A : Option Addr) (x : Int) (w : World) {ok : Nat → Prop} (h : RowZ w ok A ls) (hm : ls.length ≤ 1000000) :
    Calls Tryz.prog 54 #[.slice A ls.length c, .int .i64 x] w fun e w' => (∃ r : Int, e = .returned (.int .i64 r) ∧ decide (0 ≤ r) = hasZ ls x) ∧ w = w' := by
  have HR := Lib.hid h
  clear h
  go_enter Tryz.func54, Tryz.ntmps54
  go_wp2
  go_loop [8] (fun v => ∃ i : Nat, i ≤ ls.length ∧ v = .int .i64 i ∧ Hid (∀ j, j < i → ls.getD j 0 ≠ x)) (fun v => ls.length - (intOf v).toNat)
  case atStart => exact ⟨0, by omega, rfl, fun j hj => by omega⟩
  case round =>
    obtain ⟨i, hi, rfl, HN⟩ := hrel
    by_cases hlt : i < ls.length
    · have hlt' : (i : Int) < (ls.length : Int) := by omega
      obtain ⟨b, o, hA, _, hcell⟩ := HR.out.at_ (by omega)
      subst hA
      have hc := hcell i hlt
      clear hcell
      obtain ⟨q, hq⟩ : ∃ q, q = ls.getD i 0 := ⟨_, rfl⟩
      have HQ := Lib.hid hq
      rw [← hq] at hc
      clear hq
      by_cases hqx : q = x
      · have HT := Lib.hid (hasZ_true (x := x) hlt (by rw [← HQ.out]; exact hqx))
        have hb : (x == q) = true := by rw [beq_iff_eq]; exact hqx.symm
        clear hqx
        go_wp2
        go_ret
        exact ⟨⟨_, rfl, by rw [HT.out]; exact decide_eq_true (by omega)⟩, rfl⟩
      · have hb : (x == q) = false := by rw [beq_eq_false_iff_ne]; exact fun e => hqx e.symm
        have HN2 : Hid (∀ j, j < i + 1 → ls.getD j 0 ≠ x) := Lib.hid (fun j hj => by
          by_cases e : j = i
          · subst e; rw [← HQ.out]; exact hqx
          · exact HN.out j (by omega))
        clear hqx
        go_wp2
        go_round
        case rel => exact ⟨i + 1, by omega, by go_num, HN2⟩
        case measure => simp [intOf]; omega
    · obtain rfl : i = ls.length := by omega
      have HF := Lib.hid (hasZ_false HN.out)
      go_wp2
      go_ret
      exact ⟨⟨_, rfl, by rw [HF.out]; rfl⟩, rfl⟩
theorem containsZ_any (ls : List Int) (c : Nat) (A : Option Addr) (x : Int) (w : World) {ok : Nat → Prop} (h : RowZ w ok A ls) (hm : ls.length ≤ 1000000) :
    Calls Tryz.prog 34 #[.slice A ls.length c, .int .i64 x] w fun e w' => e = .returned (.bool (hasZ ls x)) ∧ w = w' := by
  have HC := Lib.hid (indexZ_any ls c A x w h hm)
  clear h hm
  go_enter Tryz.func34, Tryz.ntmps34
  go_wp2_with fail
  refine HC.out.mono ?_
  rintro e w1 ⟨⟨r, rfl, hr⟩, rfl⟩
  have HR := Lib.hid hr
  clear hr HC
  go_wp2_with fail
  go_ret
  exact ⟨ret_bool HR.out, rfl⟩
set_option maxHeartbeats 2000000 in
theorem inZ_any (ls : List Int) (c : Nat) (A : Option Addr) (x : Int) (w : World) {ok : Nat → Prop} (h : RowZ w ok A ls) (hm : ls.length ≤ 1000000) :
    Calls Tryz.prog 23 #[.slice A ls.length c, .int .i64 x] w fun e w' => e = .returned (.bool (hasZ ls x)) ∧ w = w' := by
  have HR := Lib.hid h
  clear h
  go_enter Tryz.func23, Tryz.ntmps23
  go_wp2
  go_loop [5] (fun v => ∃ i : Nat, i ≤ ls.length ∧ v = .int .i64 i ∧ Hid (∀ j, j < i → ls.getD j 0 ≠ x)) (fun v => ls.length - (intOf v).toNat)
  case atStart => exact ⟨0, by omega, rfl, fun j hj => by omega⟩
  case round =>
    obtain ⟨i, hi, rfl, HN⟩ := hrel
    by_cases hlt : i < ls.length
    · have hlt' : (i : Int) < (ls.length : Int) := by omega
      obtain ⟨b, o, hA, _, hcell⟩ := HR.out.at_ (by omega)
      subst hA
      have hc := hcell i hlt
      clear hcell
      obtain ⟨q, hq⟩ : ∃ q, q = ls.getD i 0 := ⟨_, rfl⟩
      have HQ := Lib.hid hq
      rw [← hq] at hc
      clear hq
      by_cases hqx : q = x
      · have HT := Lib.hid (hasZ_true (x := x) hlt (by rw [← HQ.out]; exact hqx))
        have hb : (q == x) = true := by rw [beq_iff_eq]; exact hqx
        clear hqx
        go_wp2
        go_ret
        exact ⟨ret_bool HT.out.symm, rfl⟩
      · have hb : (q == x) = false := by rw [beq_eq_false_iff_ne]; exact hqx
        have HN2 : Hid (∀ j, j < i + 1 → ls.getD j 0 ≠ x) := Lib.hid (fun j hj => by
          by_cases e : j = i
          · subst e; rw [← HQ.out]; exact hqx
          · exact HN.out j (by omega))
        clear hqx
        go_wp2
        go_round
        case rel => exact ⟨i + 1, by omega, by go_num, HN2⟩
        case measure => simp [intOf]; omega
    · obtain rfl : i = ls.length := by omega
      have HF := Lib.hid (hasZ_false HN.out)
      go_wp2
      go_ret
      exact ⟨ret_bool HF.out.symm, rfl⟩
theorem in_nat (ls : List Nat) (c : Nat) (A : Option Addr) (x : Int) (w : World) {ok : Nat → Prop} (h : Row .i64 w ok A ls) (hm : ls.length ≤ 1000000) :
    Calls Tryz.prog 23 #[.slice A ls.length c, .int .i64 x] w fun e w' => e = .returned (.bool (hasI ls x)) ∧ w = w' := by
  have hk := inZ_any (ls.map fun (x : Nat) => (x : Int)) c A x w h.z (by rw [List.length_map]; exact hm)
  rw [List.length_map, hasZ_nat] at hk
  exact hk
set_option maxHeartbeats 2000000 in
theorem rinZ_any (ls : List Int) (c : Nat) (A : Option Addr) (x : Int) (w : World) {ok : Nat → Prop} (h : RowZ w ok A ls) (hm : ls.length ≤ 1000000) :
    Calls Tryz.prog 16 #[.slice A ls.length c, .int .i64 x] w fun e w' => e = .returned (.bool (hasZ ls x)) ∧ w = w' := by
  have HR := Lib.hid h
  clear h
  go_enter Tryz.func16, Tryz.ntmps16
  go_wp2
  go_loop [5] (fun v => ∃ i : Nat, i ≤ ls.length ∧ v = .int .i64 i ∧ Hid (∀ j, j < i → ls.getD j 0 ≠ x)) (fun v => ls.length - (intOf v).toNat)
  case atStart => exact ⟨0, by omega, rfl, fun j hj => by omega⟩
  case round =>
    obtain ⟨i, hi, rfl, HN⟩ := hrel
    by_cases hlt : i < ls.length
    · have hlt' : (i : Int) < (ls.length : Int) := by omega
      obtain ⟨b, o, hA, _, hcell⟩ := HR.out.at_ (by omega)
      subst hA
      have hc := hcell i hlt
      clear hcell
      obtain ⟨q, hq⟩ : ∃ q, q = ls.getD i 0 := ⟨_, rfl⟩
      have HQ := Lib.hid hq
      rw [← hq] at hc
      clear hq
      by_cases hqx : q = x
      · have HT := Lib.hid (hasZ_true (x := x) hlt (by rw [← HQ.out]; exact hqx))
        have hb : (q == x) = true := by rw [beq_iff_eq]; exact hqx
        clear hqx
        go_wp2
        go_ret
        exact ⟨ret_bool HT.out.symm, rfl⟩
      · have hb : (q == x) = false := by rw [beq_eq_false_iff_ne]; exact hqx
        have HN2 : Hid (∀ j, j < i + 1 → ls.getD j 0 ≠ x) := Lib.hid (fun j hj => by
          by_cases e : j = i
          · subst e; rw [← HQ.out]; exact hqx
          · exact HN.out j (by omega))
        clear hqx
        go_wp2
        go_round
        case rel => exact ⟨i + 1, by omega, by go_num, HN2⟩
        case measure => simp [intOf]; omega
    · obtain rfl : i = ls.length := by omega
      have HF := Lib.hid (hasZ_false HN.out)
      go_wp2
      go_ret
      exact ⟨ret_bool HF.out.symm, rfl⟩
theorem rin_nat (ls : List Nat) (c : Nat) (A : Option Addr) (x : Int) (w : World) {ok : Nat → Prop} (h : Row .i64 w ok A ls) (hm : ls.length ≤ 1000000) :
    Calls Tryz.prog 16 #[.slice A ls.length c, .int .i64 x] w fun e w' => e = .returned (.bool (hasI ls x)) ∧ w = w' := by
  have hk := rinZ_any (ls.map fun (x : Nat) => (x : Int)) c A x w h.z (by rw [List.length_map]; exact hm)
  rw [List.length_map, hasZ_nat] at hk
  exact hk
end Go.Proofs.YtdbhboglccggdaaGreatDoor

set_option maxRecDepth 100000
set_option linter.unusedVariables false
set_option linter.unusedSimpArgs false
namespace Go.Proofs.YtdbhboglccggdaaGreatDoor
open Go.RowKit Go.Shelf
theorem Soft.mono {N M : Nat} {x y : World} (hN : N ≤ M) (h : Soft M x y) : Soft N x y :=
  ⟨h.os, h.tape, h.output, h.size, fun k hk ht => h.block k hk (ht.imp (fun h => by omega) id)⟩
theorem below1 (w : World) (o : Obj) : Below w.heap.size w (w.alloc o) := (Below.refl _ _).alloc (Nat.le_refl _) o
theorem is_any (node : Int) (w : World) : Calls Tryz.prog 39 #[.int .i64 node] w fun e y => e = .returned (.func (.func 57) #[] #[.pointer (some ⟨w.heap.size, 0, none⟩)]) ∧ y = w.alloc (.cells #[.int .i64 node] 3) := by
  go_enter Tryz.func39, Tryz.ntmps39
  go_wp2
  go_ret
  exact ⟨rfl, rfl⟩
theorem is1_any (n : Nat) (node : Int) (b : Nat) (w : World) (h : w.heap[b]? = some (.cells #[.int .i64 node] 3 (0, 0))) : Calls Tryz.prog 57 #[.int .i64 ((n : Nat) : Int), .pointer (some ⟨b, 0, none⟩)] w fun e y => e = .returned (.bool (decide (((n : Nat) : Int) = node))) ∧ w = y := by
  have hc : w.cell? ⟨b, 0, none⟩ = some (.int .i64 node) := by rw [cell_of_row _ _ _ _ _ _ h]; rfl
  have HQ : Hid (decide (((n : Nat) : Int) = node) = (((n : Nat) : Int) == node)) := Lib.hid rfl
  clear h
  go_enter Tryz.func57, Tryz.ntmps57
  go_wp2
  go_ret
  exact ⟨by rw [HQ.out]; rfl, rfl⟩
/-- What is kept of a world where a ring answers, besides a block that a function value holds. -/
theorem asks_is {ok G : Nat → Prop} {Φ : World → Prop} (b : Nat) (node : Int) (hput : ∀ x y b cur, ok b → x.heap[b]? = some (.cells cur 3 (0, 0)) → x.grownBy y (some b) → Φ x → Φ y) (htag : ∀ x b, Φ x → G b → ∃ cs fr, x.heap[b]? = some (.cells cs 71 fr)) (hb : ¬ ok b) :
    Asks ok G (fun x => Φ x ∧ x.heap[b]? = some (.cells #[.int .i64 node] 3 (0, 0))) 57 #[.pointer (some ⟨b, 0, none⟩)] (fun n => decide (((n : Nat) : Int) = node)) where
  enters := enters_of Tryz.func57 (by kernel_rfl) rfl
  put x y b' cur ho hh hg h := ⟨hput x y b' cur ho hh hg h.1, (hg.block b (Array.getElem?_eq_some_iff.1 h.2).1 (fun e => by injection e with e; subst e; exact hb ho)).trans h.2⟩
  call n x h := (is1_any n node b x h.2).mono (by
    rintro e y ⟨rfl, rfl⟩
    exact ⟨rfl, Only.refl _ _, h⟩)
  tag x b h := htag x b h.1
theorem any_has (ls : List Nat) (node : Int) : (ls.any fun n => decide (((n : Nat) : Int) = node)) = hasI ls node := rfl
set_option maxHeartbeats 1000000 in
theorem up1_any (n : Nat) (A : Option Addr) (c : Nat) (us : List Int) (b : Nat) (w : World) {ok : Nat → Prop} (h : w.heap[b]? = some (.cells #[.slice A us.length c] 24 (0, 0))) (hr : RowZ w ok A us) (hm : us.length ≤ 1000000) :
    Calls Tryz.prog 33 #[.int .i64 ((n : Nat) : Int), .pointer (some ⟨b, 0, none⟩)] w fun e y => e = .returned (.bool (hasZ us (n : Int))) ∧ w = y := by
  have hc : w.cell? ⟨b, 0, none⟩ = some (.slice A us.length c) := by rw [cell_of_row _ _ _ _ _ _ h]; rfl
  have HC := Lib.hid (containsZ_any us c A (n : Int) w hr hm)
  clear h hr hm
  go_enter Tryz.func33, Tryz.ntmps33
  go_wp2_with fail
  refine HC.out.mono ?_
  rintro e y ⟨rfl, rfl⟩
  clear HC
  go_wp2_with fail
  go_ret
  exact ⟨rfl, rfl⟩
theorem asks_up {ok G up : Nat → Prop} {Φ : World → Prop} (b : Nat) (A : Option Addr) (c : Nat) (us : List Int) (hm : us.length ≤ 1000000) (hput : ∀ x y b cur, ok b → x.heap[b]? = some (.cells cur 3 (0, 0)) → x.grownBy y (some b) → Φ x → Φ y) (htag : ∀ x b, Φ x → G b → ∃ cs fr, x.heap[b]? = some (.cells cs 71 fr)) (hb : ¬ ok b) (hup : ∀ b, up b → ¬ ok b) :
    Asks ok G (fun x => Φ x ∧ x.heap[b]? = some (.cells #[.slice A us.length c] 24 (0, 0)) ∧ RowZ x up A us) 33 #[.pointer (some ⟨b, 0, none⟩)] (fun n => hasZ us (n : Int)) where
  enters := enters_of Tryz.func33 (by kernel_rfl) rfl
  put x y b' cur ho hh hg h := ⟨hput x y b' cur ho hh hg h.1, (hg.block b (Array.getElem?_eq_some_iff.1 h.2.1).1 (fun e => by injection e with e; subst e; exact hb ho)).trans h.2.1, h.2.2.keep fun k hk hl => hg.block k hl (fun e => by injection e with e; subst e; exact hup _ hk ho)⟩
  call n x h := (up1_any n A c us b x h.2.1 h.2.2 hm).mono (by
    rintro e y ⟨rfl, rfl⟩
    exact ⟨rfl, Only.refl _ _, h⟩)
  tag x b h := htag x b h.1
theorem Only.own {G : Nat → Prop} {w x y : World} (h : Only G w x) (k : Only (fun b => G b ∨ w.heap.size ≤ b) x y) : Only G w y :=
  ⟨k.os.trans h.os, k.tape.trans h.tape, k.output.trans h.output, Nat.le_trans h.size k.size, fun i hi hn => (k.block i (Nat.lt_of_lt_of_le hi h.size) (fun e => by
    rcases e with e | e
    · exact hn e
    · omega)).trans (h.block i hi hn)⟩
end Go.Proofs.YtdbhboglccggdaaGreatDoor
