/- Rows of numbers of one's own, that may be written. What a call leaves as it was. -/
import Derived.Test.YtdbhboglccggdaaGreatDoorR1
import Derived.Lib.SliceRun
import Derived.Test.YtdbhboglccggdaaGreatDoorTabs
set_option maxRecDepth 100000
set_option linter.unusedVariables false
set_option linter.unusedSimpArgs false
namespace Go.Proofs.YtdbhboglccggdaaGreatDoor
open Go.RowKit
/-- A row of numbers, from the beginning of a block on that is not shared. -/
structure Mine (x : World) (ok : Nat → Prop) (A : Option Addr) (c : Nat) (ls : List Nat) : Prop where
  le : ls.length ≤ c
  top : c ≤ maxLen
  no : A = none → c = 0
  at_ : 0 < ls.length → ∃ b cur, A = some ⟨b, 0, none⟩ ∧ ok b ∧ x.heap[b]? = some (.cells cur 3 (0, 0)) ∧ c ≤ cur.size ∧ cur.toList.take ls.length = vals .i64 ls
theorem take_get {cur : Array Value} {ls : List Nat} (h : cur.toList.take ls.length = vals .i64 ls) {j : Nat} (hj : j < ls.length) : cur[j]? = some (.int .i64 ((ls.getD j 0 : Nat) : Int)) := by
  have h3 : (cur.toList.take ls.length)[j]? = some (.int .i64 ((ls.getD j 0 : Nat) : Int)) := by
    rw [h, vals, List.getElem?_map, List.getElem?_eq_getElem hj, List.getD_eq_getElem?_getD, List.getElem?_eq_getElem hj]
    rfl
  rw [List.getElem?_take, if_pos hj] at h3
  simpa using h3
theorem get_take {cur : Array Value} {ls : List Nat} (h : ∀ j, j < ls.length → cur[j]? = some (.int .i64 ((ls.getD j 0 : Nat) : Int))) : cur.toList.take ls.length = vals .i64 ls := by
  apply List.ext_getElem?
  intro j
  rw [List.getElem?_take]
  by_cases hj : j < ls.length
  · rw [if_pos hj, vals, List.getElem?_map, List.getElem?_eq_getElem hj]
    have := h j hj
    rw [List.getD_eq_getElem?_getD, List.getElem?_eq_getElem hj] at this
    simpa using this
  · rw [if_neg hj, vals, List.getElem?_map, List.getElem?_eq_none (by omega)]
    rfl
theorem Mine.row {x : World} {ok : Nat → Prop} {A : Option Addr} {c : Nat} {ls : List Nat} (h : Mine x ok A c ls) : Row .i64 x ok A ls :=
  ⟨fun hp => by
    obtain ⟨b, cur, e, hb, hh, _, ht⟩ := h.at_ hp
    refine ⟨b, 0, e, hb, fun j hj => ?_⟩
    rw [Nat.zero_add, cell_of_row _ _ _ _ _ _ hh]
    exact take_get ht hj⟩
theorem Mine.keep {x y : World} {ok : Nat → Prop} {A : Option Addr} {c : Nat} {ls : List Nat} (h : Mine x ok A c ls) (hk : ∀ b, ok b → b < x.heap.size → y.heap[b]? = x.heap[b]?) : Mine y ok A c ls :=
  ⟨h.le, h.top, h.no, fun hp => by
    obtain ⟨b, cur, e, hb, hh, h1, ht⟩ := h.at_ hp
    exact ⟨b, cur, e, hb, (hk b hb (Array.getElem?_eq_some_iff.1 hh).1).trans hh, h1, ht⟩⟩
theorem Mine.grow {x y : World} {ok : Nat → Prop} {A : Option Addr} {c : Nat} {ls : List Nat} (h : Mine x ok A c ls) (hg : Below x.heap.size x y) : Mine y ok A c ls := h.keep fun b _ hl => hg.block b hl
theorem Mine.weak {x : World} {P Q : Nat → Prop} {A : Option Addr} {c : Nat} {ls : List Nat} (h : Mine x P A c ls) (hq : ∀ b, P b → b < x.heap.size → Q b) : Mine x Q A c ls :=
  ⟨h.le, h.top, h.no, fun hp => by
    obtain ⟨b, cur, e, hb, hh, r⟩ := h.at_ hp
    exact ⟨b, cur, e, hq b hb (Array.getElem?_eq_some_iff.1 hh).1, hh, r⟩⟩
theorem Mine.nil (x : World) (ok : Nat → Prop) (A : Option Addr) (c : Nat) (h : c ≤ maxLen) (hn : A = none → c = 0) : Mine x ok A c [] := ⟨Nat.zero_le _, h, hn, fun h => by cases h⟩
theorem Mine.clip {x : World} {ok : Nat → Prop} {A : Option Addr} {c : Nat} {ls : List Nat} (h : Mine x ok A c ls) : Mine x ok A ls.length ls :=
  ⟨Nat.le_refl _, Nat.le_trans h.le h.top, (fun e => by have := h.no e; have := h.le; omega), fun hp => by
    obtain ⟨b, cur, e, hb, hh, h1, ht⟩ := h.at_ hp
    exact ⟨b, cur, e, hb, hh, Nat.le_trans h.le h1, ht⟩⟩
theorem own_mine {x : World} {B n : Nat} {A : Option Addr} {c : Nat} {ls : List Nat} (h : x.ownsRow B 3 1 (.slice A n c) n (vals .i64 ls)) : Mine x (fun b => B ≤ b ∧ b < x.heap.size) A c ls := by
  have hl := h.1
  rw [vals_length] at hl
  have hn : n = ls.length := by omega
  subst hn
  rcases h.2 with ⟨hv, h0⟩ | ⟨g, cap, cur, hv, hb, hg, hc, hm, hsz, ht⟩
  · simp only [Value.slice.injEq] at hv
    obtain ⟨rfl, _, rfl⟩ := hv
    exact ⟨by omega, Nat.zero_le _, (fun _ => rfl), fun hp => by omega⟩
  · simp only [Value.slice.injEq] at hv
    obtain ⟨rfl, _, rfl⟩ := hv
    rw [Nat.mul_one] at ht hsz
    exact ⟨hc, hm, (fun e => by cases e), fun _ => ⟨g, cur, rfl, ⟨hb, (Array.getElem?_eq_some_iff.1 hg).1⟩, hg, by omega, ht⟩⟩
end Go.Proofs.YtdbhboglccggdaaGreatDoor

set_option maxRecDepth 100000
set_option linter.unusedVariables false
set_option linter.unusedSimpArgs false
namespace Go.Proofs.YtdbhboglccggdaaGreatDoor
open Go.RowKit
/-- Of what there was only blocks of G have turned. -/
structure Only (G : Nat → Prop) (x y : World) : Prop where
  os : y.os = x.os
  tape : y.tape = x.tape
  output : y.output = x.output
  size : x.heap.size ≤ y.heap.size
  block : ∀ k, k < x.heap.size → ¬ G k → y.heap[k]? = x.heap[k]?
theorem Only.refl (G : Nat → Prop) (x : World) : Only G x x := ⟨rfl, rfl, rfl, Nat.le_refl _, fun _ _ _ => rfl⟩
theorem Only.trans {G : Nat → Prop} {x y z : World} (h : Only G x y) (k : Only G y z) : Only G x z :=
  ⟨k.os.trans h.os, k.tape.trans h.tape, k.output.trans h.output, Nat.le_trans h.size k.size, fun i hi hn => (k.block i (Nat.lt_of_lt_of_le hi h.size) hn).trans (h.block i hi hn)⟩
theorem Only.of_below {G : Nat → Prop} {x y : World} (h : Below x.heap.size x y) : Only G x y := ⟨h.os, h.tape, h.output, h.size, fun k hk _ => h.block k hk⟩
theorem Only.of_grown {G : Nat → Prop} {x y : World} {g : Nat} (h : x.grownBy y (some g)) (hg : G g) : Only G x y :=
  ⟨h.os, h.tape, h.output, h.size, fun k hk hn => h.block k hk (fun e => by injection e with e; subst e; exact hn hg)⟩
theorem Only.below {G : Nat → Prop} {B : Nat} {w x y : World} (hb : Below B w x) (h : Only G x y) (hB : B ≤ x.heap.size) (hG : ∀ k, G k → B ≤ k) : Below B w y :=
  hb.trans ⟨h.os, h.tape, h.output, h.size, fun k hk => h.block k (by omega) (fun hk2 => by have := hG k hk2; omega)⟩
theorem Row.kept {k : IntKind} {x y : World} {G ok : Nat → Prop} {A : Option Addr} {ls : List Nat} (h : Row k x ok A ls) (hg : Only G x y) (ho : ∀ b, ok b → ¬ G b) : Row k y ok A ls :=
  h.keep fun b j hb hl => World.cell?_of_block (w := x) (a := ⟨b, j, none⟩) (hg.block b hl (ho b hb))
/-- What was there below N, rings and points are as they were. -/
structure Soft (N : Nat) (x y : World) : Prop where
  os : y.os = x.os
  tape : y.tape = x.tape
  output : y.output = x.output
  size : x.heap.size ≤ y.heap.size
  block : ∀ k, k < x.heap.size → (k < N ∨ ∃ cs t fr, x.heap[k]? = some (.cells cs t fr) ∧ (t = 71 ∨ t = 101)) → y.heap[k]? = x.heap[k]?
theorem Soft.of_below {N : Nat} {x y : World} (h : Below x.heap.size x y) : Soft N x y := ⟨h.os, h.tape, h.output, h.size, fun k hk _ => h.block k hk⟩
theorem Tabs.soft {N : Nat} {x y : World} (h : Tabs x) (hb : Soft N x y) (hN : 2 ≤ N) : Tabs y :=
  h.of_blocks (hb.block 0 (by have := h.two; omega) (.inl (by omega))) (hb.block 1 (by have := h.two; omega) (.inl (by omega))) (Nat.le_trans h.two hb.size)
theorem Below.soft {N B : Nat} {w x y : World} (h : Below B w x) (hb : Soft N x y) (hN : B ≤ N) (hs : B ≤ x.heap.size) : Below B w y :=
  h.trans ⟨hb.os, hb.tape, hb.output, hb.size, fun k hk => hb.block k (by omega) (.inl (by omega))⟩
/-- The row of one's own, of numbers, keeps rings and points. -/
theorem own_soft {N base n : Nat} {e : TypeId} {v : Value} {l : List Value} {x y : World} (ho : x.ownsRow base e 1 v n l) (he : e ≠ 71) (he2 : e ≠ 101) (hN : N ≤ base) (hg : x.grownBy y v.ownBlock) : Soft N x y := by
  refine ⟨hg.os, hg.tape, hg.output, hg.size, fun k hk h => hg.block k hk (fun e1 => ?_)⟩
  rcases ho.2 with ⟨rfl, _⟩ | ⟨g, cap, cur, rfl, hb, hh, _⟩
  · cases e1
  · simp only [Value.ownBlock, Option.some.injEq] at e1
    subst e1
    rcases h with h | ⟨cs, t, fr, h, ht⟩
    · omega
    · rw [hh] at h
      injection h with h
      injection h with _ h
      subst h
      rcases ht with ht | ht
      · exact he ht
      · exact he2 ht
theorem own_only {base n : Nat} {e : TypeId} {v : Value} {l : List Value} {x y : World} {G : Nat → Prop} (ho : x.ownsRow base e 1 v n l) (he : e ≠ 71) (hk : Only G x y) (ht : ∀ b, G b → ∃ cs fr, x.heap[b]? = some (.cells cs 71 fr)) : y.ownsRow base e 1 v n l := by
  refine ⟨ho.1, ?_⟩
  rcases ho.2 with h | ⟨g, cap, cur, hv, hb, hh, hr⟩
  · exact .inl h
  · refine .inr ⟨g, cap, cur, hv, hb, (hk.block g (Array.getElem?_eq_some_iff.1 hh).1 (fun hg => ?_)).trans hh, hr⟩
    obtain ⟨cs, fr, h⟩ := ht g hg
    rw [hh] at h
    injection h with h
    injection h with _ h
    exact he h
theorem Only.of_own {base n : Nat} {e : TypeId} {v : Value} {l : List Value} {w x y : World} {G : Nat → Prop} (hw : Only G w x) (ho : x.ownsRow base e 1 v n l) (hb : w.heap.size ≤ base) (hg : x.grownBy y v.ownBlock) : Only G w y := by
  refine ⟨hg.os.trans hw.os, hg.tape.trans hw.tape, hg.output.trans hw.output, Nat.le_trans hw.size hg.size, fun k hk hn => (hg.block k (Nat.lt_of_lt_of_le hk hw.size) (fun e1 => ?_)).trans (hw.block k hk hn)⟩
  have := (ho.lt k e1.symm).1
  omega
end Go.Proofs.YtdbhboglccggdaaGreatDoor
