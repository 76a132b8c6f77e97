/- 'append' once more: the block that it hands back is the old one, or a new one. What a writer turns. -/
import Derived.Test.YthodogcpoihjpaaA3
namespace Go.Proofs.Ythodogcpoihjpaa
open Go.RowKit

/-- The same block, or a new one. -/
def SameOrNew (N : Nat) (b b' : Option Nat) : Prop := b' = b ∨ ∀ k, b' = some k → N ≤ k
theorem append_fresh {w : World} {base : Nat} {v : Value} {n : Nat} {ys : List Value} (hown : w.ownsRow base 5 1 v n ys) (ad : Addr) (m c : Nat) (news : List Value) (ty : TypeId) (hl : news.length = m * 1)
    (hnews : ∀ j u, news[j]? = some u → w.cell? (ad.add j) = some u) (h1 : ∀ u ∈ news, u.oneCell' = true) (h63 : n + m ≤ 1000000) (hbase : base ≤ w.heap.size) :
    ∃ v' w', (Builtin.append_ #[24, 24] ty #[v, .slice (some ad) m c]).run Try.prog w = .ok v' w' ∧ w'.ownsRow base 5 1 v' (n + m) (ys ++ news) ∧ w.grownBy w' v.ownBlock ∧ SameOrNew w.heap.size v.ownBlock v'.ownBlock := by
  obtain ⟨i, hi, hz, hsz, hby⟩ := info_parts info5
  have hm : n + m ≤ maxLen := by unfold maxLen; omega
  obtain ⟨v', w', hr, h2, h3, _⟩ := run_append_own (P := Try.prog) w base 24 ty 5 i (.int .u8 0) 1 1 Try.underlying24 hi hz hsz hby rfl (by decide) v n ys hown ad m c news hl hnews h1 hm (by omega) hbase
  refine ⟨v', w', hr, h2, h3, ?_⟩
  have again : w.ownsRow w.heap.size 5 1 v n ys → SameOrNew w.heap.size v.ownBlock v'.ownBlock := fun ho => by
    obtain ⟨u, x, hr', h2', _, _⟩ := run_append_own (P := Try.prog) w w.heap.size 24 ty 5 i (.int .u8 0) 1 1 Try.underlying24 hi hz hsz hby rfl (by decide) v n ys ho ad m c news hl hnews h1 hm (by omega) (Nat.le_refl _)
    rw [hr] at hr'
    injection hr' with e1 e2
    subst e1 e2
    exact .inr fun k hk => (h2'.lt k hk).1
  rcases hown.2 with ⟨rfl, rfl⟩ | ⟨g, cap, cur, rfl, hbg, hg, hnc, hcm, hcs, htake⟩
  · exact again ⟨hown.1, .inl ⟨rfl, rfl⟩⟩
  · by_cases hroom : n + m ≤ cap
    · have hr' := run_append_room (P := Try.prog) w 24 ty 5 i Try.underlying24 hi g n cap cur hg ad m c news (by rw [hsz]; exact hl) hnews h1 hroom (by rw [hl, hcs, hsz, ← Nat.add_mul]; exact Nat.mul_le_mul_right _ hroom)
      rw [hr] at hr'
      injection hr' with e1 e2
      subst e1
      exact .inl rfl
    · have holds : ∀ j u, ys[j]? = some u → w.cell? ((⟨g, 0, none⟩ : Addr).add j) = some u := hown.cells (g := g) rfl
      have hr' := run_append_grow (P := Try.prog) w 24 ty 5 i (.int .u8 0) Try.underlying24 hi hz ⟨g, 0, none⟩ n cap ys (by rw [hsz]; exact hown.1) holds ad m c news (by rw [hsz]; exact hl) hnews (by omega) (by omega) (growslice_fits (by omega) (by rw [hby]; omega))
      rw [hr] at hr'
      injection hr' with e1 e2
      subst e1
      exact .inr fun k hk => by
        have : w.heap.size = k := by simpa [Value.ownBlock] using hk
        omega

/-- Bytes appended to a slice that is the call's own; what turns is told. -/
theorem wpList_append_turn {w : World} {ops : Array Oper} {rest : List Oper} {o : Oper} {a : Act} {Q : Exit → Act → World → Prop} (hgd : o.guard = none) (s x : Operand)
    (ho : o.op = .call { callee := .builtin .append, args := #[s, x], argTypes := #[24, 24] }) (base : Nat)
    (v : Value) (n : Nat) (ys : List Nat) (hs : a.eval s = v) (hown : w.ownsRow base 5 1 v n (ints8 ys)) (A : Option Addr) (xs : List Nat) (c : Nat) (ok : Nat → Prop)
    (hx : a.eval x = .slice A xs.length c) (hb : Bytes w ok A xs) (hn : A = none → c = 0) (h63 : n + xs.length ≤ 1000000) (hbase : base ≤ w.heap.size)
    (h : ∀ v' w', Hid (w'.ownsRow base 5 1 v' (n + xs.length) (ints8 (ys ++ xs))) → Hid (w.grownBy w' v.ownBlock) → Hid (SameOrNew w.heap.size v.ownBlock v'.ownBlock) → wpList Try.prog ops Q rest (a.put o.dst v') w') : wpList Try.prog ops Q (o :: rest) a w := by
  cases A with
  | none =>
    have h0 : xs = [] := by
      cases xs with
      | nil => rfl
      | cons y ys =>
        obtain ⟨b, o, e, _⟩ := hb.at_ (by simp)
        cases e
    subst h0
    have hc := hn rfl
    subst hc
    obtain ⟨i, hi, _⟩ := info_parts info5
    exact wpList_append_own_none hgd s x 24 ho base 5 i 1 Try.underlying24 hi v n (ints8 ys) hs hown hx (h v w (show w.ownsRow _ _ _ _ _ _ by simpa using hown) (World.grownBy.refl _ _) (.inl rfl))
  | some ad =>
    have hcell : ∀ j u, (ints8 xs)[j]? = some u → w.cell? (ad.add j) = some u := fun j u hu => by
      have hj : j < xs.length := by
        have := (List.getElem?_eq_some_iff.1 hu).1
        rwa [ints8_length] at this
      exact bytes_cells hb (by omega) j u hu
    obtain ⟨v', w', hr, h2, h3, h4⟩ := append_fresh hown ad xs.length c (ints8 xs) o.type (by rw [ints8_length]; omega) hcell (ints8_one xs) h63 hbase
    refine wpList_plain hgd fun K hK => ?_
    unfold Oper.wp execOp
    simp only [ho, resolve, invoke, builtin, Sem.run_bind, Sem.run_pure, Result.andThen_ok, List.map_toArray, List.map_cons, List.map_nil, hs, hx, hr]
    exact hK _ _ (h v' w' (by rw [ints8_append]; exact h2) h3 h4)
theorem step_append_turn {w : World} {ops : Array Oper} {o : Oper} {a : Act} {K : Act → World → Prop} {Q : Exit → Act → World → Prop} {E : Prop} (hgd : o.guard = none) (s x : Operand)
    (ho : o.op = .call { callee := .builtin .append, args := #[s, x], argTypes := #[24, 24] }) (base : Nat)
    (v : Value) (n : Nat) (ys : List Nat) (hs : a.eval s = v) (hown : w.ownsRow base 5 1 v n (ints8 ys)) (A : Option Addr) (xs : List Nat) (c : Nat) (ok : Nat → Prop)
    (hx : a.eval x = .slice A xs.length c) (hb : Bytes w ok A xs) (hn : A = none → c = 0) (h63 : n + xs.length ≤ 1000000) (hbase : base ≤ w.heap.size)
    (h : ∀ v' w', Hid (w'.ownsRow base 5 1 v' (n + xs.length) (ints8 (ys ++ xs))) → Hid (w.grownBy w' v.ownBlock) → Hid (SameOrNew w.heap.size v.ownBlock v'.ownBlock) → K (a.put o.dst v') w') :
    if Region.wanted o (yielded ops a.tmps) = true then Oper.wp Try.prog o a w K Q else E := by
  have hw : Region.wanted o (yielded ops a.tmps) = true := by simp [Region.wanted, hgd]
  rw [if_pos hw]
  cases A with
  | none =>
    have h0 : xs = [] := by
      cases xs with
      | nil => rfl
      | cons y ys =>
        obtain ⟨b, o, e, _⟩ := hb.at_ (by simp)
        cases e
    subst h0
    have hc := hn rfl
    subst hc
    obtain ⟨i, hi, _⟩ := info_parts info5
    have hr := run_append_owned_none (P := Try.prog) (w := w) base 24 o.type 5 i 1 Try.underlying24 hi v n (ints8 ys) hown
    unfold Oper.wp execOp
    simp only [ho, resolve, invoke, builtin, Sem.run_bind, Sem.run_pure, Result.andThen_ok, List.map_toArray, List.map_cons, List.map_nil, hs, hx, List.length_nil, hr]
    exact h v w (show w.ownsRow _ _ _ _ _ _ by simpa using hown) (World.grownBy.refl _ _) (.inl rfl)
  | some ad =>
    have hcell : ∀ j u, (ints8 xs)[j]? = some u → w.cell? (ad.add j) = some u := fun j u hu => by
      have hj : j < xs.length := by
        have := (List.getElem?_eq_some_iff.1 hu).1
        rwa [ints8_length] at this
      exact bytes_cells hb (by omega) j u hu
    obtain ⟨v', w', hr, h2, h3, h4⟩ := append_fresh hown ad xs.length c (ints8 xs) o.type (by rw [ints8_length]; omega) hcell (ints8_one xs) h63 hbase
    unfold Oper.wp execOp
    simp only [ho, resolve, invoke, builtin, Sem.run_bind, Sem.run_pure, Result.andThen_ok, List.map_toArray, List.map_cons, List.map_nil, hs, hx, hr]
    exact h v' w' (by rw [ints8_append]; exact h2) h3 h4

/-- What a writer's call turns: its own block W, and the block b of its bytes, which may be another one (b') behind. -/
structure Turn (x y : World) (W : Nat) (b b' : Option Nat) : Prop where
  os : y.os = x.os
  tape : y.tape = x.tape
  output : y.output = x.output
  size : x.heap.size ≤ y.heap.size
  block : ∀ k, k < x.heap.size → k ≠ W → b ≠ some k → y.heap[k]? = x.heap[k]?
  new : SameOrNew x.heap.size b b'
theorem Turn.refl (x : World) (W : Nat) (b : Option Nat) : Turn x x W b b := ⟨rfl, rfl, rfl, Nat.le_refl _, fun _ _ _ _ => rfl, .inl rfl⟩
theorem Turn.trans {x y z : World} {W : Nat} {b b' b'' : Option Nat} (h : Turn x y W b b') (k : Turn y z W b' b'') : Turn x z W b b'' := by
  refine ⟨k.os.trans h.os, k.tape.trans h.tape, k.output.trans h.output, Nat.le_trans h.size k.size, fun j hj hW hb => ?_, ?_⟩
  · refine (k.block j (Nat.lt_of_lt_of_le hj h.size) hW ?_).trans (h.block j hj hW hb)
    rcases h.new with e | e
    · rw [e]; exact hb
    · exact fun e' => by have := e j e'; omega
  · rcases k.new with e | e
    · rw [e]; exact h.new
    · exact .inr fun j hj => Nat.le_trans h.size (e j hj)
theorem Turn.below {x y : World} {W B : Nat} {b b' : Option Nat} (h : Turn x y W b b') (hW : B ≤ W) (hb : ∀ k, b = some k → B ≤ k) (hB : B ≤ x.heap.size) : Below B x y :=
  ⟨h.os, h.tape, h.output, h.size, fun k hk => h.block k (by omega) (by omega) (fun e => by have := hb k e; omega)⟩
theorem Turn.of_below {x y : World} {W : Nat} {b : Option Nat} (h : Below x.heap.size x y) : Turn x y W b b := ⟨h.os, h.tape, h.output, h.size, fun k hk _ _ => h.block k hk, .inl rfl⟩
/-- A writer: block W holds the slice v, which is of the bytes xs. -/
structure WAt (x : World) (base W : Nat) (v : Value) (xs : List Nat) : Prop where
  row : x.heap[W]? = some (.cells #[v] 26 (0, 0))
  own : x.ownsRow base 5 1 v xs.length (ints8 xs)
  le : base ≤ W
theorem WAt.ne {x : World} {base W : Nat} {v : Value} {xs : List Nat} (h : WAt x base W v xs) : v.ownBlock ≠ some W := fun e => by
  rcases h.own.2 with ⟨rfl, _⟩ | ⟨g, cap, cur, rfl, _, hg, _⟩
  · cases e
  · have : g = W := by simpa [Value.ownBlock] using e
    subst this
    have := h.row
    rw [hg] at this
    injection this with this
    injection this with _ this
    exact absurd this (by decide)
theorem WAt.lt {x : World} {base W : Nat} {v : Value} {xs : List Nat} (h : WAt x base W v xs) : W < x.heap.size := (Array.getElem?_eq_some_iff.1 h.row).1
theorem WAt.blk {x : World} {base W : Nat} {v : Value} {xs : List Nat} (h : WAt x base W v xs) : ∀ k, v.ownBlock = some k → base ≤ k := fun k hk => (h.own.lt k hk).1
theorem WAt.base_le {x : World} {base W : Nat} {v : Value} {xs : List Nat} (h : WAt x base W v xs) : base ≤ x.heap.size := Nat.le_trans h.le (Nat.le_of_lt h.lt)
theorem WAt.below {x y : World} {base W : Nat} {v : Value} {xs : List Nat} (h : WAt x base W v xs) (hb : Below x.heap.size x y) : WAt y base W v xs :=
  ⟨(hb.block W h.lt).trans h.row, own_keep h.own fun k _ hk => hb.block k hk, h.le⟩
/-- Behind the append, the new slice is stored. -/
theorem WAt.next {x y : World} {base W : Nat} {v v' : Value} {xs ys : List Nat} (h : WAt x base W v xs) (ho : y.ownsRow base 5 1 v' (xs.length + ys.length) (ints8 (xs ++ ys))) (hg : x.grownBy y v.ownBlock) (hn : SameOrNew x.heap.size v.ownBlock v'.ownBlock) :
    WAt (y.setCell ⟨W, 0, none⟩ v') base W v' (xs ++ ys) ∧ Turn x (y.setCell ⟨W, 0, none⟩ v') W v.ownBlock v'.ownBlock := by
  have hy : y.heap[W]? = some (.cells #[v] 26 (0, 0)) := (hg.block W h.lt (fun e => h.ne e.symm)).trans h.row
  have hlt : W < y.heap.size := Nat.lt_of_lt_of_le h.lt hg.size
  have hother : ∀ k, k ≠ W → (y.setCell ⟨W, 0, none⟩ v').heap[k]? = y.heap[k]? := fun k hk => Below.heap_setCell y ⟨W, 0, none⟩ v' k hk
  have hrow : (y.setCell ⟨W, 0, none⟩ v').heap[W]? = some (.cells #[v'] 26 (0, 0)) := by
    simp [World.setCell, Array.getElem?_modify, hy]
  have hnew : v'.ownBlock ≠ some W := by
    rcases hn with e | e
    · rw [e]; exact h.ne
    · exact fun e' => by have := e W e'; have := h.lt; omega
  refine ⟨⟨hrow, ?_, h.le⟩, ⟨hg.os, hg.tape, hg.output, by simpa [World.setCell] using hg.size, fun k hk hW hb => (hother k hW).trans (hg.block k hk (fun e => hb e.symm)), hn⟩⟩
  rw [List.length_append]
  exact ho.kept (only_setCell (only_refl y (some W)) (p := ⟨W, 0, none⟩) (.inl rfl) v') (.inr hnew)
theorem WAt.cell {x : World} {base W : Nat} {v : Value} {xs : List Nat} (h : WAt x base W v xs) : x.cell? ⟨W, 0, none⟩ = some v := by rw [cell_of_row _ _ _ _ _ _ h.row]; rfl
theorem WAt.frozen {x : World} {base W : Nat} {v : Value} {xs : List Nat} (h : WAt x base W v xs) : x.frozen? ⟨W, 0, none⟩ = false := by
  have hr : x.rowIs W 26 1 (fun _ => v) := ⟨_, h.row, rfl, fun i hi => by
    match i, hi with
    | 0, _ => rfl⟩
  exact hr.frozen 0
end Go.Proofs.Ythodogcpoihjpaa
