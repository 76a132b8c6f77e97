/- Appending a slice of dots, whatever its capacity. -/
import Derived.Test.YtnpacjdgbmldlaaI1
namespace Go.Proofs.Ytnpacjdgbmldlaa
open Go.RowKit

theorem run_append_nonec {P : Program} {w : World} (base : Nat) (t ty e : TypeId) (i : TypeInfo) (size : Nat) (ht : P.underlying t = some (.slice e)) (hi : P.info? e = some i) (v : Value) (n : Nat) (xs : List Value) (hown : w.ownsRow base e size v n xs) (c : Nat) :
    (Builtin.append_ #[t, t] ty #[v, .slice none 0 c]).run P w = .ok v w := by
  rcases hown.2 with ⟨rfl, _⟩ | ⟨g, cap, cur, rfl, hbg, hg, hnc, hcm, hcs, htake⟩
  · simp [Builtin.append_, run_underlying ht, sizeOf, typeInfo, hi, Builtin.lenOf, Builtin.firstCells, loadCells, loadCellsFrom]
  · simp [Builtin.append_, run_underlying ht, sizeOf, typeInfo, hi, Builtin.lenOf, Builtin.firstCells, loadCells, loadCellsFrom, hnc, storeCells]
theorem run_append_dotsc {P : Program} {w : World} (t ty e : TypeId) (base : Nat) (i : TypeInfo) (z : Value) (ht : P.underlying t = some (.slice e)) (hi : P.info? e = some i) (hz : i.zero = some z) (hsz : i.size = 2) (hzs : z.cells.size = 2)
    (v : Value) (n : Nat) (xs : List Value) (hown : w.ownsRow base e 2 v n xs) (ys : List Dt) (A : Option Addr) (c : Nat) (ok : Nat → Prop) (hD : Dots w ok A ys) (h63 : n + ys.length ≤ maxLen) (hbytes : (n + ys.length) * i.bytes ≤ 140737488355328) (hbase : base ≤ w.heap.size) :
    ∃ v' w', (Builtin.append_ #[t, t] ty #[v, .slice A ys.length c]).run P w = .ok v' w' ∧ w'.ownsRow base e 2 v' (n + ys.length) (xs ++ dots2 ys) ∧ w.grownBy w' v.ownBlock ∧ (v = .slice none 0 0 → ys.length = 0 → v' = .slice none 0 0) := by
  cases A with
  | none =>
    have h0 : ys = [] := by
      cases ys with
      | nil => rfl
      | cons d l =>
        obtain ⟨_, _, e, _⟩ := hD.at_ (by simp)
        cases e
    subst h0
    exact ⟨v, w, run_append_nonec base t ty e i 2 ht hi v n xs hown c, by simpa [dots2] using hown, ⟨rfl, rfl, rfl, Nat.le_refl _, fun _ _ _ => rfl⟩, fun h _ => h⟩
  | some ad =>
    obtain ⟨v', w', h1, h2, h3, h4⟩ := run_append_own (P := P) w base t ty e i z 2 i.bytes ht hi hz hsz rfl hzs (by decide) v n xs hown ad ys.length c (dots2 ys) (dots2_len ys) (fun j u hu => by
      have hj : j < ys.length * 2 := by
        have := (List.getElem?_eq_some_iff.1 hu).1
        rwa [dots2_len] at this
      obtain ⟨b, o', e, _, h2⟩ := hD.at_ (by omega)
      cases e
      have h3 := h2 (j / 2) (by omega)
      have hd := dots2_get ys (j / 2) (by omega)
      rw [Addr.add_mid]
      rcases (show j = j / 2 * 2 ∨ j = j / 2 * 2 + 1 by omega) with e | e
      · rw [e, hd.1] at hu
        have h4 := h3 0 u hu
        rwa [Nat.add_zero, ← e] at h4
      · rw [e, hd.2] at hu
        have h4 := h3 1 u hu
        rwa [Nat.add_assoc, ← e] at h4) (fun y hy => by
      unfold dots2 at hy
      obtain ⟨d, _, hy⟩ := List.mem_flatMap.1 hy
      simp only [dcells, List.mem_cons, List.mem_nil_iff, or_false] at hy
      rcases hy with rfl | rfl <;> rfl) h63 hbytes hbase
    exact ⟨v', w', h1, h2, h3, fun a b => h4.2 ⟨a, b⟩⟩
theorem exec_append {P : Program} {ev : Operand → Value} {o : Oper} {w w' : World} {v u v' : Value} (t : TypeId) (s x : Operand) (ho : o.op = .call { callee := .builtin .append, args := #[s, x], argTypes := #[t, t] }) (hs : ev s = v) (hx : ev x = u)
    (hr : (Builtin.append_ #[t, t] o.type #[v, u]).run P w = .ok v' w') : (execOp ev o).run P w = .ok (.value v') w' := by
  unfold execOp
  simp only [ho, resolve, invoke, builtin, Sem.run_bind, Sem.run_pure, Result.andThen_ok, List.map_toArray, List.map_cons, List.map_nil, hs, hx, hr]
theorem wpList_append_dotsc {P : Program} {w : World} {ops : Array Oper} {rest : List Oper} {o : Oper} {a : Act} {Q : Exit → Act → World → Prop} (hgd : o.guard = none) (s x : Operand) (t : TypeId)
    (ho : o.op = .call { callee := .builtin .append, args := #[s, x], argTypes := #[t, t] }) (base : Nat) (e : TypeId) (z : Value) (bytes : Nat) (ht : P.underlying t = some (.slice e))
    (hinfo : (P.info? e).map (fun i => (i.zero, i.size, i.bytes)) = some (some z, 2, bytes)) (hzs : z.cells.size = 2)
    (v : Value) (n : Nat) (xs : List Value) (hs : a.eval s = v) (hown : w.ownsRow base e 2 v n xs) (ys : List Dt) (A : Option Addr) (c : Nat) (ok : Nat → Prop)
    (hx : a.eval x = .slice A ys.length c) (hD : Dots w ok A ys) (h63 : n + ys.length ≤ maxLen) (hbytes : (n + ys.length) * bytes ≤ 140737488355328) (hbase : base ≤ w.heap.size)
    (h : ∀ v' w', Hid (w'.ownsRow base e 2 v' (n + ys.length) (xs ++ dots2 ys)) → Hid (Below base w w') → wpList P ops Q rest (a.put o.dst v') w') : wpList P ops Q (o :: rest) a w := by
  obtain ⟨i, hi, hz, hsz, hby⟩ := info_parts hinfo
  subst hby
  obtain ⟨v', w', h1, h2, h3, _⟩ := run_append_dotsc t o.type e base i z ht hi hz hsz hzs v n xs hown ys A c ok hD h63 hbytes hbase
  refine wpList_plain hgd fun K hK => ?_
  unfold Oper.wp
  rw [exec_append t s x ho hs hx h1]
  exact hK _ _ (h v' w' h2 ((Below.refl base w).grown h3 hbase fun k hk => (hown.lt k hk).1))
end Go.Proofs.Ytnpacjdgbmldlaa
