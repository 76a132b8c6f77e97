/- The law TallyOrder of layer 5: ints turned round; slices of ints that are the call's own. -/
import Derived.Test.YtbjndjmbbephbaaT16
import Derived.Laws.AppendOwnNone
namespace Go.Proofs.Ytbjndjmbbephbaa
open Go.RowKit

namespace Tal
/-- The ints that the law appends: from the last on back, turned by t. -/
def back (ls : List Int) (t k : Nat) : List Int := (List.range k).map fun j => ls.getD ((ls.length - 1 - j + t) % ls.length) 0
theorem back_len (ls : List Int) (t k : Nat) : (back ls t k).length = k := by simp [back]
theorem back_succ (ls : List Int) (t k : Nat) : back ls t (k + 1) = back ls t k ++ [ls.getD ((ls.length - 1 - k + t) % ls.length) 0] := by
  simp [back, List.range_succ]
theorem rot_eq (ls : List Int) {t : Nat} (ht : t < ls.length) : (List.range ls.length).map (fun j => ls.getD ((j + t) % ls.length) 0) = ls.drop t ++ ls.take t := by
  apply List.ext_getElem?
  intro j
  by_cases hj : j < ls.length
  · rw [List.getElem?_map, List.getElem?_range hj]
    by_cases h : j < ls.length - t
    · have hm : (j + t) % ls.length = j + t := Nat.mod_eq_of_lt (by omega)
      rw [List.getElem?_append_left (by rw [List.length_drop]; omega), List.getElem?_drop, Option.map_some, hm, List.getD_eq_getElem?_getD, Nat.add_comm j t, List.getElem?_eq_getElem (by omega)]
      rfl
    · have hm : (j + t) % ls.length = j + t - ls.length := by rw [Nat.mod_eq_sub_mod (by omega), Nat.mod_eq_of_lt (by omega)]
      rw [List.getElem?_append_right (by rw [List.length_drop]; omega), List.length_drop, List.getElem?_take, if_pos (by omega), Option.map_some, hm, List.getD_eq_getElem?_getD, show j - (ls.length - t) = j + t - ls.length by omega, List.getElem?_eq_getElem (by omega)]
      rfl
  · rw [List.getElem?_eq_none (by simp; omega), List.getElem?_eq_none (by simp; omega)]
theorem back_rev (ls : List Int) (t : Nat) : back ls t ls.length = ((List.range ls.length).map fun j => ls.getD ((j + t) % ls.length) 0).reverse := by
  apply List.ext_getElem?
  intro j
  by_cases hj : j < ls.length
  · rw [List.getElem?_reverse (by simpa using hj), back, List.getElem?_map, List.getElem?_range hj, List.getElem?_map, List.length_map, List.length_range, List.getElem?_range (by omega)]
    rfl
  · rw [List.getElem?_eq_none (by rw [back_len]; omega), List.getElem?_eq_none (by simp; omega)]
theorem back_perm (ls : List Int) {t : Nat} (ht : t < ls.length) : (back ls t ls.length).Perm ls := by
  rw [back_rev, rot_eq ls ht]
  refine (List.reverse_perm _).trans ?_
  refine List.perm_append_comm.trans ?_
  rw [List.take_append_drop]
theorem ups_perm {a b : List Int} (h : a.Perm b) : ups a = ups b := by
  unfold ups sum
  rw [(h.map up).sum_nat]
theorem downs_perm {a b : List Int} (h : a.Perm b) : downs a = downs b := by
  unfold downs sum
  rw [(h.map down).sum_nat]
theorem ups_cut (ls : List Int) (c : Nat) : add (ups (ls.take c)) (ups (ls.drop c)) = ups ls := by
  have h : (ls.map up).sum = ((ls.take c).map up).sum + ((ls.drop c).map up).sum := by rw [← List.sum_append, ← List.map_append, List.take_append_drop]
  unfold ups sum add
  rw [h]; omega
theorem downs_cut (ls : List Int) (c : Nat) : add (downs (ls.take c)) (downs (ls.drop c)) = downs ls := by
  have h : (ls.map down).sum = ((ls.take c).map down).sum + ((ls.drop c).map down).sum := by rw [← List.sum_append, ← List.map_append, List.take_append_drop]
  unfold downs sum add
  rw [h]; omega
end Tal
def ints64 (xs : List Int) : List Value := xs.map fun x => .int .i64 x
theorem info3 : (Try.prog.info? 3).map (fun i => (i.zero, i.size, i.bytes)) = some (some (.int .i64 0), 1, 8) := by kernel_rfl
theorem wpList_append_one {P : Program} {w : World} {ops : Array Oper} {rest : List Oper} {o : Oper} {a : Act} {Q : Exit → Act → World → Prop} (hgd : o.guard = none) (s x : Operand) (t : TypeId)
    (ho : o.op = .call { callee := .builtin .append, args := #[s, x], argTypes := #[t, t] }) (base : Nat) (e : TypeId) (z : Value) (bytes : Nat) (ht : P.underlying t = some (.slice e))
    (hinfo : (P.info? e).map (fun i => (i.zero, i.size, i.bytes)) = some (some z, 1, bytes)) (hzs : z.cells.size = 1)
    (v : Value) (n : Nat) (xs : List Value) (hs : a.eval s = v) (hown : w.ownsRow base e 1 v n xs) (u : Value) (te : TypeId)
    (hx : a.eval x = .slice (some ⟨w.heap.size, 0, none⟩) 1 1) (h1 : u.oneCell' = true) (h63 : n + 1 ≤ maxLen) (hbytes : (n + 1) * bytes ≤ 140737488355328) (hbase : base ≤ w.heap.size)
    (h : ∀ v' w', Hid (w'.ownsRow base e 1 v' (n + 1) (xs ++ [u])) → Hid (Below base w w') → wpList P ops Q rest (a.put o.dst v') w') : wpList P ops Q (o :: rest) a (w.alloc (.cells #[u] te)) := by
  obtain ⟨i, hi, hz, hsz, hby⟩ := info_parts hinfo
  refine wpList_append_own _ hgd s x t ho base e i z 1 bytes ht hi hz hsz hby hzs (by decide) v n xs hs (hown.alloc _) ⟨w.heap.size, 0, none⟩ 1 1 [u] hx rfl (cell_one_new _ _ _) (fun y hy => ?_) h63 hbytes (by rw [World.size_alloc]; omega) ?_
  · rw [List.mem_singleton] at hy
    subst hy
    exact h1
  · intro v' w' hown' hg _
    refine h v' w' hown' ((Below.alloc (Below.refl base w) hbase _).grown hg (by rw [World.size_alloc]; omega) fun k hk => ?_)
    exact ((hown.alloc (.cells #[u] te)).lt k hk).1
theorem own_ints {w : World} {base : Nat} {v : Value} {n : Nat} {zs : List Int} (h : w.ownsRow base 3 1 v n (ints64 zs)) (hz : ∀ z ∈ zs, -9223372036854775808 ≤ z ∧ z ≤ 9223372036854775807) :
    ∃ A c, v = .slice A zs.length c ∧ Ints w (· < w.heap.size) A zs := by
  have hl := h.1
  have hn : n = zs.length := by simpa [ints64] using hl.symm
  subst hn
  rcases h.2 with ⟨hv, h0⟩ | ⟨g, cap, cur, hv, _, hg, _, _, _, ht⟩
  · refine ⟨none, 0, by rw [hv, h0], hz, fun hp => by omega⟩
  · refine ⟨some ⟨g, 0, none⟩, cap, hv, hz, fun hp => ⟨g, 0, rfl, lt_of_row hg, fun j hj => ?_⟩⟩
    rw [Nat.zero_add, cell_of_row _ _ _ _ _ _ hg]
    have h2 : (cur.toList.take (zs.length * 1))[j]? = (ints64 zs)[j]? := by rw [ht]
    rw [List.getElem?_take, if_pos (by omega)] at h2
    rw [← Array.getElem?_toList, h2]
    simp [ints64, List.getD_eq_getElem?_getD, hj]
/-- The law's loop: w3 is the world at its beginning. -/
structure AInv (w3 : World) (ls : List Int) (t k : Nat) (v : Value) (x : World) : Prop where
  own : x.ownsRow w3.heap.size 3 1 v k (ints64 (Tal.back ls t k))
  below : Below w3.heap.size w3 x
theorem ints64_append (xs ys : List Int) : ints64 (xs ++ ys) = ints64 xs ++ ints64 ys := by simp [ints64]
theorem Ints.take {w : World} {ok : Nat → Prop} {A : Option Addr} {ls : List Int} (h : Ints w ok A ls) {c : Nat} (hc : c ≤ ls.length) : Ints w ok A (ls.take c) :=
  ⟨fun x hx => h.rng x (List.mem_of_mem_take hx), fun hp => by
    rw [List.length_take] at hp
    obtain ⟨b, o, e, hb, hcell⟩ := h.at_ (by omega)
    refine ⟨b, o, e, hb, fun j hj => ?_⟩
    rw [List.length_take] at hj
    rw [hcell j (by omega)]
    simp [List.getD_eq_getElem?_getD, List.getElem?_take, show j < c by omega]⟩
theorem Ints.drop {w : World} {ok : Nat → Prop} {A : Option Addr} {ls : List Int} (h : Ints w ok A ls) {c cap : Nat} (hc : c ≤ ls.length) (hcap : ls.length ≤ cap) : Ints w ok (cutA A cap c) (ls.drop c) :=
  ⟨fun x hx => h.rng x (List.mem_of_mem_drop hx), fun hp => by
    rw [List.length_drop] at hp
    obtain ⟨b, o, rfl, hb, hcell⟩ := h.at_ (by omega)
    refine ⟨b, o + c, ?_, hb, fun j hj => ?_⟩
    · rw [cutA, if_neg (by omega)]
      simp only [Option.map_some, Addr.add_mid]
    · rw [List.length_drop] at hj
      rw [show o + c + j = o + (c + j) by omega, hcell (c + j) (by omega)]
      simp [List.getD_eq_getElem?_getD, List.getElem?_drop]⟩
theorem run_sliceAt_to {P : Program} (t e : TypeId) (hu : P.underlying t = some (.slice e)) (hs : (P.info? e).map (·.size) = some 1) (A : Option Addr) (n c k : Nat) (hk : k ≤ c) (w : World) :
    (Instr.sliceAt t (.slice A n c) none (some (.int .i64 (k : Int))) none).run P w = .ok (.slice A k c) w := by
  have h : (Instr.slice t (.slice A n c) none (some (.int .i64 (k : Int))) none).run P w = .ok (.slice A k c) w := by
    cases hq : P.info? e with
    | none => simp [hq] at hs
    | some i =>
      have hi : i.size = 1 := by simpa [hq] using hs
      have ha : A.map (fun a : Addr => a.add 0) = A := by cases A <;> simp [Addr.add]
      simp [Instr.slice, Instr.sliceBounds, Instr.sliceBound, asIntOf, Sem.run_bind, run_underlying hu w, sizeOf, typeInfo, hq, hi, hk, Result.andThen, ha]
  simp only [Instr.sliceAt, Sem.run_bind, run_underlying hu w, Result.andThen, h]
theorem size3 : (Try.prog.info? 3).map (·.size) = some 1 := by kernel_rfl
end Go.Proofs.Ytbjndjmbbephbaa
