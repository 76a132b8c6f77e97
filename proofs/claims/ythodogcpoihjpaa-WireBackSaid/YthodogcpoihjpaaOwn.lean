/- Slices of bytes that are the call's own: appended to, read, kept. -/
import Derived.Test.YthodogcpoihjpaaNum
import Derived.Laws.AppendOwnNone
namespace Go.Proofs.Ythodogcpoihjpaa
open Go.RowKit
def ints8 (xs : List Nat) : List Value := xs.map fun x => .int .u8 ((x : Nat) : Int)
theorem info5 : (Try.prog.info? 5).map (fun i => (i.zero, i.size, i.bytes)) = some (some (.int .u8 0), 1, 1) := by kernel_rfl
theorem ints8_length (xs : List Nat) : (ints8 xs).length = xs.length := by simp [ints8]
theorem ints8_append (xs ys : List Nat) : ints8 (xs ++ ys) = ints8 xs ++ ints8 ys := by simp [ints8]
theorem owns_empty (w : World) : (w.alloc (.cells #[] 5)).ownsRow w.heap.size 5 1 (.slice (some ⟨w.heap.size, 0, none⟩) 0 0) 0 [] :=
  ⟨rfl, .inr ⟨w.heap.size, 0, #[], rfl, Nat.le_refl _, heap_alloc_new _ _, Nat.le_refl _, Nat.zero_le _, rfl, rfl⟩⟩
theorem wpList_append_one {P : Program} {w : World} {ops : Array Oper} {rest : List Oper} {o : Oper} {a : Act} {Q : Exit → Act → World → Prop} (hgd : o.guard = none) (s x : Operand) (t : TypeId)
    (ho : o.op = .call { callee := .builtin .append, args := #[s, x], argTypes := #[t, t] }) (base : Nat) (e : TypeId) (z : Value) (bytes : Nat) (ht : P.underlying t = some (.slice e))
    (hinfo : (P.info? e).map (fun i => (i.zero, i.size, i.bytes)) = some (some z, 1, bytes)) (hzs : z.cells.size = 1)
    (v : Value) (n : Nat) (xs : List Value) (hs : a.eval s = v) (hown : w.ownsRow base e 1 v n xs) (u : Value) (te : TypeId)
    (hx : a.eval x = .slice (some ⟨w.heap.size, 0, none⟩) 1 1) (h1 : u.oneCell' = true) (h63 : n + 1 ≤ maxLen) (hbytes : (n + 1) * bytes ≤ 140737488355328) (hbase : base ≤ w.heap.size)
    (h : ∀ v' w', Hid (w'.ownsRow base e 1 v' (n + 1) (xs ++ [u])) → Hid (Below base w w') → wpList P ops Q rest (a.put o.dst v') w') : wpList P ops Q (o :: rest) a (w.alloc (.cells #[u] te)) := by
  obtain ⟨i, hi, hz, hsz, hby⟩ := info_parts hinfo
  refine wpList_append_own _ hgd s x t ho base e i z 1 bytes ht hi hz hsz hby hzs (by decide) v n xs hs (hown.alloc _) ⟨w.heap.size, 0, none⟩ 1 1 [u] hx rfl (cell_one_new _ _ _) (fun y hy => ?_) h63 hbytes (by rw [World.size_alloc]; omega) ?_
  · rw [List.mem_singleton] at hy
    subst hy
    exact h1
  · intro v' w' hown' hg _
    refine h v' w' hown' ((Below.alloc (Below.refl base w) hbase _).grown hg (by rw [World.size_alloc]; omega) fun k hk => ?_)
    exact ((hown.alloc (.cells #[u] te)).lt k hk).1

theorem wpList_append_bytes {w : World} {ops : Array Oper} {rest : List Oper} {o : Oper} {a : Act} {Q : Exit → Act → World → Prop} (hgd : o.guard = none) (s x : Operand)
    (ho : o.op = .call { callee := .builtin .append, args := #[s, x], argTypes := #[24, 24] }) (base : Nat)
    (v : Value) (n : Nat) (ys : List Nat) (hs : a.eval s = v) (hown : w.ownsRow base 5 1 v n (ints8 ys)) (A : Option Addr) (xs : List Nat) (c : Nat) (ok : Nat → Prop)
    (hx : a.eval x = .slice A xs.length c) (hb : Bytes w ok A xs) (hn : A = none → c = 0) (h63 : n + xs.length ≤ 1000000) (hbase : base ≤ w.heap.size)
    (h : ∀ v' w', Hid (w'.ownsRow base 5 1 v' (n + xs.length) (ints8 (ys ++ xs))) → Hid (Below base w w') → wpList Try.prog ops Q rest (a.put o.dst v') w') : wpList Try.prog ops Q (o :: rest) a w := by
  obtain ⟨i, hi, hz, hsz, hby⟩ := info_parts info5
  cases A with
  | none =>
    have h0 : xs = [] := by
      cases xs with
      | nil => rfl
      | cons y ys =>
        obtain ⟨b, o, e, _⟩ := hb.at_ (by simp)
        cases e
    subst h0
    have hc := hn rfl
    subst hc
    exact wpList_append_own_none hgd s x 24 ho base 5 i 1 Try.underlying24 hi v n (ints8 ys) hs hown hx (h v w (show w.ownsRow _ _ _ _ _ _ by simpa using hown) (Below.refl _ _))
  | some ad =>
    refine wpList_append_own _ hgd s x 24 ho base 5 i (.int .u8 0) 1 1 Try.underlying24 hi hz hsz hby rfl (by decide) v n (ints8 ys) hs hown ad xs.length c (ints8 xs) hx (by rw [ints8_length]; omega) (fun j u hu => ?_) (fun u hu => ?_) (by unfold maxLen; omega) (by omega) hbase ?_
    · have hj : j < xs.length := by
        have := (List.getElem?_eq_some_iff.1 hu).1
        rwa [ints8_length] at this
      obtain ⟨b, o, e, _, hc⟩ := hb.at_ (by omega)
      injection e with e
      subst e
      rw [Go.WideShapes.add_plain, hc j hj]
      simp only [ints8, List.getElem?_map, List.getElem?_eq_getElem hj, Option.map_some] at hu
      rw [← hu]
      simp [List.getD_eq_getElem?_getD, hj]
    · simp only [ints8, List.mem_map] at hu
      obtain ⟨y, _, rfl⟩ := hu
      rfl
    · intro v' w' h1 h2 _
      refine h v' w' (by rw [ints8_append]; exact h1) ((Below.refl base w).grown h2 hbase fun k hk => ?_)
      exact (hown.lt k hk).1
theorem wpList_append_byte1 {w : World} {ops : Array Oper} {rest : List Oper} {o : Oper} {a : Act} {Q : Exit → Act → World → Prop} (hgd : o.guard = none) (s x : Operand)
    (ho : o.op = .call { callee := .builtin .append, args := #[s, x], argTypes := #[24, 24] }) (base : Nat)
    (v : Value) (n : Nat) (ys : List Nat) (hs : a.eval s = v) (hown : w.ownsRow base 5 1 v n (ints8 ys)) (y : Nat) (u : Int)
    (hx : a.eval x = .slice (some ⟨w.heap.size, 0, none⟩) 1 1) (hy : u = (y : Int)) (h63 : n ≤ 1000000) (hbase : base ≤ w.heap.size)
    (h : ∀ v' w', Hid (w'.ownsRow base 5 1 v' (n + 1) (ints8 (ys ++ [y]))) → Hid (Below base w w') → wpList Try.prog ops Q rest (a.put o.dst v') w') : wpList Try.prog ops Q (o :: rest) a (w.alloc (.cells #[.int .u8 u] 5)) := by
  subst hy
  refine wpList_append_one hgd s x 24 ho base 5 (.int .u8 0) 1 Try.underlying24 info5 rfl v n (ints8 ys) hs hown (.int .u8 (y : Int)) 5 hx rfl (by unfold maxLen; omega) (by omega) hbase fun v' w' h1 h2 => h v' w' ?_ h2
  rw [ints8_append]
  exact h1
theorem owns_slice {w : World} {base : Nat} {e : TypeId} {v : Value} {n : Nat} {l : List Value} (h : w.ownsRow base e 1 v n l) (hn : 0 < n) : ∃ g cap, v = .slice (some ⟨g, 0, none⟩) n cap := by
  rcases h.2 with ⟨_, h0⟩ | ⟨g, cap, _, hv, _⟩
  · omega
  · exact ⟨g, cap, hv⟩
theorem own_cell {w : World} {base : Nat} {g N cap : Nat} {P : List Nat} (h : w.ownsRow base 5 1 (.slice (some ⟨g, 0, none⟩) N cap) N (ints8 P)) {i : Nat} (hi : i < P.length) : w.cell? ⟨g, i, none⟩ = some (.int .u8 ((P.getD i 0 : Nat) : Int)) := by
  have hl := h.1
  rw [ints8_length] at hl
  rcases h.2 with ⟨hv, _⟩ | ⟨g', cap', cur, hv, _, hg, _, _, _, ht⟩
  · cases hv
  · injection hv with hv _ _
    injection hv with hv
    injection hv with hv
    subst hv
    have hi' : i < N * 1 := by omega
    have h1 : cur[i]? = some (.int .u8 ((P.getD i 0 : Nat) : Int)) := by
      have h2 : (cur.toList.take (N * 1))[i]? = (ints8 P)[i]? := by rw [ht]
      rw [List.getElem?_take, if_pos hi'] at h2
      rw [← Array.getElem?_toList, h2]
      simp [ints8, List.getD_eq_getElem?_getD, hi]
    rw [cell_of_row _ _ _ _ _ _ hg, h1]
theorem own_keep {a b : World} {base : Nat} {e : TypeId} {v : Value} {n : Nat} {l : List Value} (h : a.ownsRow base e 1 v n l) (hk : ∀ k, base ≤ k → k < a.heap.size → b.heap[k]? = a.heap[k]?) : b.ownsRow base e 1 v n l := by
  refine ⟨h.1, ?_⟩
  rcases h.2 with h0 | ⟨g, cap, cur, hv, hb, hg, hr⟩
  · exact .inl h0
  · refine .inr ⟨g, cap, cur, hv, hb, ?_, hr⟩
    have hlt : g < a.heap.size := by
      rcases Nat.lt_or_ge g a.heap.size with h1 | h1
      · exact h1
      · rw [Array.getElem?_eq_none h1] at hg
        cases hg
    rw [hk g hb hlt]
    exact hg
theorem own_bytes {w : World} {base : Nat} {v : Value} {n : Nat} {zs : List Nat} (h : w.ownsRow base 5 1 v n (ints8 zs)) (hz : ∀ z, z ∈ zs → z < 256) :
    ∃ A c, v = .slice A zs.length c ∧ (A = none → c = 0) ∧ Bytes w (· < w.heap.size) A zs := by
  have hl := h.1
  rw [ints8_length] at hl
  have hn : n = zs.length := by omega
  subst hn
  rcases h.2 with ⟨hv, h0⟩ | ⟨g, cap, cur, hv, _, hg, _⟩
  · refine ⟨none, 0, by rw [hv, h0], fun _ => rfl, hz, fun hp => by omega⟩
  · refine ⟨some ⟨g, 0, none⟩, cap, hv, (fun e => by cases e), hz, fun hp => ⟨g, 0, rfl, ?_, fun j hj => ?_⟩⟩
    · rcases Nat.lt_or_ge g w.heap.size with h1 | h1
      · exact h1
      · rw [Array.getElem?_eq_none h1] at hg
        cases hg
    · rw [Nat.zero_add]
      rw [hv] at h
      exact own_cell h hj
theorem run_sliceAt_to {P : Program} (t e : TypeId) (hu : P.underlying t = some (.slice e)) (hs : (P.info? e).map (·.size) = some 1) (A : Option Addr) (n c k : Nat) (hk : k ≤ c) (w : World) :
    (Instr.sliceAt t (.slice A n c) none (some (.int .i64 (k : Int))) none).run P w = .ok (.slice A k c) w := by
  have h : (Instr.slice t (.slice A n c) none (some (.int .i64 (k : Int))) none).run P w = .ok (.slice A k c) w := by
    cases hq : P.info? e with
    | none => simp [hq] at hs
    | some i =>
      have hi : i.size = 1 := by simpa [hq] using hs
      have ha : A.map (fun a : Addr => a.add 0) = A := by cases A <;> simp [Addr.add]
      simp [Instr.slice, Instr.sliceBounds, Instr.sliceBound, asIntOf, Sem.run_bind, run_underlying hu w, sizeOf, typeInfo, hq, hi, hk, Result.andThen, ha]
  simp only [Instr.sliceAt, Sem.run_bind, run_underlying hu w, Result.andThen, h]
end Go.Proofs.Ythodogcpoihjpaa
