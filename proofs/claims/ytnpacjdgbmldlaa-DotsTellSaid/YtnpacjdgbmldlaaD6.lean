/- Dots that are the call's own; the law's As. -/
import Derived.Test.YtnpacjdgbmldlaaD5
import Derived.Laws.AppendOwnNone
namespace Go.Proofs.Ytnpacjdgbmldlaa
open Go.RowKit
def dcells (d : Dt) : List Value := [.int .i64 d.1, .int .u64 (d.2 : Int)]
def dots2 (ls : List Dt) : List Value := ls.flatMap dcells
theorem dots2_append (xs ys : List Dt) : dots2 (xs ++ ys) = dots2 xs ++ dots2 ys := by simp [dots2]
theorem dots2_one (d : Dt) : dots2 [d] = dcells d := by simp [dots2]
theorem dots2_len : ∀ ls : List Dt, (dots2 ls).length = ls.length * 2
  | [] => rfl
  | d :: ls => by
    have h := dots2_len ls
    rw [show d :: ls = [d] ++ ls from rfl, dots2_append, List.length_append, dots2_one, h, List.length_append]
    simp [dcells]
    omega
theorem dots2_get : ∀ (ls : List Dt) (j : Nat), j < ls.length → (dots2 ls)[j * 2]? = some (.int .i64 (ls.getD j (0, 0)).1) ∧ (dots2 ls)[j * 2 + 1]? = some (.int .u64 ((ls.getD j (0, 0)).2 : Int))
  | [], _, h => by cases h
  | d :: ls, 0, _ => by simp [dots2, dcells]
  | d :: ls, j + 1, h => by
    have k := dots2_get ls j (by simpa using h)
    have e : dots2 (d :: ls) = dcells d ++ dots2 ls := by rw [show d :: ls = [d] ++ ls from rfl, dots2_append, dots2_one]
    rw [e, show (j + 1) * 2 = j * 2 + 2 by omega, show j * 2 + 2 + 1 = j * 2 + 1 + 2 by omega]
    simpa [dcells] using k
theorem own_dots {w : World} {base t : Nat} {v : Value} {n : Nat} {ls : List Dt} (h : w.ownsRow base t 2 v n (dots2 ls)) : ∃ A c, v = .slice A ls.length c ∧ Dots w (fun b => base ≤ b ∧ b < w.heap.size) A ls ∧ ls.length ≤ c ∧ (A = none → c = 0) := by
  have hl := h.1
  rw [dots2_len] at hl
  have hn : n = ls.length := by omega
  subst hn
  rcases h.2 with ⟨hv, h0⟩ | ⟨g, cap, cur, hv, hg, hr, hle, _, _, ht⟩
  · exact ⟨none, 0, by rw [hv, h0], ⟨fun hp => by omega⟩, by omega, fun _ => rfl⟩
  · refine ⟨some ⟨g, 0, none⟩, cap, hv, ⟨fun hp => ⟨g, 0, rfl, ⟨hg, lt_of_row hr⟩, fun j hj i v hi => ?_⟩⟩, hle, fun e => by cases e⟩
    have hi2 : i < 2 := by
      have := (Array.getElem?_eq_some_iff.1 hi).1
      simpa using this
    rw [Nat.zero_add, cell_of_row _ _ _ _ _ _ hr]
    have h2 : ∀ k, k < ls.length * 2 → cur[k]? = (dots2 ls)[k]? := fun k hk => by
      have h3 : (cur.toList.take (ls.length * 2))[k]? = (dots2 ls)[k]? := by rw [ht]
      rw [List.getElem?_take, if_pos hk] at h3
      rw [← Array.getElem?_toList, h3]
    rw [h2 _ (by omega)]
    have hd := dots2_get ls j hj
    rcases (show i = 0 ∨ i = 1 by omega) with rfl | rfl
    · rw [Nat.add_zero, hd.1]; exact hi
    · rw [hd.2]; exact hi
theorem own_keep {a b : World} {base s : Nat} {e : TypeId} {v : Value} {n : Nat} {l : List Value} (h : a.ownsRow base e s v n l) (hk : ∀ k, base ≤ k → k < a.heap.size → b.heap[k]? = a.heap[k]?) : b.ownsRow base e s v n l := by
  refine ⟨h.1, ?_⟩
  rcases h.2 with h0 | ⟨g, cap, cur, hv, hb, hg, hr⟩
  · exact .inl h0
  · exact .inr ⟨g, cap, cur, hv, hb, (hk g hb (lt_of_row hg)).trans hg, hr⟩
theorem wpList_append_dot {P : Program} {w : World} {ops : Array Oper} {rest : List Oper} {o : Oper} {a : Act} {Q : Exit → Act → World → Prop} (hgd : o.guard = none) (s x : Operand) (t : TypeId)
    (ho : o.op = .call { callee := .builtin .append, args := #[s, x], argTypes := #[t, t] }) (base : Nat) (e : TypeId) (z : Value) (bytes : Nat) (ht : P.underlying t = some (.slice e))
    (hinfo : (P.info? e).map (fun i => (i.zero, i.size, i.bytes)) = some (some z, 2, bytes)) (hzs : z.cells.size = 2)
    (v : Value) (n : Nat) (xs : List Value) (hs : a.eval s = v) (hown : w.ownsRow base e 2 v n xs) (d : Dt) (te : TypeId)
    (hx : a.eval x = .slice (some ⟨w.heap.size, 0, none⟩) 1 1) (h63 : n + 1 ≤ maxLen) (hbytes : (n + 1) * bytes ≤ 140737488355328) (hbase : base ≤ w.heap.size)
    (h : ∀ v' w', Hid (w'.ownsRow base e 2 v' (n + 1) (xs ++ dcells d)) → Hid (Below base w w') → wpList P ops Q rest (a.put o.dst v') w') : wpList P ops Q (o :: rest) a (w.alloc (.cells (dotC d) te)) := by
  obtain ⟨i, hi, hz, hsz, hby⟩ := info_parts hinfo
  refine wpList_append_own _ hgd s x t ho base e i z 2 bytes ht hi hz hsz hby hzs (by decide) v n xs hs (hown.alloc _) ⟨w.heap.size, 0, none⟩ 1 1 (dcells d) hx rfl (fun j u hu => ?_) (fun y hy => ?_) h63 hbytes (by rw [World.size_alloc]; omega) ?_
  · rw [Addr.add_mid, Nat.zero_add, cell_of_row _ _ _ _ _ _ (heap_alloc_new _ _)]
    match j, hu with
    | 0, hu => exact hu
    | 1, hu => exact hu
  · simp only [dcells, List.mem_cons, List.mem_nil_iff, or_false] at hy
    rcases hy with rfl | rfl <;> rfl
  · intro v' w' hown' hg _
    refine h v' w' hown' ((Below.alloc (Below.refl base w) hbase _).grown hg (by rw [World.size_alloc]; omega) fun k hk => ?_)
    exact ((hown.alloc (.cells (dotC d) te)).lt k hk).1
theorem info35 : (Try.prog.info? 35).map (fun i => (i.zero, i.size, i.bytes)) = some (some (.agg #[.int .i64 0, .int .u64 0]), 2, 16) := by kernel_rfl
theorem info25 : (Try.prog.info? 25).map (fun i => (i.zero, i.size, i.bytes)) = some (some (.agg #[.int .i64 0, .int .u64 0]), 2, 16) := by kernel_rfl

set_option maxRecDepth 100000 in
set_option maxHeartbeats 4000000 in
theorem lawAs_any (ls : List Dt) (c : Nat) (A : Option Addr) (w : World) (hv : Dots w (· < w.heap.size) A ls) (hm : ls.length ≤ 100000) :
    Calls Try.prog 19 #[.slice A ls.length c] w fun e w' => ∃ v, e = .returned v ∧ w'.ownsRow w.heap.size 35 2 v ls.length (dots2 ls) ∧ Below w.heap.size w w' := by
  have HV := Lib.hid hv
  have HM := Lib.hid hm
  clear hv hm
  go_enter Try.func19, Try.ntmps19
  go_wp2
  go_loopw [3, 4] (fun u v wr => ∃ j : Nat, j ≤ ls.length ∧ v = .int .i64 j ∧ Hid (wr.ownsRow w.heap.size 35 2 u j (dots2 (ls.take j))) ∧ Hid (Dots wr (· < w.heap.size) A ls) ∧ Hid (Below w.heap.size w wr)) (fun _ v _ => ls.length - (intOf v).toNat)
  case atStart => exact ⟨0, by omega, rfl, World.ownsRow_nil _ _ _ _, HV, Below.refl _ _⟩
  case round =>
    clear HV
    obtain ⟨j, hj, rfl, HO, HV, HB⟩ := hrel
    by_cases hlt : j < ls.length
    · obtain ⟨b, o, hA⟩ := HV.out.some_ (by omega)
      subst hA
      obtain ⟨d, hd⟩ : ∃ d, d = ls.getD j (0, 0) := ⟨_, rfl⟩
      have hr : Hid (rangeA wr b (o + j * 2) (dotC d)) := Lib.hid (by rw [hd]; exact HV.out.at_j hlt)
      have s25 := Lib.hid (dot_size25 d)
      have HT : Hid (dots2 (ls.take (j + 1)) = dots2 (ls.take j) ++ dcells d) := Lib.hid (by
        rw [List.take_add_one, List.getElem?_eq_getElem hlt, dots2_append, Option.toList_some, dots2_one, hd, List.getD_eq_getElem?_getD, List.getElem?_eq_getElem hlt]
        rfl)
      have eJ : IntKind.i64.wrap ((j : Int) + 1) = (j : Int) + 1 := by have := HM.out; rw [IntKind.wrap_i64]; omega
      clear hd
      go_wp2_with (refine wpList_load_arr rfl 25 _ rfl b (o + j * 2) rfl (dotC d) _ hr.out Try.underlying25 rfl s25.out ?_)
      refine (as_any d.1 d.2 wr).mono ?_
      rintro e w2 ⟨rfl, hb⟩
      have HO2 := Lib.hid (own_keep HO.out fun k _ hk => hb.block k hk)
      have HV2 := Lib.hid (HV.out.below (hb.mono HB.out.size))
      have HB2 := Lib.hid (HB.out.trans (hb.mono HB.out.size))
      have S0 := Lib.hid HB2.out.size
      clear hb HO HV HB hr
      go_wp2_with (refine wpList_append_dot rfl (.tmp 11) (.tmp 17) 30 rfl w.heap.size 35 (.agg #[.int .i64 0, .int .u64 0]) 16 Try.underlying30 info35 rfl _ j _ rfl HO2.out d 35 rfl (by have := HM.out; unfold maxLen; omega) (by have := HM.out; omega) S0.out ?_; intro v1 w3 H1 B1)
      go_roundw
      all_goals clear eJ
      case rel =>
        refine ⟨j + 1, by omega, by go_num, ?_, Lib.hid (HV2.out.below B1.out), Lib.hid (HB2.out.trans B1.out)⟩
        rw [HT.out]
        exact H1
      case measure => simp [intOf]; omega
    · obtain rfl : j = ls.length := by omega
      rw [List.take_length] at HO
      go_wp2
      go_ret
      exact ⟨_, rfl, HO.out, HB.out⟩
end Go.Proofs.Ytnpacjdgbmldlaa
