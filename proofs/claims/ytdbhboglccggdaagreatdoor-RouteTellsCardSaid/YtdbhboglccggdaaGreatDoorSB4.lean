/- The contract of the reference's padding. -/
import Derived.Test.YtdbhboglccggdaaGreatDoorSB3
import Derived.Laws.AppendOwnNone
set_option linter.unusedVariables false
set_option linter.unusedSimpArgs false
namespace Go.Proofs.YtdbhboglccggdaaGreatDoor
open Go.RowKit
/-- 'out = append(out, x)', x in a new block of one cell. -/
theorem wpList_append_one {P : Program} {w : World} {ops : Array Oper} {rest : List Oper} {o : Oper} {a : Act} {Q : Exit → Act → World → Prop} (hgd : o.guard = none) (s x : Operand) (t : TypeId)
    (ho : o.op = .call { callee := .builtin .append, args := #[s, x], argTypes := #[t, t] }) (base : Nat) (e : TypeId) (z : Value) (bytes : Nat) (ht : P.underlying t = some (.slice e))
    (hinfo : (P.info? e).map (fun i => (i.zero, i.size, i.bytes)) = some (some z, 1, bytes)) (hzs : z.cells.size = 1)
    (v : Value) (n : Nat) (xs : List Value) (hs : a.eval s = v) (hown : w.ownsRow base e 1 v n xs) (u : Value) (te : TypeId)
    (hx : a.eval x = .slice (some ⟨w.heap.size, 0, none⟩) 1 1) (h1 : u.oneCell' = true) (h63 : n + 1 ≤ maxLen) (hbytes : (n + 1) * bytes ≤ 140737488355328) (hbase : base ≤ w.heap.size)
    (h : ∀ v' w', Hid (w'.ownsRow base e 1 v' (n + 1) (xs ++ [u])) → Hid (Below base w w') → wpList P ops Q rest (a.put o.dst v') w') : wpList P ops Q (o :: rest) a (w.alloc (.cells #[u] te)) := by
  obtain ⟨i, hi, hz, hsz, hby⟩ := info_parts hinfo
  refine wpList_append_own _ hgd s x t ho base e i z 1 bytes ht hi hz hsz hby hzs (by decide) v n xs hs (hown.alloc _) ⟨w.heap.size, 0, none⟩ 1 1 [u] hx rfl (cell_one_new _ _ _) (fun y hy => ?_) h63 hbytes (by rw [World.size_alloc]; omega) ?_
  · rw [List.mem_singleton] at hy
    subst hy
    exact h1
  · intro v' w' hown' hg _
    refine h v' w' hown' ((Below.alloc (Below.refl base w) hbase _).grown hg (by rw [World.size_alloc]; omega) fun k hk => ?_)
    exact ((hown.alloc (.cells #[u] te)).lt k hk).1

theorem run_sliceAt_to {P : Program} (t e : TypeId) (hu : P.underlying t = some (.slice e)) (hs : (P.info? e).map (·.size) = some 1) (A : Option Addr) (n c k : Nat) (hk : k ≤ c) (w : World) :
    (Instr.sliceAt t (.slice A n c) none (some (.int .i64 (k : Int))) none).run P w = .ok (.slice A k c) w := by
  have h : (Instr.slice t (.slice A n c) none (some (.int .i64 (k : Int))) none).run P w = .ok (.slice A k c) w := by
    cases hq : P.info? e with
    | none => simp [hq] at hs
    | some i =>
      have hi : i.size = 1 := by simpa [hq] using hs
      have ha : A.map (fun a : Addr => a.add 0) = A := by cases A <;> simp [Addr.add]
      simp [Instr.slice, Instr.sliceBounds, Instr.sliceBound, asIntOf, Sem.run_bind, run_underlying hu w, sizeOf, typeInfo, hq, hi, hk, Result.andThen, ha]
  simp only [Instr.sliceAt, Sem.run_bind, run_underlying hu w, Result.andThen, h]
def ints8 (xs : List Nat) : List Value := xs.map fun x => .int .u8 ((x : Nat) : Int)
theorem info5 : (Tryz.prog.info? 5).map (fun i => (i.zero, i.size, i.bytes)) = some (some (.int .u8 0), 1, 1) := by kernel_rfl
theorem ints8_length (xs : List Nat) : (ints8 xs).length = xs.length := by simp [ints8]
theorem ints8_append (xs ys : List Nat) : ints8 (xs ++ ys) = ints8 xs ++ ints8 ys := by simp [ints8]
theorem owns_empty (w : World) : (w.alloc (.cells #[] 5)).ownsRow w.heap.size 5 1 (.slice (some ⟨w.heap.size, 0, none⟩) 0 0) 0 [] :=
  ⟨rfl, .inr ⟨w.heap.size, 0, #[], rfl, Nat.le_refl _, heap_alloc_new _ _, Nat.le_refl _, Nat.zero_le _, rfl, rfl⟩⟩
/-- Bytes appended to a slice that is the call's own. -/
theorem wpList_append_bytes {w : World} {ops : Array Oper} {rest : List Oper} {o : Oper} {a : Act} {Q : Exit → Act → World → Prop} (hgd : o.guard = none) (s x : Operand)
    (ho : o.op = .call { callee := .builtin .append, args := #[s, x], argTypes := #[95, 95] }) (base : Nat)
    (v : Value) (n : Nat) (ys : List Nat) (hs : a.eval s = v) (hown : w.ownsRow base 5 1 v n (ints8 ys)) (A : Option Addr) (xs : List Nat) (c : Nat) (ok : Nat → Prop)
    (hx : a.eval x = .slice A xs.length c) (hb : Bytes w ok A xs) (hn : A = none → c = 0) (h63 : n + xs.length ≤ 1000000) (hbase : base ≤ w.heap.size)
    (h : ∀ v' w', Hid (w'.ownsRow base 5 1 v' (n + xs.length) (ints8 (ys ++ xs))) → Hid (Below base w w') → wpList Tryz.prog ops Q rest (a.put o.dst v') w') : wpList Tryz.prog ops Q (o :: rest) a w := by
  obtain ⟨i, hi, hz, hsz, hby⟩ := info_parts info5
  cases A with
  | none =>
    have h0 : xs = [] := by
      cases xs with
      | nil => rfl
      | cons y ys =>
        obtain ⟨b, o, e, _⟩ := hb.at_ (by simp)
        cases e
    subst h0
    have hc := hn rfl
    subst hc
    exact wpList_append_own_none hgd s x 95 ho base 5 i 1 Tryz.underlying95 hi v n (ints8 ys) hs hown hx (h v w (show w.ownsRow _ _ _ _ _ _ by simpa using hown) (Below.refl _ _))
  | some ad =>
    refine wpList_append_own _ hgd s x 95 ho base 5 i (.int .u8 0) 1 1 Tryz.underlying95 hi hz hsz hby rfl (by decide) v n (ints8 ys) hs hown ad xs.length c (ints8 xs) hx (by rw [ints8_length]; omega) (fun j u hu => ?_) (fun u hu => ?_) (by unfold maxLen; omega) (by omega) hbase ?_
    · have hj : j < xs.length := by
        have := (List.getElem?_eq_some_iff.1 hu).1
        rwa [ints8_length] at this
      obtain ⟨b, o, e, _, hc⟩ := hb.at_ (by omega)
      cases e
      rw [Go.WideShapes.add_plain, hc j hj]
      simp only [ints8, List.getElem?_map, List.getElem?_eq_getElem hj, Option.map_some] at hu
      rw [← hu]
      simp [List.getD_eq_getElem?_getD, hj]
    · simp only [ints8, List.mem_map] at hu
      obtain ⟨y, _, rfl⟩ := hu
      rfl
    · intro v' w' h1 h2 _
      refine h v' w' (by rw [ints8_append]; exact h1) ((Below.refl base w).grown h2 hbase fun k hk => ?_)
      exact (hown.lt k hk).1
theorem wpList_append_byte1 {w : World} {ops : Array Oper} {rest : List Oper} {o : Oper} {a : Act} {Q : Exit → Act → World → Prop} (hgd : o.guard = none) (s x : Operand)
    (ho : o.op = .call { callee := .builtin .append, args := #[s, x], argTypes := #[95, 95] }) (base : Nat)
    (v : Value) (n : Nat) (ys : List Nat) (hs : a.eval s = v) (hown : w.ownsRow base 5 1 v n (ints8 ys)) (y : Nat) (u : Int)
    (hx : a.eval x = .slice (some ⟨w.heap.size, 0, none⟩) 1 1) (hy : u = (y : Int)) (h63 : n ≤ 1000000) (hbase : base ≤ w.heap.size)
    (h : ∀ v' w', Hid (w'.ownsRow base 5 1 v' (n + 1) (ints8 (ys ++ [y]))) → Hid (Below base w w') → wpList Tryz.prog ops Q rest (a.put o.dst v') w') : wpList Tryz.prog ops Q (o :: rest) a (w.alloc (.cells #[.int .u8 u] 5)) := by
  subst hy
  refine wpList_append_one hgd s x 95 ho base 5 (.int .u8 0) 1 Tryz.underlying95 info5 rfl v n (ints8 ys) hs hown (.int .u8 (y : Int)) 5 hx rfl (by unfold maxLen; omega) (by omega) hbase fun v' w' h1 h2 => h v' w' ?_ h2
  rw [ints8_append]
  exact h1
def slLen : Value → Nat
  | .slice _ n _ => n
  | _ => 0
theorem owns_slice {w : World} {base : Nat} {e : TypeId} {v : Value} {n : Nat} {l : List Value} (h : w.ownsRow base e 1 v n l) (hn : 0 < n) : ∃ g cap, v = .slice (some ⟨g, 0, none⟩) n cap := by
  rcases h.2 with ⟨_, h0⟩ | ⟨g, cap, _, hv, _⟩
  · omega
  · exact ⟨g, cap, hv⟩
/-- What the first loop keeps: the text, 128, z noughts. -/
structure PInv (w : World) (xs : List Nat) (z : Nat) (v : Value) (wr : World) : Prop where
  own : wr.ownsRow w.heap.size 5 1 v (xs.length + 1 + z) (ints8 (xs ++ 128 :: List.replicate z 0))
  below : Below w.heap.size w wr
theorem PInv.next {w : World} {xs : List Nat} {z : Nat} {v : Value} {wr w2 : World} (x : PInv w xs z v wr) {v' : Value} (h : w2.ownsRow w.heap.size 5 1 v' (xs.length + 1 + z + 1) (ints8 ((xs ++ 128 :: List.replicate z 0) ++ [0]))) (hb : Below w.heap.size wr w2) :
    PInv w xs (z + 1) v' w2 := by
  refine ⟨?_, x.below.trans hb⟩
  rw [List.append_assoc, List.cons_append, ← List.replicate_succ'] at h
  exact h
theorem be_step (X j : Nat) (hj : j < 8) : X * 256 ^ j % 18446744073709551616 / 72057594037927936 = be64 X j := by
  have : j = 0 ∨ j = 1 ∨ j = 2 ∨ j = 3 ∨ j = 4 ∨ j = 5 ∨ j = 6 ∨ j = 7 := by omega
  unfold be64
  rcases this with rfl | rfl | rfl | rfl | rfl | rfl | rfl | rfl <;> simp <;> omega
theorem be_next (X j : Nat) : (X * 256 ^ j % 18446744073709551616) * 256 % 18446744073709551616 = X * 256 ^ (j + 1) % 18446744073709551616 := by
  rw [Nat.mod_mul_mod, Nat.mul_assoc, ← Nat.pow_succ]
/-- What the second loop keeps. -/
structure PInv2 (w : World) (xs : List Nat) (Z X j : Nat) (v : Value) (wr : World) : Prop where
  own : wr.ownsRow w.heap.size 5 1 v (xs.length + 1 + Z + j) (ints8 ((xs ++ 128 :: List.replicate Z 0) ++ (List.range j).map (be64 X)))
  below : Below w.heap.size w wr
theorem PInv2.next {w : World} {xs : List Nat} {Z X j y : Nat} {v : Value} {wr w2 : World} (x : PInv2 w xs Z X j v wr) (hy : y = be64 X j) {v' : Value} (h : w2.ownsRow w.heap.size 5 1 v' (xs.length + 1 + Z + j + 1) (ints8 (((xs ++ 128 :: List.replicate Z 0) ++ (List.range j).map (be64 X)) ++ [y]))) (hb : Below w.heap.size wr w2) :
    PInv2 w xs Z X (j + 1) v' w2 := by
  subst hy
  refine ⟨?_, x.below.trans hb⟩
  rw [List.append_assoc] at h
  rw [List.range_succ, List.map_append]
  exact h
theorem padTail_eq (f n : Nat) : padTail f n = (128 :: List.replicate ((119 - f) % 64) 0) ++ (List.range 8).map (be64 (n * 8 % 18446744073709551616)) := by
  apply List.ext_getElem?
  intro j
  unfold padTail
  generalize (119 - f) % 64 = Z
  generalize n * 8 % 18446744073709551616 = X
  rcases Nat.eq_zero_or_pos j with rfl | h0
  · rw [List.getElem?_map, List.getElem?_range (by omega)]
    rfl
  · obtain ⟨k, rfl⟩ : ∃ k, j = k + 1 := ⟨j - 1, by omega⟩
    rw [List.cons_append, List.getElem?_cons_succ, List.getElem?_map]
    by_cases h1 : k < Z
    · rw [List.getElem?_append_left (by simpa using h1), List.getElem?_range (by omega), List.getElem?_replicate, if_pos h1]
      simp only [Option.map_some, tailF, if_neg (show ¬ k + 1 = 0 by omega), if_neg (show ¬ (1 + Z ≤ k + 1 ∧ k + 1 < 1 + Z + 8) by omega)]
    · rw [List.getElem?_append_right (by simp; omega), List.length_replicate, List.getElem?_map]
      by_cases h2 : k < Z + 8
      · rw [List.getElem?_range (by omega), List.getElem?_range (by omega)]
        simp only [Option.map_some, tailF, if_neg (show ¬ k + 1 = 0 by omega), if_pos (show 1 + Z ≤ k + 1 ∧ k + 1 < 1 + Z + 8 by omega)]
        rw [show k + 1 - (1 + Z) = k - Z by omega]
      · rw [List.getElem?_eq_none (by simp; omega), List.getElem?_eq_none (by simp; omega)]
        rfl
set_option maxRecDepth 100000 in
set_option maxHeartbeats 2000000 in
theorem pad_any (xs : List Nat) (c : Nat) (A : Option Addr) (w : World) (hx : Bytes w (· < w.heap.size) A xs) (hn : A = none → c = 0) (hs : xs.length ≤ 2000) :
    Calls Tryz.prog 68 #[.slice A xs.length c] w fun e w' => ∃ v N, e = .returned v ∧ N = xs.length + (padTail (xs.length % 64) xs.length).length ∧ w'.ownsRow w.heap.size 5 1 v N (ints8 (xs ++ padTail (xs.length % 64) xs.length)) ∧ Below w.heap.size w w' := by
  have HX := Lib.hid hx
  have HN := Lib.hid hn
  clear hx hn
  go_enter Tryz.func68, Tryz.ntmps68
  have HA : Hid (Below w.heap.size w (w.alloc (.cells #[] 5))) := (Below.refl _ _).alloc (Nat.le_refl _) _
  go_wp2_with (first
    | (refine wpList_append_bytes rfl (.tmp 6) (.tmp 7) rfl w.heap.size _ 0 [] rfl (owns_empty w) A xs c (· < w.heap.size) rfl (HX.out.below HA.out) HN.out (by omega) (by simp) ?_; intro v1 w1 H1 B1)
    | (refine wpList_append_byte1 rfl (.tmp 8) (.tmp 9) rfl w.heap.size _ _ _ rfl H1.out 128 _ rfl rfl (by omega) (by have := B1.out.size; simp at this; omega) ?_; intro v2 w2 H2 B2))
  have HI0 : Hid (PInv w xs 0 v2 w2) := ⟨by have := H2.out; simpa using this, HA.out.trans (B1.out.trans B2.out)⟩
  clear HA B1 B2 H1 H2
  obtain ⟨Z, hZ⟩ : ∃ Z, Z = (119 - xs.length % 64) % 64 := ⟨_, rfl⟩
  have HZ := Lib.hid hZ
  have hZ64 : Z < 64 := by omega
  clear hZ
  go_loopw [3] (fun v wr => ∃ z : Nat, z ≤ Z ∧ (∃ g cap, v = .slice (some ⟨g, 0, none⟩) (xs.length + 1 + z) cap) ∧ Hid (PInv w xs z v wr)) (fun v _ => xs.length + 100 - slLen v)
  case atStart => exact ⟨0, by omega, owns_slice HI0.out.own (by omega), HI0⟩
  case round =>
    clear HI0
    obtain ⟨z, hz, ⟨g, cap, rfl⟩, HI⟩ := hrel
    by_cases h1 : z < Z
    · have hm : (((xs.length : Int) + 1 + (z : Int)) % 64 != 56) = true := by
        have := HZ.out
        simp
        omega
      go_wp2_with (first
        | (refine wpList_append_byte1 rfl (.tmp 15) (.tmp 16) rfl w.heap.size _ _ _ rfl HI.out.own 0 _ rfl rfl (by omega) (by have := HI.out.below.size; simp at this ⊢; omega) ?_; intro v3 w3 H3 B3))
      have HI3 : Hid (PInv w xs (z + 1) v3 w3) := HI.out.next H3.out B3.out
      clear H3 B3
      go_roundw
      case rel =>
        refine ⟨z + 1, by omega, owns_slice HI3.out.own (by omega), HI3⟩
      case measure =>
        obtain ⟨g3, c3, rfl⟩ := owns_slice HI3.out.own (by omega)
        simp [slLen]
        omega
    · obtain rfl : z = Z := by omega
      clear hz h1
      have hm : (((xs.length : Int) + 1 + (z : Int)) % 64 != 56) = false := by
        have := HZ.out
        simp
        omega
      have HI2 : Hid (PInv2 w xs z (xs.length * 8 % 18446744073709551616) 0 (.slice (some ⟨g, 0, none⟩) (xs.length + 1 + z) cap) wr) := ⟨by have := HI.out.own; simpa using this, HI.out.below⟩
      clear HI
      go_wp2_with fail
      go_loopw [3, 4, 5] (fun v nv jv wx => ∃ (j n : Nat), j ≤ 8 ∧ jv = .int .i64 j ∧ Hid (n = (xs.length * 8 % 18446744073709551616) * 256 ^ j % 18446744073709551616) ∧ n < 18446744073709551616 ∧ nv = .int .u64 n ∧ Hid (PInv2 w xs z (xs.length * 8 % 18446744073709551616) j v wx)) (fun _ _ jv _ => 8 - (intOf jv).toNat)
      case atStart => exact ⟨0, 8 * xs.length, by omega, rfl, (show 8 * xs.length = (xs.length * 8 % 18446744073709551616) * 256 ^ 0 % 18446744073709551616 by simp; omega), by omega, by simp, HI2⟩
      case round =>
        clear HI2
        obtain ⟨j, n, hj, rfl, HN2, hn, rfl, HI⟩ := hrel
        by_cases hlt : j < 8
        · obtain ⟨y, hy⟩ : ∃ y, y = n / 72057594037927936 := ⟨_, rfl⟩
          have hyl : y < 256 := by omega
          have HY := Lib.hid hy
          clear hy
          go_wp2_with (first
            | (refine wpList_append_byte1 rfl (.tmp 26) (.tmp 30) rfl w.heap.size _ _ _ rfl HI.out.own y _ rfl (by have := HY.out; omega) (by omega) (by have := HI.out.below.size; simp at this ⊢; omega) ?_; intro v3 w3 H3 B3))
          go_roundw
          case rel =>
            refine ⟨j + 1, n * 256 % 18446744073709551616, by omega, by go_num, ?_, by omega, int_arg (by rw [IntKind.wrap_u64]; omega), HI.out.next ?_ H3.out B3.out⟩
            · show _ = _
              rw [HN2.out, be_next]
            · rw [HY.out, HN2.out, be_step _ _ hlt]
          case measure => simp [intOf]; omega
        · obtain rfl : j = 8 := by omega
          clear hj hlt
          go_wp2_with fail
          go_ret
          have e := padTail_eq (xs.length % 64) xs.length
          have h := HI.out.own
          rw [HZ.out, List.append_assoc, ← e] at h
          refine ⟨_, _, rfl, ?_, h, HI.out.below⟩
          rw [padTail_length]
          omega
end Go.Proofs.YtdbhboglccggdaaGreatDoor
