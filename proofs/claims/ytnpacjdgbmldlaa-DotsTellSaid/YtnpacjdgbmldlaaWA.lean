/- Numbers as bytes; bytes that are the call's own. -/
import Derived.Test.YtnpacjdgbmldlaaD20
import Derived.Lib.BitFns
import Derived.Lib.Small
import Derived.Lib.Walk
import Derived.Lib.Strings
import Derived.Lib.Slices
import Derived.Lib.Hide
import Derived.Laws.AppendOwnNone
import Derived.OwnWalk
namespace Go.Proofs.Ytnpacjdgbmldlaa.Wr
open Go.RowKit
/-- The bytes of a number, the greatest first; f is fuel. -/
def beF : Nat → Nat → List Nat
  | 0, _ => []
  | f + 1, n => if n = 0 then [] else beF f (n / 256) ++ [n % 256]
def be (n : Nat) : List Nat := beF 8 n
/-- A number as it is written. -/
def numB (n : Nat) : List Nat := (be n).length :: be n
theorem beF_fuel : ∀ (f n : Nat), n < 256 ^ f → ∀ g, f ≤ g → beF g n = beF f n
  | 0, n, h, g, _ => by
    have : n = 0 := by simpa using h
    subst this
    cases g <;> simp [beF]
  | f + 1, n, h, g, hg => by
    obtain ⟨k, rfl⟩ : ∃ k, g = k + 1 := ⟨g - 1, by omega⟩
    unfold beF
    by_cases h0 : n = 0
    · rw [if_pos h0, if_pos h0]
    · rw [if_neg h0, if_neg h0, beF_fuel f (n / 256) (by rw [Nat.pow_succ] at h; exact Nat.div_lt_of_lt_mul (by omega)) k (by omega)]
theorem be_zero : be 0 = [] := rfl
theorem be_step (n : Nat) (h0 : n ≠ 0) (h : n < 18446744073709551616) : be n = be (n / 256) ++ [n % 256] := by
  unfold be
  rw [show (8 : Nat) = 7 + 1 from rfl, beF, if_neg h0, beF_fuel 7 (n / 256) (by omega) (7 + 1) (by omega)]
theorem be_lt (n : Nat) : ∀ f, ∀ x ∈ beF f n, x < 256 := by
  intro f
  induction f generalizing n with
  | zero => intro x hx; cases hx
  | succ f ih =>
    intro x hx
    unfold beF at hx
    split at hx
    · cases hx
    · rcases List.mem_append.1 hx with h | h
      · exact ih _ x h
      · rw [List.mem_singleton] at h
        omega
theorem be_length_le (n : Nat) : ∀ f, (beF f n).length ≤ f := by
  intro f
  induction f generalizing n with
  | zero => exact Nat.le_refl _
  | succ f ih =>
    unfold beF
    split
    · exact Nat.zero_le _
    · rw [List.length_append]
      have := ih (n / 256)
      simp only [List.length_cons, List.length_nil]
      omega
theorem numB_lt (n : Nat) : ∀ x ∈ numB n, x < 256 := by
  intro x hx
  rcases List.mem_cons.1 hx with rfl | h
  · have := be_length_le n 8
    unfold be
    omega
  · exact be_lt n 8 x h
theorem be_len8 (n : Nat) : (be n).length ≤ 8 := be_length_le n 8
/-- How many bytes: by the bits. -/
theorem be_length : ∀ n, n < 18446744073709551616 → (be n).length = (Lib.bitLen n + 7) / 8 := by
  intro n
  induction n using Nat.strongRecOn with
  | _ n ih =>
    intro h
    by_cases h0 : n = 0
    · subst h0; rfl
    · rw [be_step n h0 h, List.length_append, ih (n / 256) (by omega) (by omega)]
      by_cases hs : n < 256
      · have e : n / 256 = 0 := by omega
        have l := Lib.bitLen_le8 ⟨n, hs⟩
        have p : 0 < Lib.bitLen n := by rw [Lib.bitLen_half n h0 (by omega)]; omega
        simp only at l
        rw [e, show Lib.bitLen 0 = 0 from rfl]
        simp only [List.length_cons, List.length_nil]
        omega
      · rw [Lib.bitLen_shift8 n (by omega) h]
        simp only [List.length_cons, List.length_nil]
        omega
theorem take_snoc {α : Type} (l : List α) (x : α) : (l ++ [x]).take l.length = l := by simp
/-- What stands ahead of the last m bytes. -/
theorem be_take : ∀ (m n : Nat), n < 18446744073709551616 → m ≤ (be n).length → (be n).take ((be n).length - m) = be (n / 256 ^ m)
  | 0, n, _, _ => by simp
  | m + 1, n, h, hm => by
    have h0 : n ≠ 0 := by
      rintro rfl
      rw [be_zero] at hm
      simp at hm
    rw [be_step n h0 h] at hm ⊢
    rw [List.length_append] at hm ⊢
    simp only [List.length_cons, List.length_nil] at hm ⊢
    rw [List.take_append_of_le_length (by omega), show (be (n / 256)).length + (0 + 1) - (m + 1) = (be (n / 256)).length - m by omega, be_take m (n / 256) (by omega) (by omega), Nat.div_div_eq_div_mul, Nat.pow_succ, Nat.mul_comm 256]
/-- The byte that stands m behind the last. -/
theorem be_get (m n : Nat) (h : n < 18446744073709551616) (hm : m < (be n).length) : (be n).getD ((be n).length - 1 - m) 0 = n / 256 ^ m % 256 := by
  have h1 := be_take m n h (by omega)
  have h0 : n / 256 ^ m ≠ 0 := by
    intro e
    rw [e, be_zero] at h1
    have := congrArg List.length h1
    rw [List.length_take, List.length_nil] at this
    omega
  have h2 : n / 256 ^ m < 18446744073709551616 := Nat.lt_of_le_of_lt (Nat.div_le_self _ _) h
  rw [be_step _ h0 h2] at h1
  have h3 : ((be n).take ((be n).length - m))[(be n).length - 1 - m]? = some (n / 256 ^ m % 256) := by
    rw [h1, List.getElem?_append_right]
    · have hl := congrArg List.length h1
      rw [List.length_take, List.length_append] at hl
      simp only [List.length_cons, List.length_nil] at hl
      rw [show (be n).length - 1 - m - (be (n / 256 ^ m / 256)).length = 0 by omega]
      rfl
    · have hl := congrArg List.length h1
      rw [List.length_take, List.length_append] at hl
      simp only [List.length_cons, List.length_nil] at hl
      omega
  rw [List.getElem?_take, if_pos (by omega)] at h3
  rw [List.getD_eq_getElem?_getD, h3]
  rfl
def ints8 (xs : List Nat) : List Value := xs.map fun x => .int .u8 ((x : Nat) : Int)
theorem info5 : (Try.prog.info? 5).map (fun i => (i.zero, i.size, i.bytes)) = some (some (.int .u8 0), 1, 1) := by kernel_rfl
theorem ints8_length (xs : List Nat) : (ints8 xs).length = xs.length := by simp [ints8]
theorem ints8_append (xs ys : List Nat) : ints8 (xs ++ ys) = ints8 xs ++ ints8 ys := by simp [ints8]
theorem owns_empty (w : World) : (w.alloc (.cells #[] 5)).ownsRow w.heap.size 5 1 (.slice (some ⟨w.heap.size, 0, none⟩) 0 0) 0 [] :=
  ⟨rfl, .inr ⟨w.heap.size, 0, #[], rfl, Nat.le_refl _, heap_alloc_new _ _, Nat.le_refl _, Nat.zero_le _, rfl, rfl⟩⟩
theorem wpList_append_one {P : Program} {w : World} {ops : Array Oper} {rest : List Oper} {o : Oper} {a : Act} {Q : Exit → Act → World → Prop} (hgd : o.guard = none) (s x : Operand) (t : TypeId)
    (ho : o.op = .call { callee := .builtin .append, args := #[s, x], argTypes := #[t, t] }) (base : Nat) (e : TypeId) (z : Value) (bytes : Nat) (ht : P.underlying t = some (.slice e))
    (hinfo : (P.info? e).map (fun i => (i.zero, i.size, i.bytes)) = some (some z, 1, bytes)) (hzs : z.cells.size = 1)
    (v : Value) (n : Nat) (xs : List Value) (hs : a.eval s = v) (hown : w.ownsRow base e 1 v n xs) (u : Value) (te : TypeId)
    (hx : a.eval x = .slice (some ⟨w.heap.size, 0, none⟩) 1 1) (h1 : u.oneCell' = true) (h63 : n + 1 ≤ maxLen) (hbytes : (n + 1) * bytes ≤ 140737488355328) (hbase : base ≤ w.heap.size)
    (h : ∀ v' w', Hid (w'.ownsRow base e 1 v' (n + 1) (xs ++ [u])) → Hid (Below base w w') → wpList P ops Q rest (a.put o.dst v') w') : wpList P ops Q (o :: rest) a (w.alloc (.cells #[u] te)) := by
  obtain ⟨i, hi, hz, hsz, hby⟩ := info_parts hinfo
  refine wpList_append_own _ hgd s x t ho base e i z 1 bytes ht hi hz hsz hby hzs (by decide) v n xs hs (hown.alloc _) ⟨w.heap.size, 0, none⟩ 1 1 [u] hx rfl (cell_one_new _ _ _) (fun y hy => ?_) h63 hbytes (by rw [World.size_alloc]; omega) ?_
  · rw [List.mem_singleton] at hy
    subst hy
    exact h1
  · intro v' w' hown' hg _
    refine h v' w' hown' ((Below.alloc (Below.refl base w) hbase _).grown hg (by rw [World.size_alloc]; omega) fun k hk => ?_)
    exact ((hown.alloc (.cells #[u] te)).lt k hk).1

theorem wpList_append_bytes {w : World} {ops : Array Oper} {rest : List Oper} {o : Oper} {a : Act} {Q : Exit → Act → World → Prop} (hgd : o.guard = none) (s x : Operand)
    (ho : o.op = .call { callee := .builtin .append, args := #[s, x], argTypes := #[94, 94] }) (base : Nat)
    (v : Value) (n : Nat) (ys : List Nat) (hs : a.eval s = v) (hown : w.ownsRow base 5 1 v n (ints8 ys)) (A : Option Addr) (xs : List Nat) (c : Nat) (ok : Nat → Prop)
    (hx : a.eval x = .slice A xs.length c) (hb : Bytes w ok A xs) (hn : A = none → c = 0) (h63 : n + xs.length ≤ 1000000) (hbase : base ≤ w.heap.size)
    (h : ∀ v' w', Hid (w'.ownsRow base 5 1 v' (n + xs.length) (ints8 (ys ++ xs))) → Hid (Below base w w') → wpList Try.prog ops Q rest (a.put o.dst v') w') : wpList Try.prog ops Q (o :: rest) a w := by
  obtain ⟨i, hi, hz, hsz, hby⟩ := info_parts info5
  cases A with
  | none =>
    have h0 : xs = [] := by
      cases xs with
      | nil => rfl
      | cons y ys =>
        obtain ⟨b, o, e, _⟩ := hb.at_ (by simp)
        cases e
    subst h0
    have hc := hn rfl
    subst hc
    exact wpList_append_own_none hgd s x 94 ho base 5 i 1 Try.underlying94 hi v n (ints8 ys) hs hown hx (h v w (show w.ownsRow _ _ _ _ _ _ by simpa using hown) (Below.refl _ _))
  | some ad =>
    refine wpList_append_own _ hgd s x 94 ho base 5 i (.int .u8 0) 1 1 Try.underlying94 hi hz hsz hby rfl (by decide) v n (ints8 ys) hs hown ad xs.length c (ints8 xs) hx (by rw [ints8_length]; omega) (fun j u hu => ?_) (fun u hu => ?_) (by unfold maxLen; omega) (by omega) hbase ?_
    · have hj : j < xs.length := by
        have := (List.getElem?_eq_some_iff.1 hu).1
        rwa [ints8_length] at this
      obtain ⟨b, o, e, _, hc⟩ := hb.at_ (by omega)
      cases e
      rw [Go.WideShapes.add_plain, hc j hj]
      simp only [ints8, List.getElem?_map, List.getElem?_eq_getElem hj, Option.map_some] at hu
      rw [← hu]
      simp [List.getD_eq_getElem?_getD, hj]
    · simp only [ints8, List.mem_map] at hu
      obtain ⟨y, _, rfl⟩ := hu
      rfl
    · intro v' w' h1 h2 _
      refine h v' w' (by rw [ints8_append]; exact h1) ((Below.refl base w).grown h2 hbase fun k hk => ?_)
      exact (hown.lt k hk).1
theorem wpList_append_byte1 {w : World} {ops : Array Oper} {rest : List Oper} {o : Oper} {a : Act} {Q : Exit → Act → World → Prop} (hgd : o.guard = none) (s x : Operand)
    (ho : o.op = .call { callee := .builtin .append, args := #[s, x], argTypes := #[94, 94] }) (base : Nat)
    (v : Value) (n : Nat) (ys : List Nat) (hs : a.eval s = v) (hown : w.ownsRow base 5 1 v n (ints8 ys)) (y : Nat) (u : Int)
    (hx : a.eval x = .slice (some ⟨w.heap.size, 0, none⟩) 1 1) (hy : u = (y : Int)) (h63 : n ≤ 1000000) (hbase : base ≤ w.heap.size)
    (h : ∀ v' w', Hid (w'.ownsRow base 5 1 v' (n + 1) (ints8 (ys ++ [y]))) → Hid (Below base w w') → wpList Try.prog ops Q rest (a.put o.dst v') w') : wpList Try.prog ops Q (o :: rest) a (w.alloc (.cells #[.int .u8 u] 5)) := by
  subst hy
  refine wpList_append_one hgd s x 94 ho base 5 (.int .u8 0) 1 Try.underlying94 info5 rfl v n (ints8 ys) hs hown (.int .u8 (y : Int)) 5 hx rfl (by unfold maxLen; omega) (by omega) hbase fun v' w' h1 h2 => h v' w' ?_ h2
  rw [ints8_append]
  exact h1
theorem owns_slice {w : World} {base : Nat} {e : TypeId} {v : Value} {n : Nat} {l : List Value} (h : w.ownsRow base e 1 v n l) (hn : 0 < n) : ∃ g cap, v = .slice (some ⟨g, 0, none⟩) n cap := by
  rcases h.2 with ⟨_, h0⟩ | ⟨g, cap, _, hv, _⟩
  · omega
  · exact ⟨g, cap, hv⟩
theorem own_cell {w : World} {base : Nat} {g N cap : Nat} {P : List Nat} (h : w.ownsRow base 5 1 (.slice (some ⟨g, 0, none⟩) N cap) N (ints8 P)) {i : Nat} (hi : i < P.length) : w.cell? ⟨g, i, none⟩ = some (.int .u8 ((P.getD i 0 : Nat) : Int)) := by
  have hl := h.1
  rw [ints8_length] at hl
  rcases h.2 with ⟨hv, _⟩ | ⟨g', cap', cur, hv, _, hg, _, _, _, ht⟩
  · cases hv
  · injection hv with hv _ _
    injection hv with hv
    injection hv with hv
    subst hv
    have hi' : i < N * 1 := by omega
    have h1 : cur[i]? = some (.int .u8 ((P.getD i 0 : Nat) : Int)) := by
      have h2 : (cur.toList.take (N * 1))[i]? = (ints8 P)[i]? := by rw [ht]
      rw [List.getElem?_take, if_pos hi'] at h2
      rw [← Array.getElem?_toList, h2]
      simp [ints8, List.getD_eq_getElem?_getD, hi]
    rw [cell_of_row _ _ _ _ _ _ hg, h1]
theorem own_keep {a b : World} {base : Nat} {e : TypeId} {v : Value} {n : Nat} {l : List Value} (h : a.ownsRow base e 1 v n l) (hk : ∀ k, base ≤ k → k < a.heap.size → b.heap[k]? = a.heap[k]?) : b.ownsRow base e 1 v n l := by
  refine ⟨h.1, ?_⟩
  rcases h.2 with h0 | ⟨g, cap, cur, hv, hb, hg, hr⟩
  · exact .inl h0
  · refine .inr ⟨g, cap, cur, hv, hb, ?_, hr⟩
    have hlt : g < a.heap.size := by
      rcases Nat.lt_or_ge g a.heap.size with h1 | h1
      · exact h1
      · rw [Array.getElem?_eq_none h1] at hg
        cases hg
    rw [hk g hb hlt]
    exact hg
theorem own_bytes {w : World} {base : Nat} {v : Value} {n : Nat} {zs : List Nat} (h : w.ownsRow base 5 1 v n (ints8 zs)) (hz : ∀ z, z ∈ zs → z < 256) :
    ∃ A c, v = .slice A zs.length c ∧ (A = none → c = 0) ∧ Bytes w (· < w.heap.size) A zs := by
  have hl := h.1
  rw [ints8_length] at hl
  have hn : n = zs.length := by omega
  subst hn
  rcases h.2 with ⟨hv, h0⟩ | ⟨g, cap, cur, hv, _, hg, _⟩
  · refine ⟨none, 0, by rw [hv, h0], fun _ => rfl, hz, fun hp => by omega⟩
  · refine ⟨some ⟨g, 0, none⟩, cap, hv, (fun e => by cases e), hz, fun hp => ⟨g, 0, rfl, ?_, fun j hj => ?_⟩⟩
    · rcases Nat.lt_or_ge g w.heap.size with h1 | h1
      · exact h1
      · rw [Array.getElem?_eq_none h1] at hg
        cases hg
    · rw [Nat.zero_add]
      rw [hv] at h
      exact own_cell h hj
theorem run_sliceAt_to {P : Program} (t e : TypeId) (hu : P.underlying t = some (.slice e)) (hs : (P.info? e).map (·.size) = some 1) (A : Option Addr) (n c k : Nat) (hk : k ≤ c) (w : World) :
    (Instr.sliceAt t (.slice A n c) none (some (.int .i64 (k : Int))) none).run P w = .ok (.slice A k c) w := by
  have h : (Instr.slice t (.slice A n c) none (some (.int .i64 (k : Int))) none).run P w = .ok (.slice A k c) w := by
    cases hq : P.info? e with
    | none => simp [hq] at hs
    | some i =>
      have hi : i.size = 1 := by simpa [hq] using hs
      have ha : A.map (fun a : Addr => a.add 0) = A := by cases A <;> simp [Addr.add]
      simp [Instr.slice, Instr.sliceBounds, Instr.sliceBound, asIntOf, Sem.run_bind, run_underlying hu w, sizeOf, typeInfo, hq, hi, hk, Result.andThen, ha]
  simp only [Instr.sliceAt, Sem.run_bind, run_underlying hu w, Result.andThen, h]
theorem then2 {w x y : World} (h : Below w.heap.size w x) (hb : Below x.heap.size x y) : Below w.heap.size w y := h.trans (hb.mono h.size)
theorem owns_one (w : World) (y : Nat) {base : Nat} (hb : base ≤ w.heap.size) : (w.alloc (.cells #[.int .u8 (y : Int)] 5)).ownsRow base 5 1 (.slice (some ⟨w.heap.size, 0, none⟩) 1 1) 1 (ints8 [y]) :=
  ⟨rfl, .inr ⟨w.heap.size, 1, _, rfl, hb, heap_alloc_new _ _, Nat.le_refl _, by unfold maxLen; omega, rfl, rfl⟩⟩

theorem size5 : (Try.prog.info? 5).map (·.size) = some 1 := by kernel_rfl
theorem bytes_cells {w : World} {ok : Nat → Prop} {ad : Addr} {xs : List Nat} (h : Bytes w ok (some ad) xs) (hp : 0 < xs.length) : ∀ j v, (ints8 xs)[j]? = some v → w.cell? (ad.add j) = some v := fun j v hv => by
  obtain ⟨b, o, e, _, hc⟩ := h.at_ hp
  injection e with e
  subst e
  have hj : j < xs.length := by
    have := (List.getElem?_eq_some_iff.1 hv).1
    rwa [ints8_length] at this
  rw [Go.WideShapes.add_plain, hc j hj]
  simp only [ints8, List.getElem?_map, List.getElem?_eq_getElem hj, Option.map_some] at hv
  rw [← hv]
  simp [List.getD_eq_getElem?_getD, hj]
theorem ints8_one (xs : List Nat) : ∀ v ∈ ints8 xs, v.oneCell' = true := fun v hv => by
  simp only [ints8, List.mem_map] at hv
  obtain ⟨y, _, rfl⟩ := hv
  rfl

theorem full_cells {w : World} {base g n : Nat} {l : List Value} (h : w.ownsRow base 5 1 (.slice (some ⟨g, 0, none⟩) n n) n l) : ∃ cur, Hid (w.heap[g]? = some (.cells cur 5 (0, 0))) ∧ Hid (cur.size = n) := by
  rcases h.2 with ⟨hv, _⟩ | ⟨g', cap, cur, hv, _, hg, _, _, hcs, _⟩
  · cases hv
  injection hv with hv1 _ hv2
  injection hv1 with hv1
  injection hv1 with hv1
  subst hv1 hv2
  exact ⟨cur, hg, by show _ = _; omega⟩
set_option maxHeartbeats 1000000 in
theorem fresh_any (xs : List Nat) (c : Nat) (A : Option Addr) (w : World) (hx : Bytes w (· < w.heap.size) A xs) (hs : xs.length ≤ 1000000) :
    Calls Try.prog 108 #[.slice A xs.length c] w fun e w' => ∃ v, e = .returned v ∧ w'.ownsRow w.heap.size 5 1 v xs.length (ints8 xs) ∧ Below w.heap.size w w' := by
  have HX := Lib.hid hx
  clear hx
  obtain ⟨i, hi, hz, hsz, hby⟩ := info_parts info5
  have HI := Lib.hid hi
  have HZ := Lib.hid hz
  have HS := Lib.hid hsz
  have HBY := Lib.hid hby
  clear hi hz hsz hby
  obtain ⟨n, hn⟩ : ∃ n, n = xs.length := ⟨_, rfl⟩
  have b2 : Hid (i.bytes * n ≤ 281474976710656) := by show _ ≤ _; rw [HBY.out]; omega
  have b3 : Hid (n ≤ maxLen) := by show n ≤ maxLen; unfold maxLen; omega
  rw [← hn] at hs ⊢
  have HN := Lib.hid hn
  clear hn
  have HL : Hid (∀ w1 : World, w.grownBy w1 none → Below w.heap.size w w1) := fun _ h => (Below.refl _ _).grown h (Nat.le_refl _) (fun k hk => by cases hk)
  by_cases h0 : n = 0
  · subst h0
    go_enter Try.func108, Try.ntmps108
    go_wp2_with (first
      | (refine wpList_make_full _ rfl (.tmp 5) (.tmp 5) 94 rfl w.heap.size 5 i _ 1 Try.underlying94 HI.out HZ.out HS.out .i64 .i64 _ _ 0 rfl rfl rfl rfl b2.out b3.out (Nat.le_refl _) ?_; intro w1 ho1 hg1; obtain ⟨cur, HC, HSZ⟩ := full_cells ho1; have HB1 := Lib.hid (HL.out _ hg1); clear ho1 hg1)
      | (refine wpList_copy_nothing rfl (.tmp 7) (.tmp 8) 94 94 rfl 5 Try.underlying94 size5 _ _ _ _ _ _ rfl rfl rfl ?_))
    go_ret
    have hxs : xs = [] := List.length_eq_zero_iff.1 HN.out.symm
    subst hxs
    exact ⟨_, rfl, ⟨rfl, .inr ⟨w.heap.size, 0, cur, rfl, Nat.le_refl _, HC.out, Nat.le_refl _, Nat.zero_le _, by simpa using HSZ.out, rfl⟩⟩, HB1.out⟩
  · obtain ⟨b, o, hA, _, _⟩ := HX.out.at_ (by have := HN.out; omega)
    subst hA
    have hone := Lib.hid (ints8_one xs)
    have hlen : Hid ((ints8 xs).length = Nat.min n n) := by show _ = _; rw [ints8_length, HN.out]; exact (Nat.min_self _).symm
    go_enter Try.func108, Try.ntmps108
    go_wp2_with (first
      | (refine wpList_make_full _ rfl (.tmp 5) (.tmp 5) 94 rfl w.heap.size 5 i _ 1 Try.underlying94 HI.out HZ.out HS.out .i64 .i64 _ _ n rfl rfl rfl rfl b2.out b3.out (Nat.le_refl _) ?_; intro w1 ho1 hg1; obtain ⟨cur, HC, HSZ⟩ := full_cells ho1; have HB1 := Lib.hid (HL.out _ hg1); clear ho1 hg1; have hfit : Hid (0 + (ints8 xs).length ≤ cur.size) := (by show _ ≤ _; rw [ints8_length, HSZ.out, HN.out]; omega); have HCL := Lib.hid (bytes_cells (HX.out.below HB1.out) (by have := HN.out; omega)))
      | (refine wpList_copy_own rfl (.tmp 7) (.tmp 8) 94 94 rfl 5 Try.underlying94 size5 w.heap.size 0 n n ⟨b, o, none⟩ n c rfl rfl cur 5 HC.out (ints8 xs) hlen.out HCL.out hfit.out hone.out ?_))
    go_ret
    have hN := HN.out
    have hS := HSZ.out
    refine ⟨_, rfl, ?_, below_setRow' HB1.out (Nat.le_refl _) _⟩
    have e : ints8 xs ++ cur.toList.drop (ints8 xs).length = ints8 xs := by
      rw [List.drop_eq_nil_of_le (by rw [ints8_length]; simp; omega), List.append_nil]
    rw [e]
    refine ⟨by rw [ints8_length]; omega, .inr ⟨w.heap.size, n, (ints8 xs).toArray, rfl, Nat.le_refl _, setRow_heap _ _ _ _ _ _ HC.out, by omega, by unfold maxLen; omega, by simp [ints8_length]; omega, ?_⟩⟩
    rw [List.take_of_length_le (by simp [ints8_length]; omega)]

theorem own_weak {w : World} {b B : Nat} {v : Value} {n : Nat} {l : List Value} (h : w.ownsRow B 5 1 v n l) (hb : b ≤ B) : w.ownsRow b 5 1 v n l :=
  ⟨h.1, h.2.imp id fun ⟨g, cap, cur, h1, h2, h3⟩ => ⟨g, cap, cur, h1, Nat.le_trans hb h2, h3⟩⟩
end Go.Proofs.Ytnpacjdgbmldlaa.Wr
