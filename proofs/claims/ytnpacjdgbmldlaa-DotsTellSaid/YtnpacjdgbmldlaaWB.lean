/- A writer's Num and Bytes. -/
import Derived.Test.YtnpacjdgbmldlaaWA
import Derived.Deep.Cut
namespace Go.Proofs.Ytnpacjdgbmldlaa.Wr
open Go.RowKit
/-- The same block, or a new one. -/
def SameOrNew (N : Nat) (b b' : Option Nat) : Prop := b' = b ∨ ∀ k, b' = some k → N ≤ k
theorem append_fresh {w : World} {base : Nat} {v : Value} {n : Nat} {ys : List Value} (hown : w.ownsRow base 5 1 v n ys) (ad : Addr) (m c : Nat) (news : List Value) (ty : TypeId) (hl : news.length = m * 1)
    (hnews : ∀ j u, news[j]? = some u → w.cell? (ad.add j) = some u) (h1 : ∀ u ∈ news, u.oneCell' = true) (h63 : n + m ≤ 1000000) (hbase : base ≤ w.heap.size) :
    ∃ v' w', (Builtin.append_ #[94, 94] ty #[v, .slice (some ad) m c]).run Try.prog w = .ok v' w' ∧ w'.ownsRow base 5 1 v' (n + m) (ys ++ news) ∧ w.grownBy w' v.ownBlock ∧ SameOrNew w.heap.size v.ownBlock v'.ownBlock := by
  obtain ⟨i, hi, hz, hsz, hby⟩ := info_parts info5
  have hm : n + m ≤ maxLen := by unfold maxLen; omega
  obtain ⟨v', w', hr, h2, h3, _⟩ := run_append_own (P := Try.prog) w base 94 ty 5 i (.int .u8 0) 1 1 Try.underlying94 hi hz hsz hby rfl (by decide) v n ys hown ad m c news hl hnews h1 hm (by omega) hbase
  refine ⟨v', w', hr, h2, h3, ?_⟩
  have again : w.ownsRow w.heap.size 5 1 v n ys → SameOrNew w.heap.size v.ownBlock v'.ownBlock := fun ho => by
    obtain ⟨u, x, hr', h2', _, _⟩ := run_append_own (P := Try.prog) w w.heap.size 94 ty 5 i (.int .u8 0) 1 1 Try.underlying94 hi hz hsz hby rfl (by decide) v n ys ho ad m c news hl hnews h1 hm (by omega) (Nat.le_refl _)
    rw [hr] at hr'
    injection hr' with e1 e2
    subst e1 e2
    exact .inr fun k hk => (h2'.lt k hk).1
  rcases hown.2 with ⟨rfl, rfl⟩ | ⟨g, cap, cur, rfl, hbg, hg, hnc, hcm, hcs, htake⟩
  · exact again ⟨hown.1, .inl ⟨rfl, rfl⟩⟩
  · by_cases hroom : n + m ≤ cap
    · have hr' := run_append_room (P := Try.prog) w 94 ty 5 i Try.underlying94 hi g n cap cur hg ad m c news (by rw [hsz]; exact hl) hnews h1 hroom (by rw [hl, hcs, hsz, ← Nat.add_mul]; exact Nat.mul_le_mul_right _ hroom)
      rw [hr] at hr'
      injection hr' with e1 e2
      subst e1
      exact .inl rfl
    · have holds : ∀ j u, ys[j]? = some u → w.cell? ((⟨g, 0, none⟩ : Addr).add j) = some u := hown.cells (g := g) rfl
      have hr' := run_append_grow (P := Try.prog) w 94 ty 5 i (.int .u8 0) Try.underlying94 hi hz ⟨g, 0, none⟩ n cap ys (by rw [hsz]; exact hown.1) holds ad m c news (by rw [hsz]; exact hl) hnews (by omega) (by omega) (growslice_fits (by omega) (by rw [hby]; omega))
      rw [hr] at hr'
      injection hr' with e1 e2
      subst e1
      exact .inr fun k hk => by
        have : w.heap.size = k := by simpa [Value.ownBlock] using hk
        omega

/-- Bytes appended to a slice that is the call's own; what turns is told. -/
theorem wpList_append_turn {w : World} {ops : Array Oper} {rest : List Oper} {o : Oper} {a : Act} {Q : Exit → Act → World → Prop} (hgd : o.guard = none) (s x : Operand)
    (ho : o.op = .call { callee := .builtin .append, args := #[s, x], argTypes := #[94, 94] }) (base : Nat)
    (v : Value) (n : Nat) (ys : List Nat) (hs : a.eval s = v) (hown : w.ownsRow base 5 1 v n (ints8 ys)) (A : Option Addr) (xs : List Nat) (c : Nat) (ok : Nat → Prop)
    (hx : a.eval x = .slice A xs.length c) (hb : Bytes w ok A xs) (hn : A = none → c = 0) (h63 : n + xs.length ≤ 1000000) (hbase : base ≤ w.heap.size)
    (h : ∀ v' w', Hid (w'.ownsRow base 5 1 v' (n + xs.length) (ints8 (ys ++ xs))) → Hid (w.grownBy w' v.ownBlock) → Hid (SameOrNew w.heap.size v.ownBlock v'.ownBlock) → wpList Try.prog ops Q rest (a.put o.dst v') w') : wpList Try.prog ops Q (o :: rest) a w := by
  cases A with
  | none =>
    have h0 : xs = [] := by
      cases xs with
      | nil => rfl
      | cons y ys =>
        obtain ⟨b, o, e, _⟩ := hb.at_ (by simp)
        cases e
    subst h0
    have hc := hn rfl
    subst hc
    obtain ⟨i, hi, _⟩ := info_parts info5
    exact wpList_append_own_none hgd s x 94 ho base 5 i 1 Try.underlying94 hi v n (ints8 ys) hs hown hx (h v w (show w.ownsRow _ _ _ _ _ _ by simpa using hown) (World.grownBy.refl _ _) (.inl rfl))
  | some ad =>
    have hcell : ∀ j u, (ints8 xs)[j]? = some u → w.cell? (ad.add j) = some u := fun j u hu => by
      have hj : j < xs.length := by
        have := (List.getElem?_eq_some_iff.1 hu).1
        rwa [ints8_length] at this
      exact bytes_cells hb (by omega) j u hu
    obtain ⟨v', w', hr, h2, h3, h4⟩ := append_fresh hown ad xs.length c (ints8 xs) o.type (by rw [ints8_length]; omega) hcell (ints8_one xs) h63 hbase
    refine wpList_plain hgd fun K hK => ?_
    unfold Oper.wp execOp
    simp only [ho, resolve, invoke, builtin, Sem.run_bind, Sem.run_pure, Result.andThen_ok, List.map_toArray, List.map_cons, List.map_nil, hs, hx, hr]
    exact hK _ _ (h v' w' (by rw [ints8_append]; exact h2) h3 h4)
theorem step_append_turn {w : World} {ops : Array Oper} {o : Oper} {a : Act} {K : Act → World → Prop} {Q : Exit → Act → World → Prop} {E : Prop} (hgd : o.guard = none) (s x : Operand)
    (ho : o.op = .call { callee := .builtin .append, args := #[s, x], argTypes := #[94, 94] }) (base : Nat)
    (v : Value) (n : Nat) (ys : List Nat) (hs : a.eval s = v) (hown : w.ownsRow base 5 1 v n (ints8 ys)) (A : Option Addr) (xs : List Nat) (c : Nat) (ok : Nat → Prop)
    (hx : a.eval x = .slice A xs.length c) (hb : Bytes w ok A xs) (hn : A = none → c = 0) (h63 : n + xs.length ≤ 1000000) (hbase : base ≤ w.heap.size)
    (h : ∀ v' w', Hid (w'.ownsRow base 5 1 v' (n + xs.length) (ints8 (ys ++ xs))) → Hid (w.grownBy w' v.ownBlock) → Hid (SameOrNew w.heap.size v.ownBlock v'.ownBlock) → K (a.put o.dst v') w') :
    if Region.wanted o (yielded ops a.tmps) = true then Oper.wp Try.prog o a w K Q else E := by
  have hw : Region.wanted o (yielded ops a.tmps) = true := by simp [Region.wanted, hgd]
  rw [if_pos hw]
  cases A with
  | none =>
    have h0 : xs = [] := by
      cases xs with
      | nil => rfl
      | cons y ys =>
        obtain ⟨b, o, e, _⟩ := hb.at_ (by simp)
        cases e
    subst h0
    have hc := hn rfl
    subst hc
    obtain ⟨i, hi, _⟩ := info_parts info5
    have hr := run_append_owned_none (P := Try.prog) (w := w) base 94 o.type 5 i 1 Try.underlying94 hi v n (ints8 ys) hown
    unfold Oper.wp execOp
    simp only [ho, resolve, invoke, builtin, Sem.run_bind, Sem.run_pure, Result.andThen_ok, List.map_toArray, List.map_cons, List.map_nil, hs, hx, List.length_nil, hr]
    exact h v w (show w.ownsRow _ _ _ _ _ _ by simpa using hown) (World.grownBy.refl _ _) (.inl rfl)
  | some ad =>
    have hcell : ∀ j u, (ints8 xs)[j]? = some u → w.cell? (ad.add j) = some u := fun j u hu => by
      have hj : j < xs.length := by
        have := (List.getElem?_eq_some_iff.1 hu).1
        rwa [ints8_length] at this
      exact bytes_cells hb (by omega) j u hu
    obtain ⟨v', w', hr, h2, h3, h4⟩ := append_fresh hown ad xs.length c (ints8 xs) o.type (by rw [ints8_length]; omega) hcell (ints8_one xs) h63 hbase
    unfold Oper.wp execOp
    simp only [ho, resolve, invoke, builtin, Sem.run_bind, Sem.run_pure, Result.andThen_ok, List.map_toArray, List.map_cons, List.map_nil, hs, hx, hr]
    exact h v' w' (by rw [ints8_append]; exact h2) h3 h4

/-- What a writer's call turns: its own block W, and the block b of its bytes, which may be another one (b') behind. -/
structure Turn (x y : World) (W : Nat) (b b' : Option Nat) : Prop where
  os : y.os = x.os
  tape : y.tape = x.tape
  output : y.output = x.output
  size : x.heap.size ≤ y.heap.size
  block : ∀ k, k < x.heap.size → k ≠ W → b ≠ some k → y.heap[k]? = x.heap[k]?
  new : SameOrNew x.heap.size b b'
theorem Turn.refl (x : World) (W : Nat) (b : Option Nat) : Turn x x W b b := ⟨rfl, rfl, rfl, Nat.le_refl _, fun _ _ _ _ => rfl, .inl rfl⟩
theorem Turn.trans {x y z : World} {W : Nat} {b b' b'' : Option Nat} (h : Turn x y W b b') (k : Turn y z W b' b'') : Turn x z W b b'' := by
  refine ⟨k.os.trans h.os, k.tape.trans h.tape, k.output.trans h.output, Nat.le_trans h.size k.size, fun j hj hW hb => ?_, ?_⟩
  · refine (k.block j (Nat.lt_of_lt_of_le hj h.size) hW ?_).trans (h.block j hj hW hb)
    rcases h.new with e | e
    · rw [e]; exact hb
    · exact fun e' => by have := e j e'; omega
  · rcases k.new with e | e
    · rw [e]; exact h.new
    · exact .inr fun j hj => Nat.le_trans h.size (e j hj)
theorem Turn.below {x y : World} {W B : Nat} {b b' : Option Nat} (h : Turn x y W b b') (hW : B ≤ W) (hb : ∀ k, b = some k → B ≤ k) (hB : B ≤ x.heap.size) : Below B x y :=
  ⟨h.os, h.tape, h.output, h.size, fun k hk => h.block k (by omega) (by omega) (fun e => by have := hb k e; omega)⟩
theorem Turn.of_below {x y : World} {W : Nat} {b : Option Nat} (h : Below x.heap.size x y) : Turn x y W b b := ⟨h.os, h.tape, h.output, h.size, fun k hk _ _ => h.block k hk, .inl rfl⟩
/-- A writer: block W holds the slice v, which is of the bytes xs. -/
structure WAt (x : World) (base W : Nat) (v : Value) (xs : List Nat) : Prop where
  row : x.heap[W]? = some (.cells #[v] 96 (0, 0))
  own : x.ownsRow base 5 1 v xs.length (ints8 xs)
  le : base ≤ W
theorem WAt.ne {x : World} {base W : Nat} {v : Value} {xs : List Nat} (h : WAt x base W v xs) : v.ownBlock ≠ some W := fun e => by
  rcases h.own.2 with ⟨rfl, _⟩ | ⟨g, cap, cur, rfl, _, hg, _⟩
  · cases e
  · have : g = W := by simpa [Value.ownBlock] using e
    subst this
    have := h.row
    rw [hg] at this
    injection this with this
    injection this with _ this
    exact absurd this (by decide)
theorem WAt.lt {x : World} {base W : Nat} {v : Value} {xs : List Nat} (h : WAt x base W v xs) : W < x.heap.size := (Array.getElem?_eq_some_iff.1 h.row).1
theorem WAt.blk {x : World} {base W : Nat} {v : Value} {xs : List Nat} (h : WAt x base W v xs) : ∀ k, v.ownBlock = some k → base ≤ k := fun k hk => (h.own.lt k hk).1
theorem WAt.base_le {x : World} {base W : Nat} {v : Value} {xs : List Nat} (h : WAt x base W v xs) : base ≤ x.heap.size := Nat.le_trans h.le (Nat.le_of_lt h.lt)
theorem WAt.below {x y : World} {base W : Nat} {v : Value} {xs : List Nat} (h : WAt x base W v xs) (hb : Below x.heap.size x y) : WAt y base W v xs :=
  ⟨(hb.block W h.lt).trans h.row, own_keep h.own fun k _ hk => hb.block k hk, h.le⟩
/-- Behind the append, the new slice is stored. -/
theorem WAt.next {x y : World} {base W : Nat} {v v' : Value} {xs ys : List Nat} (h : WAt x base W v xs) (ho : y.ownsRow base 5 1 v' (xs.length + ys.length) (ints8 (xs ++ ys))) (hg : x.grownBy y v.ownBlock) (hn : SameOrNew x.heap.size v.ownBlock v'.ownBlock) :
    WAt (y.setCell ⟨W, 0, none⟩ v') base W v' (xs ++ ys) ∧ Turn x (y.setCell ⟨W, 0, none⟩ v') W v.ownBlock v'.ownBlock := by
  have hy : y.heap[W]? = some (.cells #[v] 96 (0, 0)) := (hg.block W h.lt (fun e => h.ne e.symm)).trans h.row
  have hlt : W < y.heap.size := Nat.lt_of_lt_of_le h.lt hg.size
  have hother : ∀ k, k ≠ W → (y.setCell ⟨W, 0, none⟩ v').heap[k]? = y.heap[k]? := fun k hk => Below.heap_setCell y ⟨W, 0, none⟩ v' k hk
  have hrow : (y.setCell ⟨W, 0, none⟩ v').heap[W]? = some (.cells #[v'] 96 (0, 0)) := by
    simp [World.setCell, Array.getElem?_modify, hy]
  have hnew : v'.ownBlock ≠ some W := by
    rcases hn with e | e
    · rw [e]; exact h.ne
    · exact fun e' => by have := e W e'; have := h.lt; omega
  refine ⟨⟨hrow, ?_, h.le⟩, ⟨hg.os, hg.tape, hg.output, by simpa [World.setCell] using hg.size, fun k hk hW hb => (hother k hW).trans (hg.block k hk (fun e => hb e.symm)), hn⟩⟩
  rw [List.length_append]
  exact ho.kept (only_setCell (only_refl y (some W)) (p := ⟨W, 0, none⟩) (.inl rfl) v') (.inr hnew)
theorem WAt.cell {x : World} {base W : Nat} {v : Value} {xs : List Nat} (h : WAt x base W v xs) : x.cell? ⟨W, 0, none⟩ = some v := by rw [cell_of_row _ _ _ _ _ _ h.row]; rfl
theorem WAt.frozen {x : World} {base W : Nat} {v : Value} {xs : List Nat} (h : WAt x base W v xs) : x.frozen? ⟨W, 0, none⟩ = false := by
  have hr : x.rowIs W 96 1 (fun _ => v) := ⟨_, h.row, rfl, fun i hi => by
    match i, hi with
    | 0, _ => rfl⟩
  exact hr.frozen 0
theorem ret_i64 {a b : Int} (h : a = b) : Ending.returned (.int .i64 a) = .returned (.int .i64 b) := by rw [h]

theorem len64_any (n : Nat) (w : World) (h : n < 18446744073709551616) : Calls Try.prog 126 #[.int .u64 (n : Int)] w fun e w' => e = .returned (.int .i64 ((Lib.bitLen n : Nat) : Int)) ∧ w' = w := by
  have h := Any.bits_Len64 Try.lays129 (n : Int) w (by omega) (by omega)
  rwa [Int.toNat_natCast] at h

theorem bytes_one (w : World) (y : Nat) (hy : y < 256) : Bytes (w.alloc (.cells #[.int .u8 (y : Int)] 5)) (fun _ => True) (some ⟨w.heap.size, 0, none⟩) [y] := by
  refine ⟨fun x hx => by rw [List.mem_singleton] at hx; omega, fun _ => ⟨_, _, rfl, trivial, fun j hj => ?_⟩⟩
  rw [Nat.zero_add, cell_of_row _ _ _ _ _ _ (heap_alloc_new _ _)]
  match j, hj with
  | 0, _ => rfl
theorem WAt.slice {x : World} {base W : Nat} {v : Value} {xs : List Nat} (h : WAt x base W v xs) : ∃ A c, v = .slice A xs.length c := by
  rcases h.own.2 with ⟨e, h0⟩ | ⟨g, cap, cur, e, _⟩
  · exact ⟨none, 0, by rw [e, h0]⟩
  · exact ⟨_, _, e⟩
theorem take_next (n m : Nat) (h : n < 18446744073709551616) (hm : m + 1 ≤ (be n).length) : (be n).take ((be n).length - (m + 1)) ++ [n / 256 ^ m % 256] = (be n).take ((be n).length - m) := by
  rw [← be_get m n h (by omega), show (be n).length - m = ((be n).length - (m + 1)) + 1 by omega, List.take_add_one, show (be n).length - (m + 1) = (be n).length - 1 - m by omega, List.getD_eq_getElem?_getD, List.getElem?_eq_getElem (by omega)]
  rfl
/-- What the loop keeps: m bytes are left. -/
structure NInv (w : World) (base W : Nat) (b0 : Option Nat) (xs : List Nat) (n m : Nat) (v : Value) (wr : World) : Prop where
  at_ : WAt wr base W v (xs ++ [(be n).length] ++ (be n).take ((be n).length - m))
  turn : Turn w wr W b0 v.ownBlock
set_option maxRecDepth 100000 in
set_option maxHeartbeats 2000000 in
theorem num_any (n : Nat) (w : World) (base W : Nat) (v : Value) (xs : List Nat) (h : n < 18446744073709551616) (hw : WAt w base W v xs) (hs : xs.length ≤ 900000) :
    Calls Try.prog 102 #[.pointer (some ⟨W, 0, none⟩), .int .u64 (n : Int)] w fun e w' => e = .returned (.tuple #[]) ∧ ∃ v', WAt w' base W v' (xs ++ numB n) ∧ Turn w w' W v.ownBlock v'.ownBlock := by
  have HW := Lib.hid hw
  have hk8 := be_len8 n
  have hbl := be_length n h
  obtain ⟨L, hL⟩ : ∃ L, L = (be n).length := ⟨_, rfl⟩
  rw [← hL] at hk8 hbl
  have HC := Lib.hid (len64_any n w h)
  obtain ⟨bl, hb⟩ : ∃ bl, bl = Lib.bitLen n := ⟨_, rfl⟩
  rw [← hb] at hbl HC
  clear hb
  have eI : ((bl : Int) + 7) / 8 = (L : Int) := by omega
  have eU : IntKind.u8.wrap (L : Int) = (L : Int) := by rw [IntKind.wrap_u8]; omega
  have blb : bl ≤ 64 := by omega
  have HL := Lib.hid hL
  clear hL hbl
  have c0 := hw.cell
  have f0 := hw.frozen
  clear hw
  obtain ⟨A, c, rfl⟩ := HW.out.slice
  have HX := Lib.hid (HW.out.below (below1 w (.cells #[.int .u8 (L : Int)] 5)))
  have HB1 := Lib.hid (bytes_one w L (by omega))
  have S0 := Lib.hid HX.out.base_le
  go_enter Try.func102, Try.ntmps102
  go_upto_region 2 with (go_at_call 126; refine HC.out.mono ?_; rintro e w' ⟨rfl, ew⟩; obtain rfl := ew.symm)
  rw [eI]
  go_wp2_with (first
    | (refine wpList_append_turn rfl (.tmp 15) (.tmp 18) rfl base _ xs.length xs rfl HX.out.own (some ⟨w.heap.size, 0, none⟩) [L] 1 (fun _ => True) rfl HB1.out (fun h => by cases h) (by simp; omega) S0.out ?_
       intro v1 w1 H1 G1 N1
       obtain ⟨g1, cap1, rfl⟩ := owns_slice H1.out (by simp)
       have R1 := Lib.hid (HX.out.next H1.out G1.out N1.out)
       have c1 : w1.cell? ⟨W, 0, none⟩ = some (.slice A xs.length c) := (World.cell?_of_block (w := w.alloc (.cells #[.int .u8 (L : Int)] 5)) (a := ⟨W, 0, none⟩) (G1.out.block W HX.out.lt (fun e => HX.out.ne e.symm))).trans HX.out.cell
       have f1 : w1.frozen? ⟨W, 0, none⟩ = false := (World.frozen?_of_block (w := w.alloc (.cells #[.int .u8 (L : Int)] 5)) (a := ⟨W, 0, none⟩) (G1.out.block W HX.out.lt (fun e => HX.out.ne e.symm))).trans HX.out.frozen))
  have HI0 : Hid (NInv w base W (Value.ownBlock (.slice A xs.length c)) xs n L (.slice (some ⟨g1, 0, none⟩) (xs.length + [L].length) cap1) (w1.setCell ⟨W, 0, none⟩ (.slice (some ⟨g1, 0, none⟩) (xs.length + [L].length) cap1))) := by
    refine ⟨?_, (Turn.of_below (below1 w _)).trans R1.out.2⟩
    have h := R1.out.1
    rw [HL.out] at h ⊢
    simpa using h
  have HN := Lib.hid h
  have hxl : xs.length ≤ 900000 := hs
  clear R1 c1 f1 H1 G1 N1 HX HB1 S0 c0 f0 HW HC blb eI eU h hs
  have l1 : xs.length + [L].length = xs.length + 1 := rfl
  rw [l1] at HI0
  generalize w1.setCell ⟨W, 0, none⟩ (.slice (some ⟨g1, 0, none⟩) (xs.length + 1) cap1) = w2 at *
  go_loopw [4] (fun a wr => ∃ (m : Nat), m ≤ L ∧ a = .int .i64 (m : Int) ∧ Hid (∃ v, NInv w base W (Value.ownBlock (.slice A xs.length c)) xs n m v wr)) (fun a _ => (intOf a).toNat)
  case atStart => exact ⟨L, Nat.le_refl _, rfl, ⟨_, HI0⟩⟩
  case round =>
    clear HI0
    obtain ⟨m, hm, rfl, HI⟩ := hrel
    by_cases h0 : 0 < m
    · have h0' : (0 : Int) < (m : Int) := by omega
      obtain ⟨k, rfl⟩ : ∃ k, m = k + 1 := ⟨m - 1, by omega⟩
      obtain ⟨v, hI⟩ := HI.out
      obtain ⟨ys, hys⟩ : ∃ ys, ys = xs ++ [(be n).length] ++ (be n).take ((be n).length - (k + 1)) := ⟨_, rfl⟩
      have hat := hI.at_
      rw [← hys] at hat
      have HTU := Lib.hid hI.turn
      have hyl : ys.length ≤ 900010 := by
        rw [hys, List.length_append, List.length_append, List.length_take]
        simp only [List.length_cons, List.length_nil]
        have := be_len8 n
        omega
      have HYS := Lib.hid hys
      clear hys hI HI
      obtain ⟨A2, c2, rfl⟩ := hat.slice
      have c3 := hat.cell
      have f3 := hat.frozen
      obtain ⟨y, hy⟩ : ∃ y, y = n / 256 ^ k % 256 := ⟨_, rfl⟩
      have hy2 : y < 256 := by omega
      have ey : IntKind.u8.wrap ((n : Int) / 2 ^ (8 * (k : Int)).toNat) = (y : Int) := by
        have e1 : ((n : Int) / 2 ^ (8 * k)) = ((n / 2 ^ (8 * k) : Nat) : Int) := by rw [Int.natCast_ediv, Int.natCast_pow]; rfl
        rw [IntKind.wrap_u8, hy, show (8 * (k : Int)).toNat = 8 * k by omega, e1, show (2 : Nat) ^ (8 * k) = 256 ^ k by rw [Nat.pow_mul]]
        omega
      have HY := Lib.hid hy
      have HX0 : Hid (WAt (wr.alloc (.cells #[.int .u8 (y : Int)] 5)).drew base W (.slice A2 ys.length c2) ys) := by
        have h := hat.below (below1 wr (.cells #[.int .u8 (y : Int)] 5))
        exact ⟨h.row, h.own, h.le⟩
      have HB0 : Hid (Bytes (wr.alloc (.cells #[.int .u8 (y : Int)] 5)).drew (fun _ => True) (some ⟨wr.heap.size, 0, none⟩) [y]) := by
        have h := bytes_one wr y hy2
        exact ⟨h.lt, h.at_⟩
      have SB := Lib.hid HX0.out.base_le
      have HTW : Hid (Turn wr (wr.alloc (.cells #[.int .u8 (y : Int)] 5)).drew W (Value.ownBlock (.slice A2 ys.length c2)) (Value.ownBlock (.slice A2 ys.length c2))) := by
        have h := below1 wr (.cells #[.int .u8 (y : Int)] 5)
        exact Turn.of_below ⟨h.os, h.tape, h.output, h.size, h.block⟩
      have c5 : (wr.alloc (.cells #[.int .u8 (y : Int)] 5)).cell? ⟨W, 0, none⟩ = some (.slice A2 ys.length c2) := (hat.below (below1 wr (.cells #[.int .u8 (y : Int)] 5))).cell
      have f5 : (wr.alloc (.cells #[.int .u8 (y : Int)] 5)).frozen? ⟨W, 0, none⟩ = false := (hat.below (below1 wr (.cells #[.int .u8 (y : Int)] 5))).frozen
      clear hy hat
      have w8 : IntKind.i64.wrap (8 * (k : Int)) = 8 * (k : Int) := IntWalk.i64_in _ (by omega)
      have s0 : 0 ≤ 8 * (k : Int) := by omega
      have s1 : 8 * (k : Int) < 64 := by omega
      go_wp2_with fail
      go_region_law (
        refine step_append_turn rfl (.tmp 30) (.tmp 36) rfl base _ ys.length ys rfl HX0.out.own (some ⟨wr.heap.size, 0, none⟩) [y] 1 (fun _ => True) rfl HB0.out (fun h => by cases h) (by simp; omega) SB.out ?_
        intro v3 w3 H3 G3 N3
        obtain ⟨g3, cap3, rfl⟩ := owns_slice H3.out (by simp)
        have R3 := Lib.hid (HX0.out.next H3.out G3.out N3.out)
        have c4 : w3.cell? ⟨W, 0, none⟩ = some (.slice A2 ys.length c2) := (World.cell?_of_block (w := (wr.alloc (.cells #[.int .u8 (y : Int)] 5)).drew) (a := ⟨W, 0, none⟩) (G3.out.block W HX0.out.lt (fun e => HX0.out.ne e.symm))).trans HX0.out.cell
        have f4 : w3.frozen? ⟨W, 0, none⟩ = false := (World.frozen?_of_block (w := (wr.alloc (.cells #[.int .u8 (y : Int)] 5)).drew) (a := ⟨W, 0, none⟩) (G3.out.block W HX0.out.lt (fun e => HX0.out.ne e.symm))).trans HX0.out.frozen)
      all_goals
        go_wp2_with fail
        go_roundw
        case rel =>
          refine ⟨k, by omega, by go_num, _, ?_, HTU.out.trans (HTW.out.trans R3.out.2)⟩
          have h := R3.out.1
          have hk : k + 1 ≤ (be n).length := by rw [← HL.out]; exact hm
          have e : ys ++ [y] = xs ++ [(be n).length] ++ (be n).take ((be n).length - k) := by
            rw [HYS.out, HY.out, List.append_assoc, take_next n k HN.out hk]
          rw [e] at h
          exact h
        case measure => simp [intOf]
    · obtain rfl : m = 0 := by omega
      go_wp2
      obtain ⟨v, hI⟩ := HI.out
      have h := hI.at_
      rw [Nat.sub_zero, List.take_length, List.append_assoc] at h
      go_end0
      exact ⟨rfl, v, h, hI.turn⟩
theorem own_slice {w : World} {base : Nat} {v : Value} {n : Nat} {l : List Value} (h : w.ownsRow base 5 1 v n l) : ∃ A c, v = .slice A n c := by
  rcases h.2 with ⟨e, h0⟩ | ⟨g, cap, cur, e, _⟩
  · exact ⟨none, 0, by rw [e, h0]⟩
  · exact ⟨_, _, e⟩
set_option maxHeartbeats 1000000 in
theorem bytes_any (w : World) (base W : Nat) (v : Value) (xs : List Nat) (hw : WAt w base W v xs) (hz : ∀ z, z ∈ xs → z < 256) (hs : xs.length ≤ 1000000) :
    Calls Try.prog 65 #[.pointer (some ⟨W, 0, none⟩)] w fun e w' => ∃ u, e = .returned u ∧ w'.ownsRow w.heap.size 5 1 u xs.length (ints8 xs) ∧ Below w.heap.size w w' := by
  obtain ⟨A, c, rfl, hn, hb⟩ := own_bytes hw.own hz
  have HC := Lib.hid (fresh_any xs c A w hb hs)
  have c0 := hw.cell
  clear hw hb
  go_enter Try.func65, Try.ntmps65
  go_wp2_with (go_at_call 108; refine HC.out.mono ?_; rintro e w1 ⟨u, rfl, hr⟩; have HR := Lib.hid hr; clear hr)
  go_ret
  exact ⟨u, rfl, HR.out⟩
end Go.Proofs.Ytnpacjdgbmldlaa.Wr
