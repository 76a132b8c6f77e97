/- Texts of one kind, joined: U1, U2, U3, U4, U5. -/
import Derived.Test.YtnpacjdgbmldlaaCaA1
set_option linter.unusedVariables false
set_option linter.unusedSimpArgs false
/- total of tally: ported. -/
namespace Go.Proofs.Ytnpacjdgbmldlaa.Ta
open Go.RowKit

namespace Tal
def M : Nat := 4611686018427387904
def add (x y : Nat) : Nat := min (x + y) M
def sum (ls : List Nat) : Nat := min ls.sum M
theorem sum_le (ls : List Nat) : sum ls ≤ 4611686018427387904 := Nat.min_le_right _ _
theorem sum_snoc (ls : List Nat) (n : Nat) : sum (ls ++ [n]) = min (sum ls + min n M) M := by
  simp only [sum, List.sum_append, List.sum_cons, List.sum_nil]
  omega
theorem sum_take (ls : List Nat) {j : Nat} (h : j < ls.length) : sum (ls.take (j + 1)) = min (sum (ls.take j) + min (ls.getD j 0) 4611686018427387904) 4611686018427387904 := by
  rw [List.take_add_one, List.getD_eq_getElem?_getD, List.getElem?_eq_getElem h]
  exact sum_snoc _ _
theorem sum_two (x y : Nat) : sum [x, y] = add x y := by simp [sum, add]
def up (n : Int) : Nat := n.toNat
def down (n : Int) : Nat := (-n).toNat
def szs (n : Int) (i : Nat) : Nat := if i = 0 then up n else down n
end Tal

/-- A slice of numbers of 64 bits. -/
structure Nums (w : World) (ok : Nat → Prop) (A : Option Addr) (ls : List Nat) : Prop where
  at_ : 0 < ls.length → ∃ b o, A = some ⟨b, o, none⟩ ∧ ok b ∧ ∀ j, j < ls.length → w.cell? ⟨b, o + j, none⟩ = some (.int .u64 ((ls.getD j 0 : Nat) : Int))
theorem Nums.keep {w w' : World} {ok : Nat → Prop} {A : Option Addr} {ls : List Nat} (h : Nums w ok A ls) (hk : ∀ b j, ok b → b < w.heap.size → w'.cell? ⟨b, j, none⟩ = w.cell? ⟨b, j, none⟩) : Nums w' ok A ls :=
  ⟨fun hp => by
    obtain ⟨b, o, e, hb, hc⟩ := h.at_ hp
    refine ⟨b, o, e, hb, fun j hj => ?_⟩
    have h1 := hc j hj
    rw [hk b _ hb (World.block_lt_of_cell? w _ h1)]
    exact h1⟩
theorem Nums.below {w w' : World} {B : Nat} {A : Option Addr} {ls : List Nat} (h : Nums w (· < B) A ls) (hg : Below B w w') : Nums w' (· < B) A ls :=
  h.keep fun b j hb _ => World.cell?_of_block (w := w) (a := ⟨b, j, none⟩) (hg.block b hb)

set_option maxRecDepth 100000 in
set_option maxHeartbeats 1000000 in
theorem total_any (ls : List Nat) (c : Nat) (A : Option Addr) (w : World) {ok : Nat → Prop} (hv : Nums w ok A ls) (hm : ls.length ≤ 9223372036854775807) :
    Calls Try.prog 170 #[.slice A ls.length c] w fun e w' => e = .returned (.int .u64 ((Tal.sum ls : Nat) : Int)) ∧ w' = w := by
  have HV := Lib.hid hv
  clear hv
  go_enter Try.func170, Try.ntmps170
  go_wp2
  go_loopw [3, 8] (fun a v wr => ∃ j : Nat, j ≤ ls.length ∧ v = .int .i64 j ∧ (∃ q : Nat, a = .int .u64 (q : Int) ∧ Hid (q = Tal.sum (ls.take j))) ∧ Hid (wr = w)) (fun _ v _ => ls.length - (intOf v).toNat)
  case atStart => exact ⟨0, by omega, rfl, ⟨0, rfl, by show 0 = _; simp [Tal.sum]⟩, rfl⟩
  case round =>
    obtain ⟨j, hj, rfl, ⟨q, rfl, HQ⟩, HW⟩ := hrel
    by_cases hlt : j < ls.length
    · obtain ⟨b, o, hA, _, hc⟩ := HV.out.at_ (by omega)
      subst hA
      obtain ⟨n, hn⟩ : ∃ n, n = ls.getD j 0 := ⟨_, rfl⟩
      have c1 : wr.cell? ⟨b, o + j, none⟩ = some (.int .u64 (n : Int)) := by rw [HW.out, hn]; exact hc j hlt
      have hq : q ≤ 4611686018427387904 := by rw [HQ.out]; exact Tal.sum_le _
      have HS : Hid (Tal.sum (ls.take (j + 1)) = min (q + min n 4611686018427387904) 4611686018427387904) := by show _ = _; rw [Tal.sum_take ls hlt, ← HQ.out, ← hn]
      clear hn HQ hc
      by_cases h1 : n ≤ 4611686018427387904
      · have h1' : (n : Int) ≤ 4611686018427387904 := by omega
        have h1'' : ¬ ((4611686018427387904 : Int) < (n : Int)) := by omega
        have hw : IntKind.u64.wrap ((q : Int) + (n : Int)) = (q : Int) + (n : Int) := by rw [IntKind.wrap_u64]; omega
        by_cases h2 : q + n ≤ 4611686018427387904
        · have h2' : ¬ ((4611686018427387904 : Int) < (q : Int) + (n : Int)) := by omega
          go_wp2
          go_roundw
          case rel => exact ⟨j + 1, by omega, by go_num, ⟨q + n, by first | rfl | (congr 1; omega) | (simp; omega), by show _ = _; rw [HS.out]; omega⟩, HW⟩
          case measure => simp [intOf]; omega
        · have h2' : (4611686018427387904 : Int) < (q : Int) + (n : Int) := by omega
          go_wp2
          go_roundw
          case rel => exact ⟨j + 1, by omega, by go_num, ⟨4611686018427387904, rfl, by show _ = _; rw [HS.out]; omega⟩, HW⟩
          case measure => simp [intOf]; omega
      · have h1' : (4611686018427387904 : Int) < (n : Int) := by omega
        have hw : IntKind.u64.wrap ((q : Int) + 4611686018427387904) = (q : Int) + 4611686018427387904 := by rw [IntKind.wrap_u64]; omega
        by_cases h2 : q = 0
        · subst h2
          go_wp2
          go_roundw
          case rel => exact ⟨j + 1, by omega, by go_num, ⟨4611686018427387904, rfl, by show _ = _; rw [HS.out]; omega⟩, HW⟩
          case measure => simp [intOf]; omega
        · have h2' : (4611686018427387904 : Int) < (q : Int) + 4611686018427387904 := by omega
          go_wp2
          go_roundw
          case rel => exact ⟨j + 1, by omega, by go_num, ⟨4611686018427387904, rfl, by show _ = _; rw [HS.out]; omega⟩, HW⟩
          case measure => simp [intOf]; omega
    · obtain rfl : j = ls.length := by omega
      go_wp2
      go_ret
      refine ⟨ret_int ?_, HW.out⟩
      rw [HQ.out, List.take_length]
end Go.Proofs.Ytnpacjdgbmldlaa.Ta

/- sizes, Value of tally: ported. -/
namespace Go.Proofs.Ytnpacjdgbmldlaa.Ta
open Go.RowKit

abbrev tallyV (u d : Nat) : Value := .agg #[.int .u64 (u : Int), .int .u64 (d : Int)]
theorem arr2 (f : Nat → Nat) : arrOf .u64 2 f = #[.int .u64 (f 0 : Int), .int .u64 (f 1 : Int)] := rfl
theorem size55 : (Try.prog.info? 195).map (·.size) = some 2 := by kernel_rfl
theorem size40 : (Try.prog.info? 153).map (·.size) = some 2 := by kernel_rfl

theorem ret_two {a b c d : Int} (h1 : a = c) (h2 : b = d) : Ending.returned (.agg #[.int .u64 a, .int .u64 b]) = .returned (.agg #[.int .u64 c, .int .u64 d]) := by rw [h1, h2]
theorem nums_new (w : World) (x y : Int) (t : TypeId) : (w.alloc (.cells #[.int .u64 x, .int .u64 y] t)).heap[w.heap.size]? = some (.cells #[.int .u64 x, .int .u64 y] t (0, 0)) := heap_alloc_new _ _

set_option maxRecDepth 100000 in
set_option maxHeartbeats 1000000 in
theorem sizes_any (n : Int) (w : World) (h1 : -9223372036854775808 ≤ n) (h2 : n ≤ 9223372036854775807) :
    Calls Try.prog 154 #[.int .i64 n] w fun e w' => e = .returned (.agg (arrOf .u64 2 (Tal.szs n))) ∧ Below w.heap.size w w' := by
  rw [arr2]
  have HD := Lib.hid (nums_new w 0 0 195)
  by_cases hn : n < 0
  · obtain ⟨m, hm⟩ : ∃ m : Nat, (m : Int) = -n := ⟨(-n).toNat, by omega⟩
    have e1 : IntKind.i64.wrap (n + 1) = n + 1 := by rw [IntKind.wrap_i64]; omega
    have e2 : IntKind.i64.wrap (-(n + 1)) = -(n + 1) := by rw [IntKind.wrap_i64]; omega
    have e3 : IntKind.u64.wrap (-(n + 1)) = -(n + 1) := by rw [IntKind.wrap_u64]; omega
    have e4 : IntKind.u64.wrap (-(n + 1) + 1) = (m : Int) := by rw [IntKind.wrap_u64]; omega
    have H1 := Lib.hid h1
    have H2 := Lib.hid h2
    have HM := Lib.hid hm
    clear h1 h2 hm
    have s2 : Hid ((Try.prog.info? 195).map (·.size) = some (#[.int .u64 0, .int .u64 (m : Int)] : Array Value).size) := size55
    have o2 : Hid ((#[.int .u64 0, .int .u64 (m : Int)] : Array Value).all (·.oneCell') = true) := two_one _ _ rfl rfl
    have z2 : Hid ((#[.int .u64 0, .int .u64 0] : Array Value).size = (#[.int .u64 0, .int .u64 (m : Int)] : Array Value).size) := rfl
    go_enter Try.func154, Try.ntmps154
    go_wp2_with (refine wpList_store_row rfl 195 _ _ rfl w.heap.size #[.int .u64 0, .int .u64 (m : Int)] rfl rfl 195 _ HD.out s2.out z2.out o2.out ?_)
    refine bodyPost_ret (results_cell_row Try.results154 _ _ w.heap.size 195 _ (0, 0) _ rfl (setRow_heap _ _ _ _ _ _ HD.out) Try.underlying195 rfl s2.out) rfl ⟨?_, below_setRow' (below1 _ _) (Nat.le_refl _) _⟩
    have := HM.out
    refine ret_two ?_ ?_
    · show (0 : Int) = ((Tal.up n : Nat) : Int)
      simp only [Tal.up]; omega
    · show (m : Int) = ((Tal.down n : Nat) : Int)
      simp only [Tal.down]; omega
  · obtain ⟨m, hm⟩ : ∃ m : Nat, (m : Int) = n := ⟨n.toNat, by omega⟩
    subst hm
    have e3 : IntKind.u64.wrap (m : Int) = (m : Int) := by rw [IntKind.wrap_u64]; omega
    have H1 := Lib.hid h1
    have H2 := Lib.hid h2
    clear h1 h2
    have s2 : Hid ((Try.prog.info? 195).map (·.size) = some (#[.int .u64 (m : Int), .int .u64 0] : Array Value).size) := size55
    have o2 : Hid ((#[.int .u64 (m : Int), .int .u64 0] : Array Value).all (·.oneCell') = true) := two_one _ _ rfl rfl
    have z2 : Hid ((#[.int .u64 0, .int .u64 0] : Array Value).size = (#[.int .u64 (m : Int), .int .u64 0] : Array Value).size) := rfl
    go_enter Try.func154, Try.ntmps154
    go_wp2_with (refine wpList_store_row rfl 195 _ _ rfl w.heap.size #[.int .u64 (m : Int), .int .u64 0] rfl rfl 195 _ HD.out s2.out z2.out o2.out ?_)
    refine bodyPost_ret (results_cell_row Try.results154 _ _ w.heap.size 195 _ (0, 0) _ rfl (setRow_heap _ _ _ _ _ _ HD.out) Try.underlying195 rfl s2.out) rfl ⟨?_, below_setRow' (below1 _ _) (Nat.le_refl _) _⟩
    refine ret_two ?_ ?_
    · show (m : Int) = ((Tal.up m : Nat) : Int)
      simp only [Tal.up]; omega
    · show (0 : Int) = ((Tal.down m : Nat) : Int)
      simp only [Tal.down]; omega


set_option maxHeartbeats 1000000 in
theorem value_any (u d : Nat) (w : World) (hu : u < 18446744073709551616) : Calls Try.prog 115 #[tallyV u d] w fun e w' => e = .returned (.int .u64 ((u - d : Nat) : Int)) ∧ Below w.heap.size w w' := by
  by_cases h : d ≤ u
  · have h' : (d : Int) ≤ (u : Int) := by omega
    have hl : ¬ ((u : Int) < (d : Int)) := by omega
    have e1 : IntKind.u64.wrap ((u : Int) - (d : Int)) = ((u - d : Nat) : Int) := by rw [IntKind.wrap_u64]; omega
    have E1 := Lib.hid e1
    have HU := Lib.hid hu
    by_cases e : d = u
    · subst e
      clear e1 hu
      go_enter Try.func115, Try.ntmps115
      go_wp2
      go_ret
      refine ⟨ret_int ?_, below1 _ _⟩
      first | rfl | simp
    · have hlt : (d : Int) < (u : Int) := by omega
      clear hu
      go_enter Try.func115, Try.ntmps115
      go_wp2
      go_ret
      exact ⟨ret_int (by first | rfl | exact E1.out), below1 _ _⟩
  · have h' : (u : Int) < (d : Int) := by omega
    have e1 : IntKind.u64.wrap ((u : Int) - (u : Int)) = 0 := by rw [IntKind.wrap_u64]; omega
    have HU := Lib.hid hu
    clear hu
    go_enter Try.func115, Try.ntmps115
    go_wp2
    go_ret
    refine ⟨ret_int ?_, below1 _ _⟩
    show (0 : Int) = _
    omega
end Go.Proofs.Ytnpacjdgbmldlaa.Ta

/- two boxed arguments: ported. -/
namespace Go.Proofs.Ytnpacjdgbmldlaa.Ta
open Go.RowKit

/-- Operation k turns block g alone, into cs; all others only make new memory. -/
def Rst (k g : Nat) (cs : Array Value) (t i : Nat) (x y : World) : Prop := if i = k then x.grownBy y (some g) ∧ y.heap[g]? = some (.cells cs t (0, 0)) else Below x.heap.size x y
section
variable {k g t i b : Nat} {cs : Array Value} {w x y : World}
theorem Rst.keep (h : Rst k g cs t i x y) (hb : b ≠ g) (hl : b < x.heap.size) : y.heap[b]? = x.heap[b]? := by
  unfold Rst at h
  by_cases e : i = k
  · rw [if_pos e] at h; exact h.1.block b hl (fun e => hb (by injection e))
  · rw [if_neg e] at h; exact h.block b hl
theorem Rst.stay (h : Rst k g cs t i x y) (hi : i ≠ k) (hl : b < x.heap.size) : y.heap[b]? = x.heap[b]? := by
  unfold Rst at h
  rw [if_neg hi] at h; exact h.block b hl
theorem Rst.size (h : Rst k g cs t i x y) : x.heap.size ≤ y.heap.size := by
  unfold Rst at h
  by_cases e : i = k
  · rw [if_pos e] at h; exact h.1.size
  · rw [if_neg e] at h; exact h.size
theorem Rst.below (h : Rst k g cs t i x y) (hg : w.heap.size ≤ g) (hb : Below w.heap.size w x) : Below w.heap.size w y := by
  unfold Rst at h
  by_cases e : i = k
  · rw [if_pos e] at h; exact below_only hb h.1 hb.size hg
  · rw [if_neg e] at h; exact hb.trans (h.mono hb.size)
theorem Rst.of (h : Below x.heap.size x y) (hi : i ≠ k) : Rst k g cs t i x y := by unfold Rst; rw [if_neg hi]; exact h
theorem Rst.done (h : Rst k g cs t k x y) : y.heap[g]? = some (.cells cs t (0, 0)) := by unfold Rst at h; rw [if_pos rfl] at h; exact h.2
theorem Rst.at_ {old : Array Value} (h : x.heap[g]? = some (.cells old t (0, 0))) : Rst k g cs t k x (x.setRow g cs) := by
  unfold Rst; rw [if_pos rfl]
  exact ⟨⟨rfl, rfl, rfl, by simp, fun i hi hne => setRow_other x g i cs (fun e => hne (by rw [e]))⟩, setRow_heap _ _ _ _ _ _ h⟩
theorem lt_of_row {o : Obj} (h : x.heap[b]? = some o) : b < x.heap.size := (Array.getElem?_eq_some_iff.1 h).1
end

/-- Two boxed arguments and a result's cells. -/
structure Two (w : World) (ca cb : Array Value) (ta tb tr n : Nat) (x : World) : Prop where
  a : x.heap[w.heap.size]? = some (.cells ca ta (0, 0))
  b : x.heap[w.heap.size + 1]? = some (.cells cb tb (0, 0))
  r : ∃ old, x.heap[w.heap.size + 1 + 1]? = some (.cells old tr (0, 0)) ∧ old.size = n
  below : Below w.heap.size w x
/-- A new block that is not block g. -/
def NB (g : Nat) (cs : Array Value) (t len : Nat) (v : Value) (x : World) : Prop := ∃ b, v = .slice (some ⟨b, 0, none⟩) len len ∧ b ≠ g ∧ x.heap[b]? = some (.cells cs t (0, 0))
theorem NB.up {k g i t t' len : Nat} {cs cr : Array Value} {v : Value} {x y : World} (h : Rst k g cr t' i x y) : NB g cs t len v x → NB g cs t len v y := fun ⟨b, e, hb, hr⟩ => ⟨b, e, hb, (h.keep hb (lt_of_row hr)).trans hr⟩
theorem NB.new {g : Nat} {x : World} (cs : Array Value) (t len : Nat) (hg : g < x.heap.size) : NB g cs t len (.slice (some ⟨x.heap.size, 0, none⟩) len len) (x.alloc (.cells cs t)) := ⟨_, rfl, by omega, heap_alloc_new _ _⟩
def Done (g : Nat) (cs : Array Value) (t : Nat) (x : World) : Prop := x.heap[g]? = some (.cells cs t (0, 0))
theorem Done.up {k g i t t' : Nat} {cs cr : Array Value} {x y : World} (hi : k ≠ i) (h : Rst k g cr t' i x y) : Done g cs t x → Done g cs t y := fun hr => (h.stay (Ne.symm hi) (lt_of_row hr)).trans hr
theorem Two.drew {w x : World} {ca cb : Array Value} {ta tb tr n : Nat} (I : Two w ca cb ta tb tr n x) : Two w ca cb ta tb tr n x.drew := ⟨I.a, I.b, I.r, ⟨I.below.os, I.below.tape, I.below.output, I.below.size, I.below.block⟩⟩
theorem Two.start (w : World) (ca cb cr : Array Value) (ta tb tr n : Nat) (hn : cr.size = n) : Two w ca cb ta tb tr n (((w.alloc (.cells ca ta)).alloc (.cells cb tb)).alloc (.cells cr tr)) := by
  have h1 : (w.alloc (.cells ca ta)).heap[w.heap.size]? = some (.cells ca ta (0, 0)) := heap_alloc_new _ _
  have h2 : ((w.alloc (.cells ca ta)).alloc (.cells cb tb)).heap[w.heap.size + 1]? = some (.cells cb tb (0, 0)) := by simpa using heap_alloc_new (w.alloc (.cells ca ta)) (.cells cb tb)
  have h3 : (((w.alloc (.cells ca ta)).alloc (.cells cb tb)).alloc (.cells cr tr)).heap[w.heap.size + 1 + 1]? = some (.cells cr tr (0, 0)) := by simpa using heap_alloc_new ((w.alloc (.cells ca ta)).alloc (.cells cb tb)) (.cells cr tr)
  have k1 := (below1 (w.alloc (.cells ca ta)) (.cells cb tb)).block w.heap.size (by simp)
  have k2 := (below1 ((w.alloc (.cells ca ta)).alloc (.cells cb tb)) (.cells cr tr))
  refine ⟨(k2.block w.heap.size (by simp; omega)).trans (k1.trans h1), (k2.block (w.heap.size + 1) (by simp)).trans h2, ⟨cr, h3, hn⟩, (below2 _ _ _).alloc (by simp; omega) _⟩
theorem Two.then_ {w x y : World} {ca cb cs : Array Value} {ta tb tr n k i : Nat} (hn : cs.size = n) (hr : Rst k (w.heap.size + 1 + 1) cs tr i x y) (I : Two w ca cb ta tb tr n x) : Two w ca cb ta tb tr n y :=
  ⟨(hr.keep (by omega) (lt_of_row I.a)).trans I.a, (hr.keep (by omega) (lt_of_row I.b)).trans I.b, by
    by_cases e : i = k
    · subst e; exact ⟨cs, hr.done, hn⟩
    · obtain ⟨old, h1, h2⟩ := I.r
      exact ⟨old, (hr.stay e (lt_of_row h1)).trans h1, h2⟩, hr.below (by omega) I.below⟩
theorem exec_store {P : Program} {ev : Operand → Value} {o : Oper} {w : World} (ty : TypeId) (x y : Operand) (ho : o.op = .store ty x y) (g : Nat) (cells : Array Value) (hx : ev x = .pointer (some ⟨g, 0, none⟩)) (hy : ev y = .agg cells)
    (t : TypeId) (old : Array Value) (hg : w.heap[g]? = some (.cells old t (0, 0))) (hi : (P.info? ty).map (·.size) = some cells.size)
    (hold : old.size = cells.size) (h1 : cells.all (·.oneCell') = true) : (execOp ev o).run P w = .ok .skip (w.setRow g cells) := by
  unfold execOp
  simp only [ho, hx, hy, Instr.storeAt, Instr.sureAddr, Sem.run_bind, Sem.run_pure, Result.andThen_ok, run_storeVar_row w g t ty old cells hg hi hold h1]
end Go.Proofs.Ytnpacjdgbmldlaa.Ta

/- Plus of tally: ported. -/
namespace Go.Proofs.Ytnpacjdgbmldlaa.Ta
open Go.RowKit

theorem nums_row2 {x : World} {b t a c : Nat} (h : x.heap[b]? = some (.cells #[.int .u64 (a : Int), .int .u64 (c : Int)] t (0, 0))) : Nums x (fun _ => True) (some ⟨b, 0, none⟩) [a, c] :=
  ⟨fun _ => ⟨b, 0, rfl, trivial, fun j hj => by
    rw [cell_of_row _ _ _ _ _ _ h]
    match j, hj with
    | 0, _ => rfl
    | 1, _ => rfl⟩⟩

set_option maxRecDepth 100000 in
set_option maxHeartbeats 2000000 in
theorem tplus_any (a b c d : Nat) (w : World) : Calls Try.prog 155 #[tallyV a b, tallyV c d] w fun e w' => e = .returned (tallyV (Tal.add a c) (Tal.add b d)) ∧ Below w.heap.size w w' := by
  have HI0 := Lib.hid (Two.start w #[.int .u64 (a : Int), .int .u64 (b : Int)] #[.int .u64 (c : Int), .int .u64 (d : Int)] #[.int .u64 0, .int .u64 0] 153 153 153 2 rfl)
  go_enter Try.func155, Try.ntmps155
  go_wp2_with fail
  generalize ((w.alloc (.cells #[.int .u64 (a : Int), .int .u64 (b : Int)] 153)).alloc (.cells #[.int .u64 (c : Int), .int .u64 (d : Int)] 153)).alloc (.cells #[.int .u64 0, .int .u64 0] 153) = w1 at *
  refine M2.wp_region_kinds (fun i x y => Rst 13 (w.heap.size + 1 + 1) #[.int .u64 ((Tal.add a c : Nat) : Int), .int .u64 ((Tal.add b d : Nat) : Int)] 153 i x y) (fun _ x => Two w #[.int .u64 (a : Int), .int .u64 (b : Int)] #[.int .u64 (c : Int), .int .u64 (d : Int)] 153 153 153 2 x) (fun x => Two w #[.int .u64 (a : Int), .int .u64 (b : Int)] #[.int .u64 (c : Int), .int .u64 (d : Int)] 153 153 153 2 x)
    [(1, .val (.int .u64 (a : Int)) fun _ => True), (3, .val (.int .u64 (c : Int)) fun _ => True), (4, .mem (NB (w.heap.size + 1 + 1) #[.int .u64 (a : Int), .int .u64 (c : Int)] 23 2)), (5, .val (.int .u64 ((Tal.add a c : Nat) : Int)) fun _ => True), (7, .val (.int .u64 (b : Int)) fun _ => True), (9, .val (.int .u64 (d : Int)) fun _ => True), (10, .mem (NB (w.heap.size + 1 + 1) #[.int .u64 (b : Int), .int .u64 (d : Int)] 23 2)), (11, .val (.int .u64 ((Tal.add b d : Nat) : Int)) fun _ => True), (13, .val (undef) (Done (w.heap.size + 1 + 1) #[.int .u64 ((Tal.add a c : Nat) : Int), .int .u64 ((Tal.add b d : Nat) : Int)] 153))] (by kernel_rfl) (by kernel_rfl) (fun _ _ _ hb h => Two.then_ rfl hb h) (fun _ _ _ _ _ hb h => Two.then_ rfl hb h) ?_ HI0.out.drew (fun _ => HI0.out.drew) ?_
  · intro z hz
    simp only [List.mem_cons, List.mem_nil_iff, or_false] at hz
    rcases hz with rfl | rfl | rfl | rfl | rfl | rfl | rfl | rfl | rfl <;> first
      | exact fun _ _ _ _ _ _ => trivial
      | exact fun j v x y _ hr => NB.up hr
      | exact fun j x y hi hr => Done.up hi hr
  iterate 1
    refine M2.mono_pure rfl rfl ?_
    apply Exists.intro
    refine ⟨fun x => ?_, ?_⟩
    · go_simp
      rfl
    apply Exists.intro
    refine ⟨by simp only [Act.put, List.setIfInBounds_toArray, List.set_cons_succ, List.set_cons_zero]; rfl, ?_⟩
  refine M2.mono_val rfl rfl (fun x hD hF => ?_) ?_
  · have hc : x.cell? ⟨w.heap.size, 0, none⟩ = some (.int .u64 (a : Int)) := by rw [cell_of_row _ _ _ _ _ _ hD.a]; rfl
    go_simp
    exact ⟨Rst.of (Below.refl _ _) (by decide), rfl⟩
  apply Exists.intro
  refine ⟨by simp only [Act.put, List.setIfInBounds_toArray, List.set_cons_succ, List.set_cons_zero]; rfl, ?_⟩
  iterate 1
    refine M2.mono_pure rfl rfl ?_
    apply Exists.intro
    refine ⟨fun x => ?_, ?_⟩
    · go_simp
      rfl
    apply Exists.intro
    refine ⟨by simp only [Act.put, List.setIfInBounds_toArray, List.set_cons_succ, List.set_cons_zero]; rfl, ?_⟩
  refine M2.mono_val rfl rfl (fun x hD hF => ?_) ?_
  · have hc : x.cell? ⟨w.heap.size + 1, 0, none⟩ = some (.int .u64 (c : Int)) := by rw [cell_of_row _ _ _ _ _ _ hD.b]; rfl
    go_simp
    exact ⟨Rst.of (Below.refl _ _) (by decide), rfl⟩
  apply Exists.intro
  refine ⟨by simp only [Act.put, List.setIfInBounds_toArray, List.set_cons_succ, List.set_cons_zero]; rfl, ?_⟩
  refine M2.mono_mem rfl rfl (fun x hD hF => ?_) (fun v9 => ?_)
  · have hg : w.heap.size + 1 + 1 < x.heap.size := by obtain ⟨_, h1, _⟩ := hD.r; exact lt_of_row h1
    go_simp
    exact ⟨Rst.of (below1 _ _) (by decide), NB.new _ _ _ hg⟩
  apply Exists.intro
  refine ⟨by simp only [Act.put, List.setIfInBounds_toArray, List.set_cons_succ, List.set_cons_zero]; rfl, ?_⟩
  refine M2.mono_val rfl rfl (fun x hD hF => ?_) ?_
  · obtain ⟨q, e1, _, hr⟩ := (hF 4 _ 9 rfl rfl (by decide)).1
    have hN := Lib.hid (nums_row2 hr)
    clear hr hF
    subst e1
    go_simp
    refine (total_any [a, c] 2 _ x hN.out (by simp)).mono ?_
    rintro e y ⟨rfl, rfl⟩
    exact ⟨_, rfl, Rst.of (Below.refl _ _) (by decide), by rw [Tal.sum_two]⟩
  apply Exists.intro
  refine ⟨by simp only [Act.put, List.setIfInBounds_toArray, List.set_cons_succ, List.set_cons_zero]; rfl, ?_⟩
  iterate 1
    refine M2.mono_pure rfl rfl ?_
    apply Exists.intro
    refine ⟨fun x => ?_, ?_⟩
    · go_simp
      rfl
    apply Exists.intro
    refine ⟨by simp only [Act.put, List.setIfInBounds_toArray, List.set_cons_succ, List.set_cons_zero]; rfl, ?_⟩
  refine M2.mono_val rfl rfl (fun x hD hF => ?_) ?_
  · have hc : x.cell? ⟨w.heap.size, 1, none⟩ = some (.int .u64 (b : Int)) := by rw [cell_of_row _ _ _ _ _ _ hD.a]; rfl
    go_simp
    exact ⟨Rst.of (Below.refl _ _) (by decide), rfl⟩
  apply Exists.intro
  refine ⟨by simp only [Act.put, List.setIfInBounds_toArray, List.set_cons_succ, List.set_cons_zero]; rfl, ?_⟩
  iterate 1
    refine M2.mono_pure rfl rfl ?_
    apply Exists.intro
    refine ⟨fun x => ?_, ?_⟩
    · go_simp
      rfl
    apply Exists.intro
    refine ⟨by simp only [Act.put, List.setIfInBounds_toArray, List.set_cons_succ, List.set_cons_zero]; rfl, ?_⟩
  refine M2.mono_val rfl rfl (fun x hD hF => ?_) ?_
  · have hc : x.cell? ⟨w.heap.size + 1, 1, none⟩ = some (.int .u64 (d : Int)) := by rw [cell_of_row _ _ _ _ _ _ hD.b]; rfl
    go_simp
    exact ⟨Rst.of (Below.refl _ _) (by decide), rfl⟩
  apply Exists.intro
  refine ⟨by simp only [Act.put, List.setIfInBounds_toArray, List.set_cons_succ, List.set_cons_zero]; rfl, ?_⟩
  refine M2.mono_mem rfl rfl (fun x hD hF => ?_) (fun v15 => ?_)
  · have hg : w.heap.size + 1 + 1 < x.heap.size := by obtain ⟨_, h1, _⟩ := hD.r; exact lt_of_row h1
    go_simp
    exact ⟨Rst.of (below1 _ _) (by decide), NB.new _ _ _ hg⟩
  apply Exists.intro
  refine ⟨by simp only [Act.put, List.setIfInBounds_toArray, List.set_cons_succ, List.set_cons_zero]; rfl, ?_⟩
  refine M2.mono_val rfl rfl (fun x hD hF => ?_) ?_
  · obtain ⟨q, e1, _, hr⟩ := (hF 10 _ 15 rfl rfl (by decide)).1
    have hN := Lib.hid (nums_row2 hr)
    clear hr hF
    subst e1
    go_simp
    refine (total_any [b, d] 2 _ x hN.out (by simp)).mono ?_
    rintro e y ⟨rfl, rfl⟩
    exact ⟨_, rfl, Rst.of (Below.refl _ _) (by decide), by rw [Tal.sum_two]⟩
  apply Exists.intro
  refine ⟨by simp only [Act.put, List.setIfInBounds_toArray, List.set_cons_succ, List.set_cons_zero]; rfl, ?_⟩
  iterate 1
    refine M2.mono_pure rfl rfl ?_
    apply Exists.intro
    refine ⟨fun x => ?_, ?_⟩
    · go_simp
      rfl
    apply Exists.intro
    refine ⟨by simp only [Act.put, List.setIfInBounds_toArray, List.set_cons_succ, List.set_cons_zero]; rfl, ?_⟩
  refine M2.mono_val rfl rfl (fun x hD hF => ?_) ?_
  · obtain ⟨old, h1, h2⟩ := hD.r
    rw [exec_store 153 (.tmp 4) (.tmp 17) rfl (w.heap.size + 1 + 1) #[.int .u64 ((Tal.add a c : Nat) : Int), .int .u64 ((Tal.add b d : Nat) : Int)] rfl rfl 153 old h1 size40 h2 (two_one _ _ rfl rfl)]
    exact ⟨Rst.at_ h1, rfl, setRow_heap _ _ _ _ _ _ h1⟩
  apply Exists.intro
  refine ⟨by simp only [Act.put, List.setIfInBounds_toArray, List.set_cons_succ, List.set_cons_zero]; rfl, ?_⟩
  refine M2.mono_nil ?_
  intro x hD hF
  have hd : Hid (Done (w.heap.size + 1 + 1) #[.int .u64 ((Tal.add a c : Nat) : Int), .int .u64 ((Tal.add b d : Nat) : Int)] 153 x) := (hF 13).1
  have HB := Lib.hid hD.below
  clear hD hF HI0
  go_simp
  go_wp2_with (refine bodyPost_ret (results_cell_row Try.results155 _ _ (w.heap.size + 1 + 1) 153 _ (0, 0) _ rfl hd.out Try.underlying153 rfl size40) rfl ⟨rfl, HB.out⟩)
end Go.Proofs.Ytnpacjdgbmldlaa.Ta

/- Add and Sum of tally: ported. -/
namespace Go.Proofs.Ytnpacjdgbmldlaa.Ta
open Go.RowKit

theorem sizes_arr (n : Int) : arrOf .u64 2 (Tal.szs n) = #[.int .u64 ((Tal.up n : Nat) : Int), .int .u64 ((Tal.down n : Nat) : Int)] := rfl
/-- A boxed argument and a result's cells. -/
structure One (w : World) (ca : Array Value) (ta : TypeId) (cr : Array Value) (tr : TypeId) (x : World) : Prop where
  a : x.heap[w.heap.size]? = some (.cells ca ta (0, 0))
  r : x.heap[w.heap.size + 1]? = some (.cells cr tr (0, 0))
  below : Below w.heap.size w x
theorem One.start (w : World) (ca cr : Array Value) (ta tr : TypeId) : One w ca ta cr tr ((w.alloc (.cells ca ta)).alloc (.cells cr tr)) := by
  have h1 : (w.alloc (.cells ca ta)).heap[w.heap.size]? = some (.cells ca ta (0, 0)) := heap_alloc_new _ _
  have h2 : ((w.alloc (.cells ca ta)).alloc (.cells cr tr)).heap[w.heap.size + 1]? = some (.cells cr tr (0, 0)) := by simpa using heap_alloc_new (w.alloc (.cells ca ta)) (.cells cr tr)
  have k1 := (below1 (w.alloc (.cells ca ta)) (.cells cr tr)).block w.heap.size (by simp)
  exact ⟨k1.trans h1, h2, below2 _ _ _⟩
theorem One.then_ {w x y : World} {ca cr : Array Value} {ta tr : TypeId} (hb : Below x.heap.size x y) (I : One w ca ta cr tr x) : One w ca ta cr tr y :=
  ⟨(hb.block _ (lt_of_row I.a)).trans I.a, (hb.block _ (lt_of_row I.r)).trans I.r, I.below.trans (hb.mono I.below.size)⟩
theorem One.drew {w x : World} {ca cr : Array Value} {ta tr : TypeId} (I : One w ca ta cr tr x) : One w ca ta cr tr x.drew := ⟨I.a, I.r, ⟨I.below.os, I.below.tape, I.below.output, I.below.size, I.below.block⟩⟩
theorem One.out {w x : World} {ca cr : Array Value} {ta tr : TypeId} (I : One w ca ta cr tr x) (cs : Array Value) : One w ca ta cs tr (x.setRow (w.heap.size + 1) cs) :=
  ⟨(setRow_other _ _ _ _ (by omega)).trans I.a, setRow_heap _ _ _ _ _ _ I.r, below_setRow' I.below (by omega) _⟩

set_option maxRecDepth 100000 in
set_option maxHeartbeats 1000000 in
theorem tadd_any (u d : Nat) (n : Int) (w : World) (h1 : -9223372036854775808 ≤ n) (h2 : n ≤ 9223372036854775807) :
    Calls Try.prog 133 #[tallyV u d, .int .i64 n] w fun e w' => e = .returned (tallyV (Tal.add u (Tal.up n)) (Tal.add d (Tal.down n))) ∧ Below w.heap.size w w' := by
  have HI0 := Lib.hid (One.start w #[.int .u64 (u : Int), .int .u64 (d : Int)] #[.int .u64 0, .int .u64 0] 153 153)
  have H1 := Lib.hid h1
  have H2 := Lib.hid h2
  clear h1 h2
  go_enter Try.func133, Try.ntmps133
  go_wp2_with fail
  generalize (w.alloc (.cells #[.int .u64 (u : Int), .int .u64 (d : Int)] 153)).alloc (.cells #[.int .u64 0, .int .u64 0] 153) = w1 at *
  refine (sizes_any n w1 H1.out H2.out).mono ?_
  rintro e w2 ⟨rfl, hb⟩
  rw [sizes_arr]
  have HI2 := Lib.hid (HI0.out.then_ hb)
  clear hb HI0
  obtain ⟨U, hU⟩ : ∃ U, U = Tal.up n := ⟨_, rfl⟩
  obtain ⟨D, hD⟩ : ∃ D, D = Tal.down n := ⟨_, rfl⟩
  rw [← hU, ← hD]
  have HU := Lib.hid hU
  have HD := Lib.hid hD
  clear hU hD
  have HN := Lib.hid (nums_new w2 0 0 195)
  have s55 : Hid ((Try.prog.info? 195).map (·.size) = some (#[.int .u64 (U : Int), .int .u64 (D : Int)] : Array Value).size) := size55
  have s40 : Hid ((Try.prog.info? 153).map (·.size) = some (#[.int .u64 (u : Int), .int .u64 (d : Int)] : Array Value).size) := size40
  have o2 : Hid ((#[.int .u64 (U : Int), .int .u64 (D : Int)] : Array Value).all (·.oneCell') = true) := two_one _ _ rfl rfl
  have z2 : Hid ((#[.int .u64 0, .int .u64 0] : Array Value).size = (#[.int .u64 (U : Int), .int .u64 (D : Int)] : Array Value).size) := rfl
  have HI3 := Lib.hid (HI2.out.then_ (below1 w2 (.cells #[.int .u64 (U : Int), .int .u64 (D : Int)] 195)))
  have HL := Lib.hid HI3.out.a
  go_wp2_with (first
    | (refine wpList_store_row rfl 195 _ _ rfl w2.heap.size #[.int .u64 (U : Int), .int .u64 (D : Int)] rfl rfl 195 _ HN.out s55.out z2.out o2.out ?_; rw [World.setRow_alloc_new])
    | (refine wpList_load_row rfl 153 _ rfl w.heap.size rfl 153 #[.int .u64 (u : Int), .int .u64 (d : Int)] (0, 0) _ HL.out Try.underlying153 rfl s40.out ?_))
  refine (tplus_any u d U D _).mono ?_
  rintro e w4 ⟨rfl, hb⟩
  have HI4 := Lib.hid (HI3.out.then_ hb)
  clear hb HI2 HI3 HL
  obtain ⟨P, hP⟩ : ∃ P, P = Tal.add u U := ⟨_, rfl⟩
  obtain ⟨Q, hQ⟩ : ∃ Q, Q = Tal.add d D := ⟨_, rfl⟩
  rw [← hP, ← hQ]
  have HP := Lib.hid hP
  have HQ := Lib.hid hQ
  have HE : Hid (Ending.returned (tallyV P Q) = Ending.returned (tallyV (Tal.add u (Tal.up n)) (Tal.add d (Tal.down n)))) := by show _ = _; rw [HP.out, HQ.out, HU.out, HD.out]
  clear hP hQ
  have t40 : Hid ((Try.prog.info? 153).map (·.size) = some (#[.int .u64 (P : Int), .int .u64 (Q : Int)] : Array Value).size) := size40
  have p2 : Hid ((#[.int .u64 (P : Int), .int .u64 (Q : Int)] : Array Value).all (·.oneCell') = true) := two_one _ _ rfl rfl
  have y2 : Hid ((#[.int .u64 0, .int .u64 0] : Array Value).size = (#[.int .u64 (P : Int), .int .u64 (Q : Int)] : Array Value).size) := rfl
  have HR := Lib.hid HI4.out.r
  have HO := Lib.hid (HI4.out.out #[.int .u64 (P : Int), .int .u64 (Q : Int)])
  go_wp2_with (first
    | (refine wpList_store_row rfl 153 _ _ rfl (w.heap.size + 1) #[.int .u64 (P : Int), .int .u64 (Q : Int)] rfl rfl 153 _ HR.out t40.out y2.out p2.out ?_)
    | (refine bodyPost_ret (results_cell_row Try.results133 _ _ (w.heap.size + 1) 153 _ (0, 0) _ rfl HO.out.r Try.underlying153 rfl t40.out) rfl ⟨HE.out, HO.out.below⟩))

/-- A slice of ints. -/
structure Ints (w : World) (ok : Nat → Prop) (A : Option Addr) (ls : List Int) : Prop where
  rng : ∀ x ∈ ls, -9223372036854775808 ≤ x ∧ x ≤ 9223372036854775807
  at_ : 0 < ls.length → ∃ b o, A = some ⟨b, o, none⟩ ∧ ok b ∧ ∀ j, j < ls.length → w.cell? ⟨b, o + j, none⟩ = some (.int .i64 (ls.getD j 0))
theorem Ints.keep {w w' : World} {ok : Nat → Prop} {A : Option Addr} {ls : List Int} (h : Ints w ok A ls) (hk : ∀ b j, ok b → b < w.heap.size → w'.cell? ⟨b, j, none⟩ = w.cell? ⟨b, j, none⟩) : Ints w' ok A ls :=
  ⟨h.rng, fun hp => by
    obtain ⟨b, o, e, hb, hc⟩ := h.at_ hp
    refine ⟨b, o, e, hb, fun j hj => ?_⟩
    have h1 := hc j hj
    rw [hk b _ hb (World.block_lt_of_cell? w _ h1)]
    exact h1⟩
theorem Ints.below {w w' : World} {B : Nat} {A : Option Addr} {ls : List Int} (h : Ints w (· < B) A ls) (hg : Below B w w') : Ints w' (· < B) A ls :=
  h.keep fun b j hb _ => World.cell?_of_block (w := w) (a := ⟨b, j, none⟩) (hg.block b hb)
namespace Tal
def ups (ls : List Int) : Nat := sum (ls.map up)
def downs (ls : List Int) : Nat := sum (ls.map down)
theorem sum_snoc' (ls : List Nat) (n : Nat) : sum (ls ++ [n]) = add (sum ls) n := by
  simp only [sum, add, List.sum_append, List.sum_cons, List.sum_nil]; omega
theorem ups_take (ls : List Int) {j : Nat} (h : j < ls.length) : ups (ls.take (j + 1)) = add (ups (ls.take j)) (up (ls.getD j 0)) := by
  rw [List.take_add_one, List.getD_eq_getElem?_getD, List.getElem?_eq_getElem h]
  simp only [ups, List.map_append, Option.toList_some, List.map_cons, List.map_nil, Option.getD_some]
  exact sum_snoc' _ _
theorem downs_take (ls : List Int) {j : Nat} (h : j < ls.length) : downs (ls.take (j + 1)) = add (downs (ls.take j)) (down (ls.getD j 0)) := by
  rw [List.take_add_one, List.getD_eq_getElem?_getD, List.getElem?_eq_getElem h]
  simp only [downs, List.map_append, Option.toList_some, List.map_cons, List.map_nil, Option.getD_some]
  exact sum_snoc' _ _
end Tal
/-- A result of noughts and a tally. -/
structure SInv (w : World) (u d : Nat) (x : World) : Prop where
  r : x.heap[w.heap.size]? = some (.cells #[.int .u64 0, .int .u64 0] 153 (0, 0))
  t : x.heap[w.heap.size + 1]? = some (.cells #[.int .u64 (u : Int), .int .u64 (d : Int)] 153 (0, 0))
  below : Below w.heap.size w x
theorem SInv.start (w : World) : SInv w 0 0 ((w.alloc (.cells #[.int .u64 0, .int .u64 0] 153)).alloc (.cells #[.int .u64 0, .int .u64 0] 153)) := by
  have h := One.start w #[.int .u64 0, .int .u64 0] #[.int .u64 0, .int .u64 0] 153 153
  exact ⟨h.a, h.r, h.below⟩
theorem SInv.then_ {w x y : World} {u d : Nat} (hb : Below x.heap.size x y) (I : SInv w u d x) : SInv w u d y :=
  ⟨(hb.block _ (lt_of_row I.r)).trans I.r, (hb.block _ (lt_of_row I.t)).trans I.t, I.below.trans (hb.mono I.below.size)⟩
theorem SInv.put {w x : World} {u d : Nat} (I : SInv w u d x) (p q : Nat) : SInv w p q (x.setRow (w.heap.size + 1) #[.int .u64 (p : Int), .int .u64 (q : Int)]) :=
  ⟨(setRow_other _ _ _ _ (by omega)).trans I.r, setRow_heap _ _ _ _ _ _ I.t, below_setRow' I.below (by omega) _⟩
theorem pair_size (x y : Int) : (Try.prog.info? 153).map (·.size) = some (#[.int .u64 x, .int .u64 y] : Array Value).size := size40

set_option maxRecDepth 100000 in
set_option maxHeartbeats 1000000 in
theorem tsum_any (ls : List Int) (c : Nat) (A : Option Addr) (w : World) (hv : Ints w (· < w.heap.size) A ls) (hm : ls.length ≤ 9223372036854775807) :
    Calls Try.prog 116 #[.slice A ls.length c] w fun e w' => e = .returned (tallyV (Tal.ups ls) (Tal.downs ls)) ∧ Below w.heap.size w w' := by
  have HV := Lib.hid hv
  have HI0 := Lib.hid (SInv.start w)
  clear hv
  go_enter Try.func116, Try.ntmps116
  go_wp2
  generalize (w.alloc (.cells #[.int .u64 0, .int .u64 0] 153)).alloc (.cells #[.int .u64 0, .int .u64 0] 153) = w1 at *
  go_loopw [8] (fun v wr => ∃ j : Nat, j ≤ ls.length ∧ v = .int .i64 j ∧ Hid (SInv w (Tal.ups (ls.take j)) (Tal.downs (ls.take j)) wr)) (fun v _ => ls.length - (intOf v).toNat)
  case atStart => exact ⟨0, by omega, rfl, HI0⟩
  case round =>
    clear HI0
    obtain ⟨j, hj, rfl, HI⟩ := hrel
    by_cases hlt : j < ls.length
    · have HC := HV.out.below HI.out.below
      obtain ⟨b, o, hA, _, hc⟩ := HC.at_ (by omega)
      subst hA
      obtain ⟨n, hn⟩ : ∃ n, n = ls.getD j 0 := ⟨_, rfl⟩
      have c1 : wr.cell? ⟨b, o + j, none⟩ = some (.int .i64 n) := by rw [hn]; exact hc j hlt
      have hr : Hid (-9223372036854775808 ≤ n ∧ n ≤ 9223372036854775807) := by
        rw [hn, List.getD_eq_getElem?_getD, List.getElem?_eq_getElem hlt]
        exact HV.out.rng _ (List.getElem_mem hlt)
      obtain ⟨u, hu⟩ : ∃ u, u = Tal.ups (ls.take j) := ⟨_, rfl⟩
      obtain ⟨d, hd⟩ : ∃ d, d = Tal.downs (ls.take j) := ⟨_, rfl⟩
      obtain ⟨P, hP⟩ : ∃ P, P = Tal.add u (Tal.up n) := ⟨_, rfl⟩
      obtain ⟨Q, hQ⟩ : ∃ Q, Q = Tal.add d (Tal.down n) := ⟨_, rfl⟩
      have HP : Hid (Tal.ups (ls.take (j + 1)) = P) := by show _ = _; rw [Tal.ups_take ls hlt, ← hu, ← hn, hP]
      have HQ : Hid (Tal.downs (ls.take (j + 1)) = Q) := by show _ = _; rw [Tal.downs_take ls hlt, ← hd, ← hn, hQ]
      have HE : Hid (∀ w, Calls Try.prog 133 #[tallyV u d, .int .i64 n] w fun e w' => e = .returned (tallyV P Q) ∧ Below w.heap.size w w') := fun w => by rw [hP, hQ]; exact tadd_any u d n w hr.out.1 hr.out.2
      rw [← hu, ← hd] at HI
      clear hu hd hP hQ hn hc HC
      have HL := Lib.hid HI.out.t
      have s40 : ∀ {x y : Int}, Hid ((Try.prog.info? 153).map (·.size) = some (#[.int .u64 x, .int .u64 y] : Array Value).size) := fun {x y} => pair_size x y
      have o2 : ∀ {x y : Int}, Hid ((#[.int .u64 x, .int .u64 y] : Array Value).all (·.oneCell') = true) := fun {x y} => two_one _ _ rfl rfl
      have z2 : ∀ {a b x y : Int}, Hid ((#[.int .u64 a, .int .u64 b] : Array Value).size = (#[.int .u64 x, .int .u64 y] : Array Value).size) := fun {a b x y} => rfl
      go_wp2_with (refine wpList_load_row rfl 153 _ rfl (w.heap.size + 1) rfl 153 #[.int .u64 (u : Int), .int .u64 (d : Int)] (0, 0) _ HL.out Try.underlying153 rfl s40.out ?_)
      refine (HE.out _).mono ?_
      rintro e w4 ⟨rfl, hb⟩
      have HI4 := Lib.hid (HI.out.then_ hb)
      clear hb HL
      have HT := Lib.hid HI4.out.t
      have HO := Lib.hid (HI4.out.put P Q)
      go_wp2_with (refine wpList_store_row rfl 153 _ _ rfl (w.heap.size + 1) #[.int .u64 (P : Int), .int .u64 (Q : Int)] rfl rfl 153 _ HT.out s40.out z2.out o2.out ?_)
      go_roundw
      case rel => exact ⟨j + 1, by omega, by go_num, by rw [HP.out, HQ.out]; exact HO⟩
      case measure => simp [intOf]; omega
    · obtain rfl : j = ls.length := by omega
      rw [List.take_length] at HI
      obtain ⟨P, hP⟩ : ∃ P, P = Tal.ups ls := ⟨_, rfl⟩
      obtain ⟨Q, hQ⟩ : ∃ Q, Q = Tal.downs ls := ⟨_, rfl⟩
      have HE : Hid (Ending.returned (tallyV P Q) = Ending.returned (tallyV (Tal.ups ls) (Tal.downs ls))) := by show _ = _; rw [hP, hQ]
      rw [← hP, ← hQ] at HI
      clear hP hQ
      have HT := Lib.hid HI.out.t
      have HR := Lib.hid HI.out.r
      have HB := Lib.hid HI.out.below
      have s40 : ∀ {x y : Int}, Hid ((Try.prog.info? 153).map (·.size) = some (#[.int .u64 x, .int .u64 y] : Array Value).size) := fun {x y} => pair_size x y
      have o2 : ∀ {x y : Int}, Hid ((#[.int .u64 x, .int .u64 y] : Array Value).all (·.oneCell') = true) := fun {x y} => two_one _ _ rfl rfl
      have z2 : ∀ {a b x y : Int}, Hid ((#[.int .u64 a, .int .u64 b] : Array Value).size = (#[.int .u64 x, .int .u64 y] : Array Value).size) := fun {a b x y} => rfl
      clear HI
      go_wp2_with (first
        | (refine wpList_load_row rfl 153 _ rfl (w.heap.size + 1) rfl 153 #[.int .u64 (P : Int), .int .u64 (Q : Int)] (0, 0) _ HT.out Try.underlying153 rfl s40.out ?_)
        | (refine wpList_store_row rfl 153 _ _ rfl w.heap.size #[.int .u64 (P : Int), .int .u64 (Q : Int)] rfl rfl 153 _ HR.out s40.out z2.out o2.out ?_)
        | (refine bodyPost_ret (results_cell_row Try.results116 _ _ w.heap.size 153 _ (0, 0) _ rfl (setRow_heap _ _ _ _ _ _ HR.out) Try.underlying153 rfl s40.out) rfl ⟨HE.out, below_setRow' HB.out (Nat.le_refl _) _⟩))
end Go.Proofs.Ytnpacjdgbmldlaa.Ta
