/- Texts of one kind, joined: Base, V1, Eq, V3, Monb, V4, V6, Front, Wm, D1, D2, D3, D4, D5, D6, W8, D7, V7, D8, D9, Dm. -/
import Derived.WalkKit
import Derived.WalkSpells
import Derived.WalkLawsBesides
import Derived.Handy
import Derived.Lib.Hide
import Derived.Deep.OwnRows
import Derived.Deep.MidRow
import Derived.Deep.QuietTactic
import Derived.BigQuiet
import Derived.Deep.WholeRow
import Derived.Laws.CopyOwn
import Derived.Test.YtnpacjdgbmldlaaRows
import Derived.ChangeKeysEq
import Derived.Orders
import Derived.Still
import Derived.Tactics
import Derived.Laws.AppendOwnNone
set_option linter.unusedVariables false
set_option linter.unusedSimpArgs false
/- Small laws over any program: arrays of integers as values and as blocks; a whole array stored. -/
namespace Go.Proofs.Ytnpacjdgbmldlaa
open Go.RowKit

theorem ret_int {k : IntKind} {a b : Int} (h : a = b) : Ending.returned (.int k a) = .returned (.int k b) := by rw [h]

/-- The array of n integers of kind k, the i-th being f i. -/
def arrOf (k : IntKind) (n : Nat) (f : Nat → Nat) : Array Value := ((List.range n).map fun i => Value.int k ((f i : Nat) : Int)).toArray
theorem arrOf_size (k : IntKind) (n : Nat) (f : Nat → Nat) : (arrOf k n f).size = n := by simp [arrOf]
theorem arrOf_get (k : IntKind) {n : Nat} (f : Nat → Nat) {i : Nat} (hi : i < n) : (arrOf k n f)[i]? = some (.int k ((f i : Nat) : Int)) := by
  simp [arrOf, hi]
theorem arr_ext {A : Array Value} {k : IntKind} {n : Nat} {f : Nat → Nat} (hs : A.size = n) (h : ∀ i, i < n → A[i]? = some (.int k ((f i : Nat) : Int))) : A = arrOf k n f := by
  apply Array.ext_getElem?
  intro i
  rcases Nat.lt_or_ge i n with hi | hi
  · rw [h i hi, arrOf_get k f hi]
  · rw [Array.getElem?_eq_none (by omega), Array.getElem?_eq_none (by rw [arrOf_size]; exact hi)]
theorem arrOf_congr {k : IntKind} {n : Nat} {f g : Nat → Nat} (h : ∀ i, i < n → f i = g i) : arrOf k n f = arrOf k n g :=
  arr_ext (arrOf_size _ _ _) fun i hi => by rw [arrOf_get k f hi, h i hi]
theorem arrOf_inj {k : IntKind} {n : Nat} {f g : Nat → Nat} (h : arrOf k n f = arrOf k n g) : ∀ i, i < n → f i = g i := by
  intro i hi
  have h1 := arrOf_get k f hi
  rw [h, arrOf_get k g hi] at h1
  injection h1 with h1
  injection h1 with _ h1
  omega
theorem arrOf_one (k : IntKind) (n : Nat) (f : Nat → Nat) : (arrOf k n f).all (·.oneCell') = true :=
  Array.all_eq_true_iff_forall_mem.2 fun v hv => by
    simp [arrOf] at hv
    obtain ⟨i, _, rfl⟩ := hv
    rfl
theorem row_arr {w : World} {b : Nat} {t : TypeId} {n : Nat} {k : IntKind} {f : Nat → Nat} (h : w.rowIs b t n (fun i => .int k ((f i : Nat) : Int))) :
    w.heap[b]? = some (.cells (arrOf k n f) t (0, 0)) := by
  obtain ⟨c, hc, hs, hi⟩ := h
  rw [hc, arr_ext hs hi]
theorem arr_row {w : World} {b : Nat} {t : TypeId} {n : Nat} {k : IntKind} {f : Nat → Nat} (h : w.heap[b]? = some (.cells (arrOf k n f) t (0, 0))) :
    w.rowIs b t n (fun i => .int k ((f i : Nat) : Int)) := ⟨_, h, arrOf_size _ _ _, fun _ hi => arrOf_get k f hi⟩

theorem wpList_store_row {P : Program} {ops : Array Oper} {rest : List Oper} {o : Oper} {a : Act} {w : World} {Q : Exit → Act → World → Prop} (hgd : o.guard = none) (ty : TypeId) (x y : Operand) (ho : o.op = .store ty x y)
    (g : Nat) (cells : Array Value) (hx : a.eval x = .pointer (some ⟨g, 0, none⟩)) (hy : a.eval y = .agg cells)
    (t : TypeId) (old : Array Value) (hg : w.heap[g]? = some (.cells old t (0, 0))) (hi : (P.info? ty).map (·.size) = some cells.size)
    (hold : old.size = cells.size) (h1 : cells.all (·.oneCell') = true)
    (h : wpList P ops Q rest (a.put o.dst undef) (w.setRow g cells)) : wpList P ops Q (o :: rest) a w :=
  wpList_plain hgd fun _ hK => wp_store_row ty x y ho g cells hx hy t old hg hi hold h1 (hK _ _ h)
theorem below_setRow' {B : Nat} {a w : World} (h : Below B a w) {g : Nat} (hg : B ≤ g) (cs : Array Value) : Below B a (w.setRow g cs) :=
  h.trans ⟨rfl, rfl, rfl, by simp, fun k hk => setRow_other w g k cs (by omega)⟩
/-- A quiet callee in a region that stands behind another one that drew. -/
theorem quiet_more {P : Program} {f : FuncId} {args : Array Value} {w : World} {a n : Nat} {v : Value}
    (h : Calls P f args (w.drewN (a + n)) fun e w' => e = .returned v ∧ ∃ m, w' = (w.drewN (a + n)).drewN m) :
    Calls P f args (w.drewN (a + n)) fun e w'' => e = .returned v ∧ ∃ m, w'' = w.drewN (a + m) := by
  refine h.mono ?_
  rintro e w' ⟨he, m, rfl⟩
  exact ⟨he, n + m, by rw [World.drewN_drewN, Nat.add_assoc]⟩
theorem quiet_more_same {P : Program} {f : FuncId} {args : Array Value} {w : World} {a n : Nat} {v : Value}
    (h : Calls P f args (w.drewN (a + n)) fun e w' => e = .returned v ∧ w' = w.drewN (a + n)) :
    Calls P f args (w.drewN (a + n)) fun e w'' => e = .returned v ∧ ∃ m, w'' = w.drewN (a + m) :=
  h.mono fun _ _ hh => ⟨hh.1, n, hh.2⟩

/-- The cells of A lie in block b from offset o on. -/
def rangeA (w : World) (b o : Nat) (A : Array Value) : Prop := ∀ j v, A[j]? = some v → w.cell? ⟨b, o + j, none⟩ = some v
theorem run_loadVar_arr {P : Program} (w : World) (b o : Nat) (ty : TypeId) (A : Array Value) (d : TypeDesc) (hc : rangeA w b o A)
    (hu : P.underlying ty = some d) (hd : d.isRow = true) (hi : (P.info? ty).map (·.size) = some A.size) : (loadVar ty ⟨b, o, none⟩).run P w = .ok (.agg A) w := by
  have h := run_loadVar_mid (P := P) w b o ty A.toList d (fun j v hv => hc j v (by simpa using hv)) hu hd (by simpa using hi)
  simpa using h
theorem wpList_load_arr {P : Program} {ops : Array Oper} {rest : List Oper} {op : Oper} {a : Act} {w : World} {Q : Exit → Act → World → Prop} (hgd : op.guard = none) (ty : TypeId) (x : Operand) (ho : op.op = .load ty x)
    (b o : Nat) (hx : a.eval x = .pointer (some ⟨b, o, none⟩)) (A : Array Value) (d : TypeDesc) (hc : rangeA w b o A)
    (hu : P.underlying ty = some d) (hd : d.isRow = true) (hi : (P.info? ty).map (·.size) = some A.size)
    (h : wpList P ops Q rest (a.put op.dst (.agg A)) w) : wpList P ops Q (op :: rest) a w :=
  wpList_plain hgd fun _ hK => by
    unfold Oper.wp execOp
    simp only [ho, hx, Instr.loadAt, Instr.sureAddr, Sem.run_bind, Sem.run_pure, Result.andThen_ok, run_loadVar_arr w b o ty A d hc hu hd hi]
    exact hK _ _ h
theorem rangeA_arr {w : World} {b o n : Nat} {k : IntKind} {f : Nat → Nat} (h : ∀ j, j < n → w.cell? ⟨b, o + j, none⟩ = some (.int k ((f j : Nat) : Int))) : rangeA w b o (arrOf k n f) := by
  intro j v hv
  rcases Nat.lt_or_ge j n with hj | hj
  · rw [arrOf_get k f hj] at hv
    injection hv with hv
    rw [← hv, h j hj]
  · rw [Array.getElem?_eq_none (by rw [arrOf_size]; exact hj)] at hv
    cases hv

/-- Only block g has turned, and what is new. -/
theorem only_refl (a : World) (row : Option Nat) : a.grownBy a row := World.grownBy.refl a row
theorem only_trans {a b c : World} {g : Nat} (h : a.grownBy b (some g)) (k : b.grownBy c (some g)) : a.grownBy c (some g) :=
  ⟨k.os.trans h.os, k.tape.trans h.tape, k.output.trans h.output, Nat.le_trans h.size k.size, fun i hi hne => (k.block i (Nat.lt_of_lt_of_le hi h.size) hne).trans (h.block i hi hne)⟩
theorem only_drewN {a w : World} {row : Option Nat} (h : a.grownBy w row) (n : Nat) : a.grownBy (w.drewN n) row := ⟨h.os, h.tape, h.output, h.size, h.block⟩
theorem only_drew {a w : World} {row : Option Nat} (h : a.grownBy w row) : a.grownBy w.drew row := ⟨h.os, h.tape, h.output, h.size, h.block⟩
theorem only_alloc {a w : World} {row : Option Nat} (h : a.grownBy w row) (o : Obj) : a.grownBy (w.alloc o) row :=
  ⟨h.os, h.tape, h.output, Nat.le_trans h.size (by simp), fun i hi hne => (Below.heap_alloc w o i (Nat.lt_of_lt_of_le hi h.size)).trans (h.block i hi hne)⟩
theorem only_setCell {a w : World} {g : Nat} (h : a.grownBy w (some g)) {p : Addr} (hp : p.block = g ∨ a.heap.size ≤ p.block) (u : Value) : a.grownBy (w.setCell p u) (some g) :=
  ⟨h.os, h.tape, h.output, by simpa [World.setCell] using h.size, fun i hi hne => (Below.heap_setCell w p u i (by
    rintro rfl
    rcases hp with hp | hp
    · exact hne (by rw [hp])
    · omega)).trans (h.block i hi hne)⟩
theorem only_below {a w : World} (h : Below a.heap.size a w) (row : Option Nat) : a.grownBy w row := ⟨h.os, h.tape, h.output, h.size, fun i hi _ => h.block i hi⟩
theorem only_below_trans {a b c : World} {row : Option Nat} (h : a.grownBy b row) (k : Below b.heap.size b c) : a.grownBy c row :=
  ⟨k.os.trans h.os, k.tape.trans h.tape, k.output.trans h.output, Nat.le_trans h.size k.size, fun i hi hne => (k.block i (Nat.lt_of_lt_of_le hi h.size)).trans (h.block i hi hne)⟩
/-- A block that is new to the caller may turn. -/
theorem below_only {B : Nat} {a b c : World} {g : Nat} (h : Below B a b) (k : b.grownBy c (some g)) (hB : B ≤ b.heap.size) (hg : B ≤ g) : Below B a c :=
  h.grown k hB (fun x hx => by injection hx with hx; omega)
theorem row_only {a b : World} {g x : Nat} {t : TypeId} {n : Nat} {f : Nat → Value} (h : a.rowIs x t n f) (k : a.grownBy b (some g)) (hne : x ≠ g) : b.rowIs x t n f :=
  h.of_block (k.block x h.lt (fun e => hne (by injection e)))
theorem row_below {B : Nat} {a b : World} {x : Nat} {t : TypeId} {n : Nat} {f : Nat → Value} (h : a.rowIs x t n f) (k : Below B a b) (hx : x < B) : b.rowIs x t n f := h.of_block (k.block x hx)
theorem below_drewN {B : Nat} {a w : World} (h : Below B a w) (n : Nat) : Below B a (w.drewN n) := ⟨h.os, h.tape, h.output, h.size, h.block⟩

/-- A slice of bytes that reads as xs; its block (where it has an element) meets 'ok'. -/
structure Bytes (w : World) (ok : Nat → Prop) (A : Option Addr) (xs : List Nat) : Prop where
  lt : ∀ x, x ∈ xs → x < 256
  at_ : 0 < xs.length → ∃ b o, A = some ⟨b, o, none⟩ ∧ ok b ∧ ∀ j, j < xs.length → w.cell? ⟨b, o + j, none⟩ = some (.int .u8 ((xs.getD j 0 : Nat) : Int))
theorem Bytes.keep {w w' : World} {ok : Nat → Prop} {A : Option Addr} {xs : List Nat} (h : Bytes w ok A xs) (hk : ∀ b j, ok b → b < w.heap.size → w'.cell? ⟨b, j, none⟩ = w.cell? ⟨b, j, none⟩) : Bytes w' ok A xs :=
  ⟨h.lt, fun hp => by
    obtain ⟨b, o, e, hb, hc⟩ := h.at_ hp
    refine ⟨b, o, e, hb, fun j hj => ?_⟩
    rw [hk b _ hb (World.block_lt_of_cell? w _ (hc j hj))]
    exact hc j hj⟩
theorem Bytes.only {w w' : World} {g : Nat} {A : Option Addr} {xs : List Nat} (h : Bytes w (· ≠ g) A xs) (hg : w.grownBy w' (some g)) : Bytes w' (· ≠ g) A xs :=
  h.keep fun b j hb hlt => World.cell?_of_block (w := w) (a := ⟨b, j, none⟩) (hg.block b hlt (fun e => hb (by injection e)))
theorem Bytes.below {w w' : World} {B : Nat} {A : Option Addr} {xs : List Nat} (h : Bytes w (· < B) A xs) (hg : Below B w w') : Bytes w' (· < B) A xs :=
  h.keep fun b j hb _ => World.cell?_of_block (w := w) (a := ⟨b, j, none⟩) (hg.block b hb)
theorem Bytes.weak {w : World} {P Q : Nat → Prop} {A : Option Addr} {xs : List Nat} (h : Bytes w P A xs) (hq : ∀ b, P b → b < w.heap.size → Q b) : Bytes w Q A xs :=
  ⟨h.lt, fun hp => by
    obtain ⟨b, o, e, hb, hc⟩ := h.at_ hp
    exact ⟨b, o, e, hq b hb (World.block_lt_of_cell? w _ (hc 0 hp)), hc⟩⟩
/-- The address of 's[k:]'. -/
def cutA (A : Option Addr) (cap k : Nat) : Option Addr := if cap = k then A else A.map (·.add k)
theorem Bytes.cut {w : World} {P : Nat → Prop} {A : Option Addr} {xs : List Nat} (h : Bytes w P A xs) {k c : Nat} (hk : k ≤ xs.length) (hc : xs.length ≤ c) : Bytes w P (cutA A c k) (xs.drop k) :=
  ⟨fun x hx => h.lt x (List.mem_of_mem_drop hx), fun hp => by
    rw [List.length_drop] at hp
    obtain ⟨b, o, rfl, hb, hcell⟩ := h.at_ (by omega)
    refine ⟨b, o + k, ?_, hb, fun j hj => ?_⟩
    · rw [cutA, if_neg (by omega)]
      simp only [Option.map_some, Addr.add_mid]
    · rw [List.length_drop] at hj
      have h1 := hcell (k + j) (by omega)
      rw [show o + k + j = o + (k + j) by omega, h1]
      simp [List.getD_eq_getElem?_getD]⟩
theorem run_slice_from {P : Program} (t e : TypeId) (hu : P.underlying t = some (.slice e)) (hs : (P.info? e).map (·.size) = some 1) (A : Option Addr) (n c k : Nat) (hk : k ≤ n) (w : World) :
    (Instr.slice t (.slice A n c) (some (.int .i64 (k : Int))) none none).run P w = .ok (.slice (cutA A c k) (n - k) (c - k)) w := by
  cases hq : P.info? e with
  | none => simp [hq] at hs
  | some i =>
    have hi : i.size = 1 := by simpa [hq] using hs
    simp [Instr.slice, Instr.sliceBounds, Instr.sliceBound, asIntOf, Sem.run_bind, run_underlying hu w, sizeOf, typeInfo, hq, hi, hk, cutA, Result.andThen]
theorem run_slice_ptr_from {P : Program} (t e : TypeId) (L : Nat) (hu : P.underlying t = some (.array L e)) (pt : TypeId) (hp : P.underlying pt = some (.pointer t)) (hs : (P.info? e).map (·.size) = some 1) (b o k : Nat) (hk : k < L) (w : World) :
    (Instr.slice pt (.pointer (some ⟨b, o, none⟩)) (some (.int .i64 (k : Int))) none none).run P w = .ok (.slice (some ⟨b, o + k, none⟩) (L - k) (L - k)) w := by
  cases hq : P.info? e with
  | none => simp [hq] at hs
  | some i =>
    have hi : i.size = 1 := by simpa [hq] using hs
    have h1 : ¬ L = k := by omega
    have h2 : k ≤ L := by omega
    simp [Instr.slice, Instr.sliceBounds, Instr.sliceBound, asIntOf, Sem.run_bind, run_underlying hu w, run_underlying hp w, sizeOf, typeInfo, hq, hi, h1, h2, Result.andThen, asAddr, Addr.add_mid]
theorem run_sliceAt_from {P : Program} (t e : TypeId) (hu : P.underlying t = some (.slice e)) (hs : (P.info? e).map (·.size) = some 1) (A : Option Addr) (n c k : Nat) (hk : k ≤ n) (w : World) :
    (Instr.sliceAt t (.slice A n c) (some (.int .i64 (k : Int))) none none).run P w = .ok (.slice (cutA A c k) (n - k) (c - k)) w := by
  have h := run_slice_from t e hu hs A n c k hk w
  simp only [Instr.sliceAt, Sem.run_bind, run_underlying hu w, Result.andThen, h]
theorem run_sliceAt_arr {P : Program} (t e : TypeId) (L : Nat) (hu : P.underlying t = some (.array L e)) (hs : (P.info? e).map (·.size) = some 1) (b o k : Nat) (hk : k < L) (w : World) :
    (Instr.sliceAt t (.pointer (some ⟨b, o, none⟩)) (some (.int .i64 (k : Int))) none none).run P w = .ok (.slice (some ⟨b, o + k, none⟩) (L - k) (L - k)) w := by
  cases hq : P.info? e with
  | none => simp [hq] at hs
  | some i =>
    have hi : i.size = 1 := by simpa [hq] using hs
    have h1 : ¬ L = k := by omega
    have h2 : k ≤ L := by omega
    simp [Instr.sliceAt, Instr.sureAddr, Instr.sliceBounds, Instr.sliceBound, asIntOf, Sem.run_bind, run_underlying hu w, sizeOf, typeInfo, hq, hi, h1, h2, Result.andThen, asAddr, Addr.add_mid]
/-- 'copy(dst, src)', at least one element going over, dst in a block that is a row. -/
theorem run_copy_rowIs {P : Program} (w : World) (dT sT ty elem : TypeId) (g o dLen dCap : Nat) (b so : Nat) (sLen sCap : Nat) (t : TypeId) (N : Nat) (F : Nat → Value) (cs : List Value)
    (hu : P.underlying dT = some (.slice elem)) (hs : (P.info? elem).map (·.size) = some 1) (hg : w.rowIs g t N F) (hn : cs.length = Nat.min sLen dLen)
    (hsrc : ∀ j v, cs[j]? = some v → w.cell? ⟨b, so + j, none⟩ = some v) (hfit : o + cs.length ≤ N) (h1 : ∀ v ∈ cs, v.oneCell' = true) :
    ∃ w', (Builtin.copy_ #[dT, sT] ty #[.slice (some ⟨g, o, none⟩) dLen dCap, .slice (some ⟨b, so, none⟩) sLen sCap]).run P w = .ok (goInt cs.length) w' ∧
      w'.rowIs g t N (fun i => if o ≤ i ∧ i < o + cs.length then cs.getD (i - o) undef else F i) ∧ w.grownBy w' (some g) := by
  obtain ⟨C, hC, hN, hF⟩ := hg
  refine ⟨_, run_copy_row P w dT sT ty elem g o dLen dCap ⟨b, so, none⟩ sLen sCap C t cs hu hs hC hn (fun j v hv => by rw [Addr.add_mid]; exact hsrc j v hv) (by omega) h1, ⟨_, setRow_heap w g C _ t _ hC, ?_, ?_⟩,
    ⟨rfl, rfl, rfl, by simp, fun i hi hne => setRow_other w g i _ (fun e => hne (by rw [e]))⟩⟩
  · simp
    omega
  · intro i hi
    have hL : C.toList.length = N := by simpa using hN
    rw [List.getElem?_toArray, List.append_assoc]
    show _ = some (if o ≤ i ∧ i < o + cs.length then cs.getD (i - o) undef else F i)
    by_cases h2 : i < o
    · rw [List.getElem?_append_left (by simp; omega), if_neg (by omega), List.getElem?_take, if_pos h2]
      simpa using hF i hi
    · rw [List.getElem?_append_right (by simp; omega), List.length_take, hL, Nat.min_eq_left (by omega)]
      by_cases h3 : i < o + cs.length
      · rw [List.getElem?_append_left (by omega), if_pos ⟨by omega, h3⟩, List.getD_eq_getElem?_getD, List.getElem?_eq_getElem (by omega)]
        rfl
      · rw [List.getElem?_append_right (by omega), if_neg (by omega), List.getElem?_drop, show o + cs.length + (i - o - cs.length) = i by omega]
        simpa using hF i hi
theorem step_copy_rowIs {P : Program} {ops : Array Oper} {op : Oper} {a : Act} {w : World} {K : Act → World → Prop} {Q : Exit → Act → World → Prop} {E : Prop} (hgd : op.guard = none) (d s : Operand) (dT sT : TypeId)
    (ho : op.op = .call { callee := .builtin .copy, args := #[d, s], argTypes := #[dT, sT] }) (elem : TypeId) (hu : P.underlying dT = some (.slice elem)) (hsz : (P.info? elem).map (·.size) = some 1)
    (g o dLen dCap b so sLen sCap : Nat) (hd : a.eval d = .slice (some ⟨g, o, none⟩) dLen dCap) (hs : a.eval s = .slice (some ⟨b, so, none⟩) sLen sCap)
    (t : TypeId) (N : Nat) (F : Nat → Value) (hg : w.rowIs g t N F) (cs : List Value) (hn : cs.length = Nat.min sLen dLen)
    (hsrc : ∀ j v, cs[j]? = some v → w.cell? ⟨b, so + j, none⟩ = some v) (hfit : o + cs.length ≤ N) (h1 : ∀ v ∈ cs, v.oneCell' = true)
    (h : ∀ w', Hid (w'.rowIs g t N (fun i => if o ≤ i ∧ i < o + cs.length then cs.getD (i - o) undef else F i)) → Hid (w.grownBy w' (some g)) → K (a.put op.dst (goInt cs.length)) w') :
    if Region.wanted op (yielded ops a.tmps) = true then Oper.wp P op a w K Q else E := by
  have hw : Region.wanted op (yielded ops a.tmps) = true := by simp [Region.wanted, hgd]
  rw [if_pos hw]
  obtain ⟨w', hrun, hr, hgr⟩ := run_copy_rowIs (P := P) w dT sT op.type elem g o dLen dCap b so sLen sCap t N F cs hu hsz hg hn hsrc hfit h1
  unfold Oper.wp
  simp [execOp, ho, resolve, invoke, builtin, hd, hs, hrun, Result.andThen]
  exact h w' hr hgr
theorem only_from_drew {w w' : World} {row : Option Nat} (h : w.drew.grownBy w' row) : w.grownBy w' row := ⟨h.os, h.tape, h.output, h.size, h.block⟩
theorem only_from_drewN {w w' : World} {row : Option Nat} {n : Nat} (h : (w.drewN n).grownBy w' row) : w.grownBy w' row := ⟨h.os, h.tape, h.output, h.size, h.block⟩
theorem below_from_drew {B : Nat} {w w' : World} (h : Below B w.drew w') : Below B w w' := ⟨h.os, h.tape, h.output, h.size, h.block⟩
theorem below_from_drewN {B : Nat} {w w' : World} {n : Nat} (h : Below B (w.drewN n) w') : Below B w w' := ⟨h.os, h.tape, h.output, h.size, h.block⟩
end Go.Proofs.Ytnpacjdgbmldlaa

/- Small functions of vec and of the reference: nodes and dots. -/
namespace Go.Proofs.Ytnpacjdgbmldlaa
open Go.RowKit

namespace Vec
def isNode (n : Int) : Bool := decide (1 ≤ n ∧ n ≤ 8)
def right (n : Int) (k : Nat) : Bool := decide (1 ≤ n ∧ n ≤ 8 ∧ 1 ≤ k)
def less (a : Int) (m : Nat) (b : Int) (n : Nat) : Bool := decide (a < b ∨ (a = b ∧ m < n))
def get (f : Nat → Nat) (n : Int) : Nat := if 1 ≤ n ∧ n ≤ 8 then f (n - 1).toNat else 0
end Vec
abbrev dotV (n : Int) (k : Nat) : Value := .agg #[.int .i64 n, .int .u64 (k : Int)]
theorem below1 (w : World) (o : Obj) : Below w.heap.size w (w.alloc o) := (Below.refl _ _).alloc (Nat.le_refl _) _
theorem below2 (w : World) (o p : Obj) : Below w.heap.size w ((w.alloc o).alloc p) := (below1 w o).alloc (by simp) _
theorem ret_bool {a b : Bool} (h : a = b) : Ending.returned (.bool a) = .returned (.bool b) := by rw [h]

set_option maxHeartbeats 400000 in
theorem isNode_any (n : Int) (w : World) : Calls Try.prog 80 #[.int .i64 n] w fun e w' => e = .returned (.bool (Vec.isNode n)) ∧ w' = w := by
  by_cases h1 : 1 ≤ n
  · by_cases h2 : n ≤ 8
    · go_enter Try.func80, Try.ntmps80
      go_wp2
      go_ret
      simp [Vec.isNode, h1, h2]
    · have h2' : 8 < n := by omega
      go_enter Try.func80, Try.ntmps80
      go_wp2
      go_ret
      simp [Vec.isNode, h1, h2']
  · have h1' : n < 1 := by omega
    go_enter Try.func80, Try.ntmps80
    go_wp2
    go_ret
    simp [Vec.isNode]
    omega

set_option maxHeartbeats 400000 in
theorem right_any (n : Int) (k : Nat) (w : World) : Calls Try.prog 40 #[dotV n k] w fun e w' => e = .returned (.bool (Vec.right n k)) ∧ Below w.heap.size w w' := by
  go_enter Try.func40, Try.ntmps40
  go_wp2_with (go_at_call 80; refine (isNode_any _ _).mono ?_; rintro e w' ⟨rfl, rfl⟩)
  · rename_i h
    go_ret
    refine ⟨ret_bool ?_, below1 _ _⟩
    simp only [Vec.isNode, decide_eq_true_eq] at h
    rw [Bool.eq_iff_iff]; simp only [Vec.right, decide_eq_true_eq, Bool.false_eq_true, false_iff, iff_true, true_iff]
    omega
  · rename_i h
    go_ret
    refine ⟨ret_bool ?_, below1 _ _⟩
    simp only [Vec.isNode, decide_eq_true_eq] at h
    rw [Bool.eq_iff_iff]; simp only [Vec.right, decide_eq_true_eq, Bool.false_eq_true, false_iff, iff_true, true_iff]
    omega

set_option maxHeartbeats 400000 in
theorem rightR_any (n : Int) (k : Nat) (w : World) : Calls Try.prog 67 #[dotV n k] w fun e w' => e = .returned (.bool (Vec.right n k)) ∧ Below w.heap.size w w' := by
  go_enter Try.func67, Try.ntmps67
  go_wp2
  all_goals
    go_ret
    refine ⟨ret_bool ?_, below1 _ _⟩
    rw [Bool.eq_iff_iff]; simp only [Vec.right, decide_eq_true_eq, Bool.false_eq_true, false_iff, iff_true, true_iff]
    omega

set_option maxHeartbeats 400000 in
theorem less_any (a : Int) (m : Nat) (b : Int) (n : Nat) (w : World) : Calls Try.prog 66 #[dotV a m, dotV b n] w fun e w' => e = .returned (.bool (Vec.less a m b n)) ∧ Below w.heap.size w w' := by
  by_cases hab : a = b
  · subst hab
    have hne : (a != a) = false := by simp
    go_enter Try.func66, Try.ntmps66
    go_wp2
    all_goals
      go_ret
      refine ⟨ret_bool ?_, below2 _ _ _⟩
      rw [Bool.eq_iff_iff]; simp only [Vec.less, decide_eq_true_eq, Bool.false_eq_true, false_iff, iff_true, true_iff]
      simp
  · have hne : (a != b) = true := by simpa using hab
    go_enter Try.func66, Try.ntmps66
    go_wp2
    all_goals
      go_ret
      refine ⟨ret_bool ?_, below2 _ _ _⟩
      rw [Bool.eq_iff_iff]; simp only [Vec.less, decide_eq_true_eq, Bool.false_eq_true, false_iff, iff_true, true_iff]
      omega

set_option maxHeartbeats 400000 in
theorem lessR_any (a : Int) (m : Nat) (b : Int) (n : Nat) (w : World) : Calls Try.prog 68 #[dotV a m, dotV b n] w fun e w' => e = .returned (.bool (Vec.less a m b n)) ∧ Below w.heap.size w w' := by
  go_enter Try.func68, Try.ntmps68
  go_wp2
  all_goals
    go_ret
    refine ⟨ret_bool ?_, below2 _ _ _⟩
    rw [Bool.eq_iff_iff]; simp only [Vec.less, decide_eq_true_eq, Bool.false_eq_true, false_iff, iff_true, true_iff]
    omega

/-- The vector whose numbers are f. -/
abbrev vecV (f : Nat → Nat) : Value := .agg (arrOf .u64 8 f)
theorem run_index_arr {P : Program} (t e : TypeId) (L : Nat) (hu : P.underlying t = some (.array L e)) (hs : (P.info? e).map (·.size) = some 1) (k : IntKind) (f : Nat → Nat) (i : Nat) (hi : i < L) (hag : ∀ w, (isAgg e).run P w = .ok false w) (w : World) :
    (Instr.index t (.agg (arrOf k L f)) (.int .i64 (i : Int))).run P w = .ok (.int k ((f i : Nat) : Int)) w := by
  cases hq : P.info? e with
  | none => simp [hq] at hs
  | some j =>
    have hj : j.size = 1 := by simpa [hq] using hs
    have hg := arrOf_get k f hi
    simp [Instr.index, Sem.run_bind, run_underlying hu w, Result.andThen, asIntOf, hi, sizeOf, typeInfo, hq, hj, part, hg, hag]
theorem agg23 (w : World) : (isAgg 23).run Try.prog w = .ok false w := by kernel_rfl
theorem size23 : (Try.prog.info? 23).map (·.size) = some 1 := by kernel_rfl
theorem size27 : (Try.prog.info? 27).map (·.size) = some 8 := by kernel_rfl
set_option maxHeartbeats 1000000 in
theorem get_any (f : Nat → Nat) (n : Int) (w : World) : Calls Try.prog 81 #[vecV f, .int .i64 n] w fun e w' => e = .returned (.int .u64 ((Vec.get f n : Nat) : Int)) ∧ Below w.heap.size w w' := by
  obtain ⟨A, hA⟩ : ∃ A, A = arrOf .u64 8 f := ⟨_, rfl⟩
  unfold vecV
  rw [← hA]
  have HC : Hid (∀ i, i < 8 → A[i]? = some (.int .u64 (f i))) := by rw [hA]; exact fun i hi => arrOf_get .u64 f hi
  have HA : Hid (A.size = 8) := by rw [hA]; exact arrOf_size _ _ _
  clear hA
  by_cases hn : Vec.isNode n = true
  · have h1 : 1 ≤ n ∧ n ≤ 8 := by simpa [Vec.isNode] using hn
    obtain ⟨i, rfl⟩ : ∃ i : Nat, n = (i : Int) + 1 := ⟨(n - 1).toNat, by omega⟩
    have hi : i < 8 := by omega
    have hc : (w.alloc (.cells A 27)).cell? ⟨w.heap.size, i, none⟩ = some (.int .u64 (f i)) := by
      rw [cell_of_row _ _ _ _ _ _ (heap_alloc_new _ _), HC.out i hi]
    clear h1
    go_enter Try.func81, Try.ntmps81
    go_wp2_with (go_at_call 80; refine (isNode_any _ _).mono ?_; rintro e w' ⟨rfl, rfl⟩)
    go_ret
    refine ⟨ret_int ?_, below1 _ _⟩
    rw [Vec.get, if_pos (by omega), show ((i : Int) + 1 - 1).toNat = i by omega]
  · go_enter Try.func81, Try.ntmps81
    go_wp2_with (go_at_call 80; refine (isNode_any _ _).mono ?_; rintro e w' ⟨rfl, rfl⟩)
    clear HC HA
    go_ret
    refine ⟨ret_int ?_, below1 _ _⟩
    have h1 : ¬ (1 ≤ n ∧ n ≤ 8) := by simpa [Vec.isNode] using hn
    rw [Vec.get, if_neg h1]
    rfl

theorem vec_row (w : World) (f : Nat → Nat) : (w.alloc (.cells (arrOf .u64 8 f) 27)).rowIs w.heap.size 27 8 (fun i => .int .u64 ((f i : Nat) : Int)) := arr_row (heap_alloc_new _ _)
set_option maxHeartbeats 1000000 in
theorem getR_any (f : Nat → Nat) (n : Int) (w : World) : Calls Try.prog 114 #[vecV f, .int .i64 n] w fun e w' => e = .returned (.int .u64 ((Vec.get f n : Nat) : Int)) ∧ Below w.heap.size w w' := by
  have HR := Lib.hid (vec_row w f)
  obtain ⟨A, hA⟩ : ∃ A, A = arrOf .u64 8 f := ⟨_, rfl⟩
  have HA : Hid (A.size = 8) := by rw [hA]; exact arrOf_size _ _ _
  unfold vecV
  rw [← hA] at HR ⊢
  clear hA
  have HB := Lib.hid (below1 w (.cells A 27))
  go_enter Try.func114, Try.ntmps114
  go_wp2
  obtain ⟨w1, hw1⟩ : ∃ w1, w1 = w.alloc (.cells A 27) := ⟨_, rfl⟩
  rw [← hw1] at HR HB ⊢
  clear hw1
  go_loopw [5] (fun v wr => ∃ i : Nat, i ≤ 8 ∧ v = .int .i64 i ∧ Hid (∀ j : Nat, j < i → (j : Int) + 1 ≠ n) ∧ Hid (wr = w1)) (fun v _ => 8 - (intOf v).toNat)
  case atStart => exact ⟨0, by omega, rfl, fun j h => by omega, rfl⟩
  case round =>
    obtain ⟨i, hi, rfl, HN, HW⟩ := hrel
    by_cases hlt : i < 8
    · have hc := HR.out.cell (i := i) hlt
      rw [← HW.out] at hc
      by_cases he : (i : Int) + 1 = n
      · subst he
        go_wp2
        go_ret
        refine ⟨ret_int ?_, by rw [HW.out]; exact HB.out⟩
        rw [Vec.get, if_pos (by omega), show ((i : Int) + 1 - 1).toNat = i by omega]
      · go_wp2
        go_roundw
        case rel =>
          refine ⟨i + 1, by omega, by go_num, fun j hj => ?_, HW⟩
          by_cases e : j = i
          · subst e; exact he
          · exact HN.out j (by omega)
        case measure => simp [intOf]; omega
    · obtain rfl : i = 8 := by omega
      go_wp2
      go_ret
      refine ⟨ret_int ?_, by rw [HW.out]; exact HB.out⟩
      rw [Vec.get, if_neg]
      · rfl
      · intro h
        exact HN.out (n - 1).toNat (by omega) (by omega)
theorem row27 {w : World} {b : Nat} {f : Nat → Nat} (h : w.rowIs b 27 8 (fun i => .int .u64 ((f i : Nat) : Int))) : w.heap[b]? = some (.cells (arrOf .u64 8 f) 27 (0, 0)) := row_arr h

theorem zero_row (w : World) : (w.alloc (.cells #[.int .u64 0, .int .u64 0, .int .u64 0, .int .u64 0, .int .u64 0, .int .u64 0, .int .u64 0, .int .u64 0] 27)).rowIs w.heap.size 27 8 (fun _ => .int .u64 0) := by
  refine World.rowIs_alloc w #[.int .u64 0, .int .u64 0, .int .u64 0, .int .u64 0, .int .u64 0, .int .u64 0, .int .u64 0, .int .u64 0] 27 (fun _ => .int .u64 0) fun i hi => ?_
  match i, hi with
  | 0, _ => rfl
  | 1, _ => rfl
  | 2, _ => rfl
  | 3, _ => rfl
  | 4, _ => rfl
  | 5, _ => rfl
  | 6, _ => rfl
  | 7, _ => rfl
def midOf (p f : Nat → Nat) (i j : Nat) : Nat := if j < i then p j else f j
theorem midOf_next {p f : Nat → Nat} {i j : Nat} (h : j = i → p j = f j) : midOf p f i j = midOf p f (i + 1) j := by
  unfold midOf
  by_cases e : j = i
  · rw [if_neg (by omega), if_pos (by omega), h e]
  · by_cases hl : j < i
    · rw [if_pos hl, if_pos (by omega)]
    · rw [if_neg hl, if_neg (by omega)]
end Go.Proofs.Ytnpacjdgbmldlaa

/- '==' between two arrays of integers. -/
namespace Go.Proofs.Ytnpacjdgbmldlaa
open Go.RowKit

theorem run_part_arr {P : Program} (w : World) (e : TypeId) (hag : ∀ w, (isAgg e).run P w = .ok false w) (k : IntKind) (n : Nat) (f : Nat → Nat) (i : Nat) (hi : i < n) : (part e (arrOf k n f) i).run P w = .ok (.int k ((f i : Nat) : Int)) w := by
  have hg := arrOf_get k f hi
  simp [part, Sem.run_bind, hag, Result.andThen, hg]
theorem run_eqItems_arr {P : Program} (w : World) (d : Nat) (e : TypeId) (k k' : IntKind) (hu : P.underlying e = some (.int k')) (hag : ∀ w, (isAgg e).run P w = .ok false w) (n : Nat) (f g : Nat → Nat) :
    ∀ is : List Nat, (∀ i ∈ is, i < n) → (Op.eqItems (d + 1) e 1 (arrOf k n f) (arrOf k n g) is).run P w = .ok (decide (∀ i ∈ is, f i = g i)) w
  | [], _ => by simp [Op.eqItems]
  | i :: is, h => by
    have hi := h i (by simp)
    have ih := run_eqItems_arr w d e k k' hu hag n f g is (fun j hj => h j (by simp [hj]))
    simp only [Op.eqItems, Sem.run_bind, Nat.mul_one, run_part_arr w e hag k n f i hi, run_part_arr w e hag k n g i hi, Result.andThen_ok, run_equalIn_int w d e k k' _ _ hu]
    by_cases hfg : f i = g i
    · have e1 : (((f i : Nat) : Int) == ((g i : Nat) : Int)) = true := by rw [beq_iff_eq]; omega
      rw [e1]
      simp [ih, hfg]
    · have e1 : (((f i : Nat) : Int) == ((g i : Nat) : Int)) = false := by rw [beq_eq_false_iff_ne]; omega
      rw [e1]
      simp [hfg]
theorem run_eql_arr {P : Program} (t e : TypeId) (n : Nat) (k k' : IntKind) (ht : P.underlying t = some (.array n e)) (hu : P.underlying e = some (.int k')) (hs : (P.info? e).map (·.size) = some 1) (hag : ∀ w, (isAgg e).run P w = .ok false w)
    (f g : Nat → Nat) (w : World) : (binOp .eql t (.agg (arrOf k n f)) (.agg (arrOf k n g))).run P w = .ok (.bool (decide (∀ i, i < n → f i = g i))) w := by
  cases hq : P.info? e with
  | none => simp [hq] at hs
  | some j =>
    have hc : P.cellsOf e = 1 := by simp [hq] at hs; simp [Program.cellsOf, hq, hs]
    rw [run_eql_struct, run_equalIn_array w 9999 _ _ ht hq, hc, run_eqItems_arr w 9998 e k k' hu hag n f g _ (fun i hi => List.mem_range.1 hi)]
    simp [Result.andThen, List.mem_range]
theorem run_equalIn_arr {P : Program} (t e : TypeId) (n : Nat) (k k' : IntKind) (ht : P.underlying t = some (.array n e)) (hu : P.underlying e = some (.int k')) (hs : (P.info? e).map (·.size) = some 1) (hag : ∀ w, (isAgg e).run P w = .ok false w)
    (f g : Nat → Nat) (w : World) : (Op.equalIn 10000 t (.agg (arrOf k n f)) (.agg (arrOf k n g))).run P w = .ok (decide (∀ i, i < n → f i = g i)) w := by
  cases hq : P.info? e with
  | none => simp [hq] at hs
  | some j =>
    have hc : P.cellsOf e = 1 := by simp [hq] at hs; simp [Program.cellsOf, hq, hs]
    rw [run_equalIn_array w 9999 _ _ ht hq, hc, run_eqItems_arr w 9998 e k k' hu hag n f g _ (fun i hi => List.mem_range.1 hi)]
    simp [List.mem_range]
end Go.Proofs.Ytnpacjdgbmldlaa

/- With, Covers, Has, Next, Order of vec and of the reference. -/
namespace Go.Proofs.Ytnpacjdgbmldlaa
open Go.RowKit

namespace Vec
def with_ (f : Nat → Nat) (n : Int) (k : Nat) : Nat → Nat := fun i => if Vec.right n k = true ∧ (i : Int) + 1 = n then max (f i) k else f i
def covers (f g : Nat → Nat) : Bool := (List.range 8).all fun i => decide (g i ≤ f i)
def same (f g : Nat → Nat) : Bool := (List.range 8).all fun i => decide (f i = g i)
theorem covers_iff (f g : Nat → Nat) : covers f g = true ↔ ∀ i, i < 8 → g i ≤ f i := by simp only [covers, List.all_eq_true, List.mem_range, decide_eq_true_eq]
theorem same_iff (f g : Nat → Nat) : same f g = true ↔ ∀ i, i < 8 → f i = g i := by simp only [same, List.all_eq_true, List.mem_range, decide_eq_true_eq]
def has (f : Nat → Nat) (n : Int) (k : Nat) : Bool := Vec.right n k && decide (k ≤ Vec.get f n)
end Vec
/-- Block b holds a dot. -/
def DotAt (w : World) (b : Nat) (t : TypeId) (n : Int) (k : Nat) : Prop := w.heap[b]? = some (.cells #[.int .i64 n, .int .u64 (k : Int)] t (0, 0))
theorem DotAt.node {w : World} {b : Nat} {t : TypeId} {n : Int} {k : Nat} (h : DotAt w b t n k) : w.cell? ⟨b, 0, none⟩ = some (.int .i64 n) := by rw [cell_of_row _ _ _ _ _ _ h]; rfl
theorem DotAt.num {w : World} {b : Nat} {t : TypeId} {n : Int} {k : Nat} (h : DotAt w b t n k) : w.cell? ⟨b, 1, none⟩ = some (.int .u64 (k : Int)) := by rw [cell_of_row _ _ _ _ _ _ h]; rfl
theorem DotAt.keep {w w' : World} {b : Nat} {t : TypeId} {n : Int} {k : Nat} (h : DotAt w b t n k) (e : w'.heap[b]? = w.heap[b]?) : DotAt w' b t n k := e.trans h
theorem DotAt.lt {w : World} {b : Nat} {t : TypeId} {n : Int} {k : Nat} (h : DotAt w b t n k) : b < w.heap.size := (Array.getElem?_eq_some_iff.1 h).1
theorem DotAt.below {B : Nat} {w w' : World} {b : Nat} {t : TypeId} {n : Int} {k : Nat} (h : DotAt w b t n k) (hb : Below B w w') (hl : b < B) : DotAt w' b t n k := h.keep (hb.block b hl)
theorem DotAt.new (w : World) (t : TypeId) (n : Int) (k : Nat) : DotAt (w.alloc (.cells #[.int .i64 n, .int .u64 (k : Int)] t)) w.heap.size t n k := heap_alloc_new _ _
theorem DotAt.alloc {w : World} {b : Nat} {t : TypeId} {n : Int} {k : Nat} (h : DotAt w b t n k) (o : Obj) : DotAt (w.alloc o) b t n k := h.below (below1 w o) h.lt

/-- A boxed vector, a boxed dot, a result of noughts. -/
structure WInv (w : World) (t : TypeId) (f : Nat → Nat) (n : Int) (k : Nat) (wr : World) : Prop where
  a : wr.rowIs w.heap.size 27 8 (fun i => .int .u64 ((f i : Nat) : Int))
  d : DotAt wr (w.heap.size + 1) t n k
  zero : wr.rowIs (w.heap.size + 1 + 1) 27 8 (fun _ => .int .u64 0)
  below : Below w.heap.size w wr
theorem WInv.start (w : World) (t : TypeId) (f : Nat → Nat) (n : Int) (k : Nat) : WInv w t f n k (((w.alloc (.cells (arrOf .u64 8 f) 27)).alloc (.cells #[.int .i64 n, .int .u64 (k : Int)] t)).alloc (.cells #[.int .u64 0, .int .u64 0, .int .u64 0, .int .u64 0, .int .u64 0, .int .u64 0, .int .u64 0, .int .u64 0] 27)) := by
  refine ⟨((vec_row w f).alloc _).alloc _, ?_, ?_, (below2 _ _ _).alloc (by simp; omega) _⟩
  · have h := DotAt.new (w.alloc (.cells (arrOf .u64 8 f) 27)) t n k
    simpa using h.alloc _
  · have h := zero_row ((w.alloc (.cells (arrOf .u64 8 f) 27)).alloc (.cells #[.int .i64 n, .int .u64 (k : Int)] t))
    simpa using h
theorem WInv.then_ {w w1 w2 : World} {t : TypeId} {f : Nat → Nat} {n : Int} {k : Nat} (h : WInv w t f n k w1) (hb : Below w1.heap.size w1 w2) : WInv w t f n k w2 :=
  ⟨row_below h.a hb h.a.lt, h.d.below hb h.d.lt, row_below h.zero hb h.zero.lt, h.below.trans (hb.mono h.below.size)⟩
theorem WInv.turn {w wr : World} {t : TypeId} {f : Nat → Nat} {n : Int} {k i : Nat} (h : WInv w t f n k wr) (hr : Vec.right n k = true) (hn : n = (i : Int) + 1) {x : Int} (hx : x = ((max (f i) k : Nat) : Int)) :
    WInv w t (Vec.with_ f n k) n k (wr.setCell ⟨w.heap.size, i, none⟩ (.int .u64 x)) := by
  subst hx
  refine ⟨(h.a.set i _).congr fun j hj => ?_, h.d.keep (Below.heap_setCell _ _ _ _ (by simp)), h.zero.setOther (by simp; omega) _, h.below.setCell (by simp) _⟩
  by_cases e : j = i
  · subst e
    subst hn
    simp [Vec.with_, hr]
  · rw [if_neg e, Vec.with_, if_neg (by omega)]
theorem with_not {f : Nat → Nat} {n : Int} {k : Nat} (h : ¬ Vec.right n k = true) : Vec.with_ f n k = f := by
  funext i
  rw [Vec.with_, if_neg (fun e => h e.1)]
theorem size25 : (Try.prog.info? 25).map (·.size) = some 2 := by kernel_rfl
theorem size35 : (Try.prog.info? 35).map (·.size) = some 2 := by kernel_rfl
theorem WInv.drewN {w wr : World} {t : TypeId} {f : Nat → Nat} {n : Int} {k : Nat} (I : WInv w t f n k wr) (m : Nat) : WInv w t f n k (wr.drewN m) := ⟨I.a, I.d, I.zero, ⟨I.below.os, I.below.tape, I.below.output, I.below.size, I.below.block⟩⟩
theorem WInv.drew {w wr : World} {t : TypeId} {f : Nat → Nat} {n : Int} {k : Nat} (I : WInv w t f n k wr) : WInv w t f n k wr.drew := I.drewN 1

set_option maxHeartbeats 1000000 in
theorem with_any (f : Nat → Nat) (n : Int) (k : Nat) (w : World) : Calls Try.prog 70 #[vecV f, dotV n k] w fun e w' => e = .returned (vecV (Vec.with_ f n k)) ∧ Below w.heap.size w w' := by
  have HI0 := Lib.hid (WInv.start w 25 f n k)
  have s27 : ∀ {f : Nat → Nat}, Hid ((Try.prog.info? 27).map (·.size) = some (arrOf .u64 8 f).size) := fun {f} => by rw [arrOf_size]; exact size27
  have s25 : Hid ((Try.prog.info? 25).map (·.size) = some (#[.int .i64 n, .int .u64 (k : Int)] : Array Value).size) := size25
  have ss : ∀ {f g : Nat → Nat}, Hid ((arrOf .u64 8 f).size = (arrOf .u64 8 g).size) := fun {f g} => by rw [arrOf_size, arrOf_size]; exact rfl
  go_enter Try.func70, Try.ntmps70
  go_wp2_with (refine wpList_load_row rfl 25 _ rfl (w.heap.size + 1) rfl 25 _ (0, 0) _ HI0.out.d Try.underlying25 rfl s25.out ?_)
  refine (right_any n k _).mono ?_
  rintro e w1 ⟨rfl, hb1⟩
  have HI := Lib.hid (HI0.out.then_ hb1)
  clear hb1 HI0
  by_cases hr : Vec.right n k = true
  · have h1 : 1 ≤ n ∧ n ≤ 8 := by
      have := hr
      simp only [Vec.right, decide_eq_true_eq] at this
      exact ⟨this.1, this.2.1⟩
    obtain ⟨i, rfl⟩ : ∃ i : Nat, n = (i : Int) + 1 := ⟨(n - 1).toNat, by omega⟩
    have hi : i < 8 := by omega
    have c1 := HI.out.a.cell hi
    have f1 := HI.out.a.frozen i
    have c2 := HI.out.d.node
    have c3 := HI.out.d.num
    clear h1
    go_wp2_with fail
    go_region
    obtain ⟨w2, hw2⟩ : ∃ w2, w2 = (w1.setCell ⟨w.heap.size, i, none⟩ (.int .u64 (if f i < k then (k : Int) else (f i : Int)))).drew := ⟨_, rfl⟩
    rw [← hw2]
    have HI2 : Hid (WInv w 25 (Vec.with_ f (i + 1) k) (i + 1) k w2) := by
      rw [hw2]
      exact (HI.out.turn hr rfl (by split <;> omega)).drew
    clear hw2 HI
    have ha := Lib.hid (row27 HI2.out.a)
    have hz := Lib.hid (row27 (f := fun _ => 0) HI2.out.zero)
    have HB := Lib.hid HI2.out.below
    clear HI2
    go_wp2_with (first
      | (refine wpList_load_row rfl 27 _ rfl w.heap.size rfl 27 _ (0, 0) _ ha.out Try.underlying27 rfl s27.out ?_)
      | (refine wpList_store_row rfl 27 _ _ rfl (w.heap.size + 1 + 1) (arrOf .u64 8 (Vec.with_ f (i + 1) k)) rfl rfl 27 _ hz.out s27.out ss.out (arrOf_one _ _ _) ?_)
      | (refine bodyPost_ret (results_cell_row Try.results70 _ _ (w.heap.size + 1 + 1) 27 _ (0, 0) _ rfl (setRow_heap _ _ _ _ _ _ hz.out) Try.underlying27 rfl s27.out) rfl ⟨rfl, below_setRow' HB.out (by omega) _⟩))
  · have ha := Lib.hid (row27 HI.out.a)
    have hz := Lib.hid (row27 (f := fun _ => 0) HI.out.zero)
    have HB := Lib.hid HI.out.below
    clear HI
    go_wp2_with (first
      | (refine wpList_load_row rfl 27 _ rfl w.heap.size rfl 27 _ (0, 0) _ ha.out Try.underlying27 rfl s27.out ?_)
      | (refine wpList_store_row rfl 27 _ _ rfl (w.heap.size + 1 + 1) (arrOf .u64 8 f) rfl rfl 27 _ hz.out s27.out ss.out (arrOf_one _ _ _) ?_)
      | (refine bodyPost_ret (results_cell_row Try.results70 _ _ (w.heap.size + 1 + 1) 27 _ (0, 0) _ rfl (setRow_heap _ _ _ _ _ _ hz.out) Try.underlying27 rfl s27.out) rfl ⟨by rw [with_not hr], below_setRow' HB.out (by omega) _⟩))
end Go.Proofs.Ytnpacjdgbmldlaa

/- A region whose order is open, whose operations make memory and call: one walk in the text's order serves every order, where what is said of each operation's value stays true as the world grows. -/
namespace Go.Proofs.Ytnpacjdgbmldlaa
namespace M2

/-- What is said of an operation: it only reckons (pure); it comes to the value c, and then p holds of the world (val); it comes to some value of which, with the world, p holds (mem). -/
inductive Kind where
  | pure
  | val (c : Value) (p : World → Prop)
  | mem (p : Value → World → Prop)

section
variable (P : Program) (ops : Array Oper) (R : Nat → World → World → Prop) (D : Nat → World → Prop) (E : World → Prop) (kinds : Nat → Kind) (fin : Act → World → Prop)

def growUpon (R : World → World → Prop) (w : World) (p : Value → World → Prop) : Result Next → Prop
  | .ok (.value u) w' => R w w' ∧ p u w'
  | .ok .skip w' => R w w' ∧ p undef w'
  | .ok (.enter f args) w' => Calls P f args w' fun e w'' => ∃ v, e = .returned v ∧ R w w'' ∧ p v w''
  | _ => False

def factsAt (F : Nat → World → Prop) (o : Oper) (w : World) : Prop := ∀ k ok d, ops[k]? = some ok → ok.dst = some d → d ∈ o.looksAt ops → F k w
def updF (F : Nat → World → Prop) (k : Nat) (p : World → Prop) : Nat → World → Prop := fun j => if j = k then p else F j

/-- Operation number i, which is o, comes up. -/
def mStep (i : Nat) (o : Oper) (K : Act → (Nat → World → Prop) → Prop) (a : Act) (F : Nat → World → Prop) : Prop :=
  if Region.wanted o (yielded ops a.tmps) = true then
    match kinds i with
    | .pure => ∃ c, (∀ w, (execOp a.eval o).run P w = .ok (.value c) w) ∧ K (a.put o.dst c) (updF F i (factsAt ops F o))
    | .val c p => (∀ w, D i w → factsAt ops F o w → growUpon P (R i) w (fun v w' => v = c ∧ p w') ((execOp a.eval o).run P w)) ∧ K (a.put o.dst c) (updF F i fun w => p w ∧ factsAt ops F o w)
    | .mem p => (∀ w, D i w → factsAt ops F o w → growUpon P (R i) w p ((execOp a.eval o).run P w)) ∧ ∀ v, K (a.put o.dst v) (updF F i fun w => p v w ∧ factsAt ops F o w)
  else K (a.put o.dst undef) (updF F i fun _ => True)

def mOp (i : Nat) (K : Act → (Nat → World → Prop) → Prop) (a : Act) (F : Nat → World → Prop) : Prop :=
  match ops[i]? with
  | none => K a F
  | some o => mStep P ops R D kinds i o K a F

/-- The walk in the text's order. -/
def wpMono : Nat → List Oper → Act → (Nat → World → Prop) → Prop
  | _, [], a, F => ∀ w, E w → (∀ k, F k w) → fin a w
  | i, o :: rest, a, F => mStep P ops R D kinds i o (wpMono (i + 1) rest) a F

/-- Whatever order is picked. -/
def wpAnyM (md : Region.Mode) : Nat → Array Bool → Act → (Nat → World → Prop) → Prop
  | 0, listed, a, F => Region.ready md ops listed = [] ∧ ∀ w, E w → (∀ k, F k w) → fin a w
  | fuel + 1, listed, a, F =>
    (Region.ready md ops listed = [] → ∀ w, E w → (∀ k, F k w) → fin a w) ∧
    ∀ i ∈ Region.ready md ops listed, mOp P ops R D kinds i (wpAnyM md fuel (listed.setIfInBounds i true)) a F
end

section
variable {P : Program} {ops : Array Oper} {R : Nat → World → World → Prop} {D : Nat → World → Prop} {E : World → Prop} {kinds : Nat → Kind} {fin : Act → World → Prop} {md : Region.Mode}

theorem updF_comm (F : Nat → World → Prop) {i j : Nat} (h : i ≠ j) (p q : World → Prop) : updF (updF F i p) j q = updF (updF F j q) i p := by
  funext k
  unfold updF
  by_cases h1 : k = j
  · subst h1
    rw [if_pos rfl, if_neg (Ne.symm h), if_pos rfl]
  · rw [if_neg h1]
    by_cases h2 : k = i
    · rw [if_pos h2, if_pos h2]
    · rw [if_neg h2, if_neg h2, if_neg h1]
theorem factsAt_upd {F : Nat → World → Prop} {o oj : Oper} {j : Nat} {p : World → Prop} (hj : ops[j]? = some oj) (h : ∀ d, oj.dst = some d → d ∉ o.looksAt ops) : factsAt ops (updF F j p) o = factsAt ops F o := by
  funext w
  apply propext
  constructor
  · intro hf k ok d h1 h2 h3
    have := hf k ok d h1 h2 h3
    unfold updF at this
    by_cases e : k = j
    · subst e
      have : ok = oj := Option.some.inj (h1.symm.trans hj)
      subst this
      exact absurd h3 (h d h2)
    · rwa [if_neg e] at this
  · intro hf k ok d h1 h2 h3
    unfold updF
    by_cases e : k = j
    · subst e
      have : ok = oj := Option.some.inj (h1.symm.trans hj)
      subst this
      exact absurd h3 (h d h2)
    · rw [if_neg e]; exact hf k ok d h1 h2 h3

/-- Two operations that are apart: their order is of no matter. -/
theorem mStep_swap {i j : Nat} {oi oj : Oper} (hij : i ≠ j) (hi : ops[i]? = some oi) (hj : ops[j]? = some oj) (hap : oi.apart ops oj = true)
    (hsi : ∀ cs b, oi.op ≠ .select cs b) (hsj : ∀ cs b, oj.op ≠ .select cs b) {K : Act → (Nat → World → Prop) → Prop} {a : Act} {F : Nat → World → Prop}
    (h : mStep P ops R D kinds i oi (mStep P ops R D kinds j oj K) a F) : mStep P ops R D kinds j oj (mStep P ops R D kinds i oi K) a F := by
  obtain ⟨h1, h2, h3⟩ := Oper.apart_spec hap
  have ei : ∀ u, execOp (a.put oj.dst u).eval oi = execOp a.eval oi := fun u => execOp_put oi hsi a oj.dst u h3
  have ej : ∀ v, execOp (a.put oi.dst v).eval oj = execOp a.eval oj := fun v => execOp_put oj hsj a oi.dst v h1
  have wi : ∀ u, Region.wanted oi (yielded ops (a.put oj.dst u).tmps) = Region.wanted oi (yielded ops a.tmps) := fun u => wanted_put oi a oj.dst u h3
  have wj : ∀ v, Region.wanted oj (yielded ops (a.put oi.dst v).tmps) = Region.wanted oj (yielded ops a.tmps) := fun v => wanted_put oj a oi.dst v h1
  have fi : ∀ p, factsAt ops (updF F j p) oi = factsAt ops F oi := fun p => factsAt_upd hj h3
  have fj : ∀ p, factsAt ops (updF F i p) oj = factsAt ops F oj := fun p => factsAt_upd hi h1
  have cm : ∀ v u, (a.put oi.dst v).put oj.dst u = (a.put oj.dst u).put oi.dst v := fun v u => Act.put_comm a v u h2
  have cf : ∀ p q, updF (updF F i p) j q = updF (updF F j q) i p := fun p q => updF_comm F hij p q
  unfold mStep at *
  by_cases hwi : Region.wanted oi (yielded ops a.tmps) = true
  · rw [if_pos hwi] at h
    by_cases hwj : Region.wanted oj (yielded ops a.tmps) = true
    · rw [if_pos hwj]
      cases ki : kinds i with
      | pure =>
        simp only [ki, wj, hwj, if_true, fj, ej] at h
        obtain ⟨c, hc, h⟩ := h
        cases kj : kinds j with
        | pure =>
          simp only [kj] at h ⊢
          obtain ⟨d, hd, h⟩ := h
          refine ⟨d, hd, ?_⟩
          rw [if_pos (by rw [wi]; exact hwi)]
          refine ⟨c, by rw [ei]; exact hc, ?_⟩
          rw [fi, ← cm, ← cf]; exact h
        | val d q =>
          simp only [kj] at h ⊢
          refine ⟨h.1, ?_⟩
          rw [if_pos (by rw [wi]; exact hwi)]
          refine ⟨c, by rw [ei]; exact hc, ?_⟩
          rw [fi, ← cm, ← cf]; exact h.2
        | mem q =>
          simp only [kj] at h ⊢
          refine ⟨h.1, fun u => ?_⟩
          rw [if_pos (by rw [wi]; exact hwi)]
          refine ⟨c, by rw [ei]; exact hc, ?_⟩
          rw [fi, ← cm, ← cf]; exact h.2 u
      | val c p =>
        simp only [ki, wj, hwj, if_true, fj, ej] at h
        obtain ⟨hc, h⟩ := h
        cases kj : kinds j with
        | pure =>
          simp only [kj] at h ⊢
          obtain ⟨d, hd, h⟩ := h
          refine ⟨d, hd, ?_⟩
          rw [if_pos (by rw [wi]; exact hwi)]
          refine ⟨by rw [ei, fi]; exact hc, ?_⟩
          rw [fi, ← cm, ← cf]; exact h
        | val d q =>
          simp only [kj] at h ⊢
          refine ⟨h.1, ?_⟩
          rw [if_pos (by rw [wi]; exact hwi)]
          refine ⟨by rw [ei, fi]; exact hc, ?_⟩
          rw [fi, ← cm, ← cf]; exact h.2
        | mem q =>
          simp only [kj] at h ⊢
          refine ⟨h.1, fun u => ?_⟩
          rw [if_pos (by rw [wi]; exact hwi)]
          refine ⟨by rw [ei, fi]; exact hc, ?_⟩
          rw [fi, ← cm, ← cf]; exact h.2 u
      | mem p =>
        simp only [ki, wj, hwj, if_true, fj, ej] at h
        obtain ⟨hc, h⟩ := h
        cases kj : kinds j with
        | pure =>
          simp only [kj] at h ⊢
          obtain ⟨d, hd, _⟩ := h undef
          refine ⟨d, hd, ?_⟩
          rw [if_pos (by rw [wi]; exact hwi)]
          refine ⟨by rw [ei, fi]; exact hc, fun v => ?_⟩
          obtain ⟨d', hd', h'⟩ := h v
          have e : d' = d := by
            have h1 := hd default
            rw [hd' default] at h1
            injection h1 with h1
            injection h1
          subst e
          rw [fi, ← cm, ← cf]; exact h'
        | val d q =>
          simp only [kj] at h ⊢
          refine ⟨(h undef).1, ?_⟩
          rw [if_pos (by rw [wi]; exact hwi)]
          refine ⟨by rw [ei, fi]; exact hc, fun v => ?_⟩
          rw [fi, ← cm, ← cf]; exact (h v).2
        | mem q =>
          simp only [kj] at h ⊢
          refine ⟨(h undef).1, fun u => ?_⟩
          rw [if_pos (by rw [wi]; exact hwi)]
          refine ⟨by rw [ei, fi]; exact hc, fun v => ?_⟩
          rw [fi, ← cm, ← cf]; exact (h v).2 u
    · rw [if_neg hwj]
      rw [if_pos (by rw [wi]; exact hwi)]
      cases ki : kinds i with
      | pure =>
        simp only [ki, wj] at h ⊢
        obtain ⟨c, hc, h⟩ := h
        rw [if_neg hwj] at h
        refine ⟨c, by rw [ei]; exact hc, ?_⟩
        rw [fi, ← cm, ← cf]; exact h
      | val c p =>
        simp only [ki, wj] at h ⊢
        obtain ⟨hc, h⟩ := h
        rw [if_neg hwj] at h
        refine ⟨by rw [ei, fi]; exact hc, ?_⟩
        rw [fi, ← cm, ← cf]; exact h
      | mem p =>
        simp only [ki, wj] at h ⊢
        obtain ⟨hc, h⟩ := h
        refine ⟨by rw [ei, fi]; exact hc, fun v => ?_⟩
        have h := h v
        rw [if_neg hwj] at h
        rw [fi, ← cm, ← cf]; exact h
  · rw [if_neg hwi, wj] at h
    by_cases hwj : Region.wanted oj (yielded ops a.tmps) = true
    · rw [if_pos hwj] at h ⊢
      cases kj : kinds j with
      | pure =>
        simp only [kj, fj, ej] at h ⊢
        obtain ⟨d, hd, h⟩ := h
        refine ⟨d, hd, ?_⟩
        rw [if_neg (by rw [wi]; exact hwi), ← cm, ← cf]; exact h
      | val d q =>
        simp only [kj, fj, ej] at h ⊢
        refine ⟨h.1, ?_⟩
        rw [if_neg (by rw [wi]; exact hwi), ← cm, ← cf]; exact h.2
      | mem q =>
        simp only [kj, fj, ej] at h ⊢
        refine ⟨h.1, fun u => ?_⟩
        rw [if_neg (by rw [wi]; exact hwi), ← cm, ← cf]; exact h.2 u
    · rw [if_neg hwj] at h ⊢
      rw [if_neg (by rw [wi]; exact hwi), ← cm, ← cf]; exact h

theorem mStep_mono {i : Nat} {o : Oper} {K K' : Act → (Nat → World → Prop) → Prop} {a : Act} {F : Nat → World → Prop} (hk : ∀ a F, K a F → K' a F) (h : mStep P ops R D kinds i o K a F) : mStep P ops R D kinds i o K' a F := by
  unfold mStep at *
  by_cases hw : Region.wanted o (yielded ops a.tmps) = true
  · rw [if_pos hw] at h ⊢
    cases ki : kinds i with
    | pure =>
      simp only [ki] at h ⊢
      obtain ⟨c, hc, h⟩ := h
      exact ⟨c, hc, hk _ _ h⟩
    | val c p =>
      simp only [ki] at h ⊢
      exact ⟨h.1, hk _ _ h.2⟩
    | mem p =>
      simp only [ki] at h ⊢
      exact ⟨h.1, fun v => hk _ _ (h.2 v)⟩
  · rw [if_neg hw] at h ⊢
    exact hk _ _ h

theorem wpAnyM_first {i : Nat} {oi : Oper} (hi : ops[i]? = some oi) (hsel : ∀ (j : Nat) (o : Oper) cs b, ops[j]? = some o → o.op ≠ .select cs b) :
    ∀ (fuel : Nat) (listed : Array Bool) (a : Act) (F : Nat → World → Prop),
      (∀ j oj, ops[j]? = some oj → j ≠ i → listed.getD j true = false → (∀ e ∈ oj.after, Region.binds md e = true → e.on ≠ i) → oi.apart ops oj = true) →
      i ∈ Region.ready md ops listed →
      mStep P ops R D kinds i oi (wpAnyM P ops R D E kinds fin md fuel (listed.setIfInBounds i true)) a F → wpAnyM P ops R D E kinds fin md (fuel + 1) listed a F := by
  intro fuel
  induction fuel with
  | zero =>
    intro listed a F _ hr H
    refine ⟨fun h => (by rw [h] at hr; cases hr), fun j hj => ?_⟩
    by_cases hji : j = i
    · subst hji
      unfold mOp; rw [hi]; exact H
    · have := ready_mono hj hji
      have hready : Region.ready md ops (listed.setIfInBounds i true) = [] := by
        unfold mStep at H
        by_cases hw : Region.wanted oi (yielded ops a.tmps) = true
        · rw [if_pos hw] at H
          cases ki : kinds i with
          | pure => simp only [ki] at H; obtain ⟨_, _, h, _⟩ := H; exact h
          | val c p => simp only [ki] at H; exact H.2.1
          | mem p => simp only [ki] at H; exact (H.2 undef).1
        · rw [if_neg hw] at H
          exact H.1
      rw [hready] at this
      cases this
  | succ fuel ih =>
    intro listed a F hfree hr H
    refine ⟨fun h => (by rw [h] at hr; cases hr), fun j hj => ?_⟩
    by_cases hji : j = i
    · subst hji
      unfold mOp; rw [hi]; exact H
    · obtain ⟨hjun, oj, hoj, hall⟩ := mem_ready.1 hj
      have hnot : ∀ e ∈ oj.after, Region.binds md e = true → e.on ≠ i := fun e he hb heq => by
        have h1 := hall e he hb
        have h0 := (mem_ready.1 hr).1
        rw [heq] at h1
        rcases Nat.lt_or_ge i listed.size with h' | h'
        · simp [h'] at h0 h1; rw [h0] at h1; cases h1
        · simp [Array.getElem?_eq_none h'] at h1
      have hap := hfree j oj hoj hji hjun hnot
      have H2 : mStep P ops R D kinds i oi (mStep P ops R D kinds j oj (wpAnyM P ops R D E kinds fin md fuel ((listed.setIfInBounds i true).setIfInBounds j true))) a F :=
        mStep_mono (fun a' F' h => by
          have h3 := h.2 j (ready_mono hj hji)
          unfold mOp at h3; rw [hoj] at h3; exact h3) H
      have H3 := mStep_swap (Ne.symm hji) hi hoj hap (fun cs b => hsel i oi cs b hi) (fun cs b => hsel j oj cs b hoj) H2
      have hfree' : ∀ k ok, ops[k]? = some ok → k ≠ i → (listed.setIfInBounds j true).getD k true = false →
          (∀ e ∈ ok.after, Region.binds md e = true → e.on ≠ i) → oi.apart ops ok = true := fun k ok hk hki hun hno => by
        refine hfree k ok hk hki ?_ hno
        by_cases hjk : j = k
        · subst hjk; exact hjun
        · rw [getD_set_ne true hjk] at hun; exact hun
      unfold mOp
      rw [hoj]
      refine mStep_mono (fun a' F' h => ih (listed.setIfInBounds j true) a' F' hfree' (ready_mono hr (Ne.symm hji)) ?_) H3
      rw [Array.setIfInBounds_comm _ _ hji]
      exact h

theorem wpAnyM_lex (hs : Region.noSelect ops = true) : ∀ (l : List Oper) (k : Nat) (listed : Array Bool) (a : Act) (F : Nat → World → Prop), (∀ j, l[j]? = ops[k + j]?) →
    Region.lexFrom md ops l.length k listed = true → wpMono P ops R D E kinds fin k l a F → wpAnyM P ops R D E kinds fin md l.length listed a F
  | [], _, _, _, _, _, hB, h => ⟨by simpa [Region.lexFrom] using hB, h⟩
  | o :: l, k, listed, a, F, hl, hB, h => by
    have h0 : ops[k]? = some o := by simpa using (hl 0).symm
    simp only [List.length_cons, Region.lexFrom, Bool.and_eq_true] at hB
    obtain ⟨⟨hr, hf⟩, hB'⟩ := hB
    exact wpAnyM_first h0 (Region.noSelect_spec hs) l.length listed a F (Region.free_spec h0 hf) (by simpa using hr)
      (mStep_mono (fun a' F' h' => wpAnyM_lex hs l (k + 1) _ a' F' (fun j => by have := hl (j + 1); simpa [Nat.add_assoc, Nat.add_comm 1 j] using this) hB' h') h)

variable {Q : Exit → Act → World → Prop}
/-- It is a 'wpAny', from every world of the class in which what is known holds. -/
theorem wpAny_of_mono (hE : ∀ j w w', R j w w' → E w → E w') (hD : ∀ i j w w', i ≠ j → R j w w' → D i w → D i w') (hp : ∀ i c p, kinds i = .val c p → ∀ j w w', i ≠ j → R j w w' → p w → p w')
    (hm : ∀ i p, kinds i = .mem p → ∀ j v w w', i ≠ j → R j w w' → p v w → p v w') :
    ∀ (fuel : Nat) (listed : Array Bool) (a : Act) (F : Nat → World → Prop) (w : World), listed.size = ops.size → E w → (∀ i, listed.getD i true = false → D i w) → (∀ k, F k w) →
      (∀ j, listed.getD j true = false → ∀ k w w', R j w w' → F k w → F k w') →
    wpAnyM P ops R D E kinds (fun a w => Q .normal a w) md fuel listed a F → wpAny P md ops Q fuel listed a w
  | 0, listed, a, F, w, _, hw, _, hF, _, h => ⟨h.1, h.2 w hw hF⟩
  | fuel + 1, listed, a, F, w, hsz, hw, hd, hF, hU, h => by
    refine ⟨fun h0 => h.1 h0 w hw hF, fun i hi => ?_⟩
    have h1 := h.2 i hi
    have hun : listed.getD i true = false := (mem_ready.1 hi).1
    have hlt : i < listed.size := by
      rcases Nat.lt_or_ge i listed.size with h' | h'
      · exact h'
      · rw [Array.getD_eq_getD_getElem?, Array.getElem?_eq_none h'] at hun; cases hun
    have hsz' : (listed.setIfInBounds i true).size = ops.size := by simpa using hsz
    have sub : ∀ j, (listed.setIfInBounds i true).getD j true = false → j ≠ i ∧ listed.getD j true = false := fun j hj => by
      by_cases e : i = j
      · subst e; simp [hlt] at hj
      · exact ⟨fun e' => e e'.symm, by rwa [getD_set_ne true e] at hj⟩
    have upF : ∀ (o : Oper) j, listed.getD j true = false → ∀ w w', R j w w' → factsAt ops F o w → factsAt ops F o w' := fun o j hj w w' hr hf k ok d a1 a2 a3 => hU j hj k w w' hr (hf k ok d a1 a2 a3)
    have goOn : ∀ (o : Oper) (v : Value) (f : World → Prop) (w' : World), (R i w w' ∨ w' = w) → f w' → (∀ j, i ≠ j → listed.getD j true = false → ∀ x y, R j x y → f x → f y) →
        wpAnyM P ops R D E kinds (fun a w => Q .normal a w) md fuel (listed.setIfInBounds i true) (a.put o.dst v) (updF F i f) → wpAny P md ops Q fuel (listed.setIfInBounds i true) (a.put o.dst v) w' := by
      intro o v f w' hr hf hu hk
      refine wpAny_of_mono hE hD hp hm fuel _ _ _ w' hsz' ?_ (fun j hj => ?_) (fun k => ?_) (fun j hj k x y hxy => ?_) hk
      · rcases hr with hr | rfl
        · exact hE _ _ _ hr hw
        · exact hw
      · obtain ⟨h2, h3⟩ := sub j hj
        rcases hr with hr | rfl
        · exact hD j i _ _ h2 hr (hd j h3)
        · exact hd j h3
      · unfold updF
        by_cases e : k = i
        · rw [if_pos e]; exact hf
        · rw [if_neg e]
          rcases hr with hr | rfl
          · exact hU i hun k _ _ hr (hF k)
          · exact hF k
      · obtain ⟨h2, h3⟩ := sub j hj
        unfold updF
        by_cases e : k = i
        · rw [if_pos e]; exact hu j (fun e => h2 e.symm) h3 x y hxy
        · rw [if_neg e]; exact hU j h3 k _ _ hxy
    unfold mOp at h1
    unfold wpOp
    cases ho : ops[i]? with
    | none => exact absurd ho (by rw [Array.getElem?_eq_getElem (by omega)]; exact fun e => by cases e)
    | some o =>
      rw [ho] at h1
      dsimp only at h1 ⊢
      unfold mStep at h1
      have fo : factsAt ops F o w := fun k ok d _ _ _ => hF k
      by_cases hwt : Region.wanted o (yielded ops a.tmps) = true
      · rw [if_pos hwt] at h1
        rw [if_pos hwt]
        left
        cases ki : kinds i with
        | pure =>
          simp only [ki] at h1
          obtain ⟨c, hc, h1⟩ := h1
          unfold Oper.wp
          rw [hc w]
          exact goOn o c _ w (.inr rfl) fo (fun j _ hj x y hxy => upF o j hj x y hxy) h1
        | val c p =>
          simp only [ki] at h1
          obtain ⟨hc, h1⟩ := h1
          have h2 := hc w (hd i hun) fo
          have hu : ∀ j, i ≠ j → listed.getD j true = false → ∀ x y, R j x y → (p x ∧ factsAt ops F o x) → (p y ∧ factsAt ops F o y) := fun j hij hj x y hxy hf => ⟨hp i c p ki j x y hij hxy hf.1, upF o j hj x y hxy hf.2⟩
          have hfo : ∀ y, R i w y → factsAt ops F o y := fun y hr => upF o i hun w y hr fo
          unfold Oper.wp
          generalize (execOp a.eval o).run P w = r at *
          cases r with
          | ok n w' =>
            cases n <;> simp only [growUpon] at h2 <;> simp only [Oper.upon]
            case value u => obtain ⟨hr, rfl, hpw⟩ := h2; exact goOn o u _ w' (.inl hr) ⟨hpw, hfo _ hr⟩ hu h1
            case skip => obtain ⟨hr, rfl, hpw⟩ := h2; exact goOn o undef _ w' (.inl hr) ⟨hpw, hfo _ hr⟩ hu h1
            case enter f args => exact Calls.mono h2 fun e w'' ⟨v, he, hr, hv, hpw⟩ => by subst he; subst hv; exact goOn o v _ w'' (.inl hr) ⟨hpw, hfo _ hr⟩ hu h1
          | halt x w' => simp only [growUpon] at h2
        | mem p =>
          simp only [ki] at h1
          obtain ⟨hc, h1⟩ := h1
          have h2 := hc w (hd i hun) fo
          have hu : ∀ v j, i ≠ j → listed.getD j true = false → ∀ x y, R j x y → (p v x ∧ factsAt ops F o x) → (p v y ∧ factsAt ops F o y) := fun v j hij hj x y hxy hf => ⟨hm i p ki j v x y hij hxy hf.1, upF o j hj x y hxy hf.2⟩
          have hfo : ∀ y, R i w y → factsAt ops F o y := fun y hr => upF o i hun w y hr fo
          unfold Oper.wp
          generalize (execOp a.eval o).run P w = r at *
          cases r with
          | ok n w' =>
            cases n <;> simp only [growUpon] at h2 <;> simp only [Oper.upon]
            case value u => obtain ⟨hr, hpw⟩ := h2; exact goOn o u _ w' (.inl hr) ⟨hpw, hfo _ hr⟩ (hu u) (h1 u)
            case skip => obtain ⟨hr, hpw⟩ := h2; exact goOn o undef _ w' (.inl hr) ⟨hpw, hfo _ hr⟩ (hu undef) (h1 undef)
            case enter f args => exact Calls.mono h2 fun e w'' ⟨v, he, hr, hpw⟩ => by subst he; exact goOn o v _ w'' (.inl hr) ⟨hpw, hfo _ hr⟩ (hu v) (h1 v)
          | halt x w' => simp only [growUpon] at h2
      · rw [if_neg hwt] at h1
        rw [if_neg hwt]
        exact goOn o undef _ w (.inr rfl) trivial (fun _ _ _ _ _ _ h => h) h1

/-- **ONE WALK IN THE TEXT'S ORDER SERVES EVERY ORDER**, memory being made: 'R' is how the world may turn, 'D' holds in all worlds on the way. -/
theorem wp_region_mono {id : Nat} {l : List Oper} {a : Act} {w : World} (R : Nat → World → World → Prop) (D : Nat → World → Prop) (E : World → Prop) (kinds : Nat → Kind) (hmix : P.follows .mixedOrders = true) (hB : Region.lexB .any l.toArray = true)
    (hE : ∀ j w w', R j w w' → E w → E w') (hD : ∀ i j w w', i ≠ j → R j w w' → D i w → D i w') (hp : ∀ i c p, kinds i = .val c p → ∀ j w w', i ≠ j → R j w w' → p w → p w')
    (hm : ∀ i p, kinds i = .mem p → ∀ j v w w', i ≠ j → R j w w' → p v w → p v w')
    (hw : E w.drew) (hd : ∀ i, D i w.drew) (h : wpMono P l.toArray R D E kinds (fun a w => Q .normal a w) 0 l a (fun _ _ => True)) : (Code.region id l.toArray true).wp P Q a w := by
  simp only [Region.lexB, Bool.and_eq_true] at hB
  refine wp_region_any hmix (wpAny_of_mono (R := R) (D := D) (E := E) (kinds := kinds) hE hD hp hm _ _ _ (fun _ _ => True) _ (by simp) hw (fun i _ => hd i) (fun _ => trivial) (fun _ _ _ _ _ _ _ => trivial) ?_)
  have := wpAnyM_lex (R := R) (D := D) (E := E) (kinds := kinds) (fin := fun a w => Q .normal a w) (md := .any) hB.1 l 0 (Array.replicate l.length false) a (fun _ _ => True) (by simp) (by simpa using hB.2) h
  simpa using this

theorem mono_pure {i : Nat} {o : Oper} {rest : List Oper} {a : Act} {F : Nat → World → Prop} (hw : Region.wanted o (yielded ops a.tmps) = true) (hk : kinds i = .pure)
    (h : ∃ c, (∀ w, (execOp a.eval o).run P w = .ok (.value c) w) ∧ ∃ a', a.put o.dst c = a' ∧ wpMono P ops R D E kinds fin (i + 1) rest a' (updF F i (factsAt ops F o))) : wpMono P ops R D E kinds fin i (o :: rest) a F := by
  unfold wpMono mStep
  rw [if_pos hw, hk]
  obtain ⟨c, hc, _, rfl, h⟩ := h
  exact ⟨c, hc, h⟩
theorem mono_val {i : Nat} {o : Oper} {rest : List Oper} {a : Act} {F : Nat → World → Prop} (hw : Region.wanted o (yielded ops a.tmps) = true) {c : Value} {p : World → Prop} (hk : kinds i = .val c p)
    (hc : ∀ w, D i w → factsAt ops F o w → growUpon P (R i) w (fun v w' => v = c ∧ p w') ((execOp a.eval o).run P w)) (h : ∃ a', a.put o.dst c = a' ∧ wpMono P ops R D E kinds fin (i + 1) rest a' (updF F i fun w => p w ∧ factsAt ops F o w)) : wpMono P ops R D E kinds fin i (o :: rest) a F := by
  unfold wpMono mStep
  rw [if_pos hw, hk]
  obtain ⟨_, rfl, h⟩ := h
  exact ⟨hc, h⟩
theorem mono_mem {i : Nat} {o : Oper} {rest : List Oper} {a : Act} {F : Nat → World → Prop} (hw : Region.wanted o (yielded ops a.tmps) = true) {p : Value → World → Prop} (hk : kinds i = .mem p)
    (hc : ∀ w, D i w → factsAt ops F o w → growUpon P (R i) w p ((execOp a.eval o).run P w)) (h : ∀ v, ∃ a', a.put o.dst v = a' ∧ wpMono P ops R D E kinds fin (i + 1) rest a' (updF F i fun w => p v w ∧ factsAt ops F o w)) : wpMono P ops R D E kinds fin i (o :: rest) a F := by
  unfold wpMono mStep
  rw [if_pos hw, hk]
  refine ⟨hc, fun v => ?_⟩
  obtain ⟨_, rfl, h⟩ := h v
  exact h
theorem mono_skip {i : Nat} {o : Oper} {rest : List Oper} {a : Act} {F : Nat → World → Prop} (hw : Region.wanted o (yielded ops a.tmps) = false) (h : ∃ a', a.put o.dst undef = a' ∧ wpMono P ops R D E kinds fin (i + 1) rest a' (updF F i fun _ => True)) : wpMono P ops R D E kinds fin i (o :: rest) a F := by
  unfold wpMono mStep
  rw [if_neg (by rw [hw]; exact Bool.false_ne_true)]
  obtain ⟨_, rfl, h⟩ := h
  exact h
theorem mono_nil {i : Nat} {a : Act} {F : Nat → World → Prop} (h : ∀ w, E w → (∀ k, F k w) → fin a w) : wpMono P ops R D E kinds fin i [] a F := h

/-- What is said of operation i stays true while the others turn the world. -/
def Kind.up (R : Nat → World → World → Prop) (i : Nat) : Kind → Prop
  | .pure => True
  | .val _ p => ∀ j w w', i ≠ j → R j w w' → p w → p w'
  | .mem p => ∀ j v w w', i ≠ j → R j w w' → p v w → p v w'
/-- The kinds by a list: what is not in it only reckons. -/
def kindsOf : List (Nat × Kind) → Nat → Kind
  | [], _ => .pure
  | (k, x) :: l, i => if i = k then x else kindsOf l i
theorem kindsOf_up {R : Nat → World → World → Prop} : ∀ {L : List (Nat × Kind)}, (∀ x ∈ L, x.2.up R x.1) → ∀ i, (kindsOf L i).up R i
  | [], _, _ => trivial
  | (k, x) :: l, h, i => by
    unfold kindsOf
    by_cases e : i = k
    · rw [if_pos e, e]; exact h (k, x) (by simp)
    · rw [if_neg e]; exact kindsOf_up (fun y hy => h y (by simp [hy])) i
theorem wp_region_kinds {id : Nat} {l : List Oper} {a : Act} {w : World} (R : Nat → World → World → Prop) (D : Nat → World → Prop) (E : World → Prop) (L : List (Nat × Kind)) (hmix : P.follows .mixedOrders = true) (hB : Region.lexB .any l.toArray = true)
    (hE : ∀ j w w', R j w w' → E w → E w') (hD : ∀ i j w w', i ≠ j → R j w w' → D i w → D i w') (hup : ∀ x ∈ L, x.2.up R x.1) (hw : E w.drew) (hd : ∀ i, D i w.drew)
    (h : wpMono P l.toArray R D E (kindsOf L) (fun a w => Q .normal a w) 0 l a (fun _ _ => True)) : (Code.region id l.toArray true).wp P Q a w :=
  wp_region_mono R D E (kindsOf L) hmix hB hE hD (fun i c p e => by have := kindsOf_up hup i; rw [e] at this; exact this) (fun i p e => by have := kindsOf_up hup i; rw [e] at this; exact this) hw hd h
end
end M2
end Go.Proofs.Ytnpacjdgbmldlaa

/- Has of vec and of the reference. -/
namespace Go.Proofs.Ytnpacjdgbmldlaa
open Go.RowKit

/-- A boxed vector and a boxed dot. -/
structure HInv (w : World) (t : TypeId) (f : Nat → Nat) (n : Int) (k : Nat) (wr : World) : Prop where
  a : wr.rowIs w.heap.size 27 8 (fun i => .int .u64 ((f i : Nat) : Int))
  d : DotAt wr (w.heap.size + 1) t n k
  below : Below w.heap.size w wr
theorem HInv.start (w : World) (t : TypeId) (f : Nat → Nat) (n : Int) (k : Nat) : HInv w t f n k ((w.alloc (.cells (arrOf .u64 8 f) 27)).alloc (.cells #[.int .i64 n, .int .u64 (k : Int)] t)) := by
  refine ⟨(vec_row w f).alloc _, ?_, below2 _ _ _⟩
  have h := DotAt.new (w.alloc (.cells (arrOf .u64 8 f) 27)) t n k
  simpa using h
theorem HInv.then_ {w w1 w2 : World} {t : TypeId} {f : Nat → Nat} {n : Int} {k : Nat} (hb : Below w1.heap.size w1 w2) (h : HInv w t f n k w1) : HInv w t f n k w2 :=
  ⟨row_below h.a hb h.a.lt, h.d.below hb h.d.lt, h.below.trans (hb.mono h.below.size)⟩
theorem HInv.drew {w wr : World} {t : TypeId} {f : Nat → Nat} {n : Int} {k : Nat} (I : HInv w t f n k wr) : HInv w t f n k wr.drew := ⟨I.a, I.d, ⟨I.below.os, I.below.tape, I.below.output, I.below.size, I.below.block⟩⟩
theorem row_range {w : World} {b : Nat} {t : TypeId} {n : Nat} {k : IntKind} {f : Nat → Nat} (h : w.rowIs b t n (fun i => .int k ((f i : Nat) : Int))) : rangeA w b 0 (arrOf k n f) := rangeA_arr fun j hj => by rw [Nat.zero_add]; exact h.cell hj
theorem DotAt.range {w : World} {b : Nat} {t : TypeId} {n : Int} {k : Nat} (h : DotAt w b t n k) : rangeA w b 0 #[.int .i64 n, .int .u64 (k : Int)] := fun j v hv => by
  match j, hv with
  | 0, hv => injection hv with hv; subst hv; exact h.node
  | 1, hv => injection hv with hv; subst hv; exact h.num
  | j + 2, hv => simp at hv
theorem exec_load {P : Program} {ev : Operand → Value} {o : Oper} {w w' : World} {v : Value} (ty : TypeId) (x : Operand) (ho : o.op = .load ty x) (b off : Nat) (hx : ev x = .pointer (some ⟨b, off, none⟩))
    (hl : (loadVar ty ⟨b, off, none⟩).run P w = .ok v w') : (execOp ev o).run P w = .ok (.value v) w' := by
  unfold execOp
  simp only [ho, hx, Instr.loadAt, Instr.sureAddr, Sem.run_bind, Sem.run_pure, Result.andThen_ok, hl]

set_option maxHeartbeats 1000000 in
theorem has_any (f : Nat → Nat) (n : Int) (k : Nat) (w : World) : Calls Try.prog 41 #[vecV f, dotV n k] w fun e w' => e = .returned (.bool (Vec.has f n k)) ∧ Below w.heap.size w w' := by
  have HI0 := Lib.hid (HInv.start w 25 f n k)
  go_enter Try.func41, Try.ntmps41
  go_wp2_with fail
  generalize (w.alloc (.cells (arrOf .u64 8 f) 27)).alloc (.cells #[.int .i64 n, .int .u64 (k : Int)] 25) = w1 at *
  by_cases hr : Vec.right n k = true
  · refine M2.wp_region_kinds (fun _ x y => Below x.heap.size x y) (fun _ x => HInv w 25 f n k x) (fun x => HInv w 25 f n k x)
      [(0, .val (dotV n k) fun _ => True), (1, .val (.bool true) fun _ => True), (3, .val (vecV f) fun _ => True), (5, .val (.int .i64 n) fun _ => True), (6, .val (.int .u64 ((Vec.get f n : Nat) : Int)) fun _ => True), (8, .val (.int .u64 (k : Int)) fun _ => True)] (by kernel_rfl) (by kernel_rfl) (fun _ _ _ hb h => HInv.then_ hb h) (fun _ _ _ _ _ hb h => HInv.then_ hb h) ?_ HI0.out.drew (fun _ => HI0.out.drew) ?_
    · intro z hz
      simp only [List.mem_cons, List.mem_nil_iff, or_false] at hz
      rcases hz with rfl | rfl | rfl | rfl | rfl | rfl <;> exact fun _ _ _ _ _ _ => trivial
    refine M2.mono_val rfl rfl (fun x hD hF => ?_) ?_
    · have hl := run_loadVar_arr (P := Try.prog) x (w.heap.size + 1) 0 25 #[.int .i64 n, .int .u64 (k : Int)] _ hD.d.range Try.underlying25 rfl size25
      rw [exec_load 25 (.tmp 3) rfl (w.heap.size + 1) 0 rfl hl]
      exact ⟨Below.refl _ _, rfl, trivial⟩
    apply Exists.intro
    refine ⟨by simp only [Act.put, List.setIfInBounds_toArray, List.set_cons_succ, List.set_cons_zero]; rfl, ?_⟩
    refine M2.mono_val rfl rfl (fun x hD hF => ?_) ?_
    · go_simp
      refine (right_any n k x).mono ?_
      rintro e y ⟨rfl, hg⟩
      exact ⟨_, rfl, hg, by rw [hr]⟩
    apply Exists.intro
    refine ⟨by simp only [Act.put, List.setIfInBounds_toArray, List.set_cons_succ, List.set_cons_zero]; rfl, ?_⟩
    iterate 1
      refine M2.mono_pure rfl rfl ?_
      apply Exists.intro
      refine ⟨fun x => ?_, ?_⟩
      · go_simp
        rfl
      apply Exists.intro
      refine ⟨by simp only [Act.put, List.setIfInBounds_toArray, List.set_cons_succ, List.set_cons_zero]; rfl, ?_⟩
    refine M2.mono_val rfl rfl (fun x hD hF => ?_) ?_
    · have hl := run_loadVar_arr (P := Try.prog) x w.heap.size 0 27 (arrOf .u64 8 f) _ (row_range hD.a) Try.underlying27 rfl (by rw [arrOf_size]; exact size27)
      rw [exec_load 27 (.tmp 2) rfl w.heap.size 0 rfl hl]
      exact ⟨Below.refl _ _, rfl, trivial⟩
    apply Exists.intro
    refine ⟨by simp only [Act.put, List.setIfInBounds_toArray, List.set_cons_succ, List.set_cons_zero]; rfl, ?_⟩
    iterate 1
      refine M2.mono_pure rfl rfl ?_
      apply Exists.intro
      refine ⟨fun x => ?_, ?_⟩
      · go_simp
        rfl
      apply Exists.intro
      refine ⟨by simp only [Act.put, List.setIfInBounds_toArray, List.set_cons_succ, List.set_cons_zero]; rfl, ?_⟩
    refine M2.mono_val rfl rfl (fun x hD hF => ?_) ?_
    · have hc := hD.d.node
      go_simp
      exact ⟨Below.refl _ _, rfl⟩
    apply Exists.intro
    refine ⟨by simp only [Act.put, List.setIfInBounds_toArray, List.set_cons_succ, List.set_cons_zero]; rfl, ?_⟩
    refine M2.mono_val rfl rfl (fun x hD hF => ?_) ?_
    · go_simp
      refine (get_any f n x).mono ?_
      rintro e y ⟨rfl, hg⟩
      exact ⟨_, rfl, hg, rfl⟩
    apply Exists.intro
    refine ⟨by simp only [Act.put, List.setIfInBounds_toArray, List.set_cons_succ, List.set_cons_zero]; rfl, ?_⟩
    iterate 1
      refine M2.mono_pure rfl rfl ?_
      apply Exists.intro
      refine ⟨fun x => ?_, ?_⟩
      · go_simp
        rfl
      apply Exists.intro
      refine ⟨by simp only [Act.put, List.setIfInBounds_toArray, List.set_cons_succ, List.set_cons_zero]; rfl, ?_⟩
    refine M2.mono_val rfl rfl (fun x hD hF => ?_) ?_
    · have hc := hD.d.num
      go_simp
      exact ⟨Below.refl _ _, rfl⟩
    apply Exists.intro
    refine ⟨by simp only [Act.put, List.setIfInBounds_toArray, List.set_cons_succ, List.set_cons_zero]; rfl, ?_⟩
    iterate 3
      refine M2.mono_pure rfl rfl ?_
      apply Exists.intro
      refine ⟨fun x => ?_, ?_⟩
      · go_simp
        rfl
      apply Exists.intro
      refine ⟨by simp only [Act.put, List.setIfInBounds_toArray, List.set_cons_succ, List.set_cons_zero]; rfl, ?_⟩
    refine M2.mono_nil ?_
    intro w3 hD hF
    have HB := Lib.hid hD.below
    clear hD hF
    go_simp
    go_wp2_with fail
    go_ret
    refine ⟨ret_bool ?_, HB.out⟩
    simp only [Vec.has, hr, Bool.true_and]
  · have hr' : Vec.right n k = false := by simpa using hr
    refine M2.wp_region_kinds (fun _ x y => Below x.heap.size x y) (fun _ x => HInv w 25 f n k x) (fun x => HInv w 25 f n k x)
      [(0, .val (dotV n k) fun _ => True), (1, .val (.bool false) fun _ => True)] (by kernel_rfl) (by kernel_rfl) (fun _ _ _ hb h => HInv.then_ hb h) (fun _ _ _ _ _ hb h => HInv.then_ hb h) ?_ HI0.out.drew (fun _ => HI0.out.drew) ?_
    · intro z hz
      simp only [List.mem_cons, List.mem_nil_iff, or_false] at hz
      rcases hz with rfl | rfl <;> exact fun _ _ _ _ _ _ => trivial
    refine M2.mono_val rfl rfl (fun x hD hF => ?_) ?_
    · have hl := run_loadVar_arr (P := Try.prog) x (w.heap.size + 1) 0 25 #[.int .i64 n, .int .u64 (k : Int)] _ hD.d.range Try.underlying25 rfl size25
      rw [exec_load 25 (.tmp 3) rfl (w.heap.size + 1) 0 rfl hl]
      exact ⟨Below.refl _ _, rfl, trivial⟩
    apply Exists.intro
    refine ⟨by simp only [Act.put, List.setIfInBounds_toArray, List.set_cons_succ, List.set_cons_zero]; rfl, ?_⟩
    refine M2.mono_val rfl rfl (fun x hD hF => ?_) ?_
    · go_simp
      refine (right_any n k x).mono ?_
      rintro e y ⟨rfl, hg⟩
      exact ⟨_, rfl, hg, by rw [hr']⟩
    apply Exists.intro
    refine ⟨by simp only [Act.put, List.setIfInBounds_toArray, List.set_cons_succ, List.set_cons_zero]; rfl, ?_⟩
    iterate 1
      refine M2.mono_pure rfl rfl ?_
      apply Exists.intro
      refine ⟨fun x => ?_, ?_⟩
      · go_simp
        rfl
      apply Exists.intro
      refine ⟨by simp only [Act.put, List.setIfInBounds_toArray, List.set_cons_succ, List.set_cons_zero]; rfl, ?_⟩
    refine M2.mono_skip rfl ?_
    apply Exists.intro
    refine ⟨by simp only [Act.put, List.setIfInBounds_toArray, List.set_cons_succ, List.set_cons_zero]; rfl, ?_⟩
    refine M2.mono_skip rfl ?_
    apply Exists.intro
    refine ⟨by simp only [Act.put, List.setIfInBounds_toArray, List.set_cons_succ, List.set_cons_zero]; rfl, ?_⟩
    refine M2.mono_skip rfl ?_
    apply Exists.intro
    refine ⟨by simp only [Act.put, List.setIfInBounds_toArray, List.set_cons_succ, List.set_cons_zero]; rfl, ?_⟩
    refine M2.mono_skip rfl ?_
    apply Exists.intro
    refine ⟨by simp only [Act.put, List.setIfInBounds_toArray, List.set_cons_succ, List.set_cons_zero]; rfl, ?_⟩
    refine M2.mono_skip rfl ?_
    apply Exists.intro
    refine ⟨by simp only [Act.put, List.setIfInBounds_toArray, List.set_cons_succ, List.set_cons_zero]; rfl, ?_⟩
    refine M2.mono_skip rfl ?_
    apply Exists.intro
    refine ⟨by simp only [Act.put, List.setIfInBounds_toArray, List.set_cons_succ, List.set_cons_zero]; rfl, ?_⟩
    refine M2.mono_skip rfl ?_
    apply Exists.intro
    refine ⟨by simp only [Act.put, List.setIfInBounds_toArray, List.set_cons_succ, List.set_cons_zero]; rfl, ?_⟩
    iterate 2
      refine M2.mono_pure rfl rfl ?_
      apply Exists.intro
      refine ⟨fun x => ?_, ?_⟩
      · go_simp
        rfl
      apply Exists.intro
      refine ⟨by simp only [Act.put, List.setIfInBounds_toArray, List.set_cons_succ, List.set_cons_zero]; rfl, ?_⟩
    refine M2.mono_nil ?_
    intro w3 hD hF
    have HB := Lib.hid hD.below
    clear hD hF
    go_simp
    go_wp2_with fail
    go_ret
    refine ⟨ret_bool ?_, HB.out⟩
    simp only [Vec.has, hr', Bool.false_and]

set_option maxHeartbeats 1000000 in
theorem hasR_any (f : Nat → Nat) (n : Int) (k : Nat) (w : World) : Calls Try.prog 79 #[vecV f, dotV n k] w fun e w' => e = .returned (.bool (Vec.has f n k)) ∧ Below w.heap.size w w' := by
  have HI0 := Lib.hid (HInv.start w 35 f n k)
  go_enter Try.func79, Try.ntmps79
  go_wp2_with fail
  generalize (w.alloc (.cells (arrOf .u64 8 f) 27)).alloc (.cells #[.int .i64 n, .int .u64 (k : Int)] 35) = w1 at *
  by_cases hr : Vec.right n k = true
  · refine M2.wp_region_kinds (fun _ x y => Below x.heap.size x y) (fun _ x => HInv w 35 f n k x) (fun x => HInv w 35 f n k x)
      [(0, .val (dotV n k) fun _ => True), (1, .val (.bool true) fun _ => True), (4, .val (.int .u64 (k : Int)) fun _ => True), (5, .val (vecV f) fun _ => True), (7, .val (.int .i64 n) fun _ => True), (8, .val (.int .u64 ((Vec.get f n : Nat) : Int)) fun _ => True)] (by kernel_rfl) (by kernel_rfl) (fun _ _ _ hb h => HInv.then_ hb h) (fun _ _ _ _ _ hb h => HInv.then_ hb h) ?_ HI0.out.drew (fun _ => HI0.out.drew) ?_
    · intro z hz
      simp only [List.mem_cons, List.mem_nil_iff, or_false] at hz
      rcases hz with rfl | rfl | rfl | rfl | rfl | rfl <;> exact fun _ _ _ _ _ _ => trivial
    refine M2.mono_val rfl rfl (fun x hD hF => ?_) ?_
    · have hl := run_loadVar_arr (P := Try.prog) x (w.heap.size + 1) 0 35 #[.int .i64 n, .int .u64 (k : Int)] _ hD.d.range Try.underlying35 rfl size35
      rw [exec_load 35 (.tmp 3) rfl (w.heap.size + 1) 0 rfl hl]
      exact ⟨Below.refl _ _, rfl, trivial⟩
    apply Exists.intro
    refine ⟨by simp only [Act.put, List.setIfInBounds_toArray, List.set_cons_succ, List.set_cons_zero]; rfl, ?_⟩
    refine M2.mono_val rfl rfl (fun x hD hF => ?_) ?_
    · go_simp
      refine (rightR_any n k x).mono ?_
      rintro e y ⟨rfl, hg⟩
      exact ⟨_, rfl, hg, by rw [hr]⟩
    apply Exists.intro
    refine ⟨by simp only [Act.put, List.setIfInBounds_toArray, List.set_cons_succ, List.set_cons_zero]; rfl, ?_⟩
    iterate 2
      refine M2.mono_pure rfl rfl ?_
      apply Exists.intro
      refine ⟨fun x => ?_, ?_⟩
      · go_simp
        rfl
      apply Exists.intro
      refine ⟨by simp only [Act.put, List.setIfInBounds_toArray, List.set_cons_succ, List.set_cons_zero]; rfl, ?_⟩
    refine M2.mono_val rfl rfl (fun x hD hF => ?_) ?_
    · have hc := hD.d.num
      go_simp
      exact ⟨Below.refl _ _, rfl⟩
    apply Exists.intro
    refine ⟨by simp only [Act.put, List.setIfInBounds_toArray, List.set_cons_succ, List.set_cons_zero]; rfl, ?_⟩
    refine M2.mono_val rfl rfl (fun x hD hF => ?_) ?_
    · have hl := run_loadVar_arr (P := Try.prog) x w.heap.size 0 27 (arrOf .u64 8 f) _ (row_range hD.a) Try.underlying27 rfl (by rw [arrOf_size]; exact size27)
      rw [exec_load 27 (.tmp 2) rfl w.heap.size 0 rfl hl]
      exact ⟨Below.refl _ _, rfl, trivial⟩
    apply Exists.intro
    refine ⟨by simp only [Act.put, List.setIfInBounds_toArray, List.set_cons_succ, List.set_cons_zero]; rfl, ?_⟩
    iterate 1
      refine M2.mono_pure rfl rfl ?_
      apply Exists.intro
      refine ⟨fun x => ?_, ?_⟩
      · go_simp
        rfl
      apply Exists.intro
      refine ⟨by simp only [Act.put, List.setIfInBounds_toArray, List.set_cons_succ, List.set_cons_zero]; rfl, ?_⟩
    refine M2.mono_val rfl rfl (fun x hD hF => ?_) ?_
    · have hc := hD.d.node
      go_simp
      exact ⟨Below.refl _ _, rfl⟩
    apply Exists.intro
    refine ⟨by simp only [Act.put, List.setIfInBounds_toArray, List.set_cons_succ, List.set_cons_zero]; rfl, ?_⟩
    refine M2.mono_val rfl rfl (fun x hD hF => ?_) ?_
    · go_simp
      refine (getR_any f n x).mono ?_
      rintro e y ⟨rfl, hg⟩
      exact ⟨_, rfl, hg, rfl⟩
    apply Exists.intro
    refine ⟨by simp only [Act.put, List.setIfInBounds_toArray, List.set_cons_succ, List.set_cons_zero]; rfl, ?_⟩
    iterate 3
      refine M2.mono_pure rfl rfl ?_
      apply Exists.intro
      refine ⟨fun x => ?_, ?_⟩
      · go_simp
        rfl
      apply Exists.intro
      refine ⟨by simp only [Act.put, List.setIfInBounds_toArray, List.set_cons_succ, List.set_cons_zero]; rfl, ?_⟩
    refine M2.mono_nil ?_
    intro w3 hD hF
    have HB := Lib.hid hD.below
    clear hD hF
    go_simp
    go_wp2_with fail
    go_ret
    refine ⟨ret_bool ?_, HB.out⟩
    simp only [Vec.has, hr, Bool.true_and]
  · have hr' : Vec.right n k = false := by simpa using hr
    refine M2.wp_region_kinds (fun _ x y => Below x.heap.size x y) (fun _ x => HInv w 35 f n k x) (fun x => HInv w 35 f n k x)
      [(0, .val (dotV n k) fun _ => True), (1, .val (.bool false) fun _ => True)] (by kernel_rfl) (by kernel_rfl) (fun _ _ _ hb h => HInv.then_ hb h) (fun _ _ _ _ _ hb h => HInv.then_ hb h) ?_ HI0.out.drew (fun _ => HI0.out.drew) ?_
    · intro z hz
      simp only [List.mem_cons, List.mem_nil_iff, or_false] at hz
      rcases hz with rfl | rfl <;> exact fun _ _ _ _ _ _ => trivial
    refine M2.mono_val rfl rfl (fun x hD hF => ?_) ?_
    · have hl := run_loadVar_arr (P := Try.prog) x (w.heap.size + 1) 0 35 #[.int .i64 n, .int .u64 (k : Int)] _ hD.d.range Try.underlying35 rfl size35
      rw [exec_load 35 (.tmp 3) rfl (w.heap.size + 1) 0 rfl hl]
      exact ⟨Below.refl _ _, rfl, trivial⟩
    apply Exists.intro
    refine ⟨by simp only [Act.put, List.setIfInBounds_toArray, List.set_cons_succ, List.set_cons_zero]; rfl, ?_⟩
    refine M2.mono_val rfl rfl (fun x hD hF => ?_) ?_
    · go_simp
      refine (rightR_any n k x).mono ?_
      rintro e y ⟨rfl, hg⟩
      exact ⟨_, rfl, hg, by rw [hr']⟩
    apply Exists.intro
    refine ⟨by simp only [Act.put, List.setIfInBounds_toArray, List.set_cons_succ, List.set_cons_zero]; rfl, ?_⟩
    iterate 1
      refine M2.mono_pure rfl rfl ?_
      apply Exists.intro
      refine ⟨fun x => ?_, ?_⟩
      · go_simp
        rfl
      apply Exists.intro
      refine ⟨by simp only [Act.put, List.setIfInBounds_toArray, List.set_cons_succ, List.set_cons_zero]; rfl, ?_⟩
    refine M2.mono_skip rfl ?_
    apply Exists.intro
    refine ⟨by simp only [Act.put, List.setIfInBounds_toArray, List.set_cons_succ, List.set_cons_zero]; rfl, ?_⟩
    refine M2.mono_skip rfl ?_
    apply Exists.intro
    refine ⟨by simp only [Act.put, List.setIfInBounds_toArray, List.set_cons_succ, List.set_cons_zero]; rfl, ?_⟩
    refine M2.mono_skip rfl ?_
    apply Exists.intro
    refine ⟨by simp only [Act.put, List.setIfInBounds_toArray, List.set_cons_succ, List.set_cons_zero]; rfl, ?_⟩
    refine M2.mono_skip rfl ?_
    apply Exists.intro
    refine ⟨by simp only [Act.put, List.setIfInBounds_toArray, List.set_cons_succ, List.set_cons_zero]; rfl, ?_⟩
    refine M2.mono_skip rfl ?_
    apply Exists.intro
    refine ⟨by simp only [Act.put, List.setIfInBounds_toArray, List.set_cons_succ, List.set_cons_zero]; rfl, ?_⟩
    refine M2.mono_skip rfl ?_
    apply Exists.intro
    refine ⟨by simp only [Act.put, List.setIfInBounds_toArray, List.set_cons_succ, List.set_cons_zero]; rfl, ?_⟩
    refine M2.mono_skip rfl ?_
    apply Exists.intro
    refine ⟨by simp only [Act.put, List.setIfInBounds_toArray, List.set_cons_succ, List.set_cons_zero]; rfl, ?_⟩
    iterate 2
      refine M2.mono_pure rfl rfl ?_
      apply Exists.intro
      refine ⟨fun x => ?_, ?_⟩
      · go_simp
        rfl
      apply Exists.intro
      refine ⟨by simp only [Act.put, List.setIfInBounds_toArray, List.set_cons_succ, List.set_cons_zero]; rfl, ?_⟩
    refine M2.mono_nil ?_
    intro w3 hD hF
    have HB := Lib.hid hD.below
    clear hD hF
    go_simp
    go_wp2_with fail
    go_ret
    refine ⟨ret_bool ?_, HB.out⟩
    simp only [Vec.has, hr', Bool.false_and]
end Go.Proofs.Ytnpacjdgbmldlaa

/- As, Next and the reference's With. -/
namespace Go.Proofs.Ytnpacjdgbmldlaa
open Go.RowKit

theorem results_cell_tmp {P : Program} {fn : Func} {p q : Tmp} {ty : TypeId} (h : fn.results = #[.cell p ty, .tmp q]) (tmps : Array Value) (w : World) (g : Nat) (t : TypeId) (cs : Array Value) (fr : Nat × Nat) (d : TypeDesc)
    (hp : tmps.getD p undef = .pointer (some ⟨g, 0, none⟩)) (hg : w.heap[g]? = some (.cells cs t fr))
    (hu : P.underlying ty = some d) (hd : (match d with | .struct _ | .array _ _ => true | _ => false) = true) (hi : (P.info? ty).map (·.size) = some cs.size) {v : Value} (hv : tmps.getD q undef = v) :
    (results fn tmps).run P w = .ok (.tuple #[.agg cs, v]) w := by
  have hp' : tmps[p]?.getD undef = .pointer (some ⟨g, 0, none⟩) := by simpa using hp
  have hv' : tmps[q]?.getD undef = v := by simpa using hv
  simp [results, h, hp', hv', asAddr, run_loadVar_row w g t ty cs fr d hg hu hd hi]

theorem DotAt.second (w : World) (o : Obj) (t : TypeId) (n : Int) (k : Nat) : DotAt ((w.alloc o).alloc (.cells #[.int .i64 n, .int .u64 (k : Int)] t)) (w.heap.size + 1) t n k := by
  have h := DotAt.new (w.alloc o) t n k
  simpa using h
set_option maxHeartbeats 400000 in
theorem as_any (n : Int) (k : Nat) (w : World) : Calls Try.prog 26 #[dotV n k] w fun e w' => e = .returned (dotV n k) ∧ Below w.heap.size w w' := by
  go_enter Try.func26, Try.ntmps26
  go_wp2
  exact bodyPost_ret (results_cell_row Try.results26 _ _ (w.heap.size + 1) 35 _ (0, 0) _ rfl (DotAt.second w _ 35 n k) Try.underlying35 rfl size35) rfl ⟨rfl, below2 _ _ _⟩

namespace Vec
/-- The next dot of a node, and the error. -/
def next (f : Nat → Nat) (n : Int) : Int × Nat × Int := if Vec.isNode n = true then (if Vec.get f n = 18446744073709551615 then (0, 0, 13) else (n, Vec.get f n + 1, 0)) else (0, 0, 11)
end Vec
abbrev nextV (p : Int × Nat × Int) : Value := .tuple #[dotV p.1 p.2.1, .int .i64 p.2.2]
theorem two_one (x : Value) (y : Value) (hx : x.oneCell' = true) (hy : y.oneCell' = true) : (#[x, y] : Array Value).all (·.oneCell') = true := by simp [hx, hy]
theorem dot_one (n : Int) (k : Nat) : (#[.int .i64 n, .int .u64 (k : Int)] : Array Value).all (·.oneCell') = true := two_one _ _ rfl rfl

set_option maxRecDepth 100000 in
set_option maxHeartbeats 1000000 in
theorem next_any (f : Nat → Nat) (n : Int) (w : World) (hf : Vec.get f n < 18446744073709551616) : Calls Try.prog 69 #[vecV f, .int .i64 n] w fun e w' => e = .returned (nextV (Vec.next f n)) ∧ Below w.heap.size w w' := by
  have s27 : ∀ {f : Nat → Nat}, Hid ((Try.prog.info? 27).map (·.size) = some (arrOf .u64 8 f).size) := fun {f} => by rw [arrOf_size]; exact size27
  have hl := Lib.hid (row27 ((vec_row w f).alloc (.cells #[.int .i64 0, .int .u64 ((0 : Nat) : Int)] 25)))
  by_cases h1 : Vec.isNode n = true
  · have hn : 1 ≤ n ∧ n ≤ 8 := by simpa [Vec.isNode] using h1
    obtain ⟨hn1, hn2⟩ := hn
    obtain ⟨G, hG⟩ : ∃ G, G = Vec.get f n := ⟨_, rfl⟩
    rw [← hG] at hf
    have HG := Lib.hid hG
    clear hG
    by_cases eG : G = 18446744073709551615
    · have eI : (G : Int) = 18446744073709551615 := by omega
      have hfz := hf
      have s2 : Hid ((Try.prog.info? 25).map (·.size) = some (#[.int .i64 0, .int .u64 (0)] : Array Value).size) := size25
      have o2 : Hid ((#[.int .i64 0, .int .u64 (0)] : Array Value).all (·.oneCell') = true) := two_one _ _ rfl rfl
      have z2 : Hid ((#[.int .i64 0, .int .u64 ((0 : Nat) : Int)] : Array Value).size = (#[.int .i64 0, .int .u64 (0)] : Array Value).size) := rfl
      go_enter Try.func69, Try.ntmps69
      go_wp2_with (first
        | (go_at_call 80; refine (isNode_any _ _).mono ?_; rintro e w' ⟨rfl, rfl⟩)
        | (refine wpList_load_row rfl 27 _ rfl w.heap.size rfl 27 _ (0, 0) _ hl.out Try.underlying27 rfl s27.out ?_)
        | (go_at_call 81; refine (get_any f n _).mono ?_; rintro e w1 ⟨rfl, hb⟩; have HB := Lib.hid ((below2 _ _ _).trans (hb.mono (below2 w _ _).size)); have HD : Hid (DotAt w1 (w.heap.size + 1) 25 0 0) := (DotAt.second w _ 25 0 0).below hb (DotAt.second w _ 25 0 0).lt; clear hb; rw [← HG.out])
        | (refine wpList_store_row rfl 25 _ _ rfl (w.heap.size + 1) #[.int .i64 0, .int .u64 (0)] rfl rfl 25 _ HD.out s2.out z2.out o2.out ?_))
      refine bodyPost_ret (results_cell_tmp Try.results69 _ _ (w.heap.size + 1) 25 _ (0, 0) _ rfl (setRow_heap _ _ _ _ _ _ HD.out) Try.underlying25 rfl s2.out rfl) rfl ⟨?_, below_setRow' HB.out (by omega) _⟩
      rw [Vec.next, if_pos h1, ← HG.out, if_pos eG]; rfl
    · have eI : ¬ (G : Int) = 18446744073709551615 := by omega
      have hfz : IntKind.u64.wrap ((G : Int) + 1) = (G : Int) + 1 := by rw [IntKind.wrap_u64]; omega
      have EG := Lib.hid eG
      clear eG hf
      have s2 : Hid ((Try.prog.info? 25).map (·.size) = some (#[.int .i64 n, .int .u64 ((G : Int) + 1)] : Array Value).size) := size25
      have o2 : Hid ((#[.int .i64 n, .int .u64 ((G : Int) + 1)] : Array Value).all (·.oneCell') = true) := two_one _ _ rfl rfl
      have z2 : Hid ((#[.int .i64 0, .int .u64 ((0 : Nat) : Int)] : Array Value).size = (#[.int .i64 n, .int .u64 ((G : Int) + 1)] : Array Value).size) := rfl
      go_enter Try.func69, Try.ntmps69
      go_wp2_with (first
        | (go_at_call 80; refine (isNode_any _ _).mono ?_; rintro e w' ⟨rfl, rfl⟩)
        | (refine wpList_load_row rfl 27 _ rfl w.heap.size rfl 27 _ (0, 0) _ hl.out Try.underlying27 rfl s27.out ?_)
        | (go_at_call 81; refine (get_any f n _).mono ?_; rintro e w1 ⟨rfl, hb⟩; have HB := Lib.hid ((below2 _ _ _).trans (hb.mono (below2 w _ _).size)); have HD : Hid (DotAt w1 (w.heap.size + 1) 25 0 0) := (DotAt.second w _ 25 0 0).below hb (DotAt.second w _ 25 0 0).lt; clear hb; rw [← HG.out])
        | (refine wpList_store_row rfl 25 _ _ rfl (w.heap.size + 1) #[.int .i64 n, .int .u64 ((G : Int) + 1)] rfl rfl 25 _ HD.out s2.out z2.out o2.out ?_))
      refine bodyPost_ret (results_cell_tmp Try.results69 _ _ (w.heap.size + 1) 25 _ (0, 0) _ rfl (setRow_heap _ _ _ _ _ _ HD.out) Try.underlying25 rfl s2.out rfl) rfl ⟨?_, below_setRow' HB.out (by omega) _⟩
      rw [Vec.next, if_pos h1, ← HG.out, if_neg EG.out]; rfl
  · have h1' : Vec.isNode n = false := by simpa using h1
    have hn : ¬ (1 ≤ n ∧ n ≤ 8) := by simpa [Vec.isNode] using h1
    by_cases hn1 : n < 1
    · go_enter Try.func69, Try.ntmps69
      go_wp2_with (first
        | (go_at_call 80; refine (isNode_any _ _).mono ?_; rintro e w' ⟨rfl, rfl⟩)
      )
      refine bodyPost_ret (results_cell_tmp Try.results69 _ _ (w.heap.size + 1) 25 _ (0, 0) _ rfl (DotAt.second w _ 25 0 0) Try.underlying25 rfl size25 rfl) rfl ⟨?_, below2 _ _ _⟩
      rw [Vec.next, if_neg h1]; rfl
    · have hn2 : 8 < n := by omega
      go_enter Try.func69, Try.ntmps69
      go_wp2_with (first
        | (go_at_call 80; refine (isNode_any _ _).mono ?_; rintro e w' ⟨rfl, rfl⟩)
      )
      refine bodyPost_ret (results_cell_tmp Try.results69 _ _ (w.heap.size + 1) 25 _ (0, 0) _ rfl (DotAt.second w _ 25 0 0) Try.underlying25 rfl size25 rfl) rfl ⟨?_, below2 _ _ _⟩
      rw [Vec.next, if_neg h1]; rfl
end Go.Proofs.Ytnpacjdgbmldlaa

/- A region whose order is open but for its last operations, which stand behind all others one behind the other (the assignments of 'x, y := ..'): the first ones by one walk in the text's order; what 'alloc' gives is told apart. -/
namespace Go.Proofs.Ytnpacjdgbmldlaa
namespace M3
open M2

/-- From k on the operations come one behind the other. -/
def seqFrom (md : Region.Mode) (ops : Array Oper) : Nat → Nat → Array Bool → Bool
  | 0, _, L => (Region.ready md ops L).isEmpty
  | f + 1, k, L => (Region.ready md ops L == [k]) && seqFrom md ops f (k + 1) (L.setIfInBounds k true)

section
variable {P : Program} {md : Region.Mode} {full : Array Oper} {Q : Exit → Act → World → Prop}
theorem wpAny_end {L : Array Bool} {a : Act} {w : World} (h : Region.ready md full L = []) (hq : Q .normal a w) : ∀ n, wpAny P md full Q n L a w
  | 0 => ⟨h, hq⟩
  | n + 1 => ⟨fun _ => hq, fun i hi => by rw [h] at hi; cases hi⟩
theorem wpAny_seq : ∀ (l : List Oper) (k : Nat) (L : Array Bool) (a : Act) (w : World) (n : Nat), (∀ j, l[j]? = full[k + j]?) → seqFrom md full l.length k L = true → wpList P full Q l a w → wpAny P md full Q (n + l.length) L a w
  | [], _, L, a, w, n, _, hs, h => wpAny_end (by simpa [seqFrom] using hs) h _
  | o :: l, k, L, a, w, n, hl, hs, h => by
    have h0 : full[k]? = some o := by simpa using (hl 0).symm
    simp only [List.length_cons, seqFrom, Bool.and_eq_true, beq_iff_eq] at hs
    obtain ⟨hr, hs⟩ := hs
    have go : ∀ a w, wpList P full Q l a w → wpAny P md full Q (n + l.length) (L.setIfInBounds k true) a w := fun a w hh =>
      wpAny_seq l (k + 1) _ a w n (fun j => by have := hl (j + 1); simpa [Nat.add_assoc, Nat.add_comm 1 j] using this) hs hh
    show wpAny P md full Q ((n + l.length) + 1) L a w
    refine ⟨fun e => (by rw [hr] at e; cases e), fun i hi => ?_⟩
    rw [hr, List.mem_singleton] at hi
    subst hi
    unfold wpOp
    rw [h0]
    dsimp only
    unfold wpList at h
    by_cases hw : Region.wanted o (yielded full a.tmps) = true
    · rw [if_pos hw] at h ⊢
      exact h.imp (Oper.wp_mono go) id
    · rw [if_neg hw] at h ⊢
      exact go _ _ h
end

/-- No two of the new blocks are one. -/
def Dist (news : List (Nat × Nat)) (a : Act) : Prop := ∀ p ∈ news, ∀ q ∈ news, p.1 ≠ q.1 → a.tmps.getD p.2 undef ≠ a.tmps.getD q.2 undef
structure Born (news : List (Nat × Nat)) (L : Array Bool) (a : Act) (w : World) : Prop where
  size : ∀ p ∈ news, p.2 < a.tmps.size
  lt : ∀ p ∈ news, L.getD p.1 false = true → ∃ b, a.tmps.getD p.2 undef = .pointer (some ⟨b, 0, none⟩) ∧ b < w.heap.size
  ne : ∀ p ∈ news, ∀ q ∈ news, p.1 ≠ q.1 → L.getD p.1 false = true → L.getD q.1 false = true → a.tmps.getD p.2 undef ≠ a.tmps.getD q.2 undef

/-- o waits for operation k, in at most n steps. -/
def waits (md : Region.Mode) (front : Array Oper) : Nat → Oper → Nat → Bool
  | 0, _, _ => false
  | n + 1, o, k => o.after.any fun e => Region.binds md e && (decide (e.on = k) || ((front[e.on]?).map fun o' => waits md front n o' k).getD false)
/-- What is asked of the split: by program. -/
def splitB (md : Region.Mode) (full front : Array Oper) (nb : Nat) (news : List (Nat × Nat)) : Bool :=
  full.size == front.size + nb
  && (List.range front.size).all (fun i => ((front[i]?).map fun o => o.guard.isNone && o.after.all (fun e => !Region.binds md e || decide (e.on < i)) && news.all (fun p => decide (p.1 = i) == (o.dst == some p.2))).getD false)
  && (List.range full.size).all (fun i => decide (i < front.size) || ((full[i]?).map fun o => o.after.any (fun e => Region.binds md e && decide (front.size ≤ e.on)) || (List.range front.size).all fun k => waits md front 5 o k).getD false)
  && news.all (fun p => decide (p.1 < front.size))

section
variable {P : Program} {md : Region.Mode} {full front : Array Oper} {nb : Nat} {news : List (Nat × Nat)} {Q : Exit → Act → World → Prop}
variable {R : Nat → World → World → Prop} {D : Nat → World → Prop} {E : World → Prop} {kinds : Nat → Kind}

theorem split_front (h : splitB md full front nb news = true) {i : Nat} {o : Oper} (hi : front[i]? = some o) :
    o.guard = none ∧ (∀ e ∈ o.after, Region.binds md e = true → e.on < i) ∧ ∀ p ∈ news, (p.1 = i ↔ o.dst = some p.2) := by
  simp only [splitB, Bool.and_eq_true, List.all_eq_true, List.mem_range] at h
  have hlt : i < front.size := (Array.getElem?_eq_some_iff.1 hi).1
  have h1 := h.1.1.2 i hlt
  rw [hi] at h1
  simp only [Option.map_some, Option.getD_some, Bool.and_eq_true, Array.all_eq_true_iff_forall_mem, List.all_eq_true, Option.isNone_iff_eq_none, Bool.or_eq_true, Bool.not_eq_true', decide_eq_true_eq, beq_iff_eq] at h1
  refine ⟨h1.1.1, fun e he hb => (h1.1.2 e he).resolve_left (by rw [hb]; exact Bool.noConfusion), fun p hp => ?_⟩
  have h2 := h1.2 p hp
  constructor
  · intro e
    rw [decide_eq_true e] at h2
    exact eq_of_beq h2.symm
  · intro e
    rw [e, beq_self_eq_true] at h2
    exact of_decide_eq_true h2
theorem split_back (h : splitB md full front nb news = true) {i : Nat} {o : Oper} (hi : full[i]? = some o) (hge : front.size ≤ i) : (∃ e ∈ o.after, Region.binds md e = true ∧ front.size ≤ e.on) ∨ ∀ k, k < front.size → waits md front 5 o k = true := by
  simp only [splitB, Bool.and_eq_true, List.all_eq_true, List.mem_range] at h
  have h1 := h.1.2 i (Array.getElem?_eq_some_iff.1 hi).1
  rw [hi] at h1
  simp only [Option.map_some, Option.getD_some, Bool.or_eq_true, decide_eq_true_eq, List.all_eq_true, List.mem_range, Array.any_eq_true', Bool.and_eq_true] at h1
  rcases h1 with h1 | h1 | h1
  · omega
  · exact .inl h1
  · exact .inr h1
theorem split_size (h : splitB md full front nb news = true) : full.size = front.size + nb := by
  simp only [splitB, Bool.and_eq_true, beq_iff_eq] at h
  exact h.1.1.1
theorem split_new (h : splitB md full front nb news = true) : ∀ p ∈ news, p.1 < front.size := by
  simp only [splitB, Bool.and_eq_true, List.all_eq_true, decide_eq_true_eq] at h
  exact h.2

theorem app_lt {L r : Array Bool} {i : Nat} (d : Bool) (h : i < L.size) : (L ++ r).getD i d = L.getD i d := by
  simp only [Array.getD_eq_getD_getElem?, Array.getElem?_append_left h]
theorem app_set {L r : Array Bool} {i : Nat} (h : i < L.size) (v : Bool) : (L ++ r).setIfInBounds i v = L.setIfInBounds i v ++ r := by
  rw [Array.setIfInBounds_append_left h]
theorem ready_lt (hsp : splitB md full front nb news = true) (hpre : ∀ j, j < front.size → full[j]? = front[j]?) {L r : Array Bool} (hL : L.size = front.size) {j : Nat} (hj : j < front.size) : j ∈ Region.ready md full (L ++ r) ↔ j ∈ Region.ready md front L := by
  rw [mem_ready, mem_ready, app_lt true (by omega), hpre j hj]
  constructor
  · rintro ⟨h0, o, ho, h⟩
    refine ⟨h0, o, ho, fun e he hb => ?_⟩
    have := h e he hb
    rwa [app_lt false (by have := (split_front hsp ho).2.1 e he hb; omega)] at this
  · rintro ⟨h0, o, ho, h⟩
    refine ⟨h0, o, ho, fun e he hb => ?_⟩
    rw [app_lt false (by have := (split_front hsp ho).2.1 e he hb; omega)]
    exact h e he hb
theorem all_of_none (hsp : splitB md full front nb news = true) {L : Array Bool} (hL : L.size = front.size) (h : Region.ready md front L = []) : ∀ n i, i < n → i < front.size → L.getD i true = true := by
  intro n
  induction n with
  | zero => intro i hi; omega
  | succ n ih =>
    intro i hi hlt
    cases hg : L.getD i true with
    | true => rfl
    | false =>
      have : i ∈ Region.ready md front L := by
        rw [mem_ready]
        refine ⟨hg, front[i], Array.getElem?_eq_getElem hlt, fun e he hb => ?_⟩
        have h1 := (split_front hsp (Array.getElem?_eq_getElem hlt)).2.1 e he hb
        have h2 := ih e.on (by omega) (by omega)
        rw [Array.getD_eq_getD_getElem?, Array.getElem?_eq_getElem (by omega)] at h2 ⊢
        exact h2
      rw [h] at this
      cases this
theorem all_rep {L : Array Bool} {n : Nat} (hL : L.size = n) (h : ∀ i, i < n → L.getD i true = true) : L = Array.replicate n true := by
  apply Array.ext
  · simpa using hL
  · intro i h1 h2
    have := h i (by omega)
    rw [Array.getD_eq_getD_getElem?, Array.getElem?_eq_getElem h1] at this
    simpa using this
/-- With an operation all that it waits for is listed. -/
def Closed (md : Region.Mode) (front : Array Oper) (L : Array Bool) : Prop := ∀ i o, front[i]? = some o → L.getD i false = true → ∀ e ∈ o.after, Region.binds md e = true → L.getD e.on false = true
theorem Closed.next {L : Array Bool} (hC : Closed md front L) {i : Nat} (hi : i ∈ Region.ready md front L) : Closed md front (L.setIfInBounds i true) := fun j o ho hl e he hb => by
  by_cases hji : j = i
  · subst hji
    obtain ⟨_, o', ho', hall⟩ := mem_ready.1 hi
    rw [ho] at ho'
    injection ho' with ho'
    subst ho'
    exact getD_set_true (hall e he hb)
  · rw [getD_set_ne false (Ne.symm hji)] at hl
    exact getD_set_true (hC j o ho hl e he hb)
theorem waits_listed {L : Array Bool} (hC : Closed md front L) {k : Nat} (hk : k < front.size) : ∀ (n : Nat) (o : Oper), waits md front n o k = true → (∀ e ∈ o.after, Region.binds md e = true → e.on < front.size → L.getD e.on false = true) → L.getD k false = true
  | 0, _, h, _ => by cases h
  | n + 1, o, h, hl => by
    simp only [waits, Array.any_eq_true', Bool.and_eq_true, Bool.or_eq_true, decide_eq_true_eq] at h
    obtain ⟨e, he, hb, h2⟩ := h
    rcases h2 with rfl | h2
    · exact hl e he hb hk
    · cases hf : front[e.on]? with
      | none => rw [hf] at h2; cases h2
      | some o' =>
        rw [hf] at h2
        have hlt : e.on < front.size := (Array.getElem?_eq_some_iff.1 hf).1
        exact waits_listed hC hk n o' h2 fun e' he' hb' _ => hC e.on o' hf (hl e he hb hlt) e' he' hb'
theorem ready_front (hsp : splitB md full front nb news = true) (hpre : ∀ j, j < front.size → full[j]? = front[j]?) {L : Array Bool} (hL : L.size = front.size) (hC : Closed md front L) (hne : Region.ready md front L ≠ []) {i : Nat}
    (hi : i ∈ Region.ready md full (L ++ Array.replicate nb false)) : i < front.size ∧ i ∈ Region.ready md front L := by
  rcases Nat.lt_or_ge i front.size with hlt | hge
  · exact ⟨hlt, (ready_lt hsp hpre hL hlt).1 hi⟩
  · exfalso
    rw [mem_ready] at hi
    obtain ⟨_, o, ho, hall⟩ := hi
    apply hne
    rw [List.eq_nil_iff_forall_not_mem]
    intro k hk
    have hk' := mem_ready.1 hk
    obtain ⟨hk0, ok, hok, _⟩ := hk'
    have hkl : k < front.size := (Array.getElem?_eq_some_iff.1 hok).1
    have h1 : L.getD k false = true := by
      rcases split_back hsp ho hge with ⟨e, he, hb, hle⟩ | hw
      · exfalso
        have h0 := hall e he hb
        rw [Array.getD_eq_getD_getElem?, Array.getElem?_append_right (by omega), Array.getElem?_replicate] at h0
        split at h0 <;> simp at h0
      · exact waits_listed hC hkl 5 o (hw k hkl) fun e he hb hlt => by
          have h0 := hall e he hb
          rwa [app_lt false (by omega)] at h0
    rw [Array.getD_eq_getD_getElem?, Array.getElem?_eq_getElem (by omega)] at h1 hk0
    rw [Option.getD_some] at h1 hk0
    rw [h1] at hk0
    cases hk0

/-- What is asked of the new blocks' operations. -/
def NewOk (P : Program) (front : Array Oper) (news : List (Nat × Nat)) : Prop :=
  ∀ p ∈ news, ∀ o, front[p.1]? = some o → ∀ (ev : Operand → Value) (w : World), ∃ y, (execOp ev o).run P w = .ok (.value (.pointer (some ⟨w.heap.size, 0, none⟩))) y ∧ w.heap.size < y.heap.size

theorem Born.next (hsp : splitB md full front nb news = true) {L : Array Bool} (hL : L.size = front.size) {a : Act} {w w' : World} (hB : Born news L a w) (hw : w.heap.size ≤ w'.heap.size) {i : Nat} {o : Oper} (hi : front[i]? = some o) (hun : L.getD i true = false) {v : Value}
    (hv : (∃ p ∈ news, p.1 = i) → v = .pointer (some ⟨w.heap.size, 0, none⟩) ∧ w.heap.size < w'.heap.size) : Born news (L.setIfInBounds i true) (a.put o.dst v) w' := by
  have hlt : i < front.size := (Array.getElem?_eq_some_iff.1 hi).1
  have size : (a.put o.dst v).tmps.size = a.tmps.size := by unfold Act.put; split <;> simp
  have old : ∀ p ∈ news, p.1 ≠ i → (a.put o.dst v).tmps.getD p.2 undef = a.tmps.getD p.2 undef := fun p hp hne => by
    have h := (split_front hsp hi).2.2 p hp
    unfold Act.put
    cases hd : o.dst with
    | none => rfl
    | some d =>
      have : d ≠ p.2 := fun e => hne (h.2 (by rw [hd, e]))
      simp [Array.getElem?_setIfInBounds_ne this]
  have new : ∀ p ∈ news, p.1 = i → (a.put o.dst v).tmps.getD p.2 undef = .pointer (some ⟨w.heap.size, 0, none⟩) ∧ w.heap.size < w'.heap.size := fun p hp he => by
    have h := (split_front hsp hi).2.2 p hp
    obtain ⟨hv1, hv2⟩ := hv ⟨p, hp, he⟩
    refine ⟨?_, hv2⟩
    rw [h.1 he, hv1]
    have := hB.size p hp
    simp [Act.put, this]
  have unl : ∀ j, j ≠ i → (L.setIfInBounds i true).getD j false = L.getD j false := fun j hj => getD_set_ne false (Ne.symm hj)
  refine ⟨fun p hp => by rw [size]; exact hB.size p hp, fun p hp hl => ?_, fun p hp q hq hne hl1 hl2 => ?_⟩
  · by_cases e : p.1 = i
    · exact ⟨_, (new p hp e).1, (new p hp e).2⟩
    · rw [unl _ e] at hl
      obtain ⟨b, h1, h2⟩ := hB.lt p hp hl
      exact ⟨b, by rw [old p hp e]; exact h1, by omega⟩
  · by_cases e1 : p.1 = i
    · have e2 : q.1 ≠ i := fun e => hne (by rw [e1, e])
      rw [unl _ e2] at hl2
      obtain ⟨b, h1, h2⟩ := hB.lt q hq hl2
      rw [old q hq e2, (new p hp e1).1, h1]
      intro e
      injection e with e
      injection e with e
      injection e with e
      omega
    · rw [unl _ e1] at hl1
      by_cases e2 : q.1 = i
      · obtain ⟨b, h1, h2⟩ := hB.lt p hp hl1
        rw [old p hp e1, (new q hq e2).1, h1]
        intro e
        injection e with e
        injection e with e
        injection e with e
        omega
      · rw [unl _ e2] at hl2
        rw [old p hp e1, old q hq e2]
        exact hB.ne p hp q hq hne hl1 hl2

/-- The rest, behind all of the first ones. -/
def Back (P : Program) (md : Region.Mode) (full : Array Oper) (nf nb : Nat) (Q : Exit → Act → World → Prop) (a : Act) (w : World) : Prop :=
  ∀ n, wpAny P md full Q (n + nb) (Array.replicate nf true ++ Array.replicate nb false) a w

theorem wpAny_of_front (hsp : splitB md full front nb news = true) (hpre : ∀ j, j < front.size → full[j]? = front[j]?) (hnew : NewOk P front news)
    (hR : ∀ j w w', R j w w' → w.heap.size ≤ w'.heap.size) (hE : ∀ j w w', R j w w' → E w → E w') (hD : ∀ i j w w', i ≠ j → R j w w' → D i w → D i w')
    (hp : ∀ i c p, kinds i = .val c p → ∀ j w w', i ≠ j → R j w w' → p w → p w') (hm : ∀ i p, kinds i = .mem p → ∀ j v w w', i ≠ j → R j w w' → p v w → p v w') :
    ∀ (fuel : Nat) (L : Array Bool) (a : Act) (F : Nat → World → Prop) (w : World), L.size = front.size → Closed md front L → Born news L a w → E w → (∀ i, L.getD i true = false → D i w) → (∀ k, F k w) →
      (∀ j, L.getD j true = false → ∀ k w w', R j w w' → F k w → F k w') →
    wpAnyM P front R D E kinds (fun a w => Dist news a → Back P md full front.size nb Q a w) md fuel L a F → wpAny P md full Q (fuel + nb) (L ++ Array.replicate nb false) a w
  | 0, L, a, F, w, hL, _, hB, hw, _, hF, _, h => by
    have hall := all_rep hL fun i hi => all_of_none hsp hL h.1 (i + 1) i (Nat.lt_succ_self _) hi
    have hd : Dist news a := fun p hp q hq hne => hB.ne p hp q hq hne (by rw [hall]; simp [split_new hsp p hp]) (by rw [hall]; simp [split_new hsp q hq])
    have := h.2 w hw hF hd 0
    rw [hall]
    exact this
  | fuel + 1, L, a, F, w, hL, hC, hB, hw, hd, hF, hU, h => by
    by_cases hr : Region.ready md front L = []
    · have hall := all_rep hL fun i hi => all_of_none hsp hL hr (i + 1) i (Nat.lt_succ_self _) hi
      have hd : Dist news a := fun p hp q hq hne => hB.ne p hp q hq hne (by rw [hall]; simp [split_new hsp p hp]) (by rw [hall]; simp [split_new hsp q hq])
      have := h.1 hr w hw hF hd (fuel + 1)
      rw [hall]
      exact this
    · rw [show fuel + 1 + nb = (fuel + nb) + 1 by omega]
      refine ⟨fun e => ?_, fun i hi => ?_⟩
      · exfalso
        apply hr
        rw [List.eq_nil_iff_forall_not_mem]
        intro k hk
        obtain ⟨_, ok, hok, _⟩ := mem_ready.1 hk
        have := (ready_lt hsp hpre (r := Array.replicate nb false) hL (Array.getElem?_eq_some_iff.1 hok).1).2 hk
        rw [e] at this
        cases this
      · obtain ⟨hif, hi'⟩ := ready_front hsp hpre hL hC hr hi
        have h1 := h.2 i hi'
        have hun : L.getD i true = false := (mem_ready.1 hi').1
        have hlt : i < L.size := by omega
        have hsz' : (L.setIfInBounds i true).size = front.size := by simpa using hL
        have sub : ∀ j, (L.setIfInBounds i true).getD j true = false → j ≠ i ∧ L.getD j true = false := fun j hj => by
          by_cases e : i = j
          · subst e; simp [hlt] at hj
          · exact ⟨fun e' => e e'.symm, by rwa [getD_set_ne true e] at hj⟩
        have upF : ∀ (o : Oper) j, L.getD j true = false → ∀ w w', R j w w' → factsAt front F o w → factsAt front F o w' := fun o j hj w w' hr hf k ok d a1 a2 a3 => hU j hj k w w' hr (hf k ok d a1 a2 a3)
        have ho : front[i]? = some front[i] := Array.getElem?_eq_getElem hif
        obtain ⟨o, hoo⟩ : ∃ o, o = front[i] := ⟨_, rfl⟩
        rw [← hoo] at ho
        have goOn : ∀ (v : Value) (f : World → Prop) (w' : World), R i w w' → f w' → (∀ j, i ≠ j → L.getD j true = false → ∀ x y, R j x y → f x → f y) → ((∃ p ∈ news, p.1 = i) → v = .pointer (some ⟨w.heap.size, 0, none⟩) ∧ w.heap.size < w'.heap.size) →
            wpAnyM P front R D E kinds (fun a w => Dist news a → Back P md full front.size nb Q a w) md fuel (L.setIfInBounds i true) (a.put o.dst v) (updF F i f) → wpAny P md full Q (fuel + nb) ((L ++ Array.replicate nb false).setIfInBounds i true) (a.put o.dst v) w' := by
          intro v f w' hri hf hu hv hk
          rw [app_set hlt]
          refine wpAny_of_front hsp hpre hnew hR hE hD hp hm fuel _ _ _ w' hsz' (hC.next hi') (Born.next hsp hL hB (hR _ _ _ hri) ho hun hv) (hE _ _ _ hri hw) (fun j hj => ?_) (fun k => ?_) (fun j hj k x y hxy => ?_) hk
          · obtain ⟨h2, h3⟩ := sub j hj
            exact hD j i _ _ h2 hri (hd j h3)
          · unfold updF
            by_cases e : k = i
            · rw [if_pos e]; exact hf
            · rw [if_neg e]; exact hU i hun k _ _ hri (hF k)
          · obtain ⟨h2, h3⟩ := sub j hj
            unfold updF
            by_cases e : k = i
            · rw [if_pos e]; exact hu j (fun e => h2 e.symm) h3 x y hxy
            · rw [if_neg e]; exact hU j h3 k _ _ hxy
        unfold mOp at h1
        unfold wpOp
        rw [hpre i hif, ho]
        rw [ho] at h1
        dsimp only at h1 ⊢
        unfold mStep at h1
        have fo : factsAt front F o w := fun k ok d _ _ _ => hF k
        have hg := (split_front hsp ho).1
        have hwt : ∀ y, Region.wanted o y = true := fun y => by simp [Region.wanted, hg]
        rw [if_pos (hwt _)] at h1
        rw [if_pos (hwt _)]
        left
        have hN : (∃ p ∈ news, p.1 = i) → ∃ y, (execOp a.eval o).run P w = .ok (.value (.pointer (some ⟨w.heap.size, 0, none⟩))) y ∧ w.heap.size < y.heap.size := by
          rintro ⟨p, hp, rfl⟩
          exact hnew p hp o ho a.eval w
        cases ki : kinds i with
        | pure =>
          simp only [ki] at h1
          obtain ⟨c, hc, h1⟩ := h1
          unfold Oper.wp
          rw [hc w]
          have hno : ¬ ∃ p ∈ news, p.1 = i := fun hh => by
            obtain ⟨y, hy1, hy2⟩ := hN hh
            rw [hc w] at hy1
            injection hy1 with h1 h2
            rw [h2] at hy2
            exact Nat.lt_irrefl _ hy2
          show wpAny P md full Q (fuel + nb) ((L ++ Array.replicate nb false).setIfInBounds i true) (a.put o.dst c) w
          rw [app_set hlt]
          refine wpAny_of_front hsp hpre hnew hR hE hD hp hm fuel _ _ _ w hsz' (hC.next hi') (Born.next hsp hL hB (Nat.le_refl _) ho hun (fun hh => absurd hh hno)) hw (fun j hj => hd j (sub j hj).2) (fun k => ?_) (fun j hj k x y hxy => ?_) h1
          · unfold updF
            by_cases e : k = i
            · rw [if_pos e]; exact fo
            · rw [if_neg e]; exact hF k
          · obtain ⟨h2, h3⟩ := sub j hj
            unfold updF
            by_cases e : k = i
            · rw [if_pos e]; exact upF o j h3 x y hxy
            · rw [if_neg e]; exact hU j h3 k _ _ hxy
        | val c p =>
          simp only [ki] at h1
          obtain ⟨hc, h1⟩ := h1
          have h2 := hc w (hd i hun) fo
          have hu : ∀ j, i ≠ j → L.getD j true = false → ∀ x y, R j x y → (p x ∧ factsAt front F o x) → (p y ∧ factsAt front F o y) := fun j hij hj x y hxy hf => ⟨hp i c p ki j x y hij hxy hf.1, upF o j hj x y hxy hf.2⟩
          have hfo : ∀ y, R i w y → factsAt front F o y := fun y hr => upF o i hun w y hr fo
          unfold Oper.wp
          generalize (execOp a.eval o).run P w = r at *
          cases r with
          | ok n w' =>
            cases n <;> simp only [growUpon] at h2 <;> simp only [Oper.upon]
            case value u =>
              obtain ⟨hr, rfl, hpw⟩ := h2
              exact goOn u _ w' hr ⟨hpw, hfo _ hr⟩ hu (fun hh => by obtain ⟨y, e, hy⟩ := hN hh; injection e with e1 e2; injection e1 with e1; exact ⟨e1, by rw [e2]; exact hy⟩) h1
            case skip => obtain ⟨hr, rfl, hpw⟩ := h2; exact goOn undef _ w' hr ⟨hpw, hfo _ hr⟩ hu (fun hh => by obtain ⟨y, e, hy⟩ := hN hh; injection e with e1 e2; cases e1) h1
            case enter f args => exact Calls.mono h2 fun e w'' ⟨v, he, hr, hv, hpw⟩ => by subst he; subst hv; exact goOn v _ w'' hr ⟨hpw, hfo _ hr⟩ hu (fun hh => by obtain ⟨y, e, hy⟩ := hN hh; injection e with e1 e2; cases e1) h1
          | halt x w' => simp only [growUpon] at h2
        | mem p =>
          simp only [ki] at h1
          obtain ⟨hc, h1⟩ := h1
          have h2 := hc w (hd i hun) fo
          have hu : ∀ v j, i ≠ j → L.getD j true = false → ∀ x y, R j x y → (p v x ∧ factsAt front F o x) → (p v y ∧ factsAt front F o y) := fun v j hij hj x y hxy hf => ⟨hm i p ki j v x y hij hxy hf.1, upF o j hj x y hxy hf.2⟩
          have hfo : ∀ y, R i w y → factsAt front F o y := fun y hr => upF o i hun w y hr fo
          unfold Oper.wp
          generalize (execOp a.eval o).run P w = r at *
          cases r with
          | ok n w' =>
            cases n <;> simp only [growUpon] at h2 <;> simp only [Oper.upon]
            case value u =>
              obtain ⟨hr, hpw⟩ := h2
              exact goOn u _ w' hr ⟨hpw, hfo _ hr⟩ (hu u) (fun hh => by obtain ⟨y, e, hy⟩ := hN hh; injection e with e1 e2; injection e1 with e1; exact ⟨e1, by rw [e2]; exact hy⟩) (h1 u)
            case skip => obtain ⟨hr, hpw⟩ := h2; exact goOn undef _ w' hr ⟨hpw, hfo _ hr⟩ (hu undef) (fun hh => by obtain ⟨y, e, hy⟩ := hN hh; injection e with e1 e2; cases e1) (h1 undef)
            case enter f args => exact Calls.mono h2 fun e w'' ⟨v, he, hr, hpw⟩ => by subst he; exact goOn v _ w'' hr ⟨hpw, hfo _ hr⟩ (hu v) (fun hh => by obtain ⟨y, e, hy⟩ := hN hh; injection e with e1 e2; cases e1) (h1 v)
          | halt x w' => simp only [growUpon] at h2

theorem wpMono_fin {ops : Array Oper} {fin fin' : Act → World → Prop} (hf : ∀ a w, fin a w → fin' a w) : ∀ (l : List Oper) (i : Nat) (a : Act) (F : Nat → World → Prop), wpMono P ops R D E kinds fin i l a F → wpMono P ops R D E kinds fin' i l a F
  | [], _, _, _, h => fun w h1 h2 => hf _ _ (h w h1 h2)
  | _ :: rest, i, _, _, h => mStep_mono (fun a F hh => wpMono_fin hf rest (i + 1) a F hh) h

/-- **THE FIRST nf OPERATIONS BY ONE WALK IN THE TEXT'S ORDER, the others, one behind the other, by the plain walk.** -/
theorem wp_region_front {id : Nat} {l : List Oper} {a : Act} {w : World} (nf : Nat) (news : List (Nat × Nat)) (R : Nat → World → World → Prop) (D : Nat → World → Prop) (E : World → Prop) (K : List (Nat × Kind)) (hmix : P.follows .mixedOrders = true)
    (hsp : splitB .any l.toArray (l.take nf).toArray (l.drop nf).length news = true) (hB : Region.lexB .any (l.take nf).toArray = true)
    (hseq : seqFrom .any l.toArray (l.drop nf).length nf (Array.replicate nf true ++ Array.replicate (l.drop nf).length false) = true) (hnf : nf ≤ l.length)
    (hnew : NewOk P (l.take nf).toArray news) (hslots : ∀ p ∈ news, p.2 < a.tmps.size)
    (hR : ∀ j w w', R j w w' → w.heap.size ≤ w'.heap.size) (hE : ∀ j w w', R j w w' → E w → E w') (hD : ∀ i j w w', i ≠ j → R j w w' → D i w → D i w')
    (hup : ∀ x ∈ K, x.2.up R x.1) (hw : E w.drew) (hd : ∀ i, D i w.drew)
    (h : wpMono P (l.take nf).toArray R D E (kindsOf K) (fun a w => Dist news a → wpList P l.toArray Q (l.drop nf) a w) 0 (l.take nf) a (fun _ _ => True)) : (Code.region id l.toArray true).wp P Q a w := by
  have hsz : (l.take nf).toArray.size = nf := by simp; omega
  have hfull : l.toArray.size = nf + (l.drop nf).length := by simp; omega
  simp only [Region.lexB, Bool.and_eq_true] at hB
  refine wp_region_any hmix ?_
  rw [hfull]
  have hrep : Array.replicate (nf + (l.drop nf).length) false = Array.replicate nf false ++ Array.replicate (l.drop nf).length false := by
    apply Array.ext'
    simp [List.replicate_append_replicate]
  rw [hrep]
  refine wpAny_of_front (md := .any) (front := (l.take nf).toArray) (R := R) (D := D) (E := E) (kinds := kindsOf K) hsp (fun j hj => ?_) hnew hR hE hD
    (fun i c p e => by have := kindsOf_up hup i; rw [e] at this; exact this) (fun i p e => by have := kindsOf_up hup i; rw [e] at this; exact this)
    nf _ _ (fun _ _ => True) _ (by rw [hsz]; simp) (fun i o ho hl => ?_) ⟨hslots, fun p _ hl => ?_, fun p _ q _ _ hl _ => ?_⟩ hw (fun i _ => hd i) (fun _ => trivial) (fun _ _ _ _ _ _ _ => trivial) ?_
  · rw [hsz] at hj
    simp [hj]
  · exfalso
    rw [Array.getD_eq_getD_getElem?, Array.getElem?_replicate] at hl
    split at hl <;> simp at hl
  · exfalso
    rw [Array.getD_eq_getD_getElem?, Array.getElem?_replicate] at hl
    split at hl <;> simp at hl
  · exfalso
    rw [Array.getD_eq_getD_getElem?, Array.getElem?_replicate] at hl
    split at hl <;> simp at hl
  · have h2 := wpAnyM_lex (P := P) (R := R) (D := D) (E := E) (kinds := kindsOf K) (fin := fun a w => Dist news a → Back P .any l.toArray (l.take nf).toArray.size (l.drop nf).length Q a w) (md := .any) hB.1 (l.take nf) 0 (Array.replicate (l.take nf).length false) a (fun _ _ => True) (by simp) (by simpa using hB.2) ?_
    · rw [List.length_take, Nat.min_eq_left hnf] at h2
      exact h2
    · refine wpMono_fin (fun a w hh hd n => ?_) _ _ _ _ h
      rw [hsz]
      exact wpAny_seq (l.drop nf) nf _ a w n (fun j => by simp) hseq (hh hd)
end
end M3
end Go.Proofs.Ytnpacjdgbmldlaa

/- The walk of a region whose order is open, wrapped: what is left to walk stands in a structure, so that no step unfolds the steps behind it. -/
namespace Go.Proofs.Ytnpacjdgbmldlaa
open M2

structure WM (P : Program) (ops : Array Oper) (R : Nat → World → World → Prop) (D : Nat → World → Prop) (E : World → Prop) (kinds : Nat → Kind) (fin : Act → World → Prop) (i : Nat) (l : List Oper) (a : Act) (F : Nat → World → Prop) : Prop where
  out : wpMono P ops R D E kinds fin i l a F
namespace WM
section
variable {P : Program} {ops : Array Oper} {R : Nat → World → World → Prop} {D : Nat → World → Prop} {E : World → Prop} {kinds : Nat → Kind} {fin : Act → World → Prop}
theorem mono_pure {i : Nat} {o : Oper} {rest : List Oper} {a : Act} {F : Nat → World → Prop} (hw : Region.wanted o (yielded ops a.tmps) = true) (hk : kinds i = .pure)
    (h : ∃ c, (∀ w, (execOp a.eval o).run P w = .ok (.value c) w) ∧ ∃ a', a.put o.dst c = a' ∧ WM P ops R D E kinds fin (i + 1) rest a' (updF F i (factsAt ops F o))) : WM P ops R D E kinds fin i (o :: rest) a F := by
  obtain ⟨c, hc, a', e, h⟩ := h
  exact ⟨M2.mono_pure hw hk ⟨c, hc, a', e, h.out⟩⟩
theorem mono_val {i : Nat} {o : Oper} {rest : List Oper} {a : Act} {F : Nat → World → Prop} (hw : Region.wanted o (yielded ops a.tmps) = true) {c : Value} {p : World → Prop} (hk : kinds i = .val c p)
    (hc : ∀ w, D i w → factsAt ops F o w → growUpon P (R i) w (fun v w' => v = c ∧ p w') ((execOp a.eval o).run P w)) (h : ∃ a', a.put o.dst c = a' ∧ WM P ops R D E kinds fin (i + 1) rest a' (updF F i fun w => p w ∧ factsAt ops F o w)) : WM P ops R D E kinds fin i (o :: rest) a F := by
  obtain ⟨a', e, h⟩ := h
  exact ⟨M2.mono_val hw hk hc ⟨a', e, h.out⟩⟩
theorem mono_mem {i : Nat} {o : Oper} {rest : List Oper} {a : Act} {F : Nat → World → Prop} (hw : Region.wanted o (yielded ops a.tmps) = true) {p : Value → World → Prop} (hk : kinds i = .mem p)
    (hc : ∀ w, D i w → factsAt ops F o w → growUpon P (R i) w p ((execOp a.eval o).run P w)) (h : ∀ v, ∃ a', a.put o.dst v = a' ∧ WM P ops R D E kinds fin (i + 1) rest a' (updF F i fun w => p v w ∧ factsAt ops F o w)) : WM P ops R D E kinds fin i (o :: rest) a F :=
  ⟨M2.mono_mem hw hk hc fun v => by
    obtain ⟨a', e, h⟩ := h v
    exact ⟨a', e, h.out⟩⟩
theorem mono_skip {i : Nat} {o : Oper} {rest : List Oper} {a : Act} {F : Nat → World → Prop} (hw : Region.wanted o (yielded ops a.tmps) = false) (h : ∃ a', a.put o.dst undef = a' ∧ WM P ops R D E kinds fin (i + 1) rest a' (updF F i fun _ => True)) : WM P ops R D E kinds fin i (o :: rest) a F := by
  obtain ⟨a', e, h⟩ := h
  exact ⟨M2.mono_skip hw ⟨a', e, h.out⟩⟩
theorem mono_nil {i : Nat} {a : Act} {F : Nat → World → Prop} (h : ∀ w, E w → (∀ k, F k w) → fin a w) : WM P ops R D E kinds fin i [] a F := ⟨h⟩
theorem app_cons {α : Type} (x : α) (l m : List α) : List.append (x :: l) m = x :: List.append l m := rfl
theorem app_nil {α : Type} (m : List α) : List.append [] m = m := rfl
/-- A region's list spelled one by one (a list of more than 64 is spelled in two parts). -/
theorem relist {P : Program} {id : Nat} {l l' : List Oper} {b : Bool} {a : Act} {w : World} {Q : Exit → Act → World → Prop} (e : l = l') (h : (Code.region id l'.toArray b).wp P Q a w) : (Code.region id l.toArray b).wp P Q a w := e ▸ h
/-- The kernel's long check of a region once, ahead of its ways. -/
theorem with_lex {P : Program} {id : Nat} {l : List Oper} {a : Act} {w : World} {Q : Exit → Act → World → Prop} (hB : Region.lexB .any l.toArray = true) (h : Region.lexB .any l.toArray = true → (Code.region id l.toArray true).wp P Q a w) : (Code.region id l.toArray true).wp P Q a w := h hB
theorem wp_region_kinds {Q : Exit → Act → World → Prop} {id : Nat} {l : List Oper} {a : Act} {w : World} (R : Nat → World → World → Prop) (D : Nat → World → Prop) (E : World → Prop) (L : List (Nat × Kind)) (hmix : P.follows .mixedOrders = true) (hB : Region.lexB .any l.toArray = true)
    (hE : ∀ j w w', R j w w' → E w → E w') (hD : ∀ i j w w', i ≠ j → R j w w' → D i w → D i w') (hup : ∀ x ∈ L, x.2.up R x.1) (hw : E w.drew) (hd : ∀ i, D i w.drew)
    (h : WM P l.toArray R D E (kindsOf L) (fun a w => Q .normal a w) 0 l a (fun _ _ => True)) : (Code.region id l.toArray true).wp P Q a w :=
  M2.wp_region_kinds R D E L hmix hB hE hD hup hw hd h.out
theorem wp_region_front {Q : Exit → Act → World → Prop} {id : Nat} {l : List Oper} {a : Act} {w : World} (nf : Nat) (news : List (Nat × Nat)) (R : Nat → World → World → Prop) (D : Nat → World → Prop) (E : World → Prop) (K : List (Nat × Kind)) (hmix : P.follows .mixedOrders = true)
    (hsp : M3.splitB .any l.toArray (l.take nf).toArray (l.drop nf).length news = true) (hB : Region.lexB .any (l.take nf).toArray = true)
    (hseq : M3.seqFrom .any l.toArray (l.drop nf).length nf (Array.replicate nf true ++ Array.replicate (l.drop nf).length false) = true) (hnf : nf ≤ l.length)
    (hnew : M3.NewOk P (l.take nf).toArray news) (hslots : ∀ p ∈ news, p.2 < a.tmps.size)
    (hR : ∀ j w w', R j w w' → w.heap.size ≤ w'.heap.size) (hE : ∀ j w w', R j w w' → E w → E w') (hD : ∀ i j w w', i ≠ j → R j w w' → D i w → D i w')
    (hup : ∀ x ∈ K, x.2.up R x.1) (hw : E w.drew) (hd : ∀ i, D i w.drew)
    (h : WM P (l.take nf).toArray R D E (kindsOf K) (fun a w => M3.Dist news a → wpList P l.toArray Q (l.drop nf) a w) 0 (l.take nf) a (fun _ _ => True)) : (Code.region id l.toArray true).wp P Q a w :=
  M3.wp_region_front nf news R D E K hmix hsp hB hseq hnf hnew hslots hR hE hD hup hw hd h.out
end
end WM
end Go.Proofs.Ytnpacjdgbmldlaa

/- Slices of dots; Has of dots and of the reference. -/
namespace Go.Proofs.Ytnpacjdgbmldlaa
open Go.RowKit

theorem lt_of_row {x : World} {b : Nat} {o : Obj} (h : x.heap[b]? = some o) : b < x.heap.size := (Array.getElem?_eq_some_iff.1 h).1
abbrev Dt := Int × Nat
abbrev dotC (d : Dt) : Array Value := #[.int .i64 d.1, .int .u64 (d.2 : Int)]
/-- A slice of dots; its block (where it has an element) meets 'ok'. -/
structure Dots (w : World) (ok : Nat → Prop) (A : Option Addr) (ls : List Dt) : Prop where
  at_ : 0 < ls.length → ∃ b o, A = some ⟨b, o, none⟩ ∧ ok b ∧ ∀ j, j < ls.length → rangeA w b (o + j * 2) (dotC (ls.getD j (0, 0)))
theorem Dots.keep {w w' : World} {ok : Nat → Prop} {A : Option Addr} {ls : List Dt} (h : Dots w ok A ls) (hk : ∀ b j, ok b → b < w.heap.size → w'.cell? ⟨b, j, none⟩ = w.cell? ⟨b, j, none⟩) : Dots w' ok A ls :=
  ⟨fun hp => by
    obtain ⟨b, o, e, hb, hc⟩ := h.at_ hp
    refine ⟨b, o, e, hb, fun j hj i v hv => ?_⟩
    have h1 := hc j hj i v hv
    rw [hk b _ hb (World.block_lt_of_cell? w _ h1)]
    exact h1⟩
theorem Dots.below {w w' : World} {B : Nat} {A : Option Addr} {ls : List Dt} (h : Dots w (· < B) A ls) (hg : Below B w w') : Dots w' (· < B) A ls :=
  h.keep fun b j hb _ => World.cell?_of_block (w := w) (a := ⟨b, j, none⟩) (hg.block b hb)
theorem Dots.grow {w x : World} {A : Option Addr} {ls : List Dt} (h : Dots w (· < w.heap.size) A ls) (hb : Below w.heap.size w x) : Dots x (· < x.heap.size) A ls := by
  have h1 := h.below hb
  refine ⟨fun hp => ?_⟩
  obtain ⟨b, o, e, h2, h3⟩ := h1.at_ hp
  exact ⟨b, o, e, Nat.lt_of_lt_of_le h2 hb.size, h3⟩
theorem Dots.cells {w : World} {ok : Nat → Prop} {b o : Nat} {ls : List Dt} (h : Dots w ok (some ⟨b, o, none⟩) ls) {j : Nat} (hj : j < ls.length) : w.cell? ⟨b, o + j * 2, none⟩ = some (.int .i64 (ls.getD j (0, 0)).1) ∧ w.cell? ⟨b, o + j * 2 + 1, none⟩ = some (.int .u64 ((ls.getD j (0, 0)).2 : Int)) := by
  obtain ⟨b', o', e, _, hc⟩ := h.at_ (by omega)
  injection e with e
  injection e with e1 e2
  subst e1 e2
  have h0 := hc j hj 0 _ rfl
  have h1 := hc j hj 1 _ rfl
  exact ⟨by rw [Nat.add_zero] at h0; exact h0, h1⟩
theorem Dots.some_ {w : World} {ok : Nat → Prop} {A : Option Addr} {ls : List Dt} (h : Dots w ok A ls) (hp : 0 < ls.length) : ∃ b o, A = some ⟨b, o, none⟩ := by
  obtain ⟨b, o, e, _, _⟩ := h.at_ hp
  exact ⟨b, o, e⟩
/-- What Index tells. -/
def IdxPost (ls : List Dt) (d : Dt) (w : World) (e : Ending) (w' : World) : Prop := ∃ r : Int, e = .returned (.int .i64 r) ∧ (0 ≤ r ↔ d ∈ ls) ∧ Below w.heap.size w w'

set_option maxRecDepth 100000 in
set_option maxHeartbeats 1000000 in
theorem great_any (ls : List Dt) (c : Nat) (A : Option Addr) (w : World) : Calls Try.prog 17 #[.slice A ls.length c] w fun e w' => e = .returned (.bool (decide (60 < ls.length))) ∧ w' = w := by
  go_enter Try.func17, Try.ntmps17
  go_wp2
  go_ret
  refine ⟨ret_bool ?_, rfl⟩
  rw [Bool.eq_iff_iff, decide_eq_true_eq, decide_eq_true_eq]
  omega
set_option maxRecDepth 100000 in
set_option maxHeartbeats 2000000 in
theorem index_any (ls : List Dt) (c : Nat) (A : Option Addr) (d : Dt) (w : World) (hv : Dots w (· < w.heap.size) A ls) (hm : ls.length ≤ 9223372036854775807) :
    Calls Try.prog 109 #[.slice A ls.length c, dotV d.1 d.2] w (IdxPost ls d w) := by
  obtain ⟨n, k⟩ := d
  have HV := Lib.hid (hv.grow (below1 w (.cells #[.int .i64 n, .int .u64 (k : Int)] 25)))
  have HD : Hid (DotAt (w.alloc (.cells #[.int .i64 n, .int .u64 (k : Int)] 25)) w.heap.size 25 n k) := DotAt.new w 25 n k
  have HB := Lib.hid (below1 w (.cells #[.int .i64 n, .int .u64 (k : Int)] 25))
  clear hv
  go_enter Try.func109, Try.ntmps109
  go_wp2
  generalize w.alloc (.cells #[.int .i64 n, .int .u64 (k : Int)] 25) = w1 at *
  go_loopw [8] (fun v wr => ∃ j : Nat, j ≤ ls.length ∧ v = .int .i64 j ∧ Hid (∀ i, i < j → ls.getD i (0, 0) ≠ (n, k)) ∧ Hid (Dots wr (· < wr.heap.size) A ls) ∧ Hid (DotAt wr w.heap.size 25 n k) ∧ Hid (Below w.heap.size w wr)) (fun v _ => ls.length - (intOf v).toNat)
  case atStart => exact ⟨0, by omega, rfl, fun i hi => by omega, HV, HD, HB⟩
  case round =>
    clear HV HD HB
    obtain ⟨j, hj, rfl, HN, HV, HD, HB⟩ := hrel
    by_cases hlt : j < ls.length
    · obtain ⟨b, o, hA⟩ := HV.out.some_ (by omega)
      subst hA
      have hc := HV.out.cells hlt
      obtain ⟨p, hp⟩ : ∃ p, p = ls.getD j (0, 0) := ⟨_, rfl⟩
      have HP := Lib.hid hp
      rw [← hp] at hc
      obtain ⟨c0, c1⟩ := hc
      obtain ⟨p1, p2⟩ := p
      have d0 := HD.out.node
      have d1 := HD.out.num
      have HVd : Hid (Dots wr.drew (· < wr.drew.heap.size) (some ⟨b, o, none⟩) ls) := Lib.hid ⟨HV.out.at_⟩
      have HDd : Hid (DotAt wr.drew w.heap.size 25 n k) := HD.out
      have HBd : Hid (Below w.heap.size w wr.drew) := ⟨HB.out.os, HB.out.tape, HB.out.output, HB.out.size, HB.out.block⟩
      clear hp HV HD HB
      by_cases he : p1 = n ∧ p2 = k
      · obtain ⟨rfl, rfl⟩ := he
        go_wp2_with fail
        go_region
        go_wp2
        go_ret
        refine ⟨(j : Int), rfl, ⟨fun _ => ?_, fun _ => by omega⟩, HBd.out⟩
        have h := HP.out
        rw [List.getD_eq_getElem?_getD, List.getElem?_eq_getElem hlt] at h
        exact h ▸ List.getElem_mem hlt
      · have HN2 : Hid (∀ i, i < j + 1 → ls.getD i (0, 0) ≠ (n, k)) := Lib.hid (fun i hi => by
          by_cases e : i = j
          · subst e
            rw [← HP.out]
            intro e
            injection e with e1 e2
            exact he ⟨e1, e2⟩
          · exact HN.out i (by omega))
        by_cases e1 : p1 = n
        · have e2 : ¬ (k = p2) := fun e => he ⟨e1, e.symm⟩
          subst e1
          have b2 : ((k : Int) == (p2 : Int)) = false := by rw [beq_eq_false_iff_ne]; omega
          clear he e2
          go_wp2_with fail
          go_region
          go_wp2
          go_roundw
          case rel => exact ⟨j + 1, by omega, by go_num, HN2, HVd, HDd, HBd⟩
          case measure => simp [intOf]; omega
        · have b1 : (n == p1) = false := by rw [beq_eq_false_iff_ne]; exact fun e => e1 e.symm
          clear he e1
          go_wp2_with fail
          go_region
          go_wp2
          go_roundw
          case rel => exact ⟨j + 1, by omega, by go_num, HN2, HVd, HDd, HBd⟩
          case measure => simp [intOf]; omega
    · obtain rfl : j = ls.length := by omega
      go_wp2
      go_ret
      refine ⟨-1, rfl, ⟨fun h => by omega, fun h => ?_⟩, HB.out⟩
      obtain ⟨i, hi, e⟩ := List.mem_iff_getElem.1 h
      exact absurd (by rw [List.getD_eq_getElem?_getD, List.getElem?_eq_getElem hi]; exact e) (HN.out i hi)
end Go.Proofs.Ytnpacjdgbmldlaa

/- Contains and Has of dots, Has of the reference. -/
namespace Go.Proofs.Ytnpacjdgbmldlaa
open Go.RowKit
theorem dot_size25 (d : Dt) : (Try.prog.info? 25).map (·.size) = some (dotC d).size := size25
theorem dot_size35 (d : Dt) : (Try.prog.info? 35).map (·.size) = some (dotC d).size := size35
set_option maxRecDepth 100000 in
set_option maxHeartbeats 2000000 in
theorem contains_any (ls : List Dt) (c : Nat) (A : Option Addr) (d : Dt) (w : World) (hv : Dots w (· < w.heap.size) A ls) (hm : ls.length ≤ 9223372036854775807) :
    Calls Try.prog 71 #[.slice A ls.length c, dotV d.1 d.2] w fun e w' => e = .returned (.bool (decide (d ∈ ls))) ∧ Below w.heap.size w w' := by
  obtain ⟨n, k⟩ := d
  have HD : Hid (DotAt (w.alloc (.cells #[.int .i64 n, .int .u64 (k : Int)] 25)) w.heap.size 25 n k) := DotAt.new w 25 n k
  have HC := Lib.hid (index_any ls c A (n, k) (w.alloc (.cells #[.int .i64 n, .int .u64 (k : Int)] 25)) (hv.grow (below1 _ _)) hm)
  have HB := Lib.hid (below1 w (.cells #[.int .i64 n, .int .u64 (k : Int)] 25))
  have s25 : Hid ((Try.prog.info? 25).map (·.size) = some (#[.int .i64 n, .int .u64 (k : Int)] : Array Value).size) := size25
  clear hv hm
  go_enter Try.func71, Try.ntmps71
  go_wp2_with (refine wpList_load_row rfl 25 _ rfl w.heap.size rfl 25 #[.int .i64 n, .int .u64 (k : Int)] (0, 0) _ HD.out Try.underlying25 rfl s25.out ?_)
  generalize w.alloc (.cells #[.int .i64 n, .int .u64 (k : Int)] 25) = w1 at *
  refine HC.out.mono ?_
  rintro e w2 ⟨r, rfl, hr, hb⟩
  have HB2 := Lib.hid (HB.out.trans (hb.mono HB.out.size))
  have HR := Lib.hid hr
  clear hr hb
  go_wp2_with fail
  go_ret
  refine ⟨ret_bool ?_, HB2.out⟩
  rw [Bool.eq_iff_iff, decide_eq_true_eq, decide_eq_true_eq]
  exact HR.out
set_option maxRecDepth 100000 in
set_option maxHeartbeats 2000000 in
theorem dhas_any (ls : List Dt) (c : Nat) (A : Option Addr) (d : Dt) (w : World) (hv : Dots w (· < w.heap.size) A ls) (hm : ls.length ≤ 9223372036854775807) :
    Calls Try.prog 24 #[.slice A ls.length c, dotV d.1 d.2] w fun e w' => e = .returned (.bool (decide (d ∈ ls))) ∧ Below w.heap.size w w' := by
  obtain ⟨n, k⟩ := d
  have HD : Hid (DotAt (w.alloc (.cells #[.int .i64 n, .int .u64 (k : Int)] 25)) w.heap.size 25 n k) := DotAt.new w 25 n k
  have HC := Lib.hid (contains_any ls c A (n, k) (w.alloc (.cells #[.int .i64 n, .int .u64 (k : Int)] 25)) (hv.grow (below1 _ _)) hm)
  have HB := Lib.hid (below1 w (.cells #[.int .i64 n, .int .u64 (k : Int)] 25))
  have s25 : Hid ((Try.prog.info? 25).map (·.size) = some (#[.int .i64 n, .int .u64 (k : Int)] : Array Value).size) := size25
  clear hv hm
  go_enter Try.func24, Try.ntmps24
  go_wp2_with (refine wpList_load_row rfl 25 _ rfl w.heap.size rfl 25 #[.int .i64 n, .int .u64 (k : Int)] (0, 0) _ HD.out Try.underlying25 rfl s25.out ?_)
  generalize w.alloc (.cells #[.int .i64 n, .int .u64 (k : Int)] 25) = w1 at *
  refine HC.out.mono ?_
  rintro e w2 ⟨rfl, hb⟩
  have HB2 := Lib.hid (HB.out.trans (hb.mono HB.out.size))
  clear hb
  go_wp2_with fail
  go_ret
  exact ⟨rfl, HB2.out⟩
set_option maxRecDepth 100000 in
set_option maxHeartbeats 2000000 in
theorem dhasR_any (ls : List Dt) (c : Nat) (A : Option Addr) (d : Dt) (w : World) (hv : Dots w (· < w.heap.size) A ls) (hm : ls.length ≤ 9223372036854775807) :
    Calls Try.prog 25 #[.slice A ls.length c, dotV d.1 d.2] w fun e w' => e = .returned (.bool (decide (d ∈ ls))) ∧ Below w.heap.size w w' := by
  obtain ⟨n, k⟩ := d
  have HV := Lib.hid (hv.grow (below1 w (.cells #[.int .i64 n, .int .u64 (k : Int)] 35)))
  have HD : Hid (DotAt (w.alloc (.cells #[.int .i64 n, .int .u64 (k : Int)] 35)) w.heap.size 35 n k) := DotAt.new w 35 n k
  have HB := Lib.hid (below1 w (.cells #[.int .i64 n, .int .u64 (k : Int)] 35))
  clear hv
  have yes : (n, k) ∈ ls → Hid (Ending.returned (.bool true) = .returned (.bool (decide ((n, k) ∈ ls)))) := fun h => by show _ = _; rw [decide_eq_true h]
  have no : ¬ (n, k) ∈ ls → Hid (Ending.returned (.bool false) = .returned (.bool (decide ((n, k) ∈ ls)))) := fun h => by show _ = _; rw [decide_eq_false h]
  have YES := Lib.hid yes
  have NO := Lib.hid no
  clear yes no
  go_enter Try.func25, Try.ntmps25
  go_wp2
  generalize w.alloc (.cells #[.int .i64 n, .int .u64 (k : Int)] 35) = w1 at *
  go_loopw [5] (fun v wr => ∃ j : Nat, j ≤ ls.length ∧ v = .int .i64 j ∧ Hid (∀ i, i < j → ls.getD i (0, 0) ≠ (n, k)) ∧ Hid (Dots wr (· < wr.heap.size) A ls) ∧ Hid (DotAt wr w.heap.size 35 n k) ∧ Hid (Below w.heap.size w wr)) (fun v _ => ls.length - (intOf v).toNat)
  case atStart => exact ⟨0, by omega, rfl, fun i hi => by omega, HV, HD, HB⟩
  case round =>
    clear HV HD HB
    obtain ⟨j, hj, rfl, HN, HV, HD, HB⟩ := hrel
    by_cases hlt : j < ls.length
    · obtain ⟨b, o, hA⟩ := HV.out.some_ (by omega)
      subst hA
      have hc := HV.out.cells hlt
      obtain ⟨p, hp⟩ : ∃ p, p = ls.getD j (0, 0) := ⟨_, rfl⟩
      have HP := Lib.hid hp
      rw [← hp] at hc
      obtain ⟨c0, c1⟩ := hc
      obtain ⟨p1, p2⟩ := p
      have d0 := HD.out.node
      have d1 := HD.out.num
      have HVd : Hid (Dots wr.drew (· < wr.drew.heap.size) (some ⟨b, o, none⟩) ls) := Lib.hid ⟨HV.out.at_⟩
      have HDd : Hid (DotAt wr.drew w.heap.size 35 n k) := HD.out
      have HBd : Hid (Below w.heap.size w wr.drew) := ⟨HB.out.os, HB.out.tape, HB.out.output, HB.out.size, HB.out.block⟩
      clear hp HV HD HB
      by_cases he : p1 = n ∧ p2 = k
      · obtain ⟨rfl, rfl⟩ := he
        have HY := YES.out (by
          have h := HP.out
          rw [List.getD_eq_getElem?_getD, List.getElem?_eq_getElem hlt] at h
          exact h ▸ List.getElem_mem hlt)
        go_wp2_with fail
        go_region
        go_wp2
        go_ret
        exact ⟨HY.out, HBd.out⟩
      · have HN2 : Hid (∀ i, i < j + 1 → ls.getD i (0, 0) ≠ (n, k)) := Lib.hid (fun i hi => by
          by_cases e : i = j
          · subst e
            rw [← HP.out]
            intro e
            injection e with e1 e2
            exact he ⟨e1, e2⟩
          · exact HN.out i (by omega))
        by_cases e1 : p1 = n
        · have e2 : ¬ (p2 = k) := fun e => he ⟨e1, e⟩
          subst e1
          have b2 : ((p2 : Int) == (k : Int)) = false := by rw [beq_eq_false_iff_ne]; omega
          clear he e2
          go_wp2_with fail
          go_region
          go_wp2
          go_roundw
          case rel => exact ⟨j + 1, by omega, by go_num, HN2, HVd, HDd, HBd⟩
          case measure => simp [intOf]; omega
        · have b1 : (p1 == n) = false := by rw [beq_eq_false_iff_ne]; exact e1
          clear he e1
          go_wp2_with fail
          go_region
          go_wp2
          go_roundw
          case rel => exact ⟨j + 1, by omega, by go_num, HN2, HVd, HDd, HBd⟩
          case measure => simp [intOf]; omega
    · obtain rfl : j = ls.length := by omega
      have HE := NO.out (fun h => by
        obtain ⟨i, hi, e⟩ := List.mem_iff_getElem.1 h
        exact absurd (by rw [List.getD_eq_getElem?_getD, List.getElem?_eq_getElem hi]; exact e) (HN.out i hi))
      go_wp2
      go_ret
      exact ⟨HE.out, HB.out⟩
end Go.Proofs.Ytnpacjdgbmldlaa

/- Same of dots and of the reference. -/
namespace Go.Proofs.Ytnpacjdgbmldlaa
open Go.RowKit

set_option maxRecDepth 100000 in
set_option maxHeartbeats 2000000 in
theorem equal_any (xs bs : List Dt) (c c' : Nat) (A B : Option Addr) (w : World) {oa ob : Nat → Prop} (ha : Dots w oa A xs) (hb : Dots w ob B bs) (hm : xs.length ≤ 9223372036854775807) :
    Calls Try.prog 74 #[.slice A xs.length c, .slice B bs.length c'] w fun e w' => e = .returned (.bool (decide (xs = bs))) ∧ Below w.heap.size w w' := by
  have HA := Lib.hid ha
  have HB := Lib.hid hb
  clear ha hb
  by_cases hl : xs.length = bs.length
  · have HL := Lib.hid hl
    have hli : ((xs.length : Int) == (bs.length : Int)) = true := by rw [beq_iff_eq]; omega
    have hln : ((xs.length : Int) != (bs.length : Int)) = false := by rw [bne_eq_false_iff_eq]; omega
    clear hl
    go_enter Try.func74, Try.ntmps74
    go_wp2
    go_loopw [13] (fun v wr => ∃ j : Nat, j ≤ xs.length ∧ v = .int .i64 j ∧ Hid (∀ i, i < j → xs.getD i (0, 0) = bs.getD i (0, 0)) ∧ Hid (Dots wr oa A xs) ∧ Hid (Dots wr ob B bs) ∧ Hid (Below w.heap.size w wr)) (fun v _ => xs.length - (intOf v).toNat)
    case atStart => exact ⟨0, by omega, rfl, fun i hi => by omega, HA, HB, Below.refl _ _⟩
    case round =>
      clear HA HB
      obtain ⟨j, hj, rfl, HN, HA, HB, HW⟩ := hrel
      by_cases hlt : j < xs.length
      · have hlb : j < bs.length := by have := HL.out; omega
        obtain ⟨b, o, hA⟩ := HA.out.some_ (by omega)
        subst hA
        obtain ⟨b', o', hB⟩ := HB.out.some_ (by omega)
        subst hB
        have hc := HA.out.cells hlt
        have hd := HB.out.cells hlb
        obtain ⟨p, hp⟩ : ∃ p, p = xs.getD j (0, 0) := ⟨_, rfl⟩
        obtain ⟨q, hq⟩ : ∃ q, q = bs.getD j (0, 0) := ⟨_, rfl⟩
        have HP := Lib.hid hp
        have HQ := Lib.hid hq
        rw [← hp] at hc
        rw [← hq] at hd
        obtain ⟨c0, c1⟩ := hc
        obtain ⟨d0, d1⟩ := hd
        obtain ⟨p1, p2⟩ := p
        obtain ⟨q1, q2⟩ := q
        have HAd : Hid (Dots wr.drew oa (some ⟨b, o, none⟩) xs) := Lib.hid ⟨HA.out.at_⟩
        have HBd : Hid (Dots wr.drew ob (some ⟨b', o', none⟩) bs) := Lib.hid ⟨HB.out.at_⟩
        have HWd : Hid (Below w.heap.size w wr.drew) := ⟨HW.out.os, HW.out.tape, HW.out.output, HW.out.size, HW.out.block⟩
        have hji : (j : Int) < (bs.length : Int) := by omega
        have HLB := Lib.hid hlb
        clear hp hq HA HB HW hlb
        by_cases e1 : p1 = q1
        · by_cases e2 : p2 = q2
          · subst e1 e2
            have HN2 : Hid (∀ i, i < j + 1 → xs.getD i (0, 0) = bs.getD i (0, 0)) := Lib.hid (fun i hi => by
              by_cases e : i = j
              · subst e
                rw [← HP.out, ← HQ.out]
              · exact HN.out i (by omega))
            go_wp2_with fail
            go_region
            go_wp2
            go_roundw
            case rel => exact ⟨j + 1, by omega, by go_num, HN2, HAd, HBd, HWd⟩
            case measure => simp [intOf]; omega
          · have HE : Hid (xs ≠ bs) := Lib.hid (fun e => by
              have h1 := HP.out
              rw [e, ← HQ.out] at h1
              injection h1 with _ h1
              exact e2 h1)
            subst e1
            have b2 : ((p2 : Int) == (q2 : Int)) = false := by rw [beq_eq_false_iff_ne]; omega
            clear e2
            go_wp2_with fail
            go_region
            go_wp2
            go_ret
            exact ⟨ret_bool (decide_eq_false HE.out).symm, HWd.out⟩
        · have HE : Hid (xs ≠ bs) := Lib.hid (fun e => by
            have h1 := HP.out
            rw [e, ← HQ.out] at h1
            injection h1 with h1 _
            exact e1 h1)
          have b1 : (p1 == q1) = false := by rw [beq_eq_false_iff_ne]; exact e1
          clear e1
          go_wp2_with fail
          go_region
          go_wp2
          go_ret
          exact ⟨ret_bool (decide_eq_false HE.out).symm, HWd.out⟩
      · obtain rfl : j = xs.length := by omega
        have HE : Hid (xs = bs) := Lib.hid (by
          apply List.ext_getElem HL.out
          intro i h1 h2
          have h := HN.out i h1
          rwa [List.getD_eq_getElem?_getD, List.getD_eq_getElem?_getD, List.getElem?_eq_getElem h1, List.getElem?_eq_getElem h2] at h)
        go_wp2
        go_ret
        exact ⟨ret_bool (decide_eq_true HE.out).symm, HW.out⟩
  · have HE : Hid (xs ≠ bs) := Lib.hid (fun e => hl (by rw [e]))
    have hli : ((xs.length : Int) == (bs.length : Int)) = false := by rw [beq_eq_false_iff_ne]; omega
    have hln : ((xs.length : Int) != (bs.length : Int)) = true := by rw [bne_iff_ne]; omega
    clear hl
    go_enter Try.func74, Try.ntmps74
    go_wp2
    go_ret
    exact ⟨ret_bool (decide_eq_false HE.out).symm, Below.refl _ _⟩

set_option maxRecDepth 100000 in
set_option maxHeartbeats 2000000 in
theorem sameR_any (xs bs : List Dt) (c c' : Nat) (A B : Option Addr) (w : World) {oa ob : Nat → Prop} (ha : Dots w oa A xs) (hb : Dots w ob B bs) (hm : xs.length ≤ 9223372036854775807) :
    Calls Try.prog 30 #[.slice A xs.length c, .slice B bs.length c'] w fun e w' => e = .returned (.bool (decide (xs = bs))) ∧ Below w.heap.size w w' := by
  have HA := Lib.hid ha
  have HB := Lib.hid hb
  clear ha hb
  by_cases hl : xs.length = bs.length
  · have HL := Lib.hid hl
    have hli : ((xs.length : Int) == (bs.length : Int)) = true := by rw [beq_iff_eq]; omega
    have hln : ((xs.length : Int) != (bs.length : Int)) = false := by rw [bne_eq_false_iff_eq]; omega
    clear hl
    go_enter Try.func30, Try.ntmps30
    go_wp2
    go_loopw [5] (fun v wr => ∃ j : Nat, j ≤ xs.length ∧ v = .int .i64 j ∧ Hid (∀ i, i < j → xs.getD i (0, 0) = bs.getD i (0, 0)) ∧ Hid (Dots wr oa A xs) ∧ Hid (Dots wr ob B bs) ∧ Hid (Below w.heap.size w wr)) (fun v _ => xs.length - (intOf v).toNat)
    case atStart => exact ⟨0, by omega, rfl, fun i hi => by omega, HA, HB, Below.refl _ _⟩
    case round =>
      clear HA HB
      obtain ⟨j, hj, rfl, HN, HA, HB, HW⟩ := hrel
      by_cases hlt : j < xs.length
      · have hlb : j < bs.length := by have := HL.out; omega
        obtain ⟨b, o, hA⟩ := HA.out.some_ (by omega)
        subst hA
        obtain ⟨b', o', hB⟩ := HB.out.some_ (by omega)
        subst hB
        have hc := HA.out.cells hlt
        have hd := HB.out.cells hlb
        obtain ⟨p, hp⟩ : ∃ p, p = xs.getD j (0, 0) := ⟨_, rfl⟩
        obtain ⟨q, hq⟩ : ∃ q, q = bs.getD j (0, 0) := ⟨_, rfl⟩
        have HP := Lib.hid hp
        have HQ := Lib.hid hq
        rw [← hp] at hc
        rw [← hq] at hd
        obtain ⟨c0, c1⟩ := hc
        obtain ⟨d0, d1⟩ := hd
        obtain ⟨p1, p2⟩ := p
        obtain ⟨q1, q2⟩ := q
        have HAd : Hid (Dots wr.drew oa (some ⟨b, o, none⟩) xs) := Lib.hid ⟨HA.out.at_⟩
        have HBd : Hid (Dots wr.drew ob (some ⟨b', o', none⟩) bs) := Lib.hid ⟨HB.out.at_⟩
        have HWd : Hid (Below w.heap.size w wr.drew) := ⟨HW.out.os, HW.out.tape, HW.out.output, HW.out.size, HW.out.block⟩
        have hji : (j : Int) < (bs.length : Int) := by omega
        have HLB := Lib.hid hlb
        clear hp hq HA HB HW hlb
        by_cases e1 : p1 = q1
        · by_cases e2 : p2 = q2
          · subst e1 e2
            have HN2 : Hid (∀ i, i < j + 1 → xs.getD i (0, 0) = bs.getD i (0, 0)) := Lib.hid (fun i hi => by
              by_cases e : i = j
              · subst e
                rw [← HP.out, ← HQ.out]
              · exact HN.out i (by omega))
            go_wp2_with fail
            go_region
            go_wp2
            go_roundw
            case rel => exact ⟨j + 1, by omega, by go_num, HN2, HAd, HBd, HWd⟩
            case measure => simp [intOf]; omega
          · have HE : Hid (xs ≠ bs) := Lib.hid (fun e => by
              have h1 := HP.out
              rw [e, ← HQ.out] at h1
              injection h1 with _ h1
              exact e2 h1)
            subst e1
            have b2 : ((p2 : Int) == (q2 : Int)) = false := by rw [beq_eq_false_iff_ne]; omega
            clear e2
            go_wp2_with fail
            go_region
            go_wp2
            go_ret
            exact ⟨ret_bool (decide_eq_false HE.out).symm, HWd.out⟩
        · have HE : Hid (xs ≠ bs) := Lib.hid (fun e => by
            have h1 := HP.out
            rw [e, ← HQ.out] at h1
            injection h1 with h1 _
            exact e1 h1)
          have b1 : (p1 == q1) = false := by rw [beq_eq_false_iff_ne]; exact e1
          clear e1
          go_wp2_with fail
          go_region
          go_wp2
          go_ret
          exact ⟨ret_bool (decide_eq_false HE.out).symm, HWd.out⟩
      · obtain rfl : j = xs.length := by omega
        have HE : Hid (xs = bs) := Lib.hid (by
          apply List.ext_getElem HL.out
          intro i h1 h2
          have h := HN.out i h1
          rwa [List.getD_eq_getElem?_getD, List.getD_eq_getElem?_getD, List.getElem?_eq_getElem h1, List.getElem?_eq_getElem h2] at h)
        go_wp2
        go_ret
        exact ⟨ret_bool (decide_eq_true HE.out).symm, HW.out⟩
  · have HE : Hid (xs ≠ bs) := Lib.hid (fun e => hl (by rw [e]))
    have hli : ((xs.length : Int) == (bs.length : Int)) = false := by rw [beq_eq_false_iff_ne]; omega
    have hln : ((xs.length : Int) != (bs.length : Int)) = true := by rw [bne_iff_ne]; omega
    clear hl
    go_enter Try.func30, Try.ntmps30
    go_wp2
    go_ret
    exact ⟨ret_bool (decide_eq_false HE.out).symm, Below.refl _ _⟩

set_option maxRecDepth 100000 in
set_option maxHeartbeats 2000000 in
theorem dsame_any (xs bs : List Dt) (c c' : Nat) (A B : Option Addr) (w : World) {oa ob : Nat → Prop} (ha : Dots w oa A xs) (hb : Dots w ob B bs) (hm : xs.length ≤ 9223372036854775807) :
    Calls Try.prog 29 #[.slice A xs.length c, .slice B bs.length c'] w fun e w' => e = .returned (.bool (decide (xs = bs))) ∧ Below w.heap.size w w' := by
  have HC := Lib.hid (equal_any xs bs c c' A B w ha hb hm)
  clear ha hb hm
  go_enter Try.func29, Try.ntmps29
  go_wp2_with fail
  refine HC.out.mono ?_
  rintro e w2 ⟨rfl, hb⟩
  have HB2 := Lib.hid hb
  clear hb
  go_wp2_with fail
  go_ret
  exact ⟨rfl, HB2.out⟩
end Go.Proofs.Ytnpacjdgbmldlaa

/- Right of dots and of the reference. -/
namespace Go.Proofs.Ytnpacjdgbmldlaa
open Go.RowKit
def dgood (ls : List Dt) (i : Nat) : Bool := Vec.right (ls.getD i (0, 0)).1 (ls.getD i (0, 0)).2 && (decide (i = 0) || Vec.less (ls.getD (i - 1) (0, 0)).1 (ls.getD (i - 1) (0, 0)).2 (ls.getD i (0, 0)).1 (ls.getD i (0, 0)).2)
/-- Are they a set? -/
def isSet (ls : List Dt) : Bool := decide (ls.length ≤ 2000) && (List.range ls.length).all (dgood ls)
theorem isSet_iff (ls : List Dt) : isSet ls = true ↔ ls.length ≤ 2000 ∧ ∀ i, i < ls.length → dgood ls i = true := by
  simp only [isSet, Bool.and_eq_true, decide_eq_true_eq, List.all_eq_true, List.mem_range]
theorem isSet_bad {ls : List Dt} {i : Nat} (hi : i < ls.length) (h : dgood ls i = false) : isSet ls = false := by
  rw [Bool.eq_false_iff]
  intro h2
  rw [((isSet_iff ls).1 h2).2 i hi] at h
  cases h
theorem dgood_right {ls : List Dt} {i : Nat} (h : Vec.right (ls.getD i (0, 0)).1 (ls.getD i (0, 0)).2 = false) : dgood ls i = false := by unfold dgood; rw [h]; rfl
theorem dgood_zero {ls : List Dt} (h : Vec.right (ls.getD 0 (0, 0)).1 (ls.getD 0 (0, 0)).2 = true) : dgood ls 0 = true := by unfold dgood; rw [h]; rfl
theorem dgood_succ {ls : List Dt} {p : Nat} (h : Vec.right (ls.getD (p + 1) (0, 0)).1 (ls.getD (p + 1) (0, 0)).2 = true) : dgood ls (p + 1) = Vec.less (ls.getD p (0, 0)).1 (ls.getD p (0, 0)).2 (ls.getD (p + 1) (0, 0)).1 (ls.getD (p + 1) (0, 0)).2 := by
  unfold dgood
  rw [h, show decide (p + 1 = 0) = false by simp]
  simp
/-- A list, and a dot in a box. -/
structure DI (w : World) (A : Option Addr) (ls : List Dt) (b : Nat) (t : TypeId) (d : Dt) (x : World) : Prop where
  l : Dots x (· < w.heap.size) A ls
  d : DotAt x b t d.1 d.2
  below : Below w.heap.size w x
theorem DI.then_ {w x y : World} {A : Option Addr} {ls : List Dt} {b : Nat} {t : TypeId} {d : Dt} (hb : Below x.heap.size x y) (I : DI w A ls b t d x) : DI w A ls b t d y :=
  ⟨I.l.below (hb.mono I.below.size), I.d.below hb I.d.lt, I.below.trans (hb.mono I.below.size)⟩
theorem DI.drew {w x : World} {A : Option Addr} {ls : List Dt} {b : Nat} {t : TypeId} {d : Dt} (I : DI w A ls b t d x) : DI w A ls b t d x.drew := DI.then_ (x := x) (y := x.drew) ⟨rfl, rfl, rfl, Nat.le_refl _, fun _ _ => rfl⟩ I
theorem Dots.at_j {w : World} {ok : Nat → Prop} {b o : Nat} {ls : List Dt} (h : Dots w ok (some ⟨b, o, none⟩) ls) {j : Nat} (hj : j < ls.length) : rangeA w b (o + j * 2) (dotC (ls.getD j (0, 0))) := by
  obtain ⟨b', o', e, _, hc⟩ := h.at_ (by omega)
  injection e with e
  injection e with e1 e2
  subst e1 e2
  exact hc j hj

set_option maxRecDepth 100000 in
set_option maxHeartbeats 4000000 in
theorem dright_any (ls : List Dt) (c : Nat) (A : Option Addr) (w : World) (hv : Dots w (· < w.heap.size) A ls) (hm : ls.length ≤ 9223372036854775807) :
    Calls Try.prog 20 #[.slice A ls.length c] w fun e w' => e = .returned (.bool (isSet ls)) ∧ Below w.heap.size w w' := by
  have HV := Lib.hid hv
  have HM := Lib.hid hm
  clear hv hm
  by_cases hb : 2000 < ls.length
  · have hbi : (2000 : Int) < (ls.length : Int) := by omega
    have HE : Hid (isSet ls = false) := Lib.hid (by
      rw [Bool.eq_false_iff]
      intro h
      have := ((isSet_iff ls).1 h).1
      omega)
    clear hb
    go_enter Try.func20, Try.ntmps20
    go_wp2
    go_ret
    exact ⟨ret_bool HE.out.symm, Below.refl _ _⟩
  have HBL : Hid (ls.length ≤ 2000) := Lib.hid (by omega)
  have hbi : ¬ (2000 : Int) < (ls.length : Int) := by omega
  clear hb
  go_enter Try.func20, Try.ntmps20
  go_wp2
  clear hbi
  go_loopw [10] (fun v wr => ∃ j : Nat, j ≤ ls.length ∧ v = .int .i64 j ∧ Hid (∀ i, i < j → dgood ls i = true) ∧ Hid (Dots wr (· < w.heap.size) A ls) ∧ Hid (Below w.heap.size w wr)) (fun v _ => ls.length - (intOf v).toNat)
  case atStart => exact ⟨0, by omega, rfl, fun i hi => by omega, HV, Below.refl _ _⟩
  case round =>
    clear HV
    obtain ⟨j, hj, rfl, HN, HV, HB⟩ := hrel
    by_cases hlt : j < ls.length
    · obtain ⟨b, o, hA⟩ := HV.out.some_ (by omega)
      subst hA
      obtain ⟨d, hd⟩ : ∃ d, d = ls.getD j (0, 0) := ⟨_, rfl⟩
      have HD := Lib.hid hd
      have hr : Hid (rangeA wr b (o + j * 2) (dotC d)) := Lib.hid (by rw [hd]; exact HV.out.at_j hlt)
      have HI : Hid (DI w (some ⟨b, o, none⟩) ls wr.heap.size 25 d (wr.alloc (.cells (dotC d) 25))) := Lib.hid ⟨HV.out.below ((below1 wr _).mono HB.out.size), DotAt.new wr 25 d.1 d.2, HB.out.trans ((below1 wr _).mono HB.out.size)⟩
      have hN := Lib.hid (heap_alloc_new wr (.cells #[.int .i64 0, .int .u64 0] 25))
      have s25 := Lib.hid (dot_size25 d)
      have o2 : Hid ((dotC d).all (·.oneCell') = true) := two_one _ _ rfl rfl
      have z2 : Hid ((#[.int .i64 0, .int .u64 0] : Array Value).size = (dotC d).size) := rfl
      clear hd HV HB
      go_wp2_with (first
        | (refine wpList_load_arr rfl 25 _ rfl b (o + j * 2) rfl (dotC d) _ hr.out Try.underlying25 rfl s25.out ?_)
        | (refine wpList_store_row rfl 25 _ _ rfl wr.heap.size (dotC d) rfl rfl 25 _ hN.out s25.out z2.out o2.out ?_; rw [World.setRow_alloc_new]))
      generalize wr.alloc (.cells (dotC d) 25) = w2 at *
      generalize wr.heap.size = b4 at *
      clear hr hN s25 o2 z2
      cases hrt : Vec.right d.1 d.2 with
      | false =>
        have HR := Lib.hid hrt
        have HG : Hid (dgood ls j = false) := Lib.hid (dgood_right (by rw [← HD.out]; exact hrt))
        clear hrt
        refine WM.wp_region_kinds (fun _ x y => Below x.heap.size x y) (fun _ x => DI w (some ⟨b, o, none⟩) ls b4 25 d x) (fun x => DI w (some ⟨b, o, none⟩) ls b4 25 d x)
          [(0, .val (dotV d.1 d.2) fun _ => True), (1, .val (.bool false) fun _ => True)] (by kernel_rfl) (by kernel_rfl) (fun _ _ _ hb h => DI.then_ hb h) (fun _ _ _ _ _ hb h => DI.then_ hb h) ?_ HI.out.drew (fun _ => HI.out.drew) ?_
        · intro z hz
          simp only [List.mem_cons, List.mem_nil_iff, or_false] at hz
          rcases hz with rfl | rfl <;> exact fun _ _ _ _ _ _ => trivial
        refine WM.mono_val rfl rfl (fun x hD hF => ?_) ?_
        · have hl := run_loadVar_arr (P := Try.prog) x b4 0 25 _ _ hD.d.range Try.underlying25 rfl size25
          rw [exec_load 25 (.tmp 4) rfl b4 0 rfl hl]
          exact ⟨Below.refl _ _, rfl, trivial⟩
        apply Exists.intro
        refine ⟨by simp only [Act.put, List.setIfInBounds_toArray, List.set_cons_succ, List.set_cons_zero]; rfl, ?_⟩
        refine WM.mono_val rfl rfl (fun x hD hF => ?_) ?_
        · go_simp
          refine (right_any d.1 d.2 x).mono ?_
          rintro e y ⟨rfl, hg⟩
          exact ⟨_, rfl, hg, by rw [HR.out]⟩
        apply Exists.intro
        refine ⟨by simp only [Act.put, List.setIfInBounds_toArray, List.set_cons_succ, List.set_cons_zero]; rfl, ?_⟩
        refine WM.mono_pure rfl rfl ?_
        refine ⟨.bool true, fun x => ?_, ?_⟩
        · go_simp
        apply Exists.intro
        refine ⟨by simp only [Act.put, List.setIfInBounds_toArray, List.set_cons_succ, List.set_cons_zero]; rfl, ?_⟩
        refine WM.mono_pure rfl rfl ?_
        refine ⟨.bool true, fun x => ?_, ?_⟩
        · go_simp
        apply Exists.intro
        refine ⟨by simp only [Act.put, List.setIfInBounds_toArray, List.set_cons_succ, List.set_cons_zero]; rfl, ?_⟩
        refine WM.mono_skip rfl ?_
        apply Exists.intro
        refine ⟨by simp only [Act.put, List.setIfInBounds_toArray, List.set_cons_succ, List.set_cons_zero]; rfl, ?_⟩
        refine WM.mono_skip rfl ?_
        apply Exists.intro
        refine ⟨by simp only [Act.put, List.setIfInBounds_toArray, List.set_cons_succ, List.set_cons_zero]; rfl, ?_⟩
        refine WM.mono_skip rfl ?_
        apply Exists.intro
        refine ⟨by simp only [Act.put, List.setIfInBounds_toArray, List.set_cons_succ, List.set_cons_zero]; rfl, ?_⟩
        refine WM.mono_skip rfl ?_
        apply Exists.intro
        refine ⟨by simp only [Act.put, List.setIfInBounds_toArray, List.set_cons_succ, List.set_cons_zero]; rfl, ?_⟩
        refine WM.mono_skip rfl ?_
        apply Exists.intro
        refine ⟨by simp only [Act.put, List.setIfInBounds_toArray, List.set_cons_succ, List.set_cons_zero]; rfl, ?_⟩
        refine WM.mono_skip rfl ?_
        apply Exists.intro
        refine ⟨by simp only [Act.put, List.setIfInBounds_toArray, List.set_cons_succ, List.set_cons_zero]; rfl, ?_⟩
        refine WM.mono_skip rfl ?_
        apply Exists.intro
        refine ⟨by simp only [Act.put, List.setIfInBounds_toArray, List.set_cons_succ, List.set_cons_zero]; rfl, ?_⟩
        refine WM.mono_skip rfl ?_
        apply Exists.intro
        refine ⟨by simp only [Act.put, List.setIfInBounds_toArray, List.set_cons_succ, List.set_cons_zero]; rfl, ?_⟩
        refine WM.mono_skip rfl ?_
        apply Exists.intro
        refine ⟨by simp only [Act.put, List.setIfInBounds_toArray, List.set_cons_succ, List.set_cons_zero]; rfl, ?_⟩
        refine WM.mono_skip rfl ?_
        apply Exists.intro
        refine ⟨by simp only [Act.put, List.setIfInBounds_toArray, List.set_cons_succ, List.set_cons_zero]; rfl, ?_⟩
        refine WM.mono_skip rfl ?_
        apply Exists.intro
        refine ⟨by simp only [Act.put, List.setIfInBounds_toArray, List.set_cons_succ, List.set_cons_zero]; rfl, ?_⟩
        refine WM.mono_skip rfl ?_
        apply Exists.intro
        refine ⟨by simp only [Act.put, List.setIfInBounds_toArray, List.set_cons_succ, List.set_cons_zero]; rfl, ?_⟩
        refine WM.mono_pure rfl rfl ?_
        refine ⟨.bool true, fun x => ?_, ?_⟩
        · go_simp
        apply Exists.intro
        refine ⟨by simp only [Act.put, List.setIfInBounds_toArray, List.set_cons_succ, List.set_cons_zero]; rfl, ?_⟩
        refine WM.mono_nil ?_
        intro x hD hF
        have HX := Lib.hid hD
        clear hD hF HI
        go_simp
        go_wp2
        go_ret
        exact ⟨ret_bool (isSet_bad hlt HG.out).symm, HX.out.below⟩
      | true =>
        have HR := Lib.hid hrt
        clear hrt
        by_cases h0 : j = 0
        · subst h0
          have HG : Hid (dgood ls 0 = true) := Lib.hid (dgood_zero (by rw [← HD.out]; exact HR.out))
          refine WM.wp_region_kinds (fun _ x y => Below x.heap.size x y) (fun _ x => DI w (some ⟨b, o, none⟩) ls b4 25 d x) (fun x => DI w (some ⟨b, o, none⟩) ls b4 25 d x)
            [(0, .val (dotV d.1 d.2) fun _ => True), (1, .val (.bool true) fun _ => True)] (by kernel_rfl) (by kernel_rfl) (fun _ _ _ hb h => DI.then_ hb h) (fun _ _ _ _ _ hb h => DI.then_ hb h) ?_ HI.out.drew (fun _ => HI.out.drew) ?_
          · intro z hz
            simp only [List.mem_cons, List.mem_nil_iff, or_false] at hz
            rcases hz with rfl | rfl <;> exact fun _ _ _ _ _ _ => trivial
          refine WM.mono_val rfl rfl (fun x hD hF => ?_) ?_
          · have hl := run_loadVar_arr (P := Try.prog) x b4 0 25 _ _ hD.d.range Try.underlying25 rfl size25
            rw [exec_load 25 (.tmp 4) rfl b4 0 rfl hl]
            exact ⟨Below.refl _ _, rfl, trivial⟩
          apply Exists.intro
          refine ⟨by simp only [Act.put, List.setIfInBounds_toArray, List.set_cons_succ, List.set_cons_zero]; rfl, ?_⟩
          refine WM.mono_val rfl rfl (fun x hD hF => ?_) ?_
          · go_simp
            refine (right_any d.1 d.2 x).mono ?_
            rintro e y ⟨rfl, hg⟩
            exact ⟨_, rfl, hg, by rw [HR.out]⟩
          apply Exists.intro
          refine ⟨by simp only [Act.put, List.setIfInBounds_toArray, List.set_cons_succ, List.set_cons_zero]; rfl, ?_⟩
          refine WM.mono_pure rfl rfl ?_
          refine ⟨.bool false, fun x => ?_, ?_⟩
          · go_simp
          apply Exists.intro
          refine ⟨by simp only [Act.put, List.setIfInBounds_toArray, List.set_cons_succ, List.set_cons_zero]; rfl, ?_⟩
          refine WM.mono_pure rfl rfl ?_
          refine ⟨.bool false, fun x => ?_, ?_⟩
          · go_simp
          apply Exists.intro
          refine ⟨by simp only [Act.put, List.setIfInBounds_toArray, List.set_cons_succ, List.set_cons_zero]; rfl, ?_⟩
          iterate 1
            refine WM.mono_pure rfl rfl ?_
            apply Exists.intro
            refine ⟨fun x => ?_, ?_⟩
            · go_simp
              rfl
            apply Exists.intro
            refine ⟨by simp only [Act.put, List.setIfInBounds_toArray, List.set_cons_succ, List.set_cons_zero]; rfl, ?_⟩
          refine WM.mono_pure rfl rfl ?_
          refine ⟨.bool false, fun x => ?_, ?_⟩
          · go_simp
          apply Exists.intro
          refine ⟨by simp only [Act.put, List.setIfInBounds_toArray, List.set_cons_succ, List.set_cons_zero]; rfl, ?_⟩
          refine WM.mono_pure rfl rfl ?_
          refine ⟨.bool false, fun x => ?_, ?_⟩
          · go_simp
          apply Exists.intro
          refine ⟨by simp only [Act.put, List.setIfInBounds_toArray, List.set_cons_succ, List.set_cons_zero]; rfl, ?_⟩
          refine WM.mono_skip rfl ?_
          apply Exists.intro
          refine ⟨by simp only [Act.put, List.setIfInBounds_toArray, List.set_cons_succ, List.set_cons_zero]; rfl, ?_⟩
          refine WM.mono_skip rfl ?_
          apply Exists.intro
          refine ⟨by simp only [Act.put, List.setIfInBounds_toArray, List.set_cons_succ, List.set_cons_zero]; rfl, ?_⟩
          refine WM.mono_skip rfl ?_
          apply Exists.intro
          refine ⟨by simp only [Act.put, List.setIfInBounds_toArray, List.set_cons_succ, List.set_cons_zero]; rfl, ?_⟩
          refine WM.mono_skip rfl ?_
          apply Exists.intro
          refine ⟨by simp only [Act.put, List.setIfInBounds_toArray, List.set_cons_succ, List.set_cons_zero]; rfl, ?_⟩
          refine WM.mono_skip rfl ?_
          apply Exists.intro
          refine ⟨by simp only [Act.put, List.setIfInBounds_toArray, List.set_cons_succ, List.set_cons_zero]; rfl, ?_⟩
          refine WM.mono_skip rfl ?_
          apply Exists.intro
          refine ⟨by simp only [Act.put, List.setIfInBounds_toArray, List.set_cons_succ, List.set_cons_zero]; rfl, ?_⟩
          refine WM.mono_skip rfl ?_
          apply Exists.intro
          refine ⟨by simp only [Act.put, List.setIfInBounds_toArray, List.set_cons_succ, List.set_cons_zero]; rfl, ?_⟩
          refine WM.mono_skip rfl ?_
          apply Exists.intro
          refine ⟨by simp only [Act.put, List.setIfInBounds_toArray, List.set_cons_succ, List.set_cons_zero]; rfl, ?_⟩
          refine WM.mono_pure rfl rfl ?_
          refine ⟨.bool false, fun x => ?_, ?_⟩
          · go_simp
          apply Exists.intro
          refine ⟨by simp only [Act.put, List.setIfInBounds_toArray, List.set_cons_succ, List.set_cons_zero]; rfl, ?_⟩
          refine WM.mono_pure rfl rfl ?_
          refine ⟨.bool false, fun x => ?_, ?_⟩
          · go_simp
          apply Exists.intro
          refine ⟨by simp only [Act.put, List.setIfInBounds_toArray, List.set_cons_succ, List.set_cons_zero]; rfl, ?_⟩
          refine WM.mono_nil ?_
          intro x hD hF
          have HX := Lib.hid hD
          clear hD hF HI
          go_simp
          have HN2 : Hid (∀ i, i < 0 + 1 → dgood ls i = true) := Lib.hid (fun i hi => by
            by_cases e : i = 0
            · rw [e]; exact HG.out
            · exact HN.out i (by omega))
          go_wp2
          go_roundw
          case rel => exact ⟨0 + 1, by omega, by go_num, HN2, HX.out.l, HX.out.below⟩
          case measure => simp [intOf]; omega
        · obtain ⟨p, rfl⟩ : ∃ p, j = p + 1 := ⟨j - 1, by omega⟩
          clear h0
          obtain ⟨d0, hd0⟩ : ∃ d0, d0 = ls.getD p (0, 0) := ⟨_, rfl⟩
          have HD0 := Lib.hid hd0
          have HPL : Hid (p < ls.length) := Lib.hid (by omega)
          have hpi : (p : Int) < (ls.length : Int) := by omega
          have eW : IntKind.i64.wrap (p : Int) = (p : Int) := by have := HBL.out; rw [IntKind.wrap_i64]; omega
          have eW2 : IntKind.i64.wrap ((p : Int) + 1 + 1) = (p : Int) + 1 + 1 := by have := HBL.out; rw [IntKind.wrap_i64]; omega
          have hgt : (0 : Int) < (p : Int) + 1 := by omega
          have hgs := dgood_succ (ls := ls) (p := p) (by rw [← HD.out]; exact HR.out)
          rw [← HD.out, ← hd0] at hgs
          have HGS := Lib.hid hgs
          clear hd0 hgs
          cases hls : Vec.less d0.1 d0.2 d.1 d.2 with
          | true =>
            have HLS := Lib.hid hls
            have HG : Hid (dgood ls (p + 1) = true) := Lib.hid (by rw [HGS.out]; exact hls)
            clear hls
            refine WM.wp_region_kinds (fun _ x y => Below x.heap.size x y) (fun _ x => DI w (some ⟨b, o, none⟩) ls b4 25 d x) (fun x => DI w (some ⟨b, o, none⟩) ls b4 25 d x)
              [(0, .val (dotV d.1 d.2) fun _ => True), (1, .val (.bool true) fun _ => True), (11, .val (dotV d0.1 d0.2) fun _ => True), (12, .val (dotV d.1 d.2) fun _ => True), (13, .val (.bool true) fun _ => True)] (by kernel_rfl) (by kernel_rfl) (fun _ _ _ hb h => DI.then_ hb h) (fun _ _ _ _ _ hb h => DI.then_ hb h) ?_ HI.out.drew (fun _ => HI.out.drew) ?_
            · intro z hz
              simp only [List.mem_cons, List.mem_nil_iff, or_false] at hz
              rcases hz with rfl | rfl | rfl | rfl | rfl <;> exact fun _ _ _ _ _ _ => trivial
            refine WM.mono_val rfl rfl (fun x hD hF => ?_) ?_
            · have hl := run_loadVar_arr (P := Try.prog) x b4 0 25 _ _ hD.d.range Try.underlying25 rfl size25
              rw [exec_load 25 (.tmp 4) rfl b4 0 rfl hl]
              exact ⟨Below.refl _ _, rfl, trivial⟩
            apply Exists.intro
            refine ⟨by simp only [Act.put, List.setIfInBounds_toArray, List.set_cons_succ, List.set_cons_zero]; rfl, ?_⟩
            refine WM.mono_val rfl rfl (fun x hD hF => ?_) ?_
            · go_simp
              refine (right_any d.1 d.2 x).mono ?_
              rintro e y ⟨rfl, hg⟩
              exact ⟨_, rfl, hg, by rw [HR.out]⟩
            apply Exists.intro
            refine ⟨by simp only [Act.put, List.setIfInBounds_toArray, List.set_cons_succ, List.set_cons_zero]; rfl, ?_⟩
            refine WM.mono_pure rfl rfl ?_
            refine ⟨.bool false, fun x => ?_, ?_⟩
            · go_simp
            apply Exists.intro
            refine ⟨by simp only [Act.put, List.setIfInBounds_toArray, List.set_cons_succ, List.set_cons_zero]; rfl, ?_⟩
            refine WM.mono_pure rfl rfl ?_
            refine ⟨.bool false, fun x => ?_, ?_⟩
            · go_simp
            apply Exists.intro
            refine ⟨by simp only [Act.put, List.setIfInBounds_toArray, List.set_cons_succ, List.set_cons_zero]; rfl, ?_⟩
            iterate 1
              refine WM.mono_pure rfl rfl ?_
              apply Exists.intro
              refine ⟨fun x => ?_, ?_⟩
              · go_simp
                rfl
              apply Exists.intro
              refine ⟨by simp only [Act.put, List.setIfInBounds_toArray, List.set_cons_succ, List.set_cons_zero]; rfl, ?_⟩
            refine WM.mono_pure rfl rfl ?_
            refine ⟨.bool true, fun x => ?_, ?_⟩
            · go_simp
            apply Exists.intro
            refine ⟨by simp only [Act.put, List.setIfInBounds_toArray, List.set_cons_succ, List.set_cons_zero]; rfl, ?_⟩
            refine WM.mono_pure rfl rfl ?_
            refine ⟨.bool true, fun x => ?_, ?_⟩
            · go_simp
            apply Exists.intro
            refine ⟨by simp only [Act.put, List.setIfInBounds_toArray, List.set_cons_succ, List.set_cons_zero]; rfl, ?_⟩
            iterate 2
              refine WM.mono_pure rfl rfl ?_
              apply Exists.intro
              refine ⟨fun x => ?_, ?_⟩
              · go_simp
                rfl
              apply Exists.intro
              refine ⟨by simp only [Act.put, List.setIfInBounds_toArray, List.set_cons_succ, List.set_cons_zero]; rfl, ?_⟩
            refine WM.mono_pure rfl rfl ?_
            refine ⟨.int .i64 (p : Int), fun x => ?_, ?_⟩
            · go_simp
            apply Exists.intro
            refine ⟨by simp only [Act.put, List.setIfInBounds_toArray, List.set_cons_succ, List.set_cons_zero]; rfl, ?_⟩
            refine WM.mono_pure rfl rfl ?_
            refine ⟨.pointer (some ⟨b, o + p * 2, none⟩), fun x => ?_, ?_⟩
            · go_simp
            apply Exists.intro
            refine ⟨by simp only [Act.put, List.setIfInBounds_toArray, List.set_cons_succ, List.set_cons_zero]; rfl, ?_⟩
            refine WM.mono_val rfl rfl (fun x hD hF => ?_) ?_
            · have hl := run_loadVar_arr (P := Try.prog) x b (o + p * 2) 25 (dotC d0) _ (by rw [HD0.out]; exact hD.l.at_j HPL.out) Try.underlying25 rfl size25
              rw [exec_load 25 (.tmp 25) rfl b (o + p * 2) rfl hl]
              exact ⟨Below.refl _ _, rfl, trivial⟩
            apply Exists.intro
            refine ⟨by simp only [Act.put, List.setIfInBounds_toArray, List.set_cons_succ, List.set_cons_zero]; rfl, ?_⟩
            refine WM.mono_val rfl rfl (fun x hD hF => ?_) ?_
            · have hl := run_loadVar_arr (P := Try.prog) x b4 0 25 _ _ hD.d.range Try.underlying25 rfl size25
              rw [exec_load 25 (.tmp 4) rfl b4 0 rfl hl]
              exact ⟨Below.refl _ _, rfl, trivial⟩
            apply Exists.intro
            refine ⟨by simp only [Act.put, List.setIfInBounds_toArray, List.set_cons_succ, List.set_cons_zero]; rfl, ?_⟩
            refine WM.mono_val rfl rfl (fun x hD hF => ?_) ?_
            · go_simp
              refine (less_any d0.1 d0.2 d.1 d.2 x).mono ?_
              rintro e y ⟨rfl, hg⟩
              exact ⟨_, rfl, hg, by rw [HLS.out]⟩
            apply Exists.intro
            refine ⟨by simp only [Act.put, List.setIfInBounds_toArray, List.set_cons_succ, List.set_cons_zero]; rfl, ?_⟩
            refine WM.mono_pure rfl rfl ?_
            refine ⟨.bool false, fun x => ?_, ?_⟩
            · go_simp
            apply Exists.intro
            refine ⟨by simp only [Act.put, List.setIfInBounds_toArray, List.set_cons_succ, List.set_cons_zero]; rfl, ?_⟩
            refine WM.mono_pure rfl rfl ?_
            refine ⟨.bool false, fun x => ?_, ?_⟩
            · go_simp
            apply Exists.intro
            refine ⟨by simp only [Act.put, List.setIfInBounds_toArray, List.set_cons_succ, List.set_cons_zero]; rfl, ?_⟩
            refine WM.mono_pure rfl rfl ?_
            refine ⟨.bool false, fun x => ?_, ?_⟩
            · go_simp
            apply Exists.intro
            refine ⟨by simp only [Act.put, List.setIfInBounds_toArray, List.set_cons_succ, List.set_cons_zero]; rfl, ?_⟩
            refine WM.mono_nil ?_
            intro x hD hF
            have HX := Lib.hid hD
            clear hD hF HI
            go_simp
            have HN2 : Hid (∀ i, i < (p + 1) + 1 → dgood ls i = true) := Lib.hid (fun i hi => by
              by_cases e : i = (p + 1)
              · rw [e]; exact HG.out
              · exact HN.out i (by omega))
            go_wp2
            go_roundw
            all_goals clear eW eW2
            case rel => exact ⟨(p + 1) + 1, by omega, by go_num, HN2, HX.out.l, HX.out.below⟩
            case measure => simp [intOf]; omega
          | false =>
            have HLS := Lib.hid hls
            have HG : Hid (dgood ls (p + 1) = false) := Lib.hid (by rw [HGS.out]; exact hls)
            clear hls
            refine WM.wp_region_kinds (fun _ x y => Below x.heap.size x y) (fun _ x => DI w (some ⟨b, o, none⟩) ls b4 25 d x) (fun x => DI w (some ⟨b, o, none⟩) ls b4 25 d x)
              [(0, .val (dotV d.1 d.2) fun _ => True), (1, .val (.bool true) fun _ => True), (11, .val (dotV d0.1 d0.2) fun _ => True), (12, .val (dotV d.1 d.2) fun _ => True), (13, .val (.bool false) fun _ => True)] (by kernel_rfl) (by kernel_rfl) (fun _ _ _ hb h => DI.then_ hb h) (fun _ _ _ _ _ hb h => DI.then_ hb h) ?_ HI.out.drew (fun _ => HI.out.drew) ?_
            · intro z hz
              simp only [List.mem_cons, List.mem_nil_iff, or_false] at hz
              rcases hz with rfl | rfl | rfl | rfl | rfl <;> exact fun _ _ _ _ _ _ => trivial
            refine WM.mono_val rfl rfl (fun x hD hF => ?_) ?_
            · have hl := run_loadVar_arr (P := Try.prog) x b4 0 25 _ _ hD.d.range Try.underlying25 rfl size25
              rw [exec_load 25 (.tmp 4) rfl b4 0 rfl hl]
              exact ⟨Below.refl _ _, rfl, trivial⟩
            apply Exists.intro
            refine ⟨by simp only [Act.put, List.setIfInBounds_toArray, List.set_cons_succ, List.set_cons_zero]; rfl, ?_⟩
            refine WM.mono_val rfl rfl (fun x hD hF => ?_) ?_
            · go_simp
              refine (right_any d.1 d.2 x).mono ?_
              rintro e y ⟨rfl, hg⟩
              exact ⟨_, rfl, hg, by rw [HR.out]⟩
            apply Exists.intro
            refine ⟨by simp only [Act.put, List.setIfInBounds_toArray, List.set_cons_succ, List.set_cons_zero]; rfl, ?_⟩
            refine WM.mono_pure rfl rfl ?_
            refine ⟨.bool false, fun x => ?_, ?_⟩
            · go_simp
            apply Exists.intro
            refine ⟨by simp only [Act.put, List.setIfInBounds_toArray, List.set_cons_succ, List.set_cons_zero]; rfl, ?_⟩
            refine WM.mono_pure rfl rfl ?_
            refine ⟨.bool false, fun x => ?_, ?_⟩
            · go_simp
            apply Exists.intro
            refine ⟨by simp only [Act.put, List.setIfInBounds_toArray, List.set_cons_succ, List.set_cons_zero]; rfl, ?_⟩
            iterate 1
              refine WM.mono_pure rfl rfl ?_
              apply Exists.intro
              refine ⟨fun x => ?_, ?_⟩
              · go_simp
                rfl
              apply Exists.intro
              refine ⟨by simp only [Act.put, List.setIfInBounds_toArray, List.set_cons_succ, List.set_cons_zero]; rfl, ?_⟩
            refine WM.mono_pure rfl rfl ?_
            refine ⟨.bool true, fun x => ?_, ?_⟩
            · go_simp
            apply Exists.intro
            refine ⟨by simp only [Act.put, List.setIfInBounds_toArray, List.set_cons_succ, List.set_cons_zero]; rfl, ?_⟩
            refine WM.mono_pure rfl rfl ?_
            refine ⟨.bool true, fun x => ?_, ?_⟩
            · go_simp
            apply Exists.intro
            refine ⟨by simp only [Act.put, List.setIfInBounds_toArray, List.set_cons_succ, List.set_cons_zero]; rfl, ?_⟩
            iterate 2
              refine WM.mono_pure rfl rfl ?_
              apply Exists.intro
              refine ⟨fun x => ?_, ?_⟩
              · go_simp
                rfl
              apply Exists.intro
              refine ⟨by simp only [Act.put, List.setIfInBounds_toArray, List.set_cons_succ, List.set_cons_zero]; rfl, ?_⟩
            refine WM.mono_pure rfl rfl ?_
            refine ⟨.int .i64 (p : Int), fun x => ?_, ?_⟩
            · go_simp
            apply Exists.intro
            refine ⟨by simp only [Act.put, List.setIfInBounds_toArray, List.set_cons_succ, List.set_cons_zero]; rfl, ?_⟩
            refine WM.mono_pure rfl rfl ?_
            refine ⟨.pointer (some ⟨b, o + p * 2, none⟩), fun x => ?_, ?_⟩
            · go_simp
            apply Exists.intro
            refine ⟨by simp only [Act.put, List.setIfInBounds_toArray, List.set_cons_succ, List.set_cons_zero]; rfl, ?_⟩
            refine WM.mono_val rfl rfl (fun x hD hF => ?_) ?_
            · have hl := run_loadVar_arr (P := Try.prog) x b (o + p * 2) 25 (dotC d0) _ (by rw [HD0.out]; exact hD.l.at_j HPL.out) Try.underlying25 rfl size25
              rw [exec_load 25 (.tmp 25) rfl b (o + p * 2) rfl hl]
              exact ⟨Below.refl _ _, rfl, trivial⟩
            apply Exists.intro
            refine ⟨by simp only [Act.put, List.setIfInBounds_toArray, List.set_cons_succ, List.set_cons_zero]; rfl, ?_⟩
            refine WM.mono_val rfl rfl (fun x hD hF => ?_) ?_
            · have hl := run_loadVar_arr (P := Try.prog) x b4 0 25 _ _ hD.d.range Try.underlying25 rfl size25
              rw [exec_load 25 (.tmp 4) rfl b4 0 rfl hl]
              exact ⟨Below.refl _ _, rfl, trivial⟩
            apply Exists.intro
            refine ⟨by simp only [Act.put, List.setIfInBounds_toArray, List.set_cons_succ, List.set_cons_zero]; rfl, ?_⟩
            refine WM.mono_val rfl rfl (fun x hD hF => ?_) ?_
            · go_simp
              refine (less_any d0.1 d0.2 d.1 d.2 x).mono ?_
              rintro e y ⟨rfl, hg⟩
              exact ⟨_, rfl, hg, by rw [HLS.out]⟩
            apply Exists.intro
            refine ⟨by simp only [Act.put, List.setIfInBounds_toArray, List.set_cons_succ, List.set_cons_zero]; rfl, ?_⟩
            refine WM.mono_pure rfl rfl ?_
            refine ⟨.bool true, fun x => ?_, ?_⟩
            · go_simp
            apply Exists.intro
            refine ⟨by simp only [Act.put, List.setIfInBounds_toArray, List.set_cons_succ, List.set_cons_zero]; rfl, ?_⟩
            refine WM.mono_pure rfl rfl ?_
            refine ⟨.bool true, fun x => ?_, ?_⟩
            · go_simp
            apply Exists.intro
            refine ⟨by simp only [Act.put, List.setIfInBounds_toArray, List.set_cons_succ, List.set_cons_zero]; rfl, ?_⟩
            refine WM.mono_pure rfl rfl ?_
            refine ⟨.bool true, fun x => ?_, ?_⟩
            · go_simp
            apply Exists.intro
            refine ⟨by simp only [Act.put, List.setIfInBounds_toArray, List.set_cons_succ, List.set_cons_zero]; rfl, ?_⟩
            refine WM.mono_nil ?_
            intro x hD hF
            have HX := Lib.hid hD
            clear hD hF HI
            go_simp
            go_wp2
            go_ret
            exact ⟨ret_bool (isSet_bad hlt HG.out).symm, HX.out.below⟩
    · obtain rfl : j = ls.length := by omega
      have HE : Hid (isSet ls = true) := Lib.hid ((isSet_iff ls).2 ⟨HBL.out, HN.out⟩)
      go_wp2
      go_ret
      exact ⟨ret_bool HE.out.symm, HB.out⟩
end Go.Proofs.Ytnpacjdgbmldlaa

/- Right of the reference. -/
namespace Go.Proofs.Ytnpacjdgbmldlaa
open Go.RowKit
structure DL (w : World) (A : Option Addr) (ls : List Dt) (x : World) : Prop where
  l : Dots x (· < w.heap.size) A ls
  below : Below w.heap.size w x
theorem DL.then_ {w x y : World} {A : Option Addr} {ls : List Dt} (hb : Below x.heap.size x y) (I : DL w A ls x) : DL w A ls y := ⟨I.l.below (hb.mono I.below.size), I.below.trans (hb.mono I.below.size)⟩
theorem DL.drew {w x : World} {A : Option Addr} {ls : List Dt} (I : DL w A ls x) : DL w A ls x.drew := DL.then_ (x := x) (y := x.drew) ⟨rfl, rfl, rfl, Nat.le_refl _, fun _ _ => rfl⟩ I

set_option maxRecDepth 100000 in
set_option maxHeartbeats 4000000 in
theorem drightR_any (ls : List Dt) (c : Nat) (A : Option Addr) (w : World) (hv : Dots w (· < w.heap.size) A ls) (hm : ls.length ≤ 9223372036854775806) :
    Calls Try.prog 21 #[.slice A ls.length c] w fun e w' => e = .returned (.bool (isSet ls)) ∧ Below w.heap.size w w' := by
  have HV := Lib.hid hv
  have HM := Lib.hid hm
  clear hv hm
  go_enter Try.func21, Try.ntmps21
  go_wp2
  go_loopw [3] (fun v wr => ∃ j : Nat, j ≤ ls.length ∧ v = .int .i64 j ∧ Hid (∀ i, i < j → dgood ls i = true) ∧ Hid (Dots wr (· < w.heap.size) A ls) ∧ Hid (Below w.heap.size w wr)) (fun v _ => ls.length - (intOf v).toNat)
  case atStart => exact ⟨0, by omega, rfl, fun i hi => by omega, HV, Below.refl _ _⟩
  case round =>
    clear HV
    obtain ⟨j, hj, rfl, HN, HV, HB⟩ := hrel
    by_cases hlt : j < ls.length
    · obtain ⟨b, o, hA⟩ := HV.out.some_ (by omega)
      subst hA
      obtain ⟨d, hd⟩ : ∃ d, d = ls.getD j (0, 0) := ⟨_, rfl⟩
      have HD := Lib.hid hd
      have HI : Hid (DL w (some ⟨b, o, none⟩) ls wr) := Lib.hid ⟨HV.out, HB.out⟩
      have HLT := Lib.hid hlt
      have eJ : IntKind.i64.wrap ((j : Int) + 1) = (j : Int) + 1 := by have := HM.out; rw [IntKind.wrap_i64]; omega
      clear hd HV HB
      go_wp2_with fail
      cases hrt : Vec.right d.1 d.2 with
      | false =>
        have HR := Lib.hid hrt
        have HG : Hid (dgood ls j = false) := Lib.hid (dgood_right (by rw [← HD.out]; exact hrt))
        clear hrt
        refine WM.wp_region_kinds (fun _ x y => Below x.heap.size x y) (fun _ x => DL w (some ⟨b, o, none⟩) ls x) (fun x => DL w (some ⟨b, o, none⟩) ls x)
          [(3, .val (dotV d.1 d.2) fun _ => True), (4, .val (.bool false) fun _ => True)] (by kernel_rfl) (by kernel_rfl) (fun _ _ _ hb h => DL.then_ hb h) (fun _ _ _ _ _ hb h => DL.then_ hb h) ?_ HI.out.drew (fun _ => HI.out.drew) ?_
        · intro z hz
          simp only [List.mem_cons, List.mem_nil_iff, or_false] at hz
          rcases hz with rfl | rfl <;> exact fun _ _ _ _ _ _ => trivial
        iterate 2
          refine WM.mono_pure rfl rfl ?_
          apply Exists.intro
          refine ⟨fun x => ?_, ?_⟩
          · go_simp
            rfl
          apply Exists.intro
          refine ⟨by simp only [Act.put, List.setIfInBounds_toArray, List.set_cons_succ, List.set_cons_zero]; rfl, ?_⟩
        refine WM.mono_pure rfl rfl ?_
        refine ⟨.pointer (some ⟨b, o + j * 2, none⟩), fun x => ?_, ?_⟩
        · go_simp
        apply Exists.intro
        refine ⟨by simp only [Act.put, List.setIfInBounds_toArray, List.set_cons_succ, List.set_cons_zero]; rfl, ?_⟩
        refine WM.mono_val rfl rfl (fun x hD hF => ?_) ?_
        · have hl := run_loadVar_arr (P := Try.prog) x b (o + j * 2) 35 (dotC d) _ (by rw [HD.out]; exact hD.l.at_j HLT.out) Try.underlying35 rfl size35
          rw [exec_load 35 (.tmp 12) rfl b (o + j * 2) rfl hl]
          exact ⟨Below.refl _ _, rfl, trivial⟩
        apply Exists.intro
        refine ⟨by simp only [Act.put, List.setIfInBounds_toArray, List.set_cons_succ, List.set_cons_zero]; rfl, ?_⟩
        refine WM.mono_val rfl rfl (fun x hD hF => ?_) ?_
        · go_simp
          refine (rightR_any d.1 d.2 x).mono ?_
          rintro e y ⟨rfl, hg⟩
          exact ⟨_, rfl, hg, by rw [HR.out]⟩
        apply Exists.intro
        refine ⟨by simp only [Act.put, List.setIfInBounds_toArray, List.set_cons_succ, List.set_cons_zero]; rfl, ?_⟩
        refine WM.mono_pure rfl rfl ?_
        refine ⟨.bool true, fun x => ?_, ?_⟩
        · go_simp
        apply Exists.intro
        refine ⟨by simp only [Act.put, List.setIfInBounds_toArray, List.set_cons_succ, List.set_cons_zero]; rfl, ?_⟩
        refine WM.mono_pure rfl rfl ?_
        refine ⟨.bool true, fun x => ?_, ?_⟩
        · go_simp
        apply Exists.intro
        refine ⟨by simp only [Act.put, List.setIfInBounds_toArray, List.set_cons_succ, List.set_cons_zero]; rfl, ?_⟩
        refine WM.mono_skip rfl ?_
        apply Exists.intro
        refine ⟨by simp only [Act.put, List.setIfInBounds_toArray, List.set_cons_succ, List.set_cons_zero]; rfl, ?_⟩
        refine WM.mono_skip rfl ?_
        apply Exists.intro
        refine ⟨by simp only [Act.put, List.setIfInBounds_toArray, List.set_cons_succ, List.set_cons_zero]; rfl, ?_⟩
        refine WM.mono_skip rfl ?_
        apply Exists.intro
        refine ⟨by simp only [Act.put, List.setIfInBounds_toArray, List.set_cons_succ, List.set_cons_zero]; rfl, ?_⟩
        refine WM.mono_skip rfl ?_
        apply Exists.intro
        refine ⟨by simp only [Act.put, List.setIfInBounds_toArray, List.set_cons_succ, List.set_cons_zero]; rfl, ?_⟩
        refine WM.mono_skip rfl ?_
        apply Exists.intro
        refine ⟨by simp only [Act.put, List.setIfInBounds_toArray, List.set_cons_succ, List.set_cons_zero]; rfl, ?_⟩
        refine WM.mono_skip rfl ?_
        apply Exists.intro
        refine ⟨by simp only [Act.put, List.setIfInBounds_toArray, List.set_cons_succ, List.set_cons_zero]; rfl, ?_⟩
        refine WM.mono_skip rfl ?_
        apply Exists.intro
        refine ⟨by simp only [Act.put, List.setIfInBounds_toArray, List.set_cons_succ, List.set_cons_zero]; rfl, ?_⟩
        refine WM.mono_skip rfl ?_
        apply Exists.intro
        refine ⟨by simp only [Act.put, List.setIfInBounds_toArray, List.set_cons_succ, List.set_cons_zero]; rfl, ?_⟩
        refine WM.mono_skip rfl ?_
        apply Exists.intro
        refine ⟨by simp only [Act.put, List.setIfInBounds_toArray, List.set_cons_succ, List.set_cons_zero]; rfl, ?_⟩
        refine WM.mono_skip rfl ?_
        apply Exists.intro
        refine ⟨by simp only [Act.put, List.setIfInBounds_toArray, List.set_cons_succ, List.set_cons_zero]; rfl, ?_⟩
        refine WM.mono_skip rfl ?_
        apply Exists.intro
        refine ⟨by simp only [Act.put, List.setIfInBounds_toArray, List.set_cons_succ, List.set_cons_zero]; rfl, ?_⟩
        refine WM.mono_skip rfl ?_
        apply Exists.intro
        refine ⟨by simp only [Act.put, List.setIfInBounds_toArray, List.set_cons_succ, List.set_cons_zero]; rfl, ?_⟩
        refine WM.mono_skip rfl ?_
        apply Exists.intro
        refine ⟨by simp only [Act.put, List.setIfInBounds_toArray, List.set_cons_succ, List.set_cons_zero]; rfl, ?_⟩
        refine WM.mono_skip rfl ?_
        apply Exists.intro
        refine ⟨by simp only [Act.put, List.setIfInBounds_toArray, List.set_cons_succ, List.set_cons_zero]; rfl, ?_⟩
        refine WM.mono_skip rfl ?_
        apply Exists.intro
        refine ⟨by simp only [Act.put, List.setIfInBounds_toArray, List.set_cons_succ, List.set_cons_zero]; rfl, ?_⟩
        refine WM.mono_pure rfl rfl ?_
        refine ⟨.bool true, fun x => ?_, ?_⟩
        · go_simp
        apply Exists.intro
        refine ⟨by simp only [Act.put, List.setIfInBounds_toArray, List.set_cons_succ, List.set_cons_zero]; rfl, ?_⟩
        refine WM.mono_nil ?_
        intro x hD hF
        have HX := Lib.hid hD
        clear hD hF HI
        go_simp
        go_wp2
        go_ret
        exact ⟨ret_bool (isSet_bad HLT.out HG.out).symm, HX.out.below⟩
      | true =>
        have HR := Lib.hid hrt
        clear hrt
        by_cases h0 : j = 0
        · subst h0
          have HG : Hid (dgood ls 0 = true) := Lib.hid (dgood_zero (by rw [← HD.out]; exact HR.out))
          clear eJ
          refine WM.wp_region_kinds (fun _ x y => Below x.heap.size x y) (fun _ x => DL w (some ⟨b, o, none⟩) ls x) (fun x => DL w (some ⟨b, o, none⟩) ls x)
            [(3, .val (dotV d.1 d.2) fun _ => True), (4, .val (.bool true) fun _ => True)] (by kernel_rfl) (by kernel_rfl) (fun _ _ _ hb h => DL.then_ hb h) (fun _ _ _ _ _ hb h => DL.then_ hb h) ?_ HI.out.drew (fun _ => HI.out.drew) ?_
          · intro z hz
            simp only [List.mem_cons, List.mem_nil_iff, or_false] at hz
            rcases hz with rfl | rfl <;> exact fun _ _ _ _ _ _ => trivial
          iterate 2
            refine WM.mono_pure rfl rfl ?_
            apply Exists.intro
            refine ⟨fun x => ?_, ?_⟩
            · go_simp
              rfl
            apply Exists.intro
            refine ⟨by simp only [Act.put, List.setIfInBounds_toArray, List.set_cons_succ, List.set_cons_zero]; rfl, ?_⟩
          refine WM.mono_pure rfl rfl ?_
          refine ⟨.pointer (some ⟨b, o + 0 * 2, none⟩), fun x => ?_, ?_⟩
          · go_simp
          apply Exists.intro
          refine ⟨by simp only [Act.put, List.setIfInBounds_toArray, List.set_cons_succ, List.set_cons_zero]; rfl, ?_⟩
          refine WM.mono_val rfl rfl (fun x hD hF => ?_) ?_
          · have hl := run_loadVar_arr (P := Try.prog) x b (o + 0 * 2) 35 (dotC d) _ (by rw [HD.out]; exact hD.l.at_j HLT.out) Try.underlying35 rfl size35
            rw [exec_load 35 (.tmp 12) rfl b (o + 0 * 2) rfl hl]
            exact ⟨Below.refl _ _, rfl, trivial⟩
          apply Exists.intro
          refine ⟨by simp only [Act.put, List.setIfInBounds_toArray, List.set_cons_succ, List.set_cons_zero]; rfl, ?_⟩
          refine WM.mono_val rfl rfl (fun x hD hF => ?_) ?_
          · go_simp
            refine (rightR_any d.1 d.2 x).mono ?_
            rintro e y ⟨rfl, hg⟩
            exact ⟨_, rfl, hg, by rw [HR.out]⟩
          apply Exists.intro
          refine ⟨by simp only [Act.put, List.setIfInBounds_toArray, List.set_cons_succ, List.set_cons_zero]; rfl, ?_⟩
          refine WM.mono_pure rfl rfl ?_
          refine ⟨.bool false, fun x => ?_, ?_⟩
          · go_simp
          apply Exists.intro
          refine ⟨by simp only [Act.put, List.setIfInBounds_toArray, List.set_cons_succ, List.set_cons_zero]; rfl, ?_⟩
          refine WM.mono_pure rfl rfl ?_
          refine ⟨.bool false, fun x => ?_, ?_⟩
          · go_simp
          apply Exists.intro
          refine ⟨by simp only [Act.put, List.setIfInBounds_toArray, List.set_cons_succ, List.set_cons_zero]; rfl, ?_⟩
          iterate 1
            refine WM.mono_pure rfl rfl ?_
            apply Exists.intro
            refine ⟨fun x => ?_, ?_⟩
            · go_simp
              rfl
            apply Exists.intro
            refine ⟨by simp only [Act.put, List.setIfInBounds_toArray, List.set_cons_succ, List.set_cons_zero]; rfl, ?_⟩
          refine WM.mono_pure rfl rfl ?_
          refine ⟨.bool false, fun x => ?_, ?_⟩
          · go_simp
          apply Exists.intro
          refine ⟨by simp only [Act.put, List.setIfInBounds_toArray, List.set_cons_succ, List.set_cons_zero]; rfl, ?_⟩
          refine WM.mono_pure rfl rfl ?_
          refine ⟨.bool false, fun x => ?_, ?_⟩
          · go_simp
          apply Exists.intro
          refine ⟨by simp only [Act.put, List.setIfInBounds_toArray, List.set_cons_succ, List.set_cons_zero]; rfl, ?_⟩
          refine WM.mono_skip rfl ?_
          apply Exists.intro
          refine ⟨by simp only [Act.put, List.setIfInBounds_toArray, List.set_cons_succ, List.set_cons_zero]; rfl, ?_⟩
          refine WM.mono_skip rfl ?_
          apply Exists.intro
          refine ⟨by simp only [Act.put, List.setIfInBounds_toArray, List.set_cons_succ, List.set_cons_zero]; rfl, ?_⟩
          refine WM.mono_skip rfl ?_
          apply Exists.intro
          refine ⟨by simp only [Act.put, List.setIfInBounds_toArray, List.set_cons_succ, List.set_cons_zero]; rfl, ?_⟩
          refine WM.mono_skip rfl ?_
          apply Exists.intro
          refine ⟨by simp only [Act.put, List.setIfInBounds_toArray, List.set_cons_succ, List.set_cons_zero]; rfl, ?_⟩
          refine WM.mono_skip rfl ?_
          apply Exists.intro
          refine ⟨by simp only [Act.put, List.setIfInBounds_toArray, List.set_cons_succ, List.set_cons_zero]; rfl, ?_⟩
          refine WM.mono_skip rfl ?_
          apply Exists.intro
          refine ⟨by simp only [Act.put, List.setIfInBounds_toArray, List.set_cons_succ, List.set_cons_zero]; rfl, ?_⟩
          refine WM.mono_skip rfl ?_
          apply Exists.intro
          refine ⟨by simp only [Act.put, List.setIfInBounds_toArray, List.set_cons_succ, List.set_cons_zero]; rfl, ?_⟩
          refine WM.mono_skip rfl ?_
          apply Exists.intro
          refine ⟨by simp only [Act.put, List.setIfInBounds_toArray, List.set_cons_succ, List.set_cons_zero]; rfl, ?_⟩
          refine WM.mono_skip rfl ?_
          apply Exists.intro
          refine ⟨by simp only [Act.put, List.setIfInBounds_toArray, List.set_cons_succ, List.set_cons_zero]; rfl, ?_⟩
          refine WM.mono_skip rfl ?_
          apply Exists.intro
          refine ⟨by simp only [Act.put, List.setIfInBounds_toArray, List.set_cons_succ, List.set_cons_zero]; rfl, ?_⟩
          refine WM.mono_skip rfl ?_
          apply Exists.intro
          refine ⟨by simp only [Act.put, List.setIfInBounds_toArray, List.set_cons_succ, List.set_cons_zero]; rfl, ?_⟩
          refine WM.mono_pure rfl rfl ?_
          refine ⟨.bool false, fun x => ?_, ?_⟩
          · go_simp
          apply Exists.intro
          refine ⟨by simp only [Act.put, List.setIfInBounds_toArray, List.set_cons_succ, List.set_cons_zero]; rfl, ?_⟩
          refine WM.mono_pure rfl rfl ?_
          refine ⟨.bool false, fun x => ?_, ?_⟩
          · go_simp
          apply Exists.intro
          refine ⟨by simp only [Act.put, List.setIfInBounds_toArray, List.set_cons_succ, List.set_cons_zero]; rfl, ?_⟩
          refine WM.mono_nil ?_
          intro x hD hF
          have HX := Lib.hid hD
          clear hD hF HI
          go_simp
          have HN2 : Hid (∀ i, i < 0 + 1 → dgood ls i = true) := Lib.hid (fun i hi => by
            by_cases e : i = 0
            · rw [e]; exact HG.out
            · exact HN.out i (by omega))
          go_wp2
          go_roundw
          case rel => exact ⟨0 + 1, by omega, by go_num, HN2, HX.out.l, HX.out.below⟩
          case measure => simp [intOf]; omega
        · obtain ⟨p, rfl⟩ : ∃ p, j = p + 1 := ⟨j - 1, by omega⟩
          clear h0 eJ
          obtain ⟨d0, hd0⟩ : ∃ d0, d0 = ls.getD p (0, 0) := ⟨_, rfl⟩
          have HD0 := Lib.hid hd0
          have HPL : Hid (p < ls.length) := Lib.hid (by omega)
          have hpi : (p : Int) < (ls.length : Int) := by omega
          have hpi1 : (p : Int) + 1 < (ls.length : Int) := by omega
          have hnn : ¬ (p : Int) + 1 < 0 := by omega
          have eW : IntKind.i64.wrap (p : Int) = (p : Int) := by have := HM.out; rw [IntKind.wrap_i64]; omega
          have eW2 : IntKind.i64.wrap ((p : Int) + 1 + 1) = (p : Int) + 1 + 1 := by have := HM.out; rw [IntKind.wrap_i64]; omega
          have hgt : (0 : Int) < (p : Int) + 1 := by omega
          have hgs := dgood_succ (ls := ls) (p := p) (by rw [← HD.out]; exact HR.out)
          rw [← HD.out, ← hd0] at hgs
          have HGS := Lib.hid hgs
          clear hd0 hgs
          cases hls : Vec.less d0.1 d0.2 d.1 d.2 with
          | true =>
            have HLS := Lib.hid hls
            have HG : Hid (dgood ls (p + 1) = true) := Lib.hid (by rw [HGS.out]; exact hls)
            clear hls
            refine WM.wp_region_kinds (fun _ x y => Below x.heap.size x y) (fun _ x => DL w (some ⟨b, o, none⟩) ls x) (fun x => DL w (some ⟨b, o, none⟩) ls x)
              [(3, .val (dotV d.1 d.2) fun _ => True), (4, .val (.bool true) fun _ => True), (14, .val (dotV d0.1 d0.2) fun _ => True), (18, .val (dotV d.1 d.2) fun _ => True), (19, .val (.bool true) fun _ => True)] (by kernel_rfl) (by kernel_rfl) (fun _ _ _ hb h => DL.then_ hb h) (fun _ _ _ _ _ hb h => DL.then_ hb h) ?_ HI.out.drew (fun _ => HI.out.drew) ?_
            · intro z hz
              simp only [List.mem_cons, List.mem_nil_iff, or_false] at hz
              rcases hz with rfl | rfl | rfl | rfl | rfl <;> exact fun _ _ _ _ _ _ => trivial
            iterate 2
              refine WM.mono_pure rfl rfl ?_
              apply Exists.intro
              refine ⟨fun x => ?_, ?_⟩
              · go_simp
                rfl
              apply Exists.intro
              refine ⟨by simp only [Act.put, List.setIfInBounds_toArray, List.set_cons_succ, List.set_cons_zero]; rfl, ?_⟩
            refine WM.mono_pure rfl rfl ?_
            refine ⟨.pointer (some ⟨b, o + (p + 1) * 2, none⟩), fun x => ?_, ?_⟩
            · go_simp
            apply Exists.intro
            refine ⟨by simp only [Act.put, List.setIfInBounds_toArray, List.set_cons_succ, List.set_cons_zero]; rfl, ?_⟩
            refine WM.mono_val rfl rfl (fun x hD hF => ?_) ?_
            · have hl := run_loadVar_arr (P := Try.prog) x b (o + (p + 1) * 2) 35 (dotC d) _ (by rw [HD.out]; exact hD.l.at_j HLT.out) Try.underlying35 rfl size35
              rw [exec_load 35 (.tmp 12) rfl b (o + (p + 1) * 2) rfl hl]
              exact ⟨Below.refl _ _, rfl, trivial⟩
            apply Exists.intro
            refine ⟨by simp only [Act.put, List.setIfInBounds_toArray, List.set_cons_succ, List.set_cons_zero]; rfl, ?_⟩
            refine WM.mono_val rfl rfl (fun x hD hF => ?_) ?_
            · go_simp
              refine (rightR_any d.1 d.2 x).mono ?_
              rintro e y ⟨rfl, hg⟩
              exact ⟨_, rfl, hg, by rw [HR.out]⟩
            apply Exists.intro
            refine ⟨by simp only [Act.put, List.setIfInBounds_toArray, List.set_cons_succ, List.set_cons_zero]; rfl, ?_⟩
            refine WM.mono_pure rfl rfl ?_
            refine ⟨.bool false, fun x => ?_, ?_⟩
            · go_simp
            apply Exists.intro
            refine ⟨by simp only [Act.put, List.setIfInBounds_toArray, List.set_cons_succ, List.set_cons_zero]; rfl, ?_⟩
            refine WM.mono_pure rfl rfl ?_
            refine ⟨.bool false, fun x => ?_, ?_⟩
            · go_simp
            apply Exists.intro
            refine ⟨by simp only [Act.put, List.setIfInBounds_toArray, List.set_cons_succ, List.set_cons_zero]; rfl, ?_⟩
            iterate 1
              refine WM.mono_pure rfl rfl ?_
              apply Exists.intro
              refine ⟨fun x => ?_, ?_⟩
              · go_simp
                rfl
              apply Exists.intro
              refine ⟨by simp only [Act.put, List.setIfInBounds_toArray, List.set_cons_succ, List.set_cons_zero]; rfl, ?_⟩
            refine WM.mono_pure rfl rfl ?_
            refine ⟨.bool true, fun x => ?_, ?_⟩
            · go_simp
            apply Exists.intro
            refine ⟨by simp only [Act.put, List.setIfInBounds_toArray, List.set_cons_succ, List.set_cons_zero]; rfl, ?_⟩
            refine WM.mono_pure rfl rfl ?_
            refine ⟨.bool true, fun x => ?_, ?_⟩
            · go_simp
            apply Exists.intro
            refine ⟨by simp only [Act.put, List.setIfInBounds_toArray, List.set_cons_succ, List.set_cons_zero]; rfl, ?_⟩
            iterate 2
              refine WM.mono_pure rfl rfl ?_
              apply Exists.intro
              refine ⟨fun x => ?_, ?_⟩
              · go_simp
                rfl
              apply Exists.intro
              refine ⟨by simp only [Act.put, List.setIfInBounds_toArray, List.set_cons_succ, List.set_cons_zero]; rfl, ?_⟩
            refine WM.mono_pure rfl rfl ?_
            refine ⟨.int .i64 (p : Int), fun x => ?_, ?_⟩
            · go_simp
            apply Exists.intro
            refine ⟨by simp only [Act.put, List.setIfInBounds_toArray, List.set_cons_succ, List.set_cons_zero]; rfl, ?_⟩
            refine WM.mono_pure rfl rfl ?_
            refine ⟨.pointer (some ⟨b, o + p * 2, none⟩), fun x => ?_, ?_⟩
            · go_simp
            apply Exists.intro
            refine ⟨by simp only [Act.put, List.setIfInBounds_toArray, List.set_cons_succ, List.set_cons_zero]; rfl, ?_⟩
            refine WM.mono_val rfl rfl (fun x hD hF => ?_) ?_
            · have hl := run_loadVar_arr (P := Try.prog) x b (o + p * 2) 35 (dotC d0) _ (by rw [HD0.out]; exact hD.l.at_j HPL.out) Try.underlying35 rfl size35
              rw [exec_load 35 (.tmp 23) rfl b (o + p * 2) rfl hl]
              exact ⟨Below.refl _ _, rfl, trivial⟩
            apply Exists.intro
            refine ⟨by simp only [Act.put, List.setIfInBounds_toArray, List.set_cons_succ, List.set_cons_zero]; rfl, ?_⟩
            iterate 2
              refine WM.mono_pure rfl rfl ?_
              apply Exists.intro
              refine ⟨fun x => ?_, ?_⟩
              · go_simp
                rfl
              apply Exists.intro
              refine ⟨by simp only [Act.put, List.setIfInBounds_toArray, List.set_cons_succ, List.set_cons_zero]; rfl, ?_⟩
            refine WM.mono_pure rfl rfl ?_
            refine ⟨.pointer (some ⟨b, o + (p + 1) * 2, none⟩), fun x => ?_, ?_⟩
            · go_simp
            apply Exists.intro
            refine ⟨by simp only [Act.put, List.setIfInBounds_toArray, List.set_cons_succ, List.set_cons_zero]; rfl, ?_⟩
            refine WM.mono_val rfl rfl (fun x hD hF => ?_) ?_
            · have hl := run_loadVar_arr (P := Try.prog) x b (o + (p + 1) * 2) 35 (dotC d) _ (by rw [HD.out]; exact hD.l.at_j HLT.out) Try.underlying35 rfl size35
              rw [exec_load 35 (.tmp 27) rfl b (o + (p + 1) * 2) rfl hl]
              exact ⟨Below.refl _ _, rfl, trivial⟩
            apply Exists.intro
            refine ⟨by simp only [Act.put, List.setIfInBounds_toArray, List.set_cons_succ, List.set_cons_zero]; rfl, ?_⟩
            refine WM.mono_val rfl rfl (fun x hD hF => ?_) ?_
            · go_simp
              refine (lessR_any d0.1 d0.2 d.1 d.2 x).mono ?_
              rintro e y ⟨rfl, hg⟩
              exact ⟨_, rfl, hg, by rw [HLS.out]⟩
            apply Exists.intro
            refine ⟨by simp only [Act.put, List.setIfInBounds_toArray, List.set_cons_succ, List.set_cons_zero]; rfl, ?_⟩
            refine WM.mono_pure rfl rfl ?_
            refine ⟨.bool false, fun x => ?_, ?_⟩
            · go_simp
            apply Exists.intro
            refine ⟨by simp only [Act.put, List.setIfInBounds_toArray, List.set_cons_succ, List.set_cons_zero]; rfl, ?_⟩
            refine WM.mono_pure rfl rfl ?_
            refine ⟨.bool false, fun x => ?_, ?_⟩
            · go_simp
            apply Exists.intro
            refine ⟨by simp only [Act.put, List.setIfInBounds_toArray, List.set_cons_succ, List.set_cons_zero]; rfl, ?_⟩
            refine WM.mono_pure rfl rfl ?_
            refine ⟨.bool false, fun x => ?_, ?_⟩
            · go_simp
            apply Exists.intro
            refine ⟨by simp only [Act.put, List.setIfInBounds_toArray, List.set_cons_succ, List.set_cons_zero]; rfl, ?_⟩
            refine WM.mono_nil ?_
            intro x hD hF
            have HX := Lib.hid hD
            clear hD hF HI
            go_simp
            have HN2 : Hid (∀ i, i < (p + 1) + 1 → dgood ls i = true) := Lib.hid (fun i hi => by
              by_cases e : i = (p + 1)
              · rw [e]; exact HG.out
              · exact HN.out i (by omega))
            go_wp2
            go_roundw
            all_goals clear eW eW2
            case rel => exact ⟨(p + 1) + 1, by omega, by go_num, HN2, HX.out.l, HX.out.below⟩
            case measure => simp [intOf]; omega
          | false =>
            have HLS := Lib.hid hls
            have HG : Hid (dgood ls (p + 1) = false) := Lib.hid (by rw [HGS.out]; exact hls)
            clear hls
            refine WM.wp_region_kinds (fun _ x y => Below x.heap.size x y) (fun _ x => DL w (some ⟨b, o, none⟩) ls x) (fun x => DL w (some ⟨b, o, none⟩) ls x)
              [(3, .val (dotV d.1 d.2) fun _ => True), (4, .val (.bool true) fun _ => True), (14, .val (dotV d0.1 d0.2) fun _ => True), (18, .val (dotV d.1 d.2) fun _ => True), (19, .val (.bool false) fun _ => True)] (by kernel_rfl) (by kernel_rfl) (fun _ _ _ hb h => DL.then_ hb h) (fun _ _ _ _ _ hb h => DL.then_ hb h) ?_ HI.out.drew (fun _ => HI.out.drew) ?_
            · intro z hz
              simp only [List.mem_cons, List.mem_nil_iff, or_false] at hz
              rcases hz with rfl | rfl | rfl | rfl | rfl <;> exact fun _ _ _ _ _ _ => trivial
            iterate 2
              refine WM.mono_pure rfl rfl ?_
              apply Exists.intro
              refine ⟨fun x => ?_, ?_⟩
              · go_simp
                rfl
              apply Exists.intro
              refine ⟨by simp only [Act.put, List.setIfInBounds_toArray, List.set_cons_succ, List.set_cons_zero]; rfl, ?_⟩
            refine WM.mono_pure rfl rfl ?_
            refine ⟨.pointer (some ⟨b, o + (p + 1) * 2, none⟩), fun x => ?_, ?_⟩
            · go_simp
            apply Exists.intro
            refine ⟨by simp only [Act.put, List.setIfInBounds_toArray, List.set_cons_succ, List.set_cons_zero]; rfl, ?_⟩
            refine WM.mono_val rfl rfl (fun x hD hF => ?_) ?_
            · have hl := run_loadVar_arr (P := Try.prog) x b (o + (p + 1) * 2) 35 (dotC d) _ (by rw [HD.out]; exact hD.l.at_j HLT.out) Try.underlying35 rfl size35
              rw [exec_load 35 (.tmp 12) rfl b (o + (p + 1) * 2) rfl hl]
              exact ⟨Below.refl _ _, rfl, trivial⟩
            apply Exists.intro
            refine ⟨by simp only [Act.put, List.setIfInBounds_toArray, List.set_cons_succ, List.set_cons_zero]; rfl, ?_⟩
            refine WM.mono_val rfl rfl (fun x hD hF => ?_) ?_
            · go_simp
              refine (rightR_any d.1 d.2 x).mono ?_
              rintro e y ⟨rfl, hg⟩
              exact ⟨_, rfl, hg, by rw [HR.out]⟩
            apply Exists.intro
            refine ⟨by simp only [Act.put, List.setIfInBounds_toArray, List.set_cons_succ, List.set_cons_zero]; rfl, ?_⟩
            refine WM.mono_pure rfl rfl ?_
            refine ⟨.bool false, fun x => ?_, ?_⟩
            · go_simp
            apply Exists.intro
            refine ⟨by simp only [Act.put, List.setIfInBounds_toArray, List.set_cons_succ, List.set_cons_zero]; rfl, ?_⟩
            refine WM.mono_pure rfl rfl ?_
            refine ⟨.bool false, fun x => ?_, ?_⟩
            · go_simp
            apply Exists.intro
            refine ⟨by simp only [Act.put, List.setIfInBounds_toArray, List.set_cons_succ, List.set_cons_zero]; rfl, ?_⟩
            iterate 1
              refine WM.mono_pure rfl rfl ?_
              apply Exists.intro
              refine ⟨fun x => ?_, ?_⟩
              · go_simp
                rfl
              apply Exists.intro
              refine ⟨by simp only [Act.put, List.setIfInBounds_toArray, List.set_cons_succ, List.set_cons_zero]; rfl, ?_⟩
            refine WM.mono_pure rfl rfl ?_
            refine ⟨.bool true, fun x => ?_, ?_⟩
            · go_simp
            apply Exists.intro
            refine ⟨by simp only [Act.put, List.setIfInBounds_toArray, List.set_cons_succ, List.set_cons_zero]; rfl, ?_⟩
            refine WM.mono_pure rfl rfl ?_
            refine ⟨.bool true, fun x => ?_, ?_⟩
            · go_simp
            apply Exists.intro
            refine ⟨by simp only [Act.put, List.setIfInBounds_toArray, List.set_cons_succ, List.set_cons_zero]; rfl, ?_⟩
            iterate 2
              refine WM.mono_pure rfl rfl ?_
              apply Exists.intro
              refine ⟨fun x => ?_, ?_⟩
              · go_simp
                rfl
              apply Exists.intro
              refine ⟨by simp only [Act.put, List.setIfInBounds_toArray, List.set_cons_succ, List.set_cons_zero]; rfl, ?_⟩
            refine WM.mono_pure rfl rfl ?_
            refine ⟨.int .i64 (p : Int), fun x => ?_, ?_⟩
            · go_simp
            apply Exists.intro
            refine ⟨by simp only [Act.put, List.setIfInBounds_toArray, List.set_cons_succ, List.set_cons_zero]; rfl, ?_⟩
            refine WM.mono_pure rfl rfl ?_
            refine ⟨.pointer (some ⟨b, o + p * 2, none⟩), fun x => ?_, ?_⟩
            · go_simp
            apply Exists.intro
            refine ⟨by simp only [Act.put, List.setIfInBounds_toArray, List.set_cons_succ, List.set_cons_zero]; rfl, ?_⟩
            refine WM.mono_val rfl rfl (fun x hD hF => ?_) ?_
            · have hl := run_loadVar_arr (P := Try.prog) x b (o + p * 2) 35 (dotC d0) _ (by rw [HD0.out]; exact hD.l.at_j HPL.out) Try.underlying35 rfl size35
              rw [exec_load 35 (.tmp 23) rfl b (o + p * 2) rfl hl]
              exact ⟨Below.refl _ _, rfl, trivial⟩
            apply Exists.intro
            refine ⟨by simp only [Act.put, List.setIfInBounds_toArray, List.set_cons_succ, List.set_cons_zero]; rfl, ?_⟩
            iterate 2
              refine WM.mono_pure rfl rfl ?_
              apply Exists.intro
              refine ⟨fun x => ?_, ?_⟩
              · go_simp
                rfl
              apply Exists.intro
              refine ⟨by simp only [Act.put, List.setIfInBounds_toArray, List.set_cons_succ, List.set_cons_zero]; rfl, ?_⟩
            refine WM.mono_pure rfl rfl ?_
            refine ⟨.pointer (some ⟨b, o + (p + 1) * 2, none⟩), fun x => ?_, ?_⟩
            · go_simp
            apply Exists.intro
            refine ⟨by simp only [Act.put, List.setIfInBounds_toArray, List.set_cons_succ, List.set_cons_zero]; rfl, ?_⟩
            refine WM.mono_val rfl rfl (fun x hD hF => ?_) ?_
            · have hl := run_loadVar_arr (P := Try.prog) x b (o + (p + 1) * 2) 35 (dotC d) _ (by rw [HD.out]; exact hD.l.at_j HLT.out) Try.underlying35 rfl size35
              rw [exec_load 35 (.tmp 27) rfl b (o + (p + 1) * 2) rfl hl]
              exact ⟨Below.refl _ _, rfl, trivial⟩
            apply Exists.intro
            refine ⟨by simp only [Act.put, List.setIfInBounds_toArray, List.set_cons_succ, List.set_cons_zero]; rfl, ?_⟩
            refine WM.mono_val rfl rfl (fun x hD hF => ?_) ?_
            · go_simp
              refine (lessR_any d0.1 d0.2 d.1 d.2 x).mono ?_
              rintro e y ⟨rfl, hg⟩
              exact ⟨_, rfl, hg, by rw [HLS.out]⟩
            apply Exists.intro
            refine ⟨by simp only [Act.put, List.setIfInBounds_toArray, List.set_cons_succ, List.set_cons_zero]; rfl, ?_⟩
            refine WM.mono_pure rfl rfl ?_
            refine ⟨.bool true, fun x => ?_, ?_⟩
            · go_simp
            apply Exists.intro
            refine ⟨by simp only [Act.put, List.setIfInBounds_toArray, List.set_cons_succ, List.set_cons_zero]; rfl, ?_⟩
            refine WM.mono_pure rfl rfl ?_
            refine ⟨.bool true, fun x => ?_, ?_⟩
            · go_simp
            apply Exists.intro
            refine ⟨by simp only [Act.put, List.setIfInBounds_toArray, List.set_cons_succ, List.set_cons_zero]; rfl, ?_⟩
            refine WM.mono_pure rfl rfl ?_
            refine ⟨.bool true, fun x => ?_, ?_⟩
            · go_simp
            apply Exists.intro
            refine ⟨by simp only [Act.put, List.setIfInBounds_toArray, List.set_cons_succ, List.set_cons_zero]; rfl, ?_⟩
            refine WM.mono_nil ?_
            intro x hD hF
            have HX := Lib.hid hD
            clear hD hF HI
            go_simp
            go_wp2
            go_ret
            exact ⟨ret_bool (isSet_bad HLT.out HG.out).symm, HX.out.below⟩
    · obtain rfl : j = ls.length := by omega
      by_cases hb : ls.length ≤ 2000
      · have HE : Hid (isSet ls = true) := Lib.hid ((isSet_iff ls).2 ⟨hb, HN.out⟩)
        have hbi : (ls.length : Int) ≤ 2000 := by omega
        clear hb
        go_wp2
        go_ret
        exact ⟨ret_bool HE.out.symm, HB.out⟩
      · have HE : Hid (isSet ls = false) := Lib.hid (by
          rw [Bool.eq_false_iff]
          intro h
          exact hb ((isSet_iff ls).1 h).1)
        have hbi : ¬ (ls.length : Int) ≤ 2000 := by omega
        clear hb
        go_wp2
        go_ret
        exact ⟨ret_bool HE.out.symm, HB.out⟩
end Go.Proofs.Ytnpacjdgbmldlaa

/- Dots that are the call's own; the law's As. -/
namespace Go.Proofs.Ytnpacjdgbmldlaa
open Go.RowKit
def dcells (d : Dt) : List Value := [.int .i64 d.1, .int .u64 (d.2 : Int)]
def dots2 (ls : List Dt) : List Value := ls.flatMap dcells
theorem dots2_append (xs ys : List Dt) : dots2 (xs ++ ys) = dots2 xs ++ dots2 ys := by simp [dots2]
theorem dots2_one (d : Dt) : dots2 [d] = dcells d := by simp [dots2]
theorem dots2_len : ∀ ls : List Dt, (dots2 ls).length = ls.length * 2
  | [] => rfl
  | d :: ls => by
    have h := dots2_len ls
    rw [show d :: ls = [d] ++ ls from rfl, dots2_append, List.length_append, dots2_one, h, List.length_append]
    simp [dcells]
    omega
theorem dots2_get : ∀ (ls : List Dt) (j : Nat), j < ls.length → (dots2 ls)[j * 2]? = some (.int .i64 (ls.getD j (0, 0)).1) ∧ (dots2 ls)[j * 2 + 1]? = some (.int .u64 ((ls.getD j (0, 0)).2 : Int))
  | [], _, h => by cases h
  | d :: ls, 0, _ => by simp [dots2, dcells]
  | d :: ls, j + 1, h => by
    have k := dots2_get ls j (by simpa using h)
    have e : dots2 (d :: ls) = dcells d ++ dots2 ls := by rw [show d :: ls = [d] ++ ls from rfl, dots2_append, dots2_one]
    rw [e, show (j + 1) * 2 = j * 2 + 2 by omega, show j * 2 + 2 + 1 = j * 2 + 1 + 2 by omega]
    simpa [dcells] using k
theorem own_dots {w : World} {base t : Nat} {v : Value} {n : Nat} {ls : List Dt} (h : w.ownsRow base t 2 v n (dots2 ls)) : ∃ A c, v = .slice A ls.length c ∧ Dots w (fun b => base ≤ b ∧ b < w.heap.size) A ls ∧ ls.length ≤ c ∧ (A = none → c = 0) := by
  have hl := h.1
  rw [dots2_len] at hl
  have hn : n = ls.length := by omega
  subst hn
  rcases h.2 with ⟨hv, h0⟩ | ⟨g, cap, cur, hv, hg, hr, hle, _, _, ht⟩
  · exact ⟨none, 0, by rw [hv, h0], ⟨fun hp => by omega⟩, by omega, fun _ => rfl⟩
  · refine ⟨some ⟨g, 0, none⟩, cap, hv, ⟨fun hp => ⟨g, 0, rfl, ⟨hg, lt_of_row hr⟩, fun j hj i v hi => ?_⟩⟩, hle, fun e => by cases e⟩
    have hi2 : i < 2 := by
      have := (Array.getElem?_eq_some_iff.1 hi).1
      simpa using this
    rw [Nat.zero_add, cell_of_row _ _ _ _ _ _ hr]
    have h2 : ∀ k, k < ls.length * 2 → cur[k]? = (dots2 ls)[k]? := fun k hk => by
      have h3 : (cur.toList.take (ls.length * 2))[k]? = (dots2 ls)[k]? := by rw [ht]
      rw [List.getElem?_take, if_pos hk] at h3
      rw [← Array.getElem?_toList, h3]
    rw [h2 _ (by omega)]
    have hd := dots2_get ls j hj
    rcases (show i = 0 ∨ i = 1 by omega) with rfl | rfl
    · rw [Nat.add_zero, hd.1]; exact hi
    · rw [hd.2]; exact hi
theorem own_keep {a b : World} {base s : Nat} {e : TypeId} {v : Value} {n : Nat} {l : List Value} (h : a.ownsRow base e s v n l) (hk : ∀ k, base ≤ k → k < a.heap.size → b.heap[k]? = a.heap[k]?) : b.ownsRow base e s v n l := by
  refine ⟨h.1, ?_⟩
  rcases h.2 with h0 | ⟨g, cap, cur, hv, hb, hg, hr⟩
  · exact .inl h0
  · exact .inr ⟨g, cap, cur, hv, hb, (hk g hb (lt_of_row hg)).trans hg, hr⟩
theorem wpList_append_dot {P : Program} {w : World} {ops : Array Oper} {rest : List Oper} {o : Oper} {a : Act} {Q : Exit → Act → World → Prop} (hgd : o.guard = none) (s x : Operand) (t : TypeId)
    (ho : o.op = .call { callee := .builtin .append, args := #[s, x], argTypes := #[t, t] }) (base : Nat) (e : TypeId) (z : Value) (bytes : Nat) (ht : P.underlying t = some (.slice e))
    (hinfo : (P.info? e).map (fun i => (i.zero, i.size, i.bytes)) = some (some z, 2, bytes)) (hzs : z.cells.size = 2)
    (v : Value) (n : Nat) (xs : List Value) (hs : a.eval s = v) (hown : w.ownsRow base e 2 v n xs) (d : Dt) (te : TypeId)
    (hx : a.eval x = .slice (some ⟨w.heap.size, 0, none⟩) 1 1) (h63 : n + 1 ≤ maxLen) (hbytes : (n + 1) * bytes ≤ 140737488355328) (hbase : base ≤ w.heap.size)
    (h : ∀ v' w', Hid (w'.ownsRow base e 2 v' (n + 1) (xs ++ dcells d)) → Hid (Below base w w') → wpList P ops Q rest (a.put o.dst v') w') : wpList P ops Q (o :: rest) a (w.alloc (.cells (dotC d) te)) := by
  obtain ⟨i, hi, hz, hsz, hby⟩ := info_parts hinfo
  refine wpList_append_own _ hgd s x t ho base e i z 2 bytes ht hi hz hsz hby hzs (by decide) v n xs hs (hown.alloc _) ⟨w.heap.size, 0, none⟩ 1 1 (dcells d) hx rfl (fun j u hu => ?_) (fun y hy => ?_) h63 hbytes (by rw [World.size_alloc]; omega) ?_
  · rw [Addr.add_mid, Nat.zero_add, cell_of_row _ _ _ _ _ _ (heap_alloc_new _ _)]
    match j, hu with
    | 0, hu => exact hu
    | 1, hu => exact hu
  · simp only [dcells, List.mem_cons, List.mem_nil_iff, or_false] at hy
    rcases hy with rfl | rfl <;> rfl
  · intro v' w' hown' hg _
    refine h v' w' hown' ((Below.alloc (Below.refl base w) hbase _).grown hg (by rw [World.size_alloc]; omega) fun k hk => ?_)
    exact ((hown.alloc (.cells (dotC d) te)).lt k hk).1
theorem info35 : (Try.prog.info? 35).map (fun i => (i.zero, i.size, i.bytes)) = some (some (.agg #[.int .i64 0, .int .u64 0]), 2, 16) := by kernel_rfl
theorem info25 : (Try.prog.info? 25).map (fun i => (i.zero, i.size, i.bytes)) = some (some (.agg #[.int .i64 0, .int .u64 0]), 2, 16) := by kernel_rfl

set_option maxRecDepth 100000 in
set_option maxHeartbeats 4000000 in
theorem lawAs_any (ls : List Dt) (c : Nat) (A : Option Addr) (w : World) (hv : Dots w (· < w.heap.size) A ls) (hm : ls.length ≤ 100000) :
    Calls Try.prog 19 #[.slice A ls.length c] w fun e w' => ∃ v, e = .returned v ∧ w'.ownsRow w.heap.size 35 2 v ls.length (dots2 ls) ∧ Below w.heap.size w w' := by
  have HV := Lib.hid hv
  have HM := Lib.hid hm
  clear hv hm
  go_enter Try.func19, Try.ntmps19
  go_wp2
  go_loopw [3, 4] (fun u v wr => ∃ j : Nat, j ≤ ls.length ∧ v = .int .i64 j ∧ Hid (wr.ownsRow w.heap.size 35 2 u j (dots2 (ls.take j))) ∧ Hid (Dots wr (· < w.heap.size) A ls) ∧ Hid (Below w.heap.size w wr)) (fun _ v _ => ls.length - (intOf v).toNat)
  case atStart => exact ⟨0, by omega, rfl, World.ownsRow_nil _ _ _ _, HV, Below.refl _ _⟩
  case round =>
    clear HV
    obtain ⟨j, hj, rfl, HO, HV, HB⟩ := hrel
    by_cases hlt : j < ls.length
    · obtain ⟨b, o, hA⟩ := HV.out.some_ (by omega)
      subst hA
      obtain ⟨d, hd⟩ : ∃ d, d = ls.getD j (0, 0) := ⟨_, rfl⟩
      have hr : Hid (rangeA wr b (o + j * 2) (dotC d)) := Lib.hid (by rw [hd]; exact HV.out.at_j hlt)
      have s25 := Lib.hid (dot_size25 d)
      have HT : Hid (dots2 (ls.take (j + 1)) = dots2 (ls.take j) ++ dcells d) := Lib.hid (by
        rw [List.take_add_one, List.getElem?_eq_getElem hlt, dots2_append, Option.toList_some, dots2_one, hd, List.getD_eq_getElem?_getD, List.getElem?_eq_getElem hlt]
        rfl)
      have eJ : IntKind.i64.wrap ((j : Int) + 1) = (j : Int) + 1 := by have := HM.out; rw [IntKind.wrap_i64]; omega
      clear hd
      go_wp2_with (refine wpList_load_arr rfl 25 _ rfl b (o + j * 2) rfl (dotC d) _ hr.out Try.underlying25 rfl s25.out ?_)
      refine (as_any d.1 d.2 wr).mono ?_
      rintro e w2 ⟨rfl, hb⟩
      have HO2 := Lib.hid (own_keep HO.out fun k _ hk => hb.block k hk)
      have HV2 := Lib.hid (HV.out.below (hb.mono HB.out.size))
      have HB2 := Lib.hid (HB.out.trans (hb.mono HB.out.size))
      have S0 := Lib.hid HB2.out.size
      clear hb HO HV HB hr
      go_wp2_with (refine wpList_append_dot rfl (.tmp 11) (.tmp 17) 30 rfl w.heap.size 35 (.agg #[.int .i64 0, .int .u64 0]) 16 Try.underlying30 info35 rfl _ j _ rfl HO2.out d 35 rfl (by have := HM.out; unfold maxLen; omega) (by have := HM.out; omega) S0.out ?_; intro v1 w3 H1 B1)
      go_roundw
      all_goals clear eJ
      case rel =>
        refine ⟨j + 1, by omega, by go_num, ?_, Lib.hid (HV2.out.below B1.out), Lib.hid (HB2.out.trans B1.out)⟩
        rw [HT.out]
        exact H1
      case measure => simp [intOf]; omega
    · obtain rfl : j = ls.length := by omega
      rw [List.take_length] at HO
      go_wp2
      go_ret
      exact ⟨_, rfl, HO.out, HB.out⟩
end Go.Proofs.Ytnpacjdgbmldlaa

/- Loads and builds where the operation is guarded. -/
namespace Go.Proofs.Ytnpacjdgbmldlaa
open Go.RowKit
theorem wpList_built {P : Program} {ops : Array Oper} {rest : List Oper} {o : Oper} {a : Act} {w : World} {Q : Exit → Act → World → Prop} (hg : o.guard = none) (t : TypeId) (parts : Array (Nat × Operand)) (ho : o.op = .build t parts)
    (vals : List (Nat × Value)) (hv : parts.toList.map (fun (i, x) => (i, a.eval x)) = vals) (R : Array Value) (hR : P.built t vals = some R)
    (h : wpList P ops Q rest (a.put o.dst (.agg R)) w) : wpList P ops Q (o :: rest) a w := by
  have e : (parts.map fun (i, x) => (i, a.eval x)).toList = vals := by rw [Array.toList_map]; exact hv
  refine wpList_build hg t parts ho (by rw [e, hR]; rfl) ?_
  rw [e, hR]
  exact h
theorem wpList_wanted {P : Program} {ops : Array Oper} {rest : List Oper} {o : Oper} {a : Act} {w : World} {Q : Exit → Act → World → Prop} (hw : Region.wanted o (yielded ops a.tmps) = true)
    (h : ∀ K : Act → World → Prop, (∀ a w, wpList P ops Q rest a w → K a w) → o.wp P a w K Q) : wpList P ops Q (o :: rest) a w :=
  wpList_step fun K hK => by rw [if_pos hw]; exact h K hK
theorem wpList_load_w {P : Program} {ops : Array Oper} {rest : List Oper} {o : Oper} {a : Act} {w : World} {Q : Exit → Act → World → Prop} (ty : TypeId) (x : Operand) (ho : o.op = .load ty x) (hgd : Region.wanted o (yielded ops a.tmps) = true)
    (g : Nat) (hx : a.eval x = .pointer (some ⟨g, 0, none⟩)) (t : TypeId) (cs : Array Value) (fr : Nat × Nat) (d : TypeDesc) (hg : w.heap[g]? = some (.cells cs t fr))
    (hu : P.underlying ty = some d) (hd : (match d with | .struct _ | .array _ _ => true | _ => false) = true) (hi : (P.info? ty).map (·.size) = some cs.size)
    (h : wpList P ops Q rest (a.put o.dst (.agg cs)) w) : wpList P ops Q (o :: rest) a w :=
  wpList_wanted hgd fun _ hK => wp_load_row ty x ho g hx t cs fr d hg hu hd hi (hK _ _ h)
theorem wpList_built_w {P : Program} {ops : Array Oper} {rest : List Oper} {o : Oper} {a : Act} {w : World} {Q : Exit → Act → World → Prop} (t : TypeId) (parts : Array (Nat × Operand)) (ho : o.op = .build t parts) (hw : Region.wanted o (yielded ops a.tmps) = true)
    (vals : List (Nat × Value)) (hv : parts.toList.map (fun (i, x) => (i, a.eval x)) = vals) (R : Array Value) (hR : P.built t vals = some R)
    (h : wpList P ops Q rest (a.put o.dst (.agg R)) w) : wpList P ops Q (o :: rest) a w := by
  have e : (parts.map fun (i, x) => (i, a.eval x)).toList = vals := by rw [Array.toList_map]; exact hv
  refine wpList_wanted hw fun _ hK => wp_build t parts ho (by rw [e, hR]; rfl) ?_
  rw [e, hR]
  exact hK _ _ h
end Go.Proofs.Ytnpacjdgbmldlaa

/- The reference's Whole. -/
namespace Go.Proofs.Ytnpacjdgbmldlaa
open Go.RowKit
def prevOk (ls : List Dt) (d : Dt) : Prop := d.2 = 1 ∨ (d.1, d.2 - 1) ∈ ls
instance (ls : List Dt) (d : Dt) : Decidable (prevOk ls d) := by unfold prevOk; exact inferInstance
/-- Is it a set, of which each dot's predecessor is in it, too? -/
def isWhole (ls : List Dt) : Bool := isSet ls && ls.all fun d => decide (prevOk ls d)
theorem isWhole_iff (ls : List Dt) : isWhole ls = true ↔ isSet ls = true ∧ ∀ d ∈ ls, prevOk ls d := by simp only [isWhole, Bool.and_eq_true, List.all_eq_true, decide_eq_true_eq]
theorem isWhole_not {ls : List Dt} (h : isSet ls = false) : isWhole ls = false := by unfold isWhole; rw [h]; rfl
theorem isWhole_bad {ls : List Dt} {d : Dt} (hd : d ∈ ls) (h : ¬ prevOk ls d) : isWhole ls = false := by
  rw [Bool.eq_false_iff]
  exact fun e => h (((isWhole_iff ls).1 e).2 d hd)
theorem getD_mem {ls : List Dt} {j : Nat} (h : j < ls.length) : ls.getD j (0, 0) ∈ ls := by
  rw [List.getD_eq_getElem?_getD, List.getElem?_eq_getElem h]
  exact List.getElem_mem h
theorem set_pos {ls : List Dt} (h : isSet ls = true) {j : Nat} (hj : j < ls.length) : 1 ≤ (ls.getD j (0, 0)).2 := by
  have h1 := ((isSet_iff ls).1 h).2 j hj
  unfold dgood at h1
  simp only [Bool.and_eq_true] at h1
  have h2 := h1.1
  simp only [Vec.right, decide_eq_true_eq] at h2
  exact h2.2.2
theorem setCell_dot {x : World} {b t : Nat} {n : Int} {k : Nat} (h : DotAt x b t n k) (v : Nat) : DotAt (x.setCell ⟨b, 1, none⟩ (.int .u64 (v : Int))) b t n v := by
  unfold DotAt at *
  simp [World.setCell, Array.getElem?_modify, h]
theorem DotAt.frozen {w : World} {b : Nat} {t : TypeId} {n : Int} {k : Nat} (h : DotAt w b t n k) (j : Nat) : w.frozen? ⟨b, j, none⟩ = false := by
  unfold DotAt at h
  simp [World.frozen?, h]

set_option maxRecDepth 100000 in
set_option maxHeartbeats 4000000 in
theorem dwholeR_any (ls : List Dt) (c : Nat) (A : Option Addr) (w : World) (hv : Dots w (· < w.heap.size) A ls) (hm : ls.length ≤ 9223372036854775806) (hk : ∀ d ∈ ls, d.2 < 18446744073709551616) :
    Calls Try.prog 23 #[.slice A ls.length c] w fun e w' => e = .returned (.bool (isWhole ls)) ∧ Below w.heap.size w w' := by
  have HV := Lib.hid hv
  have HM := Lib.hid hm
  have HK := Lib.hid hk
  have HC := Lib.hid (drightR_any ls c A w hv hm)
  clear hv hm hk
  cases hs : isSet ls with
  | false =>
    have HE := Lib.hid (isWhole_not hs)
    have HS := Lib.hid hs
    clear hs
    go_enter Try.func23, Try.ntmps23
    go_wp2_with fail
    refine HC.out.mono ?_
    rintro e w1 ⟨rfl, hb⟩
    rw [HS.out]
    have HB := Lib.hid hb
    clear hb
    go_wp2
    go_ret
    exact ⟨ret_bool HE.out.symm, HB.out⟩
  | true =>
    have HS := Lib.hid hs
    clear hs
    go_enter Try.func23, Try.ntmps23
    go_wp2_with fail
    refine HC.out.mono ?_
    rintro e w1 ⟨rfl, hb⟩
    rw [HS.out]
    have HB := Lib.hid hb
    have HV1 := Lib.hid (HV.out.below hb)
    clear hb HC HV
    go_wp2
    go_loopw [3] (fun v wr => ∃ j : Nat, j ≤ ls.length ∧ v = .int .i64 j ∧ Hid (∀ i, i < j → prevOk ls (ls.getD i (0, 0))) ∧ Hid (Dots wr (· < w.heap.size) A ls) ∧ Hid (Below w.heap.size w wr)) (fun v _ => ls.length - (intOf v).toNat)
    case atStart => exact ⟨0, by omega, rfl, fun i hi => by omega, HV1, HB⟩
    case round =>
      clear HV1 HB
      obtain ⟨j, hj, rfl, HN, HV, HB⟩ := hrel
      by_cases hlt : j < ls.length
      · obtain ⟨b, off, hA⟩ := HV.out.some_ (by omega)
        subst hA
        obtain ⟨d, hd⟩ : ∃ d, d = ls.getD j (0, 0) := ⟨_, rfl⟩
        have HD := Lib.hid hd
        have hr : Hid (rangeA wr b (off + j * 2) (dotC d)) := Lib.hid (by rw [hd]; exact HV.out.at_j hlt)
        have hpos : 1 ≤ d.2 := by rw [hd]; exact set_pos HS.out hlt
        have hlim : d.2 < 18446744073709551616 := by rw [hd]; exact HK.out _ (getD_mem hlt)
        have HMEM : Hid (d ∈ ls) := Lib.hid (by rw [hd]; exact getD_mem hlt)
        obtain ⟨n, k⟩ := d
        obtain ⟨m, rfl⟩ : ∃ m, k = m + 1 := ⟨k - 1, by have := hpos; simp only at this; omega⟩
        have HVB : Hid (∀ o : Obj, Dots (wr.alloc o) (· < w.heap.size) (some ⟨b, off, none⟩) ls ∧ Below w.heap.size w (wr.alloc o)) := Lib.hid (fun o => ⟨HV.out.below ((below1 wr o).mono HB.out.size), HB.out.trans ((below1 wr o).mono HB.out.size)⟩)
        have hN := Lib.hid (heap_alloc_new wr (.cells #[.int .i64 0, .int .u64 0] 35))
        have s35 := Lib.hid (dot_size35 (n, m + 1))
        have o2 : Hid ((dotC (n, m + 1)).all (·.oneCell') = true) := two_one _ _ rfl rfl
        have z2 : Hid ((#[.int .i64 0, .int .u64 0] : Array Value).size = (dotC (n, m + 1)).size) := rfl
        have eM : IntKind.u64.wrap (m : Int) = (m : Int) := by rw [IntKind.wrap_u64]; have := hlim; simp only at this; omega
        have eJ : IntKind.i64.wrap ((j : Int) + 1) = (j : Int) + 1 := by have := HM.out; rw [IntKind.wrap_i64]; omega
        have next : prevOk ls (n, m + 1) → Hid (∀ i, i < j + 1 → prevOk ls (ls.getD i (0, 0))) := fun h => Lib.hid (fun i hi => by
          by_cases e : i = j
          · rw [e, ← HD.out]; exact h
          · exact HN.out i (by omega))
        have NX := Lib.hid next
        have HSZ := Lib.hid HB.out.size
        clear hd hpos hlim HV HB next
        by_cases hm0 : m = 0
        · subst hm0
          have HN2 := NX.out (.inl rfl)
          clear eM
          go_wp2_with (first
            | (refine wpList_load_arr rfl 35 _ rfl b (off + j * 2) rfl (dotC (n, 0 + 1)) _ hr.out Try.underlying35 rfl s35.out ?_)
            | (refine wpList_store_row rfl 35 _ _ rfl wr.heap.size (dotC (n, 0 + 1)) rfl rfl 35 _ hN.out s35.out z2.out o2.out ?_; rw [World.setRow_alloc_new]))
          go_roundw
          all_goals clear eJ
          case rel => exact ⟨j + 1, by omega, by go_num, HN2, Lib.hid (HVB.out _).1, Lib.hid (HVB.out _).2⟩
          case measure => simp [intOf]; omega
        · have hmi : (0 : Int) < (m : Int) := by omega
          have HROW : Hid ((wr.alloc (.cells (dotC (n, m)) 35)).heap[wr.heap.size]? = some (.cells (dotC (n, m)) 35 (0, 0))) := heap_alloc_new _ _
          have s35' := Lib.hid (dot_size35 (n, m))
          have HM0 := Lib.hid hm0
          clear hm0
          go_wp2_with (first
            | (refine wpList_load_arr rfl 35 _ rfl b (off + j * 2) rfl (dotC (n, m + 1)) _ hr.out Try.underlying35 rfl s35.out ?_)
            | (refine wpList_store_row rfl 35 _ _ rfl wr.heap.size (dotC (n, m + 1)) rfl rfl 35 _ hN.out s35.out z2.out o2.out ?_; rw [World.setRow_alloc_new])
            | (refine wpList_load_w 35 _ rfl rfl wr.heap.size rfl 35 (dotC (n, m)) (0, 0) _ HROW.out Try.underlying35 rfl s35'.out ?_))
          have HI2 := Lib.hid (HVB.out (.cells (dotC (n, m)) 35))
          refine (dhasR_any ls c (some ⟨b, off, none⟩) (n, m) _ (⟨fun hp => by
            obtain ⟨b', o', e, h1, h2⟩ := HI2.out.1.at_ hp
            exact ⟨b', o', e, Nat.lt_of_lt_of_le h1 HI2.out.2.size, h2⟩⟩) (by have := HM.out; omega)).mono ?_
          rintro e w5 ⟨rfl, hb5⟩
          have HV5 := Lib.hid (HI2.out.1.below (hb5.mono HI2.out.2.size))
          have HB5 := Lib.hid (HI2.out.2.trans (hb5.mono HI2.out.2.size))
          clear hb5 HROW
          by_cases hin : (n, m) ∈ ls
          · have HN2 := NX.out (.inr hin)
            rw [decide_eq_true hin]
            clear hin eM
            go_wp2
            go_roundw
            all_goals clear eJ
            case rel => exact ⟨j + 1, by omega, by go_num, HN2, HV5, HB5⟩
            case measure => simp [intOf]; omega
          · have HE := Lib.hid (isWhole_bad HMEM.out (fun h => by
              rcases h with h | h
              · exact HM0.out (by simpa using h)
              · exact hin h))
            rw [decide_eq_false hin]
            clear hin eM
            go_wp2
            go_ret
            exact ⟨ret_bool HE.out.symm, HB5.out⟩
      · obtain rfl : j = ls.length := by omega
        have HE : Hid (isWhole ls = true) := Lib.hid ((isWhole_iff ls).2 ⟨HS.out, fun d hd => by
          obtain ⟨i, hi, e⟩ := List.mem_iff_getElem.1 hd
          have h := HN.out i hi
          rw [List.getD_eq_getElem?_getD, List.getElem?_eq_getElem hi] at h
          rw [← e]
          exact h⟩)
        go_wp2
        go_ret
        exact ⟨ret_bool HE.out.symm, HB.out⟩
end Go.Proofs.Ytnpacjdgbmldlaa

/- The reference's With. -/
namespace Go.Proofs.Ytnpacjdgbmldlaa
open Go.RowKit
theorem lit_size (f : Nat → Nat) : (#[.int .u64 0, .int .u64 0, .int .u64 0, .int .u64 0, .int .u64 0, .int .u64 0, .int .u64 0, .int .u64 0] : Array Value).size = (arrOf .u64 8 f).size := by rw [arrOf_size]; rfl
theorem size3 (w : World) (o1 o2 o3 : Obj) : (((w.alloc o1).alloc o2).alloc o3).heap.size = w.heap.size + 1 + 1 + 1 := by simp
theorem new3 (w : World) (o1 o2 o3 o4 : Obj) : ((((w.alloc o1).alloc o2).alloc o3).alloc o4).heap[w.heap.size + 1 + 1 + 1]? = some o4 := by
  rw [← size3 w o1 o2 o3]; exact heap_alloc_new _ _
theorem set3 (w : World) (o1 o2 o3 : Obj) (c c' : Array Value) (t : TypeId) : ((((w.alloc o1).alloc o2).alloc o3).alloc (.cells c t)).setRow (w.heap.size + 1 + 1 + 1) c' = (((w.alloc o1).alloc o2).alloc o3).alloc (.cells c' t) := by
  rw [← size3 w o1 o2 o3]; exact World.setRow_alloc_new _ _ _ _


/-- A boxed vector, a boxed dot, a result of noughts, and out. -/
structure XInv (w : World) (f : Nat → Nat) (n : Int) (k : Nat) (h : Nat → Nat) (wr : World) : Prop where
  a : wr.rowIs w.heap.size 27 8 (fun i => .int .u64 ((f i : Nat) : Int))
  d : DotAt wr (w.heap.size + 1) 35 n k
  zero : wr.rowIs (w.heap.size + 1 + 1) 27 8 (fun _ => .int .u64 0)
  out_ : wr.rowIs (w.heap.size + 1 + 1 + 1) 27 8 (fun i => .int .u64 ((h i : Nat) : Int))
  below : Below w.heap.size w wr
theorem XInv.start (w : World) (f : Nat → Nat) (n : Int) (k : Nat) : XInv w f n k f ((((w.alloc (.cells (arrOf .u64 8 f) 27)).alloc (.cells #[.int .i64 n, .int .u64 (k : Int)] 35)).alloc (.cells #[.int .u64 0, .int .u64 0, .int .u64 0, .int .u64 0, .int .u64 0, .int .u64 0, .int .u64 0, .int .u64 0] 27)).alloc (.cells (arrOf .u64 8 f) 27)) := by
  have h := WInv.start w 35 f n k
  refine ⟨h.a.alloc _, h.d.alloc _, h.zero.alloc _, ?_, h.below.alloc h.below.size _⟩
  simpa using vec_row (((w.alloc (.cells (arrOf .u64 8 f) 27)).alloc (.cells #[.int .i64 n, .int .u64 (k : Int)] 35)).alloc (.cells #[.int .u64 0, .int .u64 0, .int .u64 0, .int .u64 0, .int .u64 0, .int .u64 0, .int .u64 0, .int .u64 0] 27)) f
theorem XInv.congr {w wr : World} {f h h' : Nat → Nat} {n : Int} {k : Nat} (I : XInv w f n k h wr) (e : ∀ i, i < 8 → h i = h' i) : XInv w f n k h' wr := ⟨I.a, I.d, I.zero, I.out_.congr fun i hi => by rw [e i hi], I.below⟩
theorem XInv.then_ {w w1 w2 : World} {f h : Nat → Nat} {n : Int} {k : Nat} (hb : Below w1.heap.size w1 w2) (I : XInv w f n k h w1) : XInv w f n k h w2 :=
  ⟨row_below I.a hb I.a.lt, I.d.below hb I.d.lt, row_below I.zero hb I.zero.lt, row_below I.out_ hb I.out_.lt, I.below.trans (hb.mono I.below.size)⟩
theorem XInv.drew {w wr : World} {f h : Nat → Nat} {n : Int} {k : Nat} (I : XInv w f n k h wr) : XInv w f n k h wr.drew := ⟨I.a, I.d, I.zero, I.out_, ⟨I.below.os, I.below.tape, I.below.output, I.below.size, I.below.block⟩⟩
theorem XInv.step {w wr : World} {f p q : Nat → Nat} {n : Int} {k i : Nat} (I : XInv w f n k (midOf p q i) wr) {x : Int} (hx : x = ((p i : Nat) : Int)) :
    XInv w f n k (midOf p q (i + 1)) (wr.setCell ⟨w.heap.size + 1 + 1 + 1, i, none⟩ (.int .u64 x)) := by
  subst hx
  refine ⟨I.a.setOther (by simp; omega) _, I.d.keep (Below.heap_setCell _ _ _ _ (by simp)), I.zero.setOther (by simp) _, (I.out_.set i _).congr fun j hj => ?_, I.below.setCell (by simp; omega) _⟩
  by_cases e : j = i
  · subst e
    simp [midOf]
  · rw [if_neg e, midOf_next (fun h => absurd h e)]

set_option maxRecDepth 100000 in
set_option maxHeartbeats 2000000 in
theorem withR_any (f : Nat → Nat) (n : Int) (k : Nat) (w : World) : Calls Try.prog 73 #[vecV f, dotV n k] w fun e w' => e = .returned (vecV (Vec.with_ f n k)) ∧ Below w.heap.size w w' := by
  have HI0 := Lib.hid (XInv.start w f n k)
  have s27 : ∀ {f : Nat → Nat}, Hid ((Try.prog.info? 27).map (·.size) = some (arrOf .u64 8 f).size) := fun {f} => by rw [arrOf_size]; exact size27
  have ss : ∀ {f g : Nat → Nat}, Hid ((arrOf .u64 8 f).size = (arrOf .u64 8 g).size) := fun {f g} => by rw [arrOf_size, arrOf_size]; exact rfl
  have hN := Lib.hid (new3 w (.cells (arrOf .u64 8 f) 27) (.cells #[.int .i64 n, .int .u64 (k : Int)] 35) (.cells #[.int .u64 0, .int .u64 0, .int .u64 0, .int .u64 0, .int .u64 0, .int .u64 0, .int .u64 0, .int .u64 0] 27) (.cells #[.int .u64 0, .int .u64 0, .int .u64 0, .int .u64 0, .int .u64 0, .int .u64 0, .int .u64 0, .int .u64 0] 27))
  have hZs := Lib.hid (lit_size f)
  have hL := Lib.hid (row27 (WInv.start w 35 f n k).a)
  go_enter Try.func73, Try.ntmps73
  go_wp2_with (first
    | (refine wpList_load_row rfl 27 _ rfl w.heap.size rfl 27 (arrOf .u64 8 f) (0, 0) _ hL.out Try.underlying27 rfl s27.out ?_)
    | (refine wpList_store_row rfl 27 _ _ rfl (w.heap.size + 1 + 1 + 1) (arrOf .u64 8 f) rfl rfl 27 _ hN.out s27.out hZs.out (arrOf_one _ _ _) ?_; rw [set3]))
  generalize ((((w.alloc (.cells (arrOf .u64 8 f) 27)).alloc (.cells #[.int .i64 n, .int .u64 (k : Int)] 35)).alloc (.cells #[.int .u64 0, .int .u64 0, .int .u64 0, .int .u64 0, .int .u64 0, .int .u64 0, .int .u64 0, .int .u64 0] 27)).alloc (.cells (arrOf .u64 8 f) 27)) = w1 at *
  clear hN hZs hL
  go_loopw [6] (fun v wx => ∃ i : Nat, i ≤ 8 ∧ v = .int .i64 i ∧ Hid (XInv w f n k (midOf (Vec.with_ f n k) f i) wx)) (fun v _ => 8 - (intOf v).toNat)
  case atStart => exact ⟨0, by omega, rfl, HI0.out.congr fun i _ => by simp [midOf]⟩
  case round =>
    clear HI0
    obtain ⟨i, hi, rfl, HI⟩ := hrel
    by_cases hlt : i < 8
    · have wi : IntKind.i64.wrap ((i : Int) + 1) = (i : Int) + 1 := IntWalk.i64_in _ (by omega)
      by_cases hr0 : Vec.right n k = true
      · have hr := Lib.hid hr0
        by_cases hn : (i : Int) + 1 = n
        · subst hn
          by_cases hk : f i < k
          · have hkk : (f i : Int) < (k : Int) := by omega
            go_wp2_with fail
            refine M2.wp_region_kinds (fun _ x y => Below x.heap.size x y) (fun _ x => XInv w f (i + 1) k (midOf (Vec.with_ f (i + 1) k) f i) x) (fun x => XInv w f (i + 1) k (midOf (Vec.with_ f (i + 1) k) f i) x)
              [(0, .val (dotV (i + 1) k) fun _ => True), (1, .val (.bool true) fun _ => True), (6, .val (.int .i64 (i + 1)) fun _ => True), (11, .val (.int .u64 (k : Int)) fun _ => True), (14, .val (.int .u64 ((f i : Nat) : Int)) fun _ => True)] (by kernel_rfl) (by kernel_rfl) (fun _ _ _ hb h => XInv.then_ hb h) (fun _ _ _ _ _ hb h => XInv.then_ hb h) ?_ HI.out.drew (fun _ => HI.out.drew) ?_
            · intro z hz
              simp only [List.mem_cons, List.mem_nil_iff, or_false] at hz
              rcases hz with rfl | rfl | rfl | rfl | rfl <;> exact fun _ _ _ _ _ _ => trivial
            refine M2.mono_val rfl rfl (fun x hD hF => ?_) ?_
            · have hl := run_loadVar_arr (P := Try.prog) x (w.heap.size + 1) 0 35 #[.int .i64 (i + 1), .int .u64 (k : Int)] _ hD.d.range Try.underlying35 rfl size35
              rw [exec_load 35 (.tmp 3) rfl (w.heap.size + 1) 0 rfl hl]
              exact ⟨Below.refl _ _, rfl, trivial⟩
            apply Exists.intro
            refine ⟨by simp only [Act.put, List.setIfInBounds_toArray, List.set_cons_succ, List.set_cons_zero]; rfl, ?_⟩
            refine M2.mono_val rfl rfl (fun x hD hF => ?_) ?_
            · go_simp
              refine (rightR_any _ k x).mono ?_
              rintro e y ⟨rfl, hg⟩
              exact ⟨_, rfl, hg, by rw [hr.out]⟩
            apply Exists.intro
            refine ⟨by simp only [Act.put, List.setIfInBounds_toArray, List.set_cons_succ, List.set_cons_zero]; rfl, ?_⟩
            iterate 4
              refine M2.mono_pure rfl rfl ?_
              apply Exists.intro
              refine ⟨fun x => ?_, ?_⟩
              · go_simp
                rfl
              apply Exists.intro
              refine ⟨by simp only [Act.put, List.setIfInBounds_toArray, List.set_cons_succ, List.set_cons_zero]; rfl, ?_⟩
            refine M2.mono_val rfl rfl (fun x hD hF => ?_) ?_
            · have hc := hD.d.node
              go_simp
              exact ⟨Below.refl _ _, rfl⟩
            apply Exists.intro
            refine ⟨by simp only [Act.put, List.setIfInBounds_toArray, List.set_cons_succ, List.set_cons_zero]; rfl, ?_⟩
            iterate 4
              refine M2.mono_pure rfl rfl ?_
              apply Exists.intro
              refine ⟨fun x => ?_, ?_⟩
              · go_simp
                rfl
              apply Exists.intro
              refine ⟨by simp only [Act.put, List.setIfInBounds_toArray, List.set_cons_succ, List.set_cons_zero]; rfl, ?_⟩
            refine M2.mono_val rfl rfl (fun x hD hF => ?_) ?_
            · have hc := hD.d.num
              go_simp
              exact ⟨Below.refl _ _, rfl⟩
            apply Exists.intro
            refine ⟨by simp only [Act.put, List.setIfInBounds_toArray, List.set_cons_succ, List.set_cons_zero]; rfl, ?_⟩
            iterate 2
              refine M2.mono_pure rfl rfl ?_
              apply Exists.intro
              refine ⟨fun x => ?_, ?_⟩
              · go_simp
                rfl
              apply Exists.intro
              refine ⟨by simp only [Act.put, List.setIfInBounds_toArray, List.set_cons_succ, List.set_cons_zero]; rfl, ?_⟩
            refine M2.mono_val rfl rfl (fun x hD hF => ?_) ?_
            · have hc := hD.a.cell hlt
              go_simp
              exact ⟨Below.refl _ _, rfl⟩
            apply Exists.intro
            refine ⟨by simp only [Act.put, List.setIfInBounds_toArray, List.set_cons_succ, List.set_cons_zero]; rfl, ?_⟩
            iterate 2
              refine M2.mono_pure rfl rfl ?_
              apply Exists.intro
              refine ⟨fun x => ?_, ?_⟩
              · go_simp
                rfl
              apply Exists.intro
              refine ⟨by simp only [Act.put, List.setIfInBounds_toArray, List.set_cons_succ, List.set_cons_zero]; rfl, ?_⟩
            refine M2.mono_nil ?_
            intro w3 hD hF
            have HI3 := Lib.hid hD
            clear hD hF HI
            go_simp
            have c1 := HI3.out.d.num
            have c2 := HI3.out.out_.cell hlt
            have f1 := HI3.out.out_.frozen i
            go_wp2_with fail
            go_roundw
            case rel => exact ⟨i + 1, by omega, by go_num, HI3.out.step (by rw [Vec.with_, if_pos ⟨hr0, rfl⟩]; omega)⟩
            case measure => simp [intOf]; omega
          · have hkk : ¬ (f i : Int) < (k : Int) := by omega
            go_wp2_with fail
            refine M2.wp_region_kinds (fun _ x y => Below x.heap.size x y) (fun _ x => XInv w f (i + 1) k (midOf (Vec.with_ f (i + 1) k) f i) x) (fun x => XInv w f (i + 1) k (midOf (Vec.with_ f (i + 1) k) f i) x)
              [(0, .val (dotV (i + 1) k) fun _ => True), (1, .val (.bool true) fun _ => True), (6, .val (.int .i64 (i + 1)) fun _ => True), (11, .val (.int .u64 (k : Int)) fun _ => True), (14, .val (.int .u64 ((f i : Nat) : Int)) fun _ => True)] (by kernel_rfl) (by kernel_rfl) (fun _ _ _ hb h => XInv.then_ hb h) (fun _ _ _ _ _ hb h => XInv.then_ hb h) ?_ HI.out.drew (fun _ => HI.out.drew) ?_
            · intro z hz
              simp only [List.mem_cons, List.mem_nil_iff, or_false] at hz
              rcases hz with rfl | rfl | rfl | rfl | rfl <;> exact fun _ _ _ _ _ _ => trivial
            refine M2.mono_val rfl rfl (fun x hD hF => ?_) ?_
            · have hl := run_loadVar_arr (P := Try.prog) x (w.heap.size + 1) 0 35 #[.int .i64 (i + 1), .int .u64 (k : Int)] _ hD.d.range Try.underlying35 rfl size35
              rw [exec_load 35 (.tmp 3) rfl (w.heap.size + 1) 0 rfl hl]
              exact ⟨Below.refl _ _, rfl, trivial⟩
            apply Exists.intro
            refine ⟨by simp only [Act.put, List.setIfInBounds_toArray, List.set_cons_succ, List.set_cons_zero]; rfl, ?_⟩
            refine M2.mono_val rfl rfl (fun x hD hF => ?_) ?_
            · go_simp
              refine (rightR_any _ k x).mono ?_
              rintro e y ⟨rfl, hg⟩
              exact ⟨_, rfl, hg, by rw [hr.out]⟩
            apply Exists.intro
            refine ⟨by simp only [Act.put, List.setIfInBounds_toArray, List.set_cons_succ, List.set_cons_zero]; rfl, ?_⟩
            iterate 4
              refine M2.mono_pure rfl rfl ?_
              apply Exists.intro
              refine ⟨fun x => ?_, ?_⟩
              · go_simp
                rfl
              apply Exists.intro
              refine ⟨by simp only [Act.put, List.setIfInBounds_toArray, List.set_cons_succ, List.set_cons_zero]; rfl, ?_⟩
            refine M2.mono_val rfl rfl (fun x hD hF => ?_) ?_
            · have hc := hD.d.node
              go_simp
              exact ⟨Below.refl _ _, rfl⟩
            apply Exists.intro
            refine ⟨by simp only [Act.put, List.setIfInBounds_toArray, List.set_cons_succ, List.set_cons_zero]; rfl, ?_⟩
            iterate 4
              refine M2.mono_pure rfl rfl ?_
              apply Exists.intro
              refine ⟨fun x => ?_, ?_⟩
              · go_simp
                rfl
              apply Exists.intro
              refine ⟨by simp only [Act.put, List.setIfInBounds_toArray, List.set_cons_succ, List.set_cons_zero]; rfl, ?_⟩
            refine M2.mono_val rfl rfl (fun x hD hF => ?_) ?_
            · have hc := hD.d.num
              go_simp
              exact ⟨Below.refl _ _, rfl⟩
            apply Exists.intro
            refine ⟨by simp only [Act.put, List.setIfInBounds_toArray, List.set_cons_succ, List.set_cons_zero]; rfl, ?_⟩
            iterate 2
              refine M2.mono_pure rfl rfl ?_
              apply Exists.intro
              refine ⟨fun x => ?_, ?_⟩
              · go_simp
                rfl
              apply Exists.intro
              refine ⟨by simp only [Act.put, List.setIfInBounds_toArray, List.set_cons_succ, List.set_cons_zero]; rfl, ?_⟩
            refine M2.mono_val rfl rfl (fun x hD hF => ?_) ?_
            · have hc := hD.a.cell hlt
              go_simp
              exact ⟨Below.refl _ _, rfl⟩
            apply Exists.intro
            refine ⟨by simp only [Act.put, List.setIfInBounds_toArray, List.set_cons_succ, List.set_cons_zero]; rfl, ?_⟩
            iterate 2
              refine M2.mono_pure rfl rfl ?_
              apply Exists.intro
              refine ⟨fun x => ?_, ?_⟩
              · go_simp
                rfl
              apply Exists.intro
              refine ⟨by simp only [Act.put, List.setIfInBounds_toArray, List.set_cons_succ, List.set_cons_zero]; rfl, ?_⟩
            refine M2.mono_nil ?_
            intro w3 hD hF
            have HI3 := Lib.hid hD
            clear hD hF HI
            go_simp
            go_wp2_with fail
            go_roundw
            case rel => exact ⟨i + 1, by omega, by go_num, HI3.out.congr fun j _ => midOf_next (by rintro rfl; rw [Vec.with_, if_pos ⟨hr0, rfl⟩]; omega)⟩
            case measure => simp [intOf]; omega
        · have hq : ((i : Int) + 1 == n) = false := by simpa using hn
          go_wp2_with fail
          refine M2.wp_region_kinds (fun _ x y => Below x.heap.size x y) (fun _ x => XInv w f n k (midOf (Vec.with_ f n k) f i) x) (fun x => XInv w f n k (midOf (Vec.with_ f n k) f i) x)
            [(0, .val (dotV n k) fun _ => True), (1, .val (.bool true) fun _ => True), (6, .val (.int .i64 n) fun _ => True)] (by kernel_rfl) (by kernel_rfl) (fun _ _ _ hb h => XInv.then_ hb h) (fun _ _ _ _ _ hb h => XInv.then_ hb h) ?_ HI.out.drew (fun _ => HI.out.drew) ?_
          · intro z hz
            simp only [List.mem_cons, List.mem_nil_iff, or_false] at hz
            rcases hz with rfl | rfl | rfl <;> exact fun _ _ _ _ _ _ => trivial
          refine M2.mono_val rfl rfl (fun x hD hF => ?_) ?_
          · have hl := run_loadVar_arr (P := Try.prog) x (w.heap.size + 1) 0 35 #[.int .i64 n, .int .u64 (k : Int)] _ hD.d.range Try.underlying35 rfl size35
            rw [exec_load 35 (.tmp 3) rfl (w.heap.size + 1) 0 rfl hl]
            exact ⟨Below.refl _ _, rfl, trivial⟩
          apply Exists.intro
          refine ⟨by simp only [Act.put, List.setIfInBounds_toArray, List.set_cons_succ, List.set_cons_zero]; rfl, ?_⟩
          refine M2.mono_val rfl rfl (fun x hD hF => ?_) ?_
          · go_simp
            refine (rightR_any n k x).mono ?_
            rintro e y ⟨rfl, hg⟩
            exact ⟨_, rfl, hg, by rw [hr.out]⟩
          apply Exists.intro
          refine ⟨by simp only [Act.put, List.setIfInBounds_toArray, List.set_cons_succ, List.set_cons_zero]; rfl, ?_⟩
          iterate 4
            refine M2.mono_pure rfl rfl ?_
            apply Exists.intro
            refine ⟨fun x => ?_, ?_⟩
            · go_simp
              rfl
            apply Exists.intro
            refine ⟨by simp only [Act.put, List.setIfInBounds_toArray, List.set_cons_succ, List.set_cons_zero]; rfl, ?_⟩
          refine M2.mono_val rfl rfl (fun x hD hF => ?_) ?_
          · have hc := hD.d.node
            go_simp
            exact ⟨Below.refl _ _, rfl⟩
          apply Exists.intro
          refine ⟨by simp only [Act.put, List.setIfInBounds_toArray, List.set_cons_succ, List.set_cons_zero]; rfl, ?_⟩
          iterate 3
            refine M2.mono_pure rfl rfl ?_
            apply Exists.intro
            refine ⟨fun x => ?_, ?_⟩
            · go_simp
              rfl
            apply Exists.intro
            refine ⟨by simp only [Act.put, List.setIfInBounds_toArray, List.set_cons_succ, List.set_cons_zero]; rfl, ?_⟩
          refine M2.mono_skip rfl ?_
          apply Exists.intro
          refine ⟨by simp only [Act.put, List.setIfInBounds_toArray, List.set_cons_succ, List.set_cons_zero]; rfl, ?_⟩
          refine M2.mono_skip rfl ?_
          apply Exists.intro
          refine ⟨by simp only [Act.put, List.setIfInBounds_toArray, List.set_cons_succ, List.set_cons_zero]; rfl, ?_⟩
          refine M2.mono_skip rfl ?_
          apply Exists.intro
          refine ⟨by simp only [Act.put, List.setIfInBounds_toArray, List.set_cons_succ, List.set_cons_zero]; rfl, ?_⟩
          refine M2.mono_skip rfl ?_
          apply Exists.intro
          refine ⟨by simp only [Act.put, List.setIfInBounds_toArray, List.set_cons_succ, List.set_cons_zero]; rfl, ?_⟩
          refine M2.mono_skip rfl ?_
          apply Exists.intro
          refine ⟨by simp only [Act.put, List.setIfInBounds_toArray, List.set_cons_succ, List.set_cons_zero]; rfl, ?_⟩
          refine M2.mono_skip rfl ?_
          apply Exists.intro
          refine ⟨by simp only [Act.put, List.setIfInBounds_toArray, List.set_cons_succ, List.set_cons_zero]; rfl, ?_⟩
          iterate 1
            refine M2.mono_pure rfl rfl ?_
            apply Exists.intro
            refine ⟨fun x => ?_, ?_⟩
            · go_simp
              rfl
            apply Exists.intro
            refine ⟨by simp only [Act.put, List.setIfInBounds_toArray, List.set_cons_succ, List.set_cons_zero]; rfl, ?_⟩
          refine M2.mono_nil ?_
          intro w3 hD hF
          have HI3 := Lib.hid hD
          clear hD hF HI
          go_simp
          go_wp2_with fail
          go_roundw
          case rel => exact ⟨i + 1, by omega, by go_num, HI3.out.congr fun j _ => midOf_next (by rintro rfl; rw [Vec.with_, if_neg (fun h => hn h.2)])⟩
          case measure => simp [intOf]; omega
      · have hr1 : Vec.right n k = false := by simpa using hr0
        have hr := Lib.hid hr1
        clear hr1
        go_wp2_with fail
        refine M2.wp_region_kinds (fun _ x y => Below x.heap.size x y) (fun _ x => XInv w f n k (midOf (Vec.with_ f n k) f i) x) (fun x => XInv w f n k (midOf (Vec.with_ f n k) f i) x)
          [(0, .val (dotV n k) fun _ => True), (1, .val (.bool false) fun _ => True)] (by kernel_rfl) (by kernel_rfl) (fun _ _ _ hb h => XInv.then_ hb h) (fun _ _ _ _ _ hb h => XInv.then_ hb h) ?_ HI.out.drew (fun _ => HI.out.drew) ?_
        · intro z hz
          simp only [List.mem_cons, List.mem_nil_iff, or_false] at hz
          rcases hz with rfl | rfl <;> exact fun _ _ _ _ _ _ => trivial
        refine M2.mono_val rfl rfl (fun x hD hF => ?_) ?_
        · have hl := run_loadVar_arr (P := Try.prog) x (w.heap.size + 1) 0 35 #[.int .i64 n, .int .u64 (k : Int)] _ hD.d.range Try.underlying35 rfl size35
          rw [exec_load 35 (.tmp 3) rfl (w.heap.size + 1) 0 rfl hl]
          exact ⟨Below.refl _ _, rfl, trivial⟩
        apply Exists.intro
        refine ⟨by simp only [Act.put, List.setIfInBounds_toArray, List.set_cons_succ, List.set_cons_zero]; rfl, ?_⟩
        refine M2.mono_val rfl rfl (fun x hD hF => ?_) ?_
        · go_simp
          refine (rightR_any n k x).mono ?_
          rintro e y ⟨rfl, hg⟩
          exact ⟨_, rfl, hg, by rw [hr.out]⟩
        apply Exists.intro
        refine ⟨by simp only [Act.put, List.setIfInBounds_toArray, List.set_cons_succ, List.set_cons_zero]; rfl, ?_⟩
        iterate 1
          refine M2.mono_pure rfl rfl ?_
          apply Exists.intro
          refine ⟨fun x => ?_, ?_⟩
          · go_simp
            rfl
          apply Exists.intro
          refine ⟨by simp only [Act.put, List.setIfInBounds_toArray, List.set_cons_succ, List.set_cons_zero]; rfl, ?_⟩
        refine M2.mono_skip rfl ?_
        apply Exists.intro
        refine ⟨by simp only [Act.put, List.setIfInBounds_toArray, List.set_cons_succ, List.set_cons_zero]; rfl, ?_⟩
        refine M2.mono_skip rfl ?_
        apply Exists.intro
        refine ⟨by simp only [Act.put, List.setIfInBounds_toArray, List.set_cons_succ, List.set_cons_zero]; rfl, ?_⟩
        refine M2.mono_skip rfl ?_
        apply Exists.intro
        refine ⟨by simp only [Act.put, List.setIfInBounds_toArray, List.set_cons_succ, List.set_cons_zero]; rfl, ?_⟩
        refine M2.mono_skip rfl ?_
        apply Exists.intro
        refine ⟨by simp only [Act.put, List.setIfInBounds_toArray, List.set_cons_succ, List.set_cons_zero]; rfl, ?_⟩
        refine M2.mono_skip rfl ?_
        apply Exists.intro
        refine ⟨by simp only [Act.put, List.setIfInBounds_toArray, List.set_cons_succ, List.set_cons_zero]; rfl, ?_⟩
        iterate 2
          refine M2.mono_pure rfl rfl ?_
          apply Exists.intro
          refine ⟨fun x => ?_, ?_⟩
          · go_simp
            rfl
          apply Exists.intro
          refine ⟨by simp only [Act.put, List.setIfInBounds_toArray, List.set_cons_succ, List.set_cons_zero]; rfl, ?_⟩
        refine M2.mono_skip rfl ?_
        apply Exists.intro
        refine ⟨by simp only [Act.put, List.setIfInBounds_toArray, List.set_cons_succ, List.set_cons_zero]; rfl, ?_⟩
        refine M2.mono_skip rfl ?_
        apply Exists.intro
        refine ⟨by simp only [Act.put, List.setIfInBounds_toArray, List.set_cons_succ, List.set_cons_zero]; rfl, ?_⟩
        refine M2.mono_skip rfl ?_
        apply Exists.intro
        refine ⟨by simp only [Act.put, List.setIfInBounds_toArray, List.set_cons_succ, List.set_cons_zero]; rfl, ?_⟩
        refine M2.mono_skip rfl ?_
        apply Exists.intro
        refine ⟨by simp only [Act.put, List.setIfInBounds_toArray, List.set_cons_succ, List.set_cons_zero]; rfl, ?_⟩
        refine M2.mono_skip rfl ?_
        apply Exists.intro
        refine ⟨by simp only [Act.put, List.setIfInBounds_toArray, List.set_cons_succ, List.set_cons_zero]; rfl, ?_⟩
        refine M2.mono_skip rfl ?_
        apply Exists.intro
        refine ⟨by simp only [Act.put, List.setIfInBounds_toArray, List.set_cons_succ, List.set_cons_zero]; rfl, ?_⟩
        iterate 1
          refine M2.mono_pure rfl rfl ?_
          apply Exists.intro
          refine ⟨fun x => ?_, ?_⟩
          · go_simp
            rfl
          apply Exists.intro
          refine ⟨by simp only [Act.put, List.setIfInBounds_toArray, List.set_cons_succ, List.set_cons_zero]; rfl, ?_⟩
        refine M2.mono_nil ?_
        intro w3 hD hF
        have HI3 := Lib.hid hD
        clear hD hF HI
        go_simp
        go_wp2_with fail
        go_roundw
        case rel => exact ⟨i + 1, by omega, by go_num, HI3.out.congr fun j _ => midOf_next (by rintro rfl; rw [Vec.with_, if_neg (fun h => hr0 h.1)])⟩
        case measure => simp [intOf]; omega
    · obtain rfl : i = 8 := by omega
      have e8 : ∀ i, i < 8 → midOf (Vec.with_ f n k) f 8 i = Vec.with_ f n k i := fun i hi => by simp [midOf, hi]
      have ha := Lib.hid (row27 (HI.out.congr e8).out_)
      have hz0 := Lib.hid (row27 (f := fun _ => 0) HI.out.zero)
      have HB := Lib.hid HI.out.below
      clear HI
      go_wp2_with (first
        | (refine wpList_load_row rfl 27 _ rfl (w.heap.size + 1 + 1 + 1) rfl 27 _ (0, 0) _ ha.out Try.underlying27 rfl s27.out ?_)
        | (refine wpList_store_row rfl 27 _ _ rfl (w.heap.size + 1 + 1) (arrOf .u64 8 (Vec.with_ f n k)) rfl rfl 27 _ hz0.out s27.out ss.out (arrOf_one _ _ _) ?_)
        | (refine bodyPost_ret (results_cell_row Try.results73 _ _ (w.heap.size + 1 + 1) 27 _ (0, 0) _ rfl (setRow_heap _ _ _ _ _ _ hz0.out) Try.underlying27 rfl s27.out) rfl ⟨rfl, below_setRow' HB.out (by omega) _⟩))
end Go.Proofs.Ytnpacjdgbmldlaa

/- The reference's Span. -/
namespace Go.Proofs.Ytnpacjdgbmldlaa
open Go.RowKit
def spanF (ls : List Dt) : Nat → Nat := ls.foldl (fun f d => Vec.with_ f d.1 d.2) fun _ => 0
theorem spanF_take (ls : List Dt) {j : Nat} (h : j < ls.length) : spanF (ls.take (j + 1)) = Vec.with_ (spanF (ls.take j)) (ls.getD j (0, 0)).1 (ls.getD j (0, 0)).2 := by
  rw [List.take_add_one, List.getD_eq_getElem?_getD, List.getElem?_eq_getElem h]
  unfold spanF
  rw [List.foldl_append]
  rfl
/-- A result of noughts, a vector, a list. -/
structure SI (w : World) (A : Option Addr) (ls : List Dt) (f : Nat → Nat) (x : World) : Prop where
  r : x.rowIs w.heap.size 27 8 (fun _ => .int .u64 0)
  v : x.rowIs (w.heap.size + 1) 27 8 (fun i => .int .u64 ((f i : Nat) : Int))
  l : Dots x (· < w.heap.size) A ls
  below : Below w.heap.size w x
theorem SI.then_ {w x y : World} {A : Option Addr} {ls : List Dt} {f : Nat → Nat} (hb : Below x.heap.size x y) (I : SI w A ls f x) : SI w A ls f y :=
  ⟨row_below I.r hb I.r.lt, row_below I.v hb I.v.lt, I.l.below (hb.mono I.below.size), I.below.trans (hb.mono I.below.size)⟩
theorem SI.drew {w x : World} {A : Option Addr} {ls : List Dt} {f : Nat → Nat} (I : SI w A ls f x) : SI w A ls f x.drew := SI.then_ (x := x) (y := x.drew) ⟨rfl, rfl, rfl, Nat.le_refl _, fun _ _ => rfl⟩ I
theorem SI.put {w x : World} {A : Option Addr} {ls : List Dt} {f : Nat → Nat} (I : SI w A ls f x) (g : Nat → Nat) : SI w A ls g (x.setRow (w.heap.size + 1) (arrOf .u64 8 g)) :=
  ⟨I.r.of_block (setRow_other _ _ _ _ (by omega)), arr_row (setRow_heap _ _ _ _ _ _ (row_arr I.v)), I.l.keep fun b j hb _ => World.cell?_of_block (w := x) (a := ⟨b, j, none⟩) (setRow_other _ _ _ _ (by show b ≠ _; omega)), below_setRow' I.below (by omega) _⟩
theorem SI.start (w : World) {A : Option Addr} {ls : List Dt} (h : Dots w (· < w.heap.size) A ls) : SI w A ls (fun _ => 0) ((w.alloc (.cells #[.int .u64 0, .int .u64 0, .int .u64 0, .int .u64 0, .int .u64 0, .int .u64 0, .int .u64 0, .int .u64 0] 27)).alloc (.cells #[.int .u64 0, .int .u64 0, .int .u64 0, .int .u64 0, .int .u64 0, .int .u64 0, .int .u64 0, .int .u64 0] 27)) := by
  have h2 := zero_row (w.alloc (.cells #[.int .u64 0, .int .u64 0, .int .u64 0, .int .u64 0, .int .u64 0, .int .u64 0, .int .u64 0, .int .u64 0] 27))
  refine ⟨(zero_row w).alloc _, by simpa using h2, h.below (below2 _ _ _), below2 _ _ _⟩
set_option maxRecDepth 100000 in
set_option maxHeartbeats 4000000 in
theorem dspanR_any (ls : List Dt) (c : Nat) (A : Option Addr) (w : World) (hv : Dots w (· < w.heap.size) A ls) (hm : ls.length ≤ 9223372036854775806) :
    Calls Try.prog 28 #[.slice A ls.length c] w fun e w' => e = .returned (vecV (spanF ls)) ∧ Below w.heap.size w w' := by
  have HI0 := Lib.hid (SI.start w hv)
  have HM := Lib.hid hm
  have s27 : ∀ {f : Nat → Nat}, Hid ((Try.prog.info? 27).map (·.size) = some (arrOf .u64 8 f).size) := fun {f} => by rw [arrOf_size]; exact size27
  have ss : ∀ {f g : Nat → Nat}, Hid ((arrOf .u64 8 f).size = (arrOf .u64 8 g).size) := fun {f g} => by rw [arrOf_size, arrOf_size]; exact rfl
  clear hv hm
  go_enter Try.func28, Try.ntmps28
  go_wp2
  generalize (w.alloc (.cells #[.int .u64 0, .int .u64 0, .int .u64 0, .int .u64 0, .int .u64 0, .int .u64 0, .int .u64 0, .int .u64 0] 27)).alloc (.cells #[.int .u64 0, .int .u64 0, .int .u64 0, .int .u64 0, .int .u64 0, .int .u64 0, .int .u64 0, .int .u64 0] 27) = w1 at *
  go_loopw [4] (fun v wr => ∃ j : Nat, j ≤ ls.length ∧ v = .int .i64 j ∧ Hid (SI w A ls (spanF (ls.take j)) wr)) (fun v _ => ls.length - (intOf v).toNat)
  case atStart => exact ⟨0, by omega, rfl, HI0⟩
  case round =>
    clear HI0
    obtain ⟨j, hj, rfl, HI⟩ := hrel
    by_cases hlt : j < ls.length
    · obtain ⟨b, o, hA⟩ := HI.out.l.some_ (by omega)
      subst hA
      obtain ⟨d, hd⟩ : ∃ d, d = ls.getD j (0, 0) := ⟨_, rfl⟩
      have HD := Lib.hid hd
      obtain ⟨f, hf⟩ : ∃ f, f = spanF (ls.take j) := ⟨_, rfl⟩
      have HF : Hid (spanF (ls.take (j + 1)) = Vec.with_ f d.1 d.2) := Lib.hid (by rw [spanF_take ls hlt, ← hf, ← hd])
      rw [← hf] at HI
      have HLT := Lib.hid hlt
      have eJ : IntKind.i64.wrap ((j : Int) + 1) = (j : Int) + 1 := by have := HM.out; rw [IntKind.wrap_i64]; omega
      clear hd hf
      go_wp2_with fail
      refine WM.wp_region_front 6 [] (fun _ x y => Below x.heap.size x y) (fun _ x => SI w (some ⟨b, o, none⟩) ls f x) (fun x => SI w (some ⟨b, o, none⟩) ls f x)
        [(0, .val (vecV f) fun _ => True), (4, .val (dotV d.1 d.2) fun _ => True), (5, .val (vecV (Vec.with_ f d.1 d.2)) fun _ => True)] (by kernel_rfl) (by kernel_rfl) (by kernel_rfl) (by kernel_rfl) (of_decide_eq_true (by kernel_rfl)) ?_ ?_ (fun _ _ _ hb => hb.size) (fun _ _ _ hb h => SI.then_ hb h) (fun _ _ _ _ _ hb h => SI.then_ hb h) ?_ HI.out.drew (fun _ => HI.out.drew) ?_
      · intro p hp
        cases hp
      · intro p hp
        cases hp
      · intro z hz
        simp only [List.mem_cons, List.mem_nil_iff, or_false] at hz
        rcases hz with rfl | rfl | rfl <;> exact fun _ _ _ _ _ _ => trivial
      refine WM.mono_val rfl rfl (fun x hD hF => ?_) ?_
      · have hl := run_loadVar_arr (P := Try.prog) x (w.heap.size + 1) 0 27 (arrOf .u64 8 f) _ (row_range hD.v) Try.underlying27 rfl (by rw [arrOf_size]; exact size27)
        rw [exec_load 27 (.tmp 3) rfl (w.heap.size + 1) 0 rfl hl]
        exact ⟨Below.refl _ _, rfl, trivial⟩
      apply Exists.intro
      refine ⟨by simp only [Act.put, List.setIfInBounds_toArray, List.set_cons_succ, List.set_cons_zero]; rfl, ?_⟩
      iterate 2
        refine WM.mono_pure rfl rfl ?_
        apply Exists.intro
        refine ⟨fun x => ?_, ?_⟩
        · go_simp
          rfl
        apply Exists.intro
        refine ⟨by simp only [Act.put, List.setIfInBounds_toArray, List.set_cons_succ, List.set_cons_zero]; rfl, ?_⟩
      refine WM.mono_pure rfl rfl ?_
      refine ⟨.pointer (some ⟨b, o + j * 2, none⟩), fun x => ?_, ?_⟩
      · go_simp
      apply Exists.intro
      refine ⟨by simp only [Act.put, List.setIfInBounds_toArray, List.set_cons_succ, List.set_cons_zero]; rfl, ?_⟩
      refine WM.mono_val rfl rfl (fun x hD hF => ?_) ?_
      · have hl := run_loadVar_arr (P := Try.prog) x b (o + j * 2) 35 (dotC d) _ (by rw [HD.out]; exact hD.l.at_j HLT.out) Try.underlying35 rfl size35
        rw [exec_load 35 (.tmp 14) rfl b (o + j * 2) rfl hl]
        exact ⟨Below.refl _ _, rfl, trivial⟩
      apply Exists.intro
      refine ⟨by simp only [Act.put, List.setIfInBounds_toArray, List.set_cons_succ, List.set_cons_zero]; rfl, ?_⟩
      refine WM.mono_val rfl rfl (fun x hD hF => ?_) ?_
      · go_simp
        refine (withR_any f d.1 d.2 x).mono ?_
        rintro e y ⟨rfl, hg⟩
        exact ⟨_, rfl, hg, rfl⟩
      apply Exists.intro
      refine ⟨by simp only [Act.put, List.setIfInBounds_toArray, List.set_cons_succ, List.set_cons_zero]; rfl, ?_⟩
      refine WM.mono_nil ?_
      intro x hD hF _
      have HX := Lib.hid hD
      have HV : Hid (_ = _) := row_arr hD.v
      have HN2 : Hid (SI w (some ⟨b, o, none⟩) ls (spanF (ls.take (j + 1))) (x.setRow (w.heap.size + 1) (arrOf .u64 8 (Vec.with_ f d.1 d.2)))) := Lib.hid (by rw [HF.out]; exact hD.put _)
      clear hD hF HI
      refine wpList_store_row rfl 27 _ _ rfl (w.heap.size + 1) (arrOf .u64 8 (Vec.with_ f d.1 d.2)) rfl rfl 27 _ HV.out s27.out ss.out (arrOf_one _ _ _) ?_
      generalize x.setRow (w.heap.size + 1) (arrOf .u64 8 (Vec.with_ f d.1 d.2)) = w5 at *
      go_simp
      go_wp2
      go_roundw
      all_goals clear eJ
      case rel => exact ⟨j + 1, by omega, by go_num, HN2⟩
      case measure => simp [intOf]; omega
    · obtain rfl : j = ls.length := by omega
      rw [List.take_length] at HI
      have ha : Hid (_ = _) := row_arr HI.out.v
      have hz0 : Hid (wr.heap[w.heap.size]? = some (.cells (arrOf .u64 8 fun _ => 0) 27 (0, 0))) := row_arr (f := fun _ => 0) HI.out.r
      have HB := Lib.hid HI.out.below
      clear HI
      go_wp2_with (first
        | (refine wpList_load_row rfl 27 _ rfl (w.heap.size + 1) rfl 27 (arrOf .u64 8 (spanF ls)) (0, 0) _ ha.out Try.underlying27 rfl s27.out ?_)
        | (refine wpList_store_row rfl 27 _ _ rfl w.heap.size (arrOf .u64 8 (spanF ls)) rfl rfl 27 _ hz0.out s27.out ss.out (arrOf_one _ _ _) ?_)
        | (refine bodyPost_ret (results_cell_row Try.results28 _ _ w.heap.size 27 _ (0, 0) _ rfl (setRow_heap _ _ _ _ _ _ hz0.out) Try.underlying27 rfl s27.out) rfl ⟨rfl, below_setRow' HB.out (Nat.le_refl _) _⟩))
end Go.Proofs.Ytnpacjdgbmldlaa

/- The reference's Within. -/
namespace Go.Proofs.Ytnpacjdgbmldlaa
open Go.RowKit
structure WI (w : World) (A : Option Addr) (ls : List Dt) (f : Nat → Nat) (u : Value) (acc : List Dt) (x : World) : Prop where
  r : x.rowIs w.heap.size 27 8 (fun i => .int .u64 ((f i : Nat) : Int))
  l : Dots x (· < w.heap.size) A ls
  own : x.ownsRow (w.heap.size + 1) 35 2 u acc.length (dots2 acc)
  below : Below w.heap.size w x
theorem WI.then_ {w x y : World} {A : Option Addr} {ls acc : List Dt} {f : Nat → Nat} {u : Value} (hb : Below x.heap.size x y) (I : WI w A ls f u acc x) : WI w A ls f u acc y :=
  ⟨row_below I.r hb I.r.lt, I.l.below (hb.mono I.below.size), own_keep I.own fun k _ hk => hb.block k hk, I.below.trans (hb.mono I.below.size)⟩
theorem WI.drew {w x : World} {A : Option Addr} {ls acc : List Dt} {f : Nat → Nat} {u : Value} (I : WI w A ls f u acc x) : WI w A ls f u acc x.drew := WI.then_ (x := x) (y := x.drew) ⟨rfl, rfl, rfl, Nat.le_refl _, fun _ _ => rfl⟩ I
theorem WI.add {w x y : World} {A : Option Addr} {ls acc : List Dt} {f : Nat → Nat} {u v : Value} (I : WI w A ls f u acc x) (d : Dt) (ho : y.ownsRow (w.heap.size + 1) 35 2 v (acc.length + 1) (dots2 acc ++ dcells d)) (hb : Below (w.heap.size + 1) x y) : WI w A ls f v (acc ++ [d]) y :=
  ⟨row_below I.r hb (by omega), I.l.below (hb.mono (by omega)), by rw [List.length_append, List.length_singleton, dots2_append, dots2_one]; exact ho, I.below.trans (hb.mono (by omega))⟩
set_option maxRecDepth 100000 in
set_option maxHeartbeats 4000000 in
theorem dwithinR_any (ls : List Dt) (c : Nat) (A : Option Addr) (f : Nat → Nat) (w : World) (hv : Dots w (· < w.heap.size) A ls) (hm : ls.length ≤ 100000) :
    Calls Try.prog 39 #[.slice A ls.length c, vecV f] w fun e w' => ∃ v, e = .returned v ∧ w'.ownsRow (w.heap.size + 1) 35 2 v (ls.filter fun d => Vec.has f d.1 d.2).length (dots2 (ls.filter fun d => Vec.has f d.1 d.2)) ∧ Below w.heap.size w w' := by
  have HI0 : Hid (WI w A ls f (.slice none 0 0) [] (w.alloc (.cells (arrOf .u64 8 f) 27))) := Lib.hid ⟨vec_row w f, hv.below (below1 _ _), World.ownsRow_nil _ _ _ _, below1 _ _⟩
  have HM := Lib.hid hm
  clear hv hm
  go_enter Try.func39, Try.ntmps39
  go_wp2
  generalize w.alloc (.cells (arrOf .u64 8 f) 27) = w1 at *
  go_loopw [5, 6] (fun u v wr => ∃ j : Nat, j ≤ ls.length ∧ v = .int .i64 j ∧ Hid (WI w A ls f u ((ls.take j).filter fun d => Vec.has f d.1 d.2) wr)) (fun _ v _ => ls.length - (intOf v).toNat)
  case atStart => exact ⟨0, by omega, rfl, HI0⟩
  case round =>
    clear HI0
    obtain ⟨j, hj, rfl, HI⟩ := hrel
    by_cases hlt : j < ls.length
    · obtain ⟨b, o, hA⟩ := HI.out.l.some_ (by omega)
      subst hA
      obtain ⟨d, hd⟩ : ∃ d, d = ls.getD j (0, 0) := ⟨_, rfl⟩
      have HD := Lib.hid hd
      obtain ⟨acc, hacc⟩ : ∃ acc, acc = (ls.take j).filter fun d => Vec.has f d.1 d.2 := ⟨_, rfl⟩
      have hT : ls.take (j + 1) = ls.take j ++ [d] := by
        rw [List.take_add_one, List.getElem?_eq_getElem hlt, hd, List.getD_eq_getElem?_getD, List.getElem?_eq_getElem hlt]
        rfl
      have HACC : Hid ((ls.take (j + 1)).filter (fun d => Vec.has f d.1 d.2) = acc ++ if Vec.has f d.1 d.2 = true then [d] else []) := Lib.hid (by rw [hT, List.filter_append, ← hacc]; congr 1; simp [List.filter_cons])
      have HAL : Hid (acc.length ≤ 100000) := Lib.hid (by rw [hacc]; have h1 := List.length_filter_le (fun d : Dt => Vec.has f d.1 d.2) (ls.take j); rw [List.length_take] at h1; have := HM.out; omega)
      rw [← hacc] at HI
      have HLT := Lib.hid hlt
      have eJ : IntKind.i64.wrap ((j : Int) + 1) = (j : Int) + 1 := by have := HM.out; rw [IntKind.wrap_i64]; omega
      clear hd hacc hT
      go_wp2_with fail
      cases hq : Vec.has f d.1 d.2 with
      | true =>
        have HQ := Lib.hid hq
        rw [if_pos hq] at HACC
        clear hq
        refine WM.wp_region_kinds (fun _ x y => Below x.heap.size x y) (fun _ x => WI w (some ⟨b, o, none⟩) ls f u5 acc x) (fun x => WI w (some ⟨b, o, none⟩) ls f u5 acc x)
          [(0, .val (vecV f) fun _ => True), (4, .val (dotV d.1 d.2) fun _ => True), (5, .val (.bool true) fun _ => True)] (by kernel_rfl) (by kernel_rfl) (fun _ _ _ hb h => WI.then_ hb h) (fun _ _ _ _ _ hb h => WI.then_ hb h) ?_ HI.out.drew (fun _ => HI.out.drew) ?_
        · intro z hz
          simp only [List.mem_cons, List.mem_nil_iff, or_false] at hz
          rcases hz with rfl | rfl | rfl <;> exact fun _ _ _ _ _ _ => trivial
        refine WM.mono_val rfl rfl (fun x hD hF => ?_) ?_
        · have hl := run_loadVar_arr (P := Try.prog) x w.heap.size 0 27 (arrOf .u64 8 f) _ (row_range hD.r) Try.underlying27 rfl (by rw [arrOf_size]; exact size27)
          rw [exec_load 27 (.tmp 3) rfl w.heap.size 0 rfl hl]
          exact ⟨Below.refl _ _, rfl, trivial⟩
        apply Exists.intro
        refine ⟨by simp only [Act.put, List.setIfInBounds_toArray, List.set_cons_succ, List.set_cons_zero]; rfl, ?_⟩
        iterate 2
          refine WM.mono_pure rfl rfl ?_
          apply Exists.intro
          refine ⟨fun x => ?_, ?_⟩
          · go_simp
            rfl
          apply Exists.intro
          refine ⟨by simp only [Act.put, List.setIfInBounds_toArray, List.set_cons_succ, List.set_cons_zero]; rfl, ?_⟩
        refine WM.mono_pure rfl rfl ?_
        refine ⟨.pointer (some ⟨b, o + j * 2, none⟩), fun x => ?_, ?_⟩
        · go_simp
        apply Exists.intro
        refine ⟨by simp only [Act.put, List.setIfInBounds_toArray, List.set_cons_succ, List.set_cons_zero]; rfl, ?_⟩
        refine WM.mono_val rfl rfl (fun x hD hF => ?_) ?_
        · have hl := run_loadVar_arr (P := Try.prog) x b (o + j * 2) 35 (dotC d) _ (by rw [HD.out]; exact hD.l.at_j HLT.out) Try.underlying35 rfl size35
          rw [exec_load 35 (.tmp 16) rfl b (o + j * 2) rfl hl]
          exact ⟨Below.refl _ _, rfl, trivial⟩
        apply Exists.intro
        refine ⟨by simp only [Act.put, List.setIfInBounds_toArray, List.set_cons_succ, List.set_cons_zero]; rfl, ?_⟩
        refine WM.mono_val rfl rfl (fun x hD hF => ?_) ?_
        · go_simp
          refine (hasR_any f d.1 d.2 x).mono ?_
          rintro e y ⟨rfl, hg⟩
          exact ⟨_, rfl, hg, by rw [HQ.out]⟩
        apply Exists.intro
        refine ⟨by simp only [Act.put, List.setIfInBounds_toArray, List.set_cons_succ, List.set_cons_zero]; rfl, ?_⟩
        refine WM.mono_nil ?_
        intro x hD hF
        have HX := Lib.hid hD
        clear hD hF HI
        go_simp
        have s35 := Lib.hid (dot_size35 d)
        have hr : Hid (rangeA x b (o + j * 2) (dotC d)) := Lib.hid (by rw [HD.out]; exact HX.out.l.at_j HLT.out)
        have S0 : Hid (w.heap.size + 1 ≤ x.heap.size) := Lib.hid HX.out.r.lt
        have HO := Lib.hid HX.out.own
        go_wp2_with (first
          | (refine wpList_load_arr rfl 35 _ rfl b (o + j * 2) rfl (dotC d) _ hr.out Try.underlying35 rfl s35.out ?_)
          | (refine wpList_append_dot rfl (.tmp 19) (.tmp 24) 30 rfl (w.heap.size + 1) 35 (.agg #[.int .i64 0, .int .u64 0]) 16 Try.underlying30 info35 rfl _ acc.length _ rfl HO.out d 35 rfl (by have := HAL.out; unfold maxLen; omega) (by have := HAL.out; omega) S0.out ?_; intro v1 w3 H1 B1))
        go_roundw
        all_goals clear eJ
        case rel => exact ⟨j + 1, by omega, by go_num, by rw [HACC.out]; exact Lib.hid (HX.out.add d H1.out B1.out)⟩
        case measure => simp [intOf]; omega
      | false =>
        have HQ := Lib.hid hq
        rw [if_neg (by rw [hq]; exact Bool.false_ne_true), List.append_nil] at HACC
        clear hq
        refine WM.wp_region_kinds (fun _ x y => Below x.heap.size x y) (fun _ x => WI w (some ⟨b, o, none⟩) ls f u5 acc x) (fun x => WI w (some ⟨b, o, none⟩) ls f u5 acc x)
          [(0, .val (vecV f) fun _ => True), (4, .val (dotV d.1 d.2) fun _ => True), (5, .val (.bool false) fun _ => True)] (by kernel_rfl) (by kernel_rfl) (fun _ _ _ hb h => WI.then_ hb h) (fun _ _ _ _ _ hb h => WI.then_ hb h) ?_ HI.out.drew (fun _ => HI.out.drew) ?_
        · intro z hz
          simp only [List.mem_cons, List.mem_nil_iff, or_false] at hz
          rcases hz with rfl | rfl | rfl <;> exact fun _ _ _ _ _ _ => trivial
        refine WM.mono_val rfl rfl (fun x hD hF => ?_) ?_
        · have hl := run_loadVar_arr (P := Try.prog) x w.heap.size 0 27 (arrOf .u64 8 f) _ (row_range hD.r) Try.underlying27 rfl (by rw [arrOf_size]; exact size27)
          rw [exec_load 27 (.tmp 3) rfl w.heap.size 0 rfl hl]
          exact ⟨Below.refl _ _, rfl, trivial⟩
        apply Exists.intro
        refine ⟨by simp only [Act.put, List.setIfInBounds_toArray, List.set_cons_succ, List.set_cons_zero]; rfl, ?_⟩
        iterate 2
          refine WM.mono_pure rfl rfl ?_
          apply Exists.intro
          refine ⟨fun x => ?_, ?_⟩
          · go_simp
            rfl
          apply Exists.intro
          refine ⟨by simp only [Act.put, List.setIfInBounds_toArray, List.set_cons_succ, List.set_cons_zero]; rfl, ?_⟩
        refine WM.mono_pure rfl rfl ?_
        refine ⟨.pointer (some ⟨b, o + j * 2, none⟩), fun x => ?_, ?_⟩
        · go_simp
        apply Exists.intro
        refine ⟨by simp only [Act.put, List.setIfInBounds_toArray, List.set_cons_succ, List.set_cons_zero]; rfl, ?_⟩
        refine WM.mono_val rfl rfl (fun x hD hF => ?_) ?_
        · have hl := run_loadVar_arr (P := Try.prog) x b (o + j * 2) 35 (dotC d) _ (by rw [HD.out]; exact hD.l.at_j HLT.out) Try.underlying35 rfl size35
          rw [exec_load 35 (.tmp 16) rfl b (o + j * 2) rfl hl]
          exact ⟨Below.refl _ _, rfl, trivial⟩
        apply Exists.intro
        refine ⟨by simp only [Act.put, List.setIfInBounds_toArray, List.set_cons_succ, List.set_cons_zero]; rfl, ?_⟩
        refine WM.mono_val rfl rfl (fun x hD hF => ?_) ?_
        · go_simp
          refine (hasR_any f d.1 d.2 x).mono ?_
          rintro e y ⟨rfl, hg⟩
          exact ⟨_, rfl, hg, by rw [HQ.out]⟩
        apply Exists.intro
        refine ⟨by simp only [Act.put, List.setIfInBounds_toArray, List.set_cons_succ, List.set_cons_zero]; rfl, ?_⟩
        refine WM.mono_nil ?_
        intro x hD hF
        have HX := Lib.hid hD
        clear hD hF HI
        go_simp
        go_wp2
        go_roundw
        all_goals clear eJ
        case rel => exact ⟨j + 1, by omega, by go_num, by rw [HACC.out]; exact HX⟩
        case measure => simp [intOf]; omega
    · obtain rfl : j = ls.length := by omega
      rw [List.take_length] at HI
      go_wp2
      go_ret
      exact ⟨_, rfl, HI.out.own, HI.out.below⟩
end Go.Proofs.Ytnpacjdgbmldlaa

/- In a set, what is whole: each dot is the next one of those ahead of it just if its predecessor is there. -/
namespace Go.Proofs.Ytnpacjdgbmldlaa
open Go.RowKit
theorem less_trans {a b c : Dt} (h : Vec.less a.1 a.2 b.1 b.2 = true) (k : Vec.less b.1 b.2 c.1 c.2 = true) : Vec.less a.1 a.2 c.1 c.2 = true := by
  simp only [Vec.less, decide_eq_true_eq] at *
  omega
theorem set_right {ls : List Dt} (h : isSet ls = true) {j : Nat} (hj : j < ls.length) : Vec.right (ls.getD j (0, 0)).1 (ls.getD j (0, 0)).2 = true := by
  have h1 := ((isSet_iff ls).1 h).2 j hj
  unfold dgood at h1
  simp only [Bool.and_eq_true] at h1
  exact h1.1
theorem set_next {ls : List Dt} (h : isSet ls = true) {j : Nat} (hj : j + 1 < ls.length) : Vec.less (ls.getD j (0, 0)).1 (ls.getD j (0, 0)).2 (ls.getD (j + 1) (0, 0)).1 (ls.getD (j + 1) (0, 0)).2 = true := by
  have h1 := ((isSet_iff ls).1 h).2 (j + 1) hj
  rwa [dgood_succ (set_right h hj)] at h1
theorem set_less {ls : List Dt} (h : isSet ls = true) {i : Nat} : ∀ m, i + (m + 1) < ls.length → Vec.less (ls.getD i (0, 0)).1 (ls.getD i (0, 0)).2 (ls.getD (i + (m + 1)) (0, 0)).1 (ls.getD (i + (m + 1)) (0, 0)).2 = true
  | 0, hl => set_next h hl
  | m + 1, hl => less_trans (set_less h m (by omega)) (by have := set_next h (j := i + (m + 1)) (by omega); exact this)
theorem set_lt {ls : List Dt} (h : isSet ls = true) {i j : Nat} (hij : i < j) (hj : j < ls.length) : Vec.less (ls.getD i (0, 0)).1 (ls.getD i (0, 0)).2 (ls.getD j (0, 0)).1 (ls.getD j (0, 0)).2 = true := by
  have h1 := set_less h (i := i) (j - i - 1) (by omega)
  rwa [show i + (j - i - 1 + 1) = j by omega] at h1
theorem get_with (f : Nat → Nat) (m : Int) (k : Nat) (n : Int) (hr : Vec.right m k = true) (hn : 1 ≤ n ∧ n ≤ 8) : Vec.get (Vec.with_ f m k) n = if n = m then max (Vec.get f n) k else Vec.get f n := by
  unfold Vec.get
  rw [if_pos hn, if_pos hn]
  unfold Vec.with_
  by_cases e : n = m
  · rw [if_pos e, if_pos ⟨hr, by omega⟩]
  · rw [if_neg e, if_neg (fun h => e (by omega))]
/-- What the span of the first j dots says of a node. -/
theorem span_says {ls : List Dt} (h : isSet ls = true) {n : Int} (hn : 1 ≤ n ∧ n ≤ 8) : ∀ j, j ≤ ls.length → (∀ i, i < j → (ls.getD i (0, 0)).1 = n → (ls.getD i (0, 0)).2 ≤ Vec.get (spanF (ls.take j)) n) ∧ (Vec.get (spanF (ls.take j)) n = 0 ∨ ∃ i, i < j ∧ ls.getD i (0, 0) = (n, Vec.get (spanF (ls.take j)) n))
  | 0, _ => ⟨fun i hi => by omega, .inl (by simp [spanF, Vec.get])⟩
  | j + 1, hj => by
    obtain ⟨h1, h2⟩ := span_says h hn j (by omega)
    have hr := set_right h (show j < ls.length by omega)
    rw [spanF_take ls (by omega), get_with _ _ _ _ hr hn]
    obtain ⟨d, hd⟩ : ∃ d, d = ls.getD j (0, 0) := ⟨_, rfl⟩
    rw [← hd]
    by_cases e : n = d.1
    · rw [if_pos e]
      refine ⟨fun i hi hin => ?_, ?_⟩
      · by_cases hij : i = j
        · subst hij
          rw [← hd]
          omega
        · have := h1 i (by omega) hin
          omega
      · rcases Nat.le_total d.2 (Vec.get (spanF (ls.take j)) n) with hle | hle
        · rw [Nat.max_eq_left hle]
          rcases h2 with h2 | ⟨i, hi, e2⟩
          · exact .inl h2
          · exact .inr ⟨i, by omega, e2⟩
        · rw [Nat.max_eq_right hle]
          exact .inr ⟨j, by omega, by rw [← hd, e]⟩
    · rw [if_neg e]
      refine ⟨fun i hi hin => ?_, ?_⟩
      · by_cases hij : i = j
        · subst hij
          rw [← hd] at hin
          exact absurd hin.symm e
        · exact h1 i (by omega) hin
      · rcases h2 with h2 | ⟨i, hi, e2⟩
        · exact .inl h2
        · exact .inr ⟨i, by omega, e2⟩
/-- The next one of those ahead, just if the predecessor is there. -/
theorem next_iff {ls : List Dt} (h : isSet ls = true) {j : Nat} (hj : j < ls.length) {n : Int} {k : Nat} (hd : (n, k) = ls.getD j (0, 0)) : Vec.get (spanF (ls.take j)) n + 1 = k ↔ prevOk ls (n, k) := by
  have hr := set_right h hj
  rw [← hd] at hr
  simp only [Vec.right, decide_eq_true_eq] at hr
  obtain ⟨h1, h2⟩ := span_says h ⟨hr.1, hr.2.1⟩ j (by omega)
  have below : ∀ i, i < j → (ls.getD i (0, 0)).1 = n → (ls.getD i (0, 0)).2 < k := fun i hi e => by
    have := set_lt h hi hj
    rw [← hd] at this
    simp only [Vec.less, decide_eq_true_eq] at this
    omega
  have hG : Vec.get (spanF (ls.take j)) n < k := by
    rcases h2 with e | ⟨i, hi, e⟩
    · omega
    · have := below i hi (by rw [e])
      rw [e] at this
      exact this
  constructor
  · intro e
    rcases h2 with e2 | ⟨i, hi, e2⟩
    · exact .inl (by show k = 1; omega)
    · refine .inr ?_
      have hm := getD_mem (ls := ls) (j := i) (by omega)
      rw [e2] at hm
      show (n, k - 1) ∈ ls
      rw [show k - 1 = Vec.get (spanF (ls.take j)) n by omega]
      exact hm
  · intro hp
    rcases hp with hp | hp
    · have : k = 1 := hp
      omega
    · have hm : (n, k - 1) ∈ ls := hp
      obtain ⟨i, hi, e⟩ := List.mem_iff_getElem.1 hm
      have e2 : ls.getD i (0, 0) = (n, k - 1) := by rw [List.getD_eq_getElem?_getD, List.getElem?_eq_getElem hi]; exact e
      have hij : i < j := by
        rcases Nat.lt_trichotomy i j with hl | hl | hl
        · exact hl
        · exfalso
          subst hl
          rw [← hd] at e2
          injection e2 with _ e3
          omega
        · exfalso
          have := set_lt h hl hi
          rw [← hd, e2] at this
          simp only [Vec.less, decide_eq_true_eq] at this
          omega
      have := h1 i hij (by rw [e2])
      rw [e2] at this
      simp only at this
      omega
theorem span_lt {ls : List Dt} (h : isSet ls = true) (hk : ∀ d ∈ ls, d.2 < 18446744073709551616) {j : Nat} (hj : j ≤ ls.length) (n : Int) : Vec.get (spanF (ls.take j)) n < 18446744073709551616 := by
  by_cases hn : 1 ≤ n ∧ n ≤ 8
  · rcases (span_says h hn j hj).2 with e | ⟨i, hi, e⟩
    · omega
    · have hm := getD_mem (ls := ls) (j := i) (by omega)
      rw [e] at hm
      exact hk _ hm
  · unfold Vec.get
    rw [if_neg hn]
    omega
end Go.Proofs.Ytnpacjdgbmldlaa
