/- Small laws over any program: arrays of integers as values and as blocks; a whole array stored. -/
import Derived.WalkKit
import Derived.WalkSpells
import Derived.WalkLawsBesides
import Derived.Handy
import Derived.Lib.Hide
import Derived.Deep.OwnRows
import Derived.Deep.MidRow
import Derived.Deep.QuietTactic
import Derived.BigQuiet
import Derived.Deep.WholeRow
import Derived.Laws.CopyOwn
set_option linter.unusedVariables false
set_option linter.unusedSimpArgs false
namespace Go.Proofs.YtdbhboglccggdaaGreatDoor
open Go.RowKit

theorem ret_int {k : IntKind} {a b : Int} (h : a = b) : Ending.returned (.int k a) = .returned (.int k b) := by rw [h]

/-- The array of n integers of kind k, the i-th being f i. -/
def arrOf (k : IntKind) (n : Nat) (f : Nat → Nat) : Array Value := ((List.range n).map fun i => Value.int k ((f i : Nat) : Int)).toArray
theorem arrOf_size (k : IntKind) (n : Nat) (f : Nat → Nat) : (arrOf k n f).size = n := by simp [arrOf]
theorem arrOf_get (k : IntKind) {n : Nat} (f : Nat → Nat) {i : Nat} (hi : i < n) : (arrOf k n f)[i]? = some (.int k ((f i : Nat) : Int)) := by
  simp [arrOf, hi]
theorem arr_ext {A : Array Value} {k : IntKind} {n : Nat} {f : Nat → Nat} (hs : A.size = n) (h : ∀ i, i < n → A[i]? = some (.int k ((f i : Nat) : Int))) : A = arrOf k n f := by
  apply Array.ext_getElem?
  intro i
  rcases Nat.lt_or_ge i n with hi | hi
  · rw [h i hi, arrOf_get k f hi]
  · rw [Array.getElem?_eq_none (by omega), Array.getElem?_eq_none (by rw [arrOf_size]; exact hi)]
theorem arrOf_congr {k : IntKind} {n : Nat} {f g : Nat → Nat} (h : ∀ i, i < n → f i = g i) : arrOf k n f = arrOf k n g :=
  arr_ext (arrOf_size _ _ _) fun i hi => by rw [arrOf_get k f hi, h i hi]
theorem arrOf_inj {k : IntKind} {n : Nat} {f g : Nat → Nat} (h : arrOf k n f = arrOf k n g) : ∀ i, i < n → f i = g i := by
  intro i hi
  have h1 := arrOf_get k f hi
  rw [h, arrOf_get k g hi] at h1
  injection h1 with h1
  injection h1 with _ h1
  omega
theorem arrOf_one (k : IntKind) (n : Nat) (f : Nat → Nat) : (arrOf k n f).all (·.oneCell') = true :=
  Array.all_eq_true_iff_forall_mem.2 fun v hv => by
    simp [arrOf] at hv
    obtain ⟨i, _, rfl⟩ := hv
    rfl
theorem row_arr {w : World} {b : Nat} {t : TypeId} {n : Nat} {k : IntKind} {f : Nat → Nat} (h : w.rowIs b t n (fun i => .int k ((f i : Nat) : Int))) :
    w.heap[b]? = some (.cells (arrOf k n f) t (0, 0)) := by
  obtain ⟨c, hc, hs, hi⟩ := h
  rw [hc, arr_ext hs hi]
theorem arr_row {w : World} {b : Nat} {t : TypeId} {n : Nat} {k : IntKind} {f : Nat → Nat} (h : w.heap[b]? = some (.cells (arrOf k n f) t (0, 0))) :
    w.rowIs b t n (fun i => .int k ((f i : Nat) : Int)) := ⟨_, h, arrOf_size _ _ _, fun _ hi => arrOf_get k f hi⟩

theorem wpList_store_row {P : Program} {ops : Array Oper} {rest : List Oper} {o : Oper} {a : Act} {w : World} {Q : Exit → Act → World → Prop} (hgd : o.guard = none) (ty : TypeId) (x y : Operand) (ho : o.op = .store ty x y)
    (g : Nat) (cells : Array Value) (hx : a.eval x = .pointer (some ⟨g, 0, none⟩)) (hy : a.eval y = .agg cells)
    (t : TypeId) (old : Array Value) (hg : w.heap[g]? = some (.cells old t (0, 0))) (hi : (P.info? ty).map (·.size) = some cells.size)
    (hold : old.size = cells.size) (h1 : cells.all (·.oneCell') = true)
    (h : wpList P ops Q rest (a.put o.dst undef) (w.setRow g cells)) : wpList P ops Q (o :: rest) a w :=
  wpList_plain hgd fun _ hK => wp_store_row ty x y ho g cells hx hy t old hg hi hold h1 (hK _ _ h)
theorem below_setRow' {B : Nat} {a w : World} (h : Below B a w) {g : Nat} (hg : B ≤ g) (cs : Array Value) : Below B a (w.setRow g cs) :=
  h.trans ⟨rfl, rfl, rfl, by simp, fun k hk => setRow_other w g k cs (by omega)⟩
/-- A quiet callee in a region that stands behind another one that drew. -/
theorem quiet_more {P : Program} {f : FuncId} {args : Array Value} {w : World} {a n : Nat} {v : Value}
    (h : Calls P f args (w.drewN (a + n)) fun e w' => e = .returned v ∧ ∃ m, w' = (w.drewN (a + n)).drewN m) :
    Calls P f args (w.drewN (a + n)) fun e w'' => e = .returned v ∧ ∃ m, w'' = w.drewN (a + m) := by
  refine h.mono ?_
  rintro e w' ⟨he, m, rfl⟩
  exact ⟨he, n + m, by rw [World.drewN_drewN, Nat.add_assoc]⟩
theorem quiet_more_same {P : Program} {f : FuncId} {args : Array Value} {w : World} {a n : Nat} {v : Value}
    (h : Calls P f args (w.drewN (a + n)) fun e w' => e = .returned v ∧ w' = w.drewN (a + n)) :
    Calls P f args (w.drewN (a + n)) fun e w'' => e = .returned v ∧ ∃ m, w'' = w.drewN (a + m) :=
  h.mono fun _ _ hh => ⟨hh.1, n, hh.2⟩

/-- The cells of A lie in block b from offset o on. -/
def rangeA (w : World) (b o : Nat) (A : Array Value) : Prop := ∀ j v, A[j]? = some v → w.cell? ⟨b, o + j, none⟩ = some v
theorem run_loadVar_arr {P : Program} (w : World) (b o : Nat) (ty : TypeId) (A : Array Value) (d : TypeDesc) (hc : rangeA w b o A)
    (hu : P.underlying ty = some d) (hd : d.isRow = true) (hi : (P.info? ty).map (·.size) = some A.size) : (loadVar ty ⟨b, o, none⟩).run P w = .ok (.agg A) w := by
  have h := run_loadVar_mid (P := P) w b o ty A.toList d (fun j v hv => hc j v (by simpa using hv)) hu hd (by simpa using hi)
  simpa using h
theorem wpList_load_arr {P : Program} {ops : Array Oper} {rest : List Oper} {op : Oper} {a : Act} {w : World} {Q : Exit → Act → World → Prop} (hgd : op.guard = none) (ty : TypeId) (x : Operand) (ho : op.op = .load ty x)
    (b o : Nat) (hx : a.eval x = .pointer (some ⟨b, o, none⟩)) (A : Array Value) (d : TypeDesc) (hc : rangeA w b o A)
    (hu : P.underlying ty = some d) (hd : d.isRow = true) (hi : (P.info? ty).map (·.size) = some A.size)
    (h : wpList P ops Q rest (a.put op.dst (.agg A)) w) : wpList P ops Q (op :: rest) a w :=
  wpList_plain hgd fun _ hK => by
    unfold Oper.wp execOp
    simp only [ho, hx, Instr.loadAt, Instr.sureAddr, Sem.run_bind, Sem.run_pure, Result.andThen_ok, run_loadVar_arr w b o ty A d hc hu hd hi]
    exact hK _ _ h
theorem rangeA_arr {w : World} {b o n : Nat} {k : IntKind} {f : Nat → Nat} (h : ∀ j, j < n → w.cell? ⟨b, o + j, none⟩ = some (.int k ((f j : Nat) : Int))) : rangeA w b o (arrOf k n f) := by
  intro j v hv
  rcases Nat.lt_or_ge j n with hj | hj
  · rw [arrOf_get k f hj] at hv
    injection hv with hv
    rw [← hv, h j hj]
  · rw [Array.getElem?_eq_none (by rw [arrOf_size]; exact hj)] at hv
    cases hv

/-- Only block g has turned, and what is new. -/
theorem only_refl (a : World) (row : Option Nat) : a.grownBy a row := World.grownBy.refl a row
theorem only_trans {a b c : World} {g : Nat} (h : a.grownBy b (some g)) (k : b.grownBy c (some g)) : a.grownBy c (some g) :=
  ⟨k.os.trans h.os, k.tape.trans h.tape, k.output.trans h.output, Nat.le_trans h.size k.size, fun i hi hne => (k.block i (Nat.lt_of_lt_of_le hi h.size) hne).trans (h.block i hi hne)⟩
theorem only_drewN {a w : World} {row : Option Nat} (h : a.grownBy w row) (n : Nat) : a.grownBy (w.drewN n) row := ⟨h.os, h.tape, h.output, h.size, h.block⟩
theorem only_drew {a w : World} {row : Option Nat} (h : a.grownBy w row) : a.grownBy w.drew row := ⟨h.os, h.tape, h.output, h.size, h.block⟩
theorem only_alloc {a w : World} {row : Option Nat} (h : a.grownBy w row) (o : Obj) : a.grownBy (w.alloc o) row :=
  ⟨h.os, h.tape, h.output, Nat.le_trans h.size (by simp), fun i hi hne => (Below.heap_alloc w o i (Nat.lt_of_lt_of_le hi h.size)).trans (h.block i hi hne)⟩
theorem only_setCell {a w : World} {g : Nat} (h : a.grownBy w (some g)) {p : Addr} (hp : p.block = g ∨ a.heap.size ≤ p.block) (u : Value) : a.grownBy (w.setCell p u) (some g) :=
  ⟨h.os, h.tape, h.output, by simpa [World.setCell] using h.size, fun i hi hne => (Below.heap_setCell w p u i (by
    rintro rfl
    rcases hp with hp | hp
    · exact hne (by rw [hp])
    · omega)).trans (h.block i hi hne)⟩
theorem only_below {a w : World} (h : Below a.heap.size a w) (row : Option Nat) : a.grownBy w row := ⟨h.os, h.tape, h.output, h.size, fun i hi _ => h.block i hi⟩
theorem only_below_trans {a b c : World} {row : Option Nat} (h : a.grownBy b row) (k : Below b.heap.size b c) : a.grownBy c row :=
  ⟨k.os.trans h.os, k.tape.trans h.tape, k.output.trans h.output, Nat.le_trans h.size k.size, fun i hi hne => (k.block i (Nat.lt_of_lt_of_le hi h.size)).trans (h.block i hi hne)⟩
/-- A block that is new to the caller may turn. -/
theorem below_only {B : Nat} {a b c : World} {g : Nat} (h : Below B a b) (k : b.grownBy c (some g)) (hB : B ≤ b.heap.size) (hg : B ≤ g) : Below B a c :=
  h.grown k hB (fun x hx => by injection hx with hx; omega)
theorem row_only {a b : World} {g x : Nat} {t : TypeId} {n : Nat} {f : Nat → Value} (h : a.rowIs x t n f) (k : a.grownBy b (some g)) (hne : x ≠ g) : b.rowIs x t n f :=
  h.of_block (k.block x h.lt (fun e => hne (by injection e)))
theorem row_below {B : Nat} {a b : World} {x : Nat} {t : TypeId} {n : Nat} {f : Nat → Value} (h : a.rowIs x t n f) (k : Below B a b) (hx : x < B) : b.rowIs x t n f := h.of_block (k.block x hx)
theorem below_drewN {B : Nat} {a w : World} (h : Below B a w) (n : Nat) : Below B a (w.drewN n) := ⟨h.os, h.tape, h.output, h.size, h.block⟩

/-- A slice of bytes that reads as xs; its block (where it has an element) meets 'ok'. -/
structure Bytes (w : World) (ok : Nat → Prop) (A : Option Addr) (xs : List Nat) : Prop where
  lt : ∀ x, x ∈ xs → x < 256
  at_ : 0 < xs.length → ∃ b o, A = some ⟨b, o, none⟩ ∧ ok b ∧ ∀ j, j < xs.length → w.cell? ⟨b, o + j, none⟩ = some (.int .u8 ((xs.getD j 0 : Nat) : Int))
theorem Bytes.keep {w w' : World} {ok : Nat → Prop} {A : Option Addr} {xs : List Nat} (h : Bytes w ok A xs) (hk : ∀ b j, ok b → b < w.heap.size → w'.cell? ⟨b, j, none⟩ = w.cell? ⟨b, j, none⟩) : Bytes w' ok A xs :=
  ⟨h.lt, fun hp => by
    obtain ⟨b, o, e, hb, hc⟩ := h.at_ hp
    refine ⟨b, o, e, hb, fun j hj => ?_⟩
    rw [hk b _ hb (World.block_lt_of_cell? w _ (hc j hj))]
    exact hc j hj⟩
theorem Bytes.only {w w' : World} {g : Nat} {A : Option Addr} {xs : List Nat} (h : Bytes w (· ≠ g) A xs) (hg : w.grownBy w' (some g)) : Bytes w' (· ≠ g) A xs :=
  h.keep fun b j hb hlt => World.cell?_of_block (w := w) (a := ⟨b, j, none⟩) (hg.block b hlt (fun e => hb (by injection e)))
theorem Bytes.below {w w' : World} {B : Nat} {A : Option Addr} {xs : List Nat} (h : Bytes w (· < B) A xs) (hg : Below B w w') : Bytes w' (· < B) A xs :=
  h.keep fun b j hb _ => World.cell?_of_block (w := w) (a := ⟨b, j, none⟩) (hg.block b hb)
theorem Bytes.weak {w : World} {P Q : Nat → Prop} {A : Option Addr} {xs : List Nat} (h : Bytes w P A xs) (hq : ∀ b, P b → b < w.heap.size → Q b) : Bytes w Q A xs :=
  ⟨h.lt, fun hp => by
    obtain ⟨b, o, e, hb, hc⟩ := h.at_ hp
    exact ⟨b, o, e, hq b hb (World.block_lt_of_cell? w _ (hc 0 hp)), hc⟩⟩
/-- The address of 's[k:]'. -/
def cutA (A : Option Addr) (cap k : Nat) : Option Addr := if cap = k then A else A.map (·.add k)
theorem Bytes.cut {w : World} {P : Nat → Prop} {A : Option Addr} {xs : List Nat} (h : Bytes w P A xs) {k c : Nat} (hk : k ≤ xs.length) (hc : xs.length ≤ c) : Bytes w P (cutA A c k) (xs.drop k) :=
  ⟨fun x hx => h.lt x (List.mem_of_mem_drop hx), fun hp => by
    rw [List.length_drop] at hp
    obtain ⟨b, o, rfl, hb, hcell⟩ := h.at_ (by omega)
    refine ⟨b, o + k, ?_, hb, fun j hj => ?_⟩
    · rw [cutA, if_neg (by omega)]
      simp only [Option.map_some, Addr.add_mid]
    · rw [List.length_drop] at hj
      have h1 := hcell (k + j) (by omega)
      rw [show o + k + j = o + (k + j) by omega, h1]
      simp [List.getD_eq_getElem?_getD]⟩
theorem run_slice_from {P : Program} (t e : TypeId) (hu : P.underlying t = some (.slice e)) (hs : (P.info? e).map (·.size) = some 1) (A : Option Addr) (n c k : Nat) (hk : k ≤ n) (w : World) :
    (Instr.slice t (.slice A n c) (some (.int .i64 (k : Int))) none none).run P w = .ok (.slice (cutA A c k) (n - k) (c - k)) w := by
  cases hq : P.info? e with
  | none => simp [hq] at hs
  | some i =>
    have hi : i.size = 1 := by simpa [hq] using hs
    simp [Instr.slice, Instr.sliceBounds, Instr.sliceBound, asIntOf, Sem.run_bind, run_underlying hu w, sizeOf, typeInfo, hq, hi, hk, cutA, Result.andThen]
theorem run_slice_ptr_from {P : Program} (t e : TypeId) (L : Nat) (hu : P.underlying t = some (.array L e)) (pt : TypeId) (hp : P.underlying pt = some (.pointer t)) (hs : (P.info? e).map (·.size) = some 1) (b o k : Nat) (hk : k < L) (w : World) :
    (Instr.slice pt (.pointer (some ⟨b, o, none⟩)) (some (.int .i64 (k : Int))) none none).run P w = .ok (.slice (some ⟨b, o + k, none⟩) (L - k) (L - k)) w := by
  cases hq : P.info? e with
  | none => simp [hq] at hs
  | some i =>
    have hi : i.size = 1 := by simpa [hq] using hs
    have h1 : ¬ L = k := by omega
    have h2 : k ≤ L := by omega
    simp [Instr.slice, Instr.sliceBounds, Instr.sliceBound, asIntOf, Sem.run_bind, run_underlying hu w, run_underlying hp w, sizeOf, typeInfo, hq, hi, h1, h2, Result.andThen, asAddr, Addr.add_mid]
theorem run_sliceAt_from {P : Program} (t e : TypeId) (hu : P.underlying t = some (.slice e)) (hs : (P.info? e).map (·.size) = some 1) (A : Option Addr) (n c k : Nat) (hk : k ≤ n) (w : World) :
    (Instr.sliceAt t (.slice A n c) (some (.int .i64 (k : Int))) none none).run P w = .ok (.slice (cutA A c k) (n - k) (c - k)) w := by
  have h := run_slice_from t e hu hs A n c k hk w
  simp only [Instr.sliceAt, Sem.run_bind, run_underlying hu w, Result.andThen, h]
theorem run_sliceAt_arr {P : Program} (t e : TypeId) (L : Nat) (hu : P.underlying t = some (.array L e)) (hs : (P.info? e).map (·.size) = some 1) (b o k : Nat) (hk : k < L) (w : World) :
    (Instr.sliceAt t (.pointer (some ⟨b, o, none⟩)) (some (.int .i64 (k : Int))) none none).run P w = .ok (.slice (some ⟨b, o + k, none⟩) (L - k) (L - k)) w := by
  cases hq : P.info? e with
  | none => simp [hq] at hs
  | some i =>
    have hi : i.size = 1 := by simpa [hq] using hs
    have h1 : ¬ L = k := by omega
    have h2 : k ≤ L := by omega
    simp [Instr.sliceAt, Instr.sureAddr, Instr.sliceBounds, Instr.sliceBound, asIntOf, Sem.run_bind, run_underlying hu w, sizeOf, typeInfo, hq, hi, h1, h2, Result.andThen, asAddr, Addr.add_mid]
/-- 'copy(dst, src)', at least one element going over, dst in a block that is a row. -/
theorem run_copy_rowIs {P : Program} (w : World) (dT sT ty elem : TypeId) (g o dLen dCap : Nat) (b so : Nat) (sLen sCap : Nat) (t : TypeId) (N : Nat) (F : Nat → Value) (cs : List Value)
    (hu : P.underlying dT = some (.slice elem)) (hs : (P.info? elem).map (·.size) = some 1) (hg : w.rowIs g t N F) (hn : cs.length = Nat.min sLen dLen)
    (hsrc : ∀ j v, cs[j]? = some v → w.cell? ⟨b, so + j, none⟩ = some v) (hfit : o + cs.length ≤ N) (h1 : ∀ v ∈ cs, v.oneCell' = true) :
    ∃ w', (Builtin.copy_ #[dT, sT] ty #[.slice (some ⟨g, o, none⟩) dLen dCap, .slice (some ⟨b, so, none⟩) sLen sCap]).run P w = .ok (goInt cs.length) w' ∧
      w'.rowIs g t N (fun i => if o ≤ i ∧ i < o + cs.length then cs.getD (i - o) undef else F i) ∧ w.grownBy w' (some g) := by
  obtain ⟨C, hC, hN, hF⟩ := hg
  refine ⟨_, run_copy_row P w dT sT ty elem g o dLen dCap ⟨b, so, none⟩ sLen sCap C t cs hu hs hC hn (fun j v hv => by rw [Addr.add_mid]; exact hsrc j v hv) (by omega) h1, ⟨_, setRow_heap w g C _ t _ hC, ?_, ?_⟩,
    ⟨rfl, rfl, rfl, by simp, fun i hi hne => setRow_other w g i _ (fun e => hne (by rw [e]))⟩⟩
  · simp
    omega
  · intro i hi
    have hL : C.toList.length = N := by simpa using hN
    rw [List.getElem?_toArray, List.append_assoc]
    show _ = some (if o ≤ i ∧ i < o + cs.length then cs.getD (i - o) undef else F i)
    by_cases h2 : i < o
    · rw [List.getElem?_append_left (by simp; omega), if_neg (by omega), List.getElem?_take, if_pos h2]
      simpa using hF i hi
    · rw [List.getElem?_append_right (by simp; omega), List.length_take, hL, Nat.min_eq_left (by omega)]
      by_cases h3 : i < o + cs.length
      · rw [List.getElem?_append_left (by omega), if_pos ⟨by omega, h3⟩, List.getD_eq_getElem?_getD, List.getElem?_eq_getElem (by omega)]
        rfl
      · rw [List.getElem?_append_right (by omega), if_neg (by omega), List.getElem?_drop, show o + cs.length + (i - o - cs.length) = i by omega]
        simpa using hF i hi
theorem step_copy_rowIs {P : Program} {ops : Array Oper} {op : Oper} {a : Act} {w : World} {K : Act → World → Prop} {Q : Exit → Act → World → Prop} {E : Prop} (hgd : op.guard = none) (d s : Operand) (dT sT : TypeId)
    (ho : op.op = .call { callee := .builtin .copy, args := #[d, s], argTypes := #[dT, sT] }) (elem : TypeId) (hu : P.underlying dT = some (.slice elem)) (hsz : (P.info? elem).map (·.size) = some 1)
    (g o dLen dCap b so sLen sCap : Nat) (hd : a.eval d = .slice (some ⟨g, o, none⟩) dLen dCap) (hs : a.eval s = .slice (some ⟨b, so, none⟩) sLen sCap)
    (t : TypeId) (N : Nat) (F : Nat → Value) (hg : w.rowIs g t N F) (cs : List Value) (hn : cs.length = Nat.min sLen dLen)
    (hsrc : ∀ j v, cs[j]? = some v → w.cell? ⟨b, so + j, none⟩ = some v) (hfit : o + cs.length ≤ N) (h1 : ∀ v ∈ cs, v.oneCell' = true)
    (h : ∀ w', Hid (w'.rowIs g t N (fun i => if o ≤ i ∧ i < o + cs.length then cs.getD (i - o) undef else F i)) → Hid (w.grownBy w' (some g)) → K (a.put op.dst (goInt cs.length)) w') :
    if Region.wanted op (yielded ops a.tmps) = true then Oper.wp P op a w K Q else E := by
  have hw : Region.wanted op (yielded ops a.tmps) = true := by simp [Region.wanted, hgd]
  rw [if_pos hw]
  obtain ⟨w', hrun, hr, hgr⟩ := run_copy_rowIs (P := P) w dT sT op.type elem g o dLen dCap b so sLen sCap t N F cs hu hsz hg hn hsrc hfit h1
  unfold Oper.wp
  simp [execOp, ho, resolve, invoke, builtin, hd, hs, hrun, Result.andThen]
  exact h w' hr hgr
theorem only_from_drew {w w' : World} {row : Option Nat} (h : w.drew.grownBy w' row) : w.grownBy w' row := ⟨h.os, h.tape, h.output, h.size, h.block⟩
theorem only_from_drewN {w w' : World} {row : Option Nat} {n : Nat} (h : (w.drewN n).grownBy w' row) : w.grownBy w' row := ⟨h.os, h.tape, h.output, h.size, h.block⟩
theorem below_from_drew {B : Nat} {w w' : World} (h : Below B w.drew w') : Below B w w' := ⟨h.os, h.tape, h.output, h.size, h.block⟩
theorem below_from_drewN {B : Nat} {w w' : World} {n : Nat} (h : Below B (w.drewN n) w') : Below B w w' := ⟨h.os, h.tape, h.output, h.size, h.block⟩
end Go.Proofs.YtdbhboglccggdaaGreatDoor
