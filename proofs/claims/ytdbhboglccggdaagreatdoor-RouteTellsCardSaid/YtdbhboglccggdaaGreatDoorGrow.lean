/- How a world grows where nothing that was there turns, but marks on text; slices of bytes, and of such, in a world that grows. -/
import Derived.Test.YtdbhboglccggdaaGreatDoorSA6
import Derived.Test.YtdbhboglccggdaaGreatDoorEq
import Derived.Lib.SlBytesConst
set_option linter.unusedVariables false
set_option linter.unusedSimpArgs false
namespace Go.Proofs.YtdbhboglccggdaaGreatDoor
open Go.RowKit

/-- The same block, but for the mark on it. -/
def SameBut (o o' : Option Obj) : Prop := o' = o ∨ ∃ C e f f', o = some (.cells C e f) ∧ o' = some (.cells C e f')
theorem SameBut.trans {a b c : Option Obj} (h : SameBut a b) (k : SameBut b c) : SameBut a c := by
  rcases h with rfl | ⟨C, e, f, f', rfl, rfl⟩
  · exact k
  · rcases k with rfl | ⟨C', e', g, g', h1, rfl⟩
    · exact .inr ⟨C, e, f, f', rfl, rfl⟩
    · injection h1 with h1
      injection h1 with h1 h2 h3
      subst h1 h2
      exact .inr ⟨C, e, f, g', rfl, rfl⟩
/-- What was there ahead of N is as it was; what is above stands, but for marks. -/
structure Grows (N : Nat) (x y : World) : Prop where
  below : Below N x y
  keep : ∀ b, b < x.heap.size → SameBut x.heap[b]? y.heap[b]?
theorem Grows.refl (N : Nat) (x : World) : Grows N x x := ⟨Below.refl _ _, fun _ _ => .inl rfl⟩
theorem Grows.of_below {N : Nat} {x y : World} (h : Below x.heap.size x y) (hN : N ≤ x.heap.size) : Grows N x y := ⟨h.mono hN, fun b hb => .inl (h.block b hb)⟩
theorem Grows.alloc {N : Nat} {x : World} (hN : N ≤ x.heap.size) (o : Obj) : Grows N x (x.alloc o) := .of_below (Below.alloc (Below.refl _ _) (Nat.le_refl _) o) hN
theorem Grows.cell {N : Nat} {x y : World} (h : Grows N x y) {b j : Nat} (hb : b < x.heap.size) : y.cell? ⟨b, j, none⟩ = x.cell? ⟨b, j, none⟩ := by
  rcases h.keep b hb with e | ⟨C, t, f, f', e1, e2⟩
  · exact World.cell?_of_block (w := x) (a := ⟨b, j, none⟩) e
  · simp [World.cell?, e1, e2]
theorem freeze_grows {N : Nat} {x : World} {b k : Nat} {C : Array Value} {e : TypeId} {f : Nat × Nat} (hb : x.heap[b]? = some (.cells C e f)) (hN : N ≤ b) : Grows N x (x.freeze ⟨b, k, none⟩ 1) := by
  unfold World.freeze
  rw [if_neg (by decide)]
  refine ⟨⟨rfl, rfl, rfl, by simp, fun i hi => ?_⟩, fun i hi => ?_⟩
  · simp only [Array.getElem?_modify]
    rw [if_neg (by omega)]
  · simp only [Array.getElem?_modify]
    by_cases h : b = i
    · subst h
      rw [if_pos rfl, hb]
      obtain ⟨lo, hi'⟩ := f
      exact .inr ⟨C, e, _, _, rfl, rfl⟩
    · rw [if_neg h]; exact .inl rfl
theorem run_convert_const {P : Program} (x : World) (t e : TypeId) (b : Nat) (C : Array Value) (fz : Nat × Nat) (n c : Nat) (ht : P.underlying t = some (.slice e)) (he : P.underlying e = some (.int .u8)) (hb : x.heap[b]? = some (.cells C e fz)) :
    (convert t t (.slice (some ⟨b, 0, none⟩) n c)).run P x = .ok (.slice (some ⟨b, 0, none⟩) n c) (x.freeze ⟨b, C.size, none⟩ 1) := by
  have hsh : x.shape? b = some (e, C.size) := by unfold World.shape?; rw [hb]
  simp [convert, run_underlying ht, run_underlying he, markStringish, hsh]

/-- A slice that reads as the bytes xs. -/
def BS (xs : List Nat) (v : Value) (w : World) : Prop := ∃ A c, v = .slice A xs.length c ∧ xs.length ≤ c ∧ Bytes w (· < w.heap.size) A xs
theorem BS.up {N : Nat} {xs : List Nat} (v : Value) (x y : World) (h : Grows N x y) : BS xs v x → BS xs v y := fun ⟨A, c, e, hc, hb⟩ =>
  ⟨A, c, e, hc, (hb.keep fun b j hb _ => h.cell hb).weak fun b hb _ => Nat.lt_of_lt_of_le hb h.below.size⟩
/-- A slice of slices of bytes that read, one behind the other, as xs. -/
def PS (xs : List Nat) (v : Value) (w : World) : Prop := ∃ A c ls, v = .slice A ls.length c ∧ Pieces w (· < w.heap.size) A ls ∧ allOf ls = xs ∧ ls.length ≤ maxLen
theorem PS.up {N : Nat} {xs : List Nat} (v : Value) (x y : World) (h : Grows N x y) : PS xs v x → PS xs v y := fun ⟨A, c, ls, e, hp, ha, hm⟩ =>
  ⟨A, c, ls, e, (hp.keep fun b j hb _ => h.cell hb).weak fun b hb _ => Nat.lt_of_lt_of_le hb h.below.size, ha, hm⟩
/-- A literal of bytes, ahead of its mark. -/
def LB (N : Nat) (xs : List Nat) (v : Value) (w : World) : Prop := ∃ b f, v = .slice (some ⟨b, 0, none⟩) xs.length xs.length ∧ N ≤ b ∧ w.heap[b]? = some (.cells (xs.map fun n => Value.int .u8 ((n : Nat) : Int)).toArray 5 f)
theorem LB.up {N : Nat} {xs : List Nat} (v : Value) (x y : World) (h : Grows N x y) : LB N xs v x → LB N xs v y := fun ⟨b, f, e, hN, hb⟩ => by
  have hlt : b < x.heap.size := by
    rcases Nat.lt_or_ge b x.heap.size with h' | h'
    · exact h'
    · rw [Array.getElem?_eq_none h'] at hb; cases hb
  rcases h.keep b hlt with e1 | ⟨C, t, g, g', e1, e2⟩
  · exact ⟨b, f, e, hN, e1.trans hb⟩
  · rw [hb] at e1
    injection e1 with e1
    injection e1 with e1 e3 _
    subst e1 e3
    exact ⟨b, g', e, hN, e2⟩
theorem LB.lit {N : Nat} {x : World} (xs : List Nat) {C : Array Value} {n : Nat} (hC : C = (xs.map fun n => Value.int .u8 ((n : Nat) : Int)).toArray) (hn : n = xs.length) (hN : N ≤ x.heap.size) :
    Grows N x (x.alloc (.cells C 5)) ∧ LB N xs (.slice (some ⟨x.heap.size, 0, none⟩) n n) (x.alloc (.cells C 5)) := by
  subst hn hC
  exact ⟨Grows.alloc hN _, _, _, rfl, hN, heap_alloc_new _ _⟩
theorem LB.bs {N : Nat} {w : World} {xs : List Nat} {v : Value} (h : LB N xs v w) (hlt : ∀ n, n ∈ xs → n < 256) : BS xs v w := by
  obtain ⟨b, f, rfl, hN, hb⟩ := h
  refine ⟨_, _, rfl, Nat.le_refl _, hlt, fun _ => ⟨_, _, rfl, ?_, fun j hj => ?_⟩⟩
  · rcases Nat.lt_or_ge b w.heap.size with h' | h'
    · exact h'
    · rw [Array.getElem?_eq_none h'] at hb; cases hb
  · rw [Nat.zero_add, cell_of_row _ _ _ _ _ _ hb]
    simp [List.getD_eq_getElem?_getD, hj]
/-- '[]byte("..")'. -/
theorem LB.conv {N : Nat} {w : World} {xs : List Nat} {v : Value} (h : LB N xs v w) (hlt : ∀ n, n ∈ xs → n < 256) :
    ∃ w', (convert 95 95 v).run Tryz.prog w = .ok v w' ∧ Grows N w w' ∧ BS xs v w' := by
  have hbs := h.bs hlt
  obtain ⟨b, f, rfl, hN, hb⟩ := h
  exact ⟨_, run_convert_const w 95 5 b _ f _ _ Tryz.underlying95 Tryz.underlying5 hb, freeze_grows hb hN, BS.up _ _ _ (freeze_grows (k := (xs.map fun n => Value.int .u8 ((n : Nat) : Int)).toArray.size) hb hN) hbs⟩
theorem ps_two {N : Nat} (x : World) {xs ys : List Nat} {u v : Value} (hu : BS xs u x) (hv : BS ys v x) (hx : xs.length ≤ maxLen) (hy : ys.length ≤ maxLen) (t : TypeId) (hN : N ≤ x.heap.size) :
    Grows N x (x.alloc (.cells #[u, v] t)) ∧ PS (xs ++ ys) (.slice (some ⟨x.heap.size, 0, none⟩) 2 2) (x.alloc (.cells #[u, v] t)) := by
  have hg := Grows.alloc hN (.cells #[u, v] t)
  have hu' := BS.up u x _ hg hu
  have hv' := BS.up v x _ hg hv
  obtain ⟨A, c, rfl, hc, hb⟩ := hu'
  obtain ⟨A', c', rfl, hc', hb'⟩ := hv'
  refine ⟨hg, _, 2, [⟨A, c, xs⟩, ⟨A', c', ys⟩], rfl, ⟨fun p hp => ?_, fun _ => ⟨_, _, rfl, by simp, fun j p hj => ?_⟩⟩, by simp [allOf], by unfold maxLen; simp⟩
  · simp only [List.mem_cons, List.mem_nil_iff, or_false] at hp
    rcases hp with rfl | rfl
    · exact ⟨hb, hc, hx⟩
    · exact ⟨hb', hc', hy⟩
  · rw [Nat.zero_add, World.cell?_alloc_at _ _ _ _ rfl]
    match j, hj with
    | 0, hj => simp only [List.getElem?_cons_zero, Option.some.injEq] at hj; subst hj; rfl
    | 1, hj => simp only [List.getElem?_cons_succ, List.getElem?_cons_zero, Option.some.injEq] at hj; subst hj; rfl
    | j + 2, hj => simp at hj
theorem ps_one {N : Nat} (x : World) {xs : List Nat} {u : Value} (hu : BS xs u x) (hx : xs.length ≤ maxLen) (t : TypeId) (hN : N ≤ x.heap.size) :
    Grows N x (x.alloc (.cells #[u] t)) ∧ PS xs (.slice (some ⟨x.heap.size, 0, none⟩) 1 1) (x.alloc (.cells #[u] t)) := by
  have hg := Grows.alloc hN (.cells #[u] t)
  have hu' := BS.up u x _ hg hu
  obtain ⟨A, c, rfl, hc, hb⟩ := hu'
  refine ⟨hg, _, 1, [⟨A, c, xs⟩], rfl, ⟨fun p hp => ?_, fun _ => ⟨_, _, rfl, by simp, fun j p hj => ?_⟩⟩, by simp [allOf], by unfold maxLen; simp⟩
  · simp only [List.mem_singleton] at hp
    subst hp
    exact ⟨hb, hc, hx⟩
  · rw [Nat.zero_add, World.cell?_alloc_at _ _ _ _ rfl]
    match j, hj with
    | 0, hj => simp only [List.getElem?_cons_zero, Option.some.injEq] at hj; subst hj; rfl
    | j + 1, hj => simp at hj
theorem sum_ps {N : Nat} {xs : List Nat} {v : Value} {w : World} (ht : Tabs w) (h : PS xs v w) (hN : N ≤ w.heap.size) : Calls Tryz.prog 85 #[v] w fun e w' => e = .returned (.agg (arrOf .u8 32 (sha xs))) ∧ Grows N w w' := by
  obtain ⟨A, c, ls, rfl, hp, rfl, hm⟩ := h
  exact (sum_any ls c A w ht hp hm).mono fun _ _ h => ⟨h.1, .of_below h.2 hN⟩
theorem point_bs {N : Nat} {xs : List Nat} {v : Value} {w : World} (ht : Tabs w) (h : BS xs v w) (hm : xs.length ≤ maxLen) (hN : N ≤ w.heap.size) :
    Calls Tryz.prog 65 #[v] w fun e w' => e = .returned (.int .u64 ((pt (sha xs) 8 : Nat) : Int)) ∧ Grows N w w' := by
  obtain ⟨A, c, rfl, hc, hb⟩ := h
  exact (point_any xs c A w ht hb hc hm).mono fun _ _ h => ⟨h.1, .of_below h.2 hN⟩
end Go.Proofs.YtdbhboglccggdaaGreatDoor
