/- Texts of one kind, joined: S1, S2, S3, S4, S5, S6, S7, S8, S9, S10, S11. -/
import Derived.Shelf.GgSortFunc.InsertionK
import Derived.Shelf.SlSortFuncK.SiftDownK
import Derived.Shelf.SlSortFuncK.HeapSortK
import Derived.Shelf.SlSortFuncK.LotDK
import Derived.Shelf.SlSortFuncK.PivotK
import Derived.Shelf.SlSortFuncK.ComposeK
import Derived.Shelf.SlSortFuncK.PartialInsertionK
import Derived.Shelf.SlSortFuncK.PartitionK
import Derived.Shelf.SlSortFuncK.PdqK
import Derived.Test.YtnpacjdgbmldlaaCaA2
set_option linter.unusedVariables false
set_option linter.unusedSimpArgs false
/- Sorting by a `less` that lays blocks: what is asked of less, swap and the row; insertion sort. -/
namespace Go.Proofs.Ytnpacjdgbmldlaa
open Go.RowKit Go.Lib Go.Sort

/-- What the sort needs of its row (R d x: the row holds d at x; r: the row's block), of less and of swap. -/
structure SEnv {α : Type} [Inhabited α] (lt : α → α → Bool) (g : Nat) (lb : Array Value) (sf : Nat) (sb : Array Value) (r n N : Nat) (R : Array α → World → Prop) : Prop where
  eg : ∀ args w, (callFunc g args).run Try.prog w = .ok (.enter g args) w
  size : ∀ d x, R d x → d.size = n
  rowN : r < N
  base : ∀ d x, R d x → N ≤ x.heap.size
  keep : ∀ d x y, RowKit.Below N x y → R d x → R d y
  less : ∀ d x, R d x → ∀ i j : Nat, i < n → j < n → Calls Try.prog g (#[.int .i64 i, .int .i64 j] ++ lb) x fun e w' => e = .returned (.bool (lt d[i]! d[j]!)) ∧ RowKit.Below x.heap.size x w'
  swap : ∀ d x, R d x → ∀ i j : Nat, i < n → j < n → ∃ y, (callFunc sf (#[.int .i64 i, .int .i64 j] ++ sb)).run Try.prog x = .ok (.value (.tuple #[])) y ∧ R (swp d i j) y ∧ x.grownBy y (some r)
  small : n < 4611686018427387904
def lsC (g : Nat) (lb : Array Value) (sf : Nat) (sb : Array Value) : Array Value := #[.func (.func g) #[] lb, .func (.func sf) #[] sb]
abbrev lsV (g : Nat) (lb : Array Value) (sf : Nat) (sb : Array Value) : Value := .agg #[.func (.func g) #[] lb, .func (.func sf) #[] sb]
theorem only_then {w x y : World} {r : Nat} (h : w.grownBy x (some r)) (k : x.grownBy y (some r)) : w.grownBy y (some r) :=
  ⟨k.os.trans h.os, k.tape.trans h.tape, k.output.trans h.output, Nat.le_trans h.size k.size, fun i hi hn => (k.block i (Nat.lt_of_lt_of_le hi h.size) hn).trans (h.block i hi hn)⟩
theorem below_then {w x y : World} {r : Nat} (h : w.grownBy x (some r)) (k : RowKit.Below x.heap.size x y) : w.grownBy y (some r) :=
  ⟨k.os.trans h.os, k.tape.trans h.tape, k.output.trans h.output, Nat.le_trans h.size k.size, fun i hi hn => (k.block i (Nat.lt_of_lt_of_le hi h.size)).trans (h.block i hi hn)⟩
/-- Inside a function of the sort that was called at w, its lessSwap in the box at w's end. -/
structure SIn {α : Type} (g : Nat) (lb : Array Value) (sf : Nat) (sb : Array Value) (r : Nat) (R : Array α → World → Prop) (w : World) (d : Array α) (x : World) : Prop where
  row : R d x
  box : x.heap[w.heap.size]? = some (.cells (lsC g lb sf sb) 168 (0, 0))
  only : w.grownBy x (some r)
section
variable {α : Type} [Inhabited α] {lt : α → α → Bool} {g : Nat} {lb : Array Value} {sf : Nat} {sb : Array Value} {r n N : Nat} {R : Array α → World → Prop}
theorem SEnv.row (E : SEnv lt g lb sf sb r n N R) (d : Array α) (x : World) (h : R d x) : r < x.heap.size := Nat.lt_of_lt_of_le E.rowN (E.base _ _ h)
theorem SEnv.grow (E : SEnv lt g lb sf sb r n N R) (d : Array α) (x y : World) (hb : RowKit.Below x.heap.size x y) (h : R d x) : R d y := E.keep _ _ _ (hb.mono (E.base _ _ h)) h
theorem SIn.start (E : SEnv lt g lb sf sb r n N R) {w : World} {d : Array α} (h : R d w) : SIn g lb sf sb r R w d (w.alloc (.cells (lsC g lb sf sb) 168)) :=
  ⟨E.grow _ _ _ (below1 _ _) h, heap_alloc_new _ _, below_then ⟨rfl, rfl, rfl, Nat.le_refl _, fun _ _ _ => rfl⟩ (below1 _ _)⟩
theorem SIn.laid (E : SEnv lt g lb sf sb r n N R) {w x y : World} {d : Array α} (h : SIn g lb sf sb r R w d x) (hb : RowKit.Below x.heap.size x y) : SIn g lb sf sb r R w d y :=
  ⟨E.grow _ _ _ hb h.row, (hb.block _ (lt_of_row h.box)).trans h.box, below_then h.only hb⟩
omit [Inhabited α] in
theorem SIn.swapped {w x y : World} {d d' : Array α} (hr : r < w.heap.size) (h : SIn g lb sf sb r R w d x) (h1 : R d' y) (h2 : x.grownBy y (some r)) : SIn g lb sf sb r R w d' y :=
  ⟨h1, (h2.block _ (lt_of_row h.box) (fun e => by injection e with e; omega)).trans h.box, only_then h.only h2⟩
omit [Inhabited α] in
theorem SIn.c0 {w x : World} {d : Array α} (h : SIn g lb sf sb r R w d x) : x.cell? ⟨w.heap.size, 0, none⟩ = some (.func (.func g) #[] lb) := by rw [cell_of_row _ _ _ _ _ _ h.box]; rfl
omit [Inhabited α] in
theorem SIn.c1 {w x : World} {d : Array α} (h : SIn g lb sf sb r R w d x) : x.cell? ⟨w.heap.size, 1, none⟩ = some (.func (.func sf) #[] sb) := by rw [cell_of_row _ _ _ _ _ _ h.box]; rfl
theorem SIn.drawn (E : SEnv lt g lb sf sb r n N R) {w x : World} {d : Array α} (h : SIn g lb sf sb r R w d x) (q : Nat) : SIn g lb sf sb r R w d (x.drewN q) := h.laid E (below_drewN (RowKit.Below.refl _ _) q)

set_option maxHeartbeats 2000000 in
set_option maxRecDepth 100000 in
theorem ins_any (E : SEnv lt g lb sf sb r n N R) (d : Array α) (w : World) (hR : R d w) (a b : Nat) (hab : a ≤ b) (hb : b ≤ n) :
    Calls Try.prog 144 #[lsV g lb sf sb, .int .i64 a, .int .i64 b] w fun e w' => e = .returned (.tuple #[]) ∧ R (Sort.insertionSort lt d a b) w' ∧ w.grownBy w' (some r) := by
  have HE := Lib.hid E
  have hr := E.row _ _ hR
  have HI0 : Hid (SIn g lb sf sb r R w d (w.alloc (.cells (lsC g lb sf sb) 168))) := Lib.hid (SIn.start E hR)
  have hn : n < 4611686018427387904 := E.small
  clear hR E
  go_enter Try.func144, Try.ntmps144
  go_wp2
  go_loopw [6] (fun vi wr => ∃ (i : Nat) (dk : Array α), vi = .int .i64 i ∧ a < i ∧ i ≤ b + 1 ∧ Hid (SIn g lb sf sb r R w dk wr) ∧ Hid (insOuter lt a b i dk = insOuter lt a b (a + 1) d)) (fun vi _ => b + 1 - (intOf vi).toNat)
  case atStart => exact ⟨a + 1, d, by go_num, by omega, by omega, HI0, rfl⟩
  case round =>
    obtain ⟨i, dk, rfl, hai, hib, HK, HO⟩ := hrel
    clear HI0
    go_wp2
    · go_loopw [7] (fun vj wr2 => ∃ (j : Nat) (dj : Array α), vj = .int .i64 j ∧ a ≤ j ∧ j ≤ i ∧ Hid (SIn g lb sf sb r R w dj wr2) ∧ Hid (insInner lt a j dj = insInner lt a i dk)) (fun vj _ => (intOf vj).toNat)
      case atStart => exact ⟨i, dk, rfl, by omega, Nat.le_refl _, HK, rfl⟩
      case round =>
        obtain ⟨j, dj, rfl, haj, hji, HJ, HI⟩ := hrel
        have hlt : i < b := by assumption
        clear HK
        have c0 := HJ.out.c0
        have OUT : Hid ((j ≤ a ∨ lt dj[j]! dj[j - 1]! = false) → ∀ y, SIn g lb sf sb r R w dj y → ∃ (i' : Nat) (dk' : Array α), Value.int .i64 ((i : Int) + 1) = .int .i64 (i' : Nat) ∧ a < i' ∧ i' ≤ b + 1 ∧ Hid (SIn g lb sf sb r R w dk' y) ∧ Hid (insOuter lt a b i' dk' = insOuter lt a b (a + 1) d)) := Lib.hid fun hs y hy =>
          ⟨i + 1, dj, by go_num, by omega, by omega, hy, by show _ = _; rw [← HO.out, insOuter_go _ _ _ _ _ hlt, ← HI.out, insInner_stop _ _ _ _ hs]⟩
        by_cases hja : a < j
        · have hl := HE.out.less dj wr HJ.out.row j (j - 1) (by omega) (by omega)
          rw [show (((j - 1 : Nat) : Int)) = (j : Int) - 1 by omega] at hl
          cases hlv : lt dj[j]! dj[j - 1]! with
          | true =>
            rw [hlv] at hl
            have HL := Lib.hid hl
            clear hl
            have eg := HE.out.eg
            have c0' : ∀ q, (wr.drewN q).cell? ⟨w.heap.size, 0, none⟩ = some (.func (.func g) #[] lb) := fun q => (HJ.out.drawn HE.out q).c0
            go_wp2_with (go_at_fn g; refine HL.out.mono ?_; rintro e w' ⟨rfl, hb⟩; have HJ2 := Lib.hid (HJ.out.laid HE.out hb); have c1 := HJ2.out.c1; clear hb)
            obtain ⟨y, hs, hRy, hgy⟩ := HE.out.swap dj w' HJ2.out.row j (j - 1) (by omega) (by omega)
            rw [show (((j - 1 : Nat) : Int)) = (j : Int) - 1 by omega] at hs
            have HJ3 := Lib.hid (HJ2.out.swapped hr hRy hgy)
            rw [hs, Oper.upon_value]
            clear hs hRy hgy
            go_wp2
            go_roundw
            case rel =>
              (repeat apply Exists.intro)
              refine ⟨⟨j - 1, swp dj j (j - 1), by congr 1 <;> omega, by omega, by omega, HJ3, ?_⟩, by rw [decide_eq_true hlt, show ((j - 1 : Nat) : Int) = (j : Int) - 1 by omega]⟩
              show _ = _
              rw [← HI.out, insInner_go lt a j dj hja hlv]
            case measure => simp [intOf]; omega
          | false =>
            rw [hlv] at hl
            have HL := Lib.hid hl
            clear hl
            have eg := HE.out.eg
            have c0' : ∀ q, (wr.drewN q).cell? ⟨w.heap.size, 0, none⟩ = some (.func (.func g) #[] lb) := fun q => (HJ.out.drawn HE.out q).c0
            go_wp2_with (go_at_fn g; refine HL.out.mono ?_; rintro e w' ⟨rfl, hb⟩; have HJ2 := Lib.hid (HJ.out.laid HE.out hb); clear hb)
            go_roundw
            case rel => exact OUT.out (Or.inr hlv) _ HJ2.out
            case measure => simp [intOf]; omega
        · go_wp2
          go_roundw
          case rel => exact OUT.out (Or.inl (by omega)) _ HJ.out
          case measure => simp [intOf]; omega
    · have hge : ¬ i < b := by assumption
      go_end0
      refine ⟨rfl, ?_, HK.out.only⟩
      have h := HK.out.row
      unfold Sort.insertionSort
      rw [← HO.out, insOuter_stop _ _ _ _ _ hge]
      exact h
end
end Go.Proofs.Ytnpacjdgbmldlaa

/- siftDown by a `less` that lays blocks. -/
namespace Go.Proofs.Ytnpacjdgbmldlaa
open Go.RowKit Go.Lib Go.Sort
section
variable {α : Type} [Inhabited α] {lt : α → α → Bool} {g : Nat} {lb : Array Value} {sf : Nat} {sb : Array Value} {r n N : Nat} {R : Array α → World → Prop}
set_option maxHeartbeats 4000000 in
set_option maxRecDepth 1000000 in
theorem sift_any (E : SEnv lt g lb sf sb r n N R) (d : Array α) (w : World) (hR : R d w) (lo hi first : Nat) (hlo : lo ≤ hi) (hb : first + hi ≤ n) :
    Calls Try.prog 156 #[lsV g lb sf sb, .int .i64 lo, .int .i64 hi, .int .i64 first] w fun e w' => e = .returned (.tuple #[]) ∧ R (siftDown lt hi first lo d) w' ∧ w.grownBy w' (some r) := by
  have HE := Lib.hid E
  have hr := E.row _ _ hR
  have HI0 : Hid (SIn g lb sf sb r R w d (w.alloc (.cells (lsC g lb sf sb) 168))) := Lib.hid (SIn.start E hR)
  have hn : n < 4611686018427387904 := E.small
  clear hR E
  go_enter Try.func156, Try.ntmps156
  go_wp2
  go_loopw [8] (fun v wr => ∃ (root : Nat) (dk : Array α), v = .int .i64 root ∧ root ≤ hi ∧ Hid (SIn g lb sf sb r R w dk wr) ∧ Hid (siftDown lt hi first root dk = siftDown lt hi first lo d)) (fun v _ => hi - (intOf v).toNat)
  case atStart => exact ⟨lo, d, rfl, hlo, HI0, rfl⟩
  case round =>
    obtain ⟨root, dk, rfl, hrt, HJ, HQ⟩ := hrel
    clear HI0
    by_cases h0 : hi ≤ 2 * root + 1
    · have h0z : (hi : Int) ≤ 2 * (root : Int) + 1 := by omega
      go_wp2
      go_end0
      refine ⟨rfl, ?_, HJ.out.only⟩
      have h := HJ.out.row
      rw [← HQ.out, sd_end lt dk h0]
      exact h
    · have h0z : ¬ ((hi : Int) ≤ 2 * (root : Int) + 1) := by omega
      by_cases h1 : 2 * root + 2 < hi
      · have h1z : 2 * (root : Int) + 1 + 1 < (hi : Int) := by omega
        cases hL : lt dk[first + (2 * root + 1)]! dk[first + (2 * root + 2)]! with
        | true =>
          cases hG : lt dk[first + root]! dk[first + (2 * root + 2)]! with
          | true =>
            have HL1 : Hid (∀ y, SIn g lb sf sb r R w dk y → Calls Try.prog g (#[.int .i64 ((first : Int) + (2 * (root : Int) + 1)), .int .i64 ((first : Int) + (2 * (root : Int) + 1) + 1)] ++ lb) y fun e w' => e = .returned (.bool true) ∧ RowKit.Below y.heap.size y w') := Lib.hid fun y hy => by
              have h := HE.out.less dk y hy.row (first + (2 * root + 1)) (first + (2 * root + 2)) (by omega) (by omega)
              rw [hL, show (((first + (2 * root + 1) : Nat)) : Int) = (first : Int) + (2 * (root : Int) + 1) by omega, show (((first + (2 * root + 2) : Nat)) : Int) = (first : Int) + (2 * (root : Int) + 1) + 1 by omega] at h
              exact h
            have HL2 : Hid (∀ y, SIn g lb sf sb r R w dk y → Calls Try.prog g (#[.int .i64 ((first : Int) + (root : Int)), .int .i64 ((first : Int) + (2 * (root : Int) + 1 + 1))] ++ lb) y fun e w' => e = .returned (.bool true) ∧ RowKit.Below y.heap.size y w') := Lib.hid fun y hy => by
              have h := HE.out.less dk y hy.row (first + root) (first + (2 * root + 2)) (by omega) (by omega)
              rw [hG, show (((first + root : Nat)) : Int) = (first : Int) + (root : Int) by omega, show (((first + (2 * root + 2) : Nat)) : Int) = (first : Int) + (2 * (root : Int) + 1 + 1) by omega] at h
              exact h
            have HSW : Hid (∀ y, SIn g lb sf sb r R w dk y → ∃ z, (callFunc sf (#[.int .i64 ((first : Int) + (root : Int)), .int .i64 ((first : Int) + (2 * (root : Int) + 1 + 1))] ++ sb)).run Try.prog y = .ok (.value (.tuple #[])) z ∧ SIn g lb sf sb r R w (swp dk (first + root) (first + (2 * root + 2))) z) := Lib.hid fun y hy => by
              obtain ⟨z, h1, h2, h3⟩ := HE.out.swap dk y hy.row (first + root) (first + (2 * root + 2)) (by omega) (by omega)
              rw [show (((first + root : Nat)) : Int) = (first : Int) + (root : Int) by omega, show (((first + (2 * root + 2) : Nat)) : Int) = (first : Int) + (2 * (root : Int) + 1 + 1) by omega] at h1
              exact ⟨z, h1, hy.swapped hr h2 h3⟩
            have eg := HE.out.eg
            have c0 := HJ.out.c0
            have c0q : ∀ q, (wr.drewN q).cell? ⟨w.heap.size, 0, none⟩ = some (.func (.func g) #[] lb) := fun q => (HJ.out.drawn HE.out q).c0
            go_wp2_with (first | (go_at_fn g; refine (HL1.out _ HJ.out).mono ?_; rintro e w1 ⟨rfl, hb⟩; have HJ1 := Lib.hid (HJ.out.laid HE.out hb); have c0HJ1 := HJ1.out.c0; have c1HJ1 := HJ1.out.c1; clear hb) | (go_at_fn g; refine (HL2.out _ HJ1.out).mono ?_; rintro e w2 ⟨rfl, hb⟩; have HJ2 := Lib.hid (HJ1.out.laid HE.out hb); have c0HJ2 := HJ2.out.c0; have c1HJ2 := HJ2.out.c1; clear hb))
            obtain ⟨z, hs, hz⟩ := HSW.out _ HJ2.out
            have HZ := Lib.hid hz
            rw [hs, Oper.upon_value]
            clear hs hz HSW
            go_wp2
            go_roundw
            case rel => exact ⟨2 * root + 2, swp dk (first + root) (first + (2 * root + 2)), by go_num, by omega, HZ, (show Hid _ from by rw [← HQ.out, sd_right_go lt dk h1 hL hG]; exact rfl)⟩
            case measure => simp [intOf]; omega
          | false =>
            have HL1 : Hid (∀ y, SIn g lb sf sb r R w dk y → Calls Try.prog g (#[.int .i64 ((first : Int) + (2 * (root : Int) + 1)), .int .i64 ((first : Int) + (2 * (root : Int) + 1) + 1)] ++ lb) y fun e w' => e = .returned (.bool true) ∧ RowKit.Below y.heap.size y w') := Lib.hid fun y hy => by
              have h := HE.out.less dk y hy.row (first + (2 * root + 1)) (first + (2 * root + 2)) (by omega) (by omega)
              rw [hL, show (((first + (2 * root + 1) : Nat)) : Int) = (first : Int) + (2 * (root : Int) + 1) by omega, show (((first + (2 * root + 2) : Nat)) : Int) = (first : Int) + (2 * (root : Int) + 1) + 1 by omega] at h
              exact h
            have HL2 : Hid (∀ y, SIn g lb sf sb r R w dk y → Calls Try.prog g (#[.int .i64 ((first : Int) + (root : Int)), .int .i64 ((first : Int) + (2 * (root : Int) + 1 + 1))] ++ lb) y fun e w' => e = .returned (.bool false) ∧ RowKit.Below y.heap.size y w') := Lib.hid fun y hy => by
              have h := HE.out.less dk y hy.row (first + root) (first + (2 * root + 2)) (by omega) (by omega)
              rw [hG, show (((first + root : Nat)) : Int) = (first : Int) + (root : Int) by omega, show (((first + (2 * root + 2) : Nat)) : Int) = (first : Int) + (2 * (root : Int) + 1 + 1) by omega] at h
              exact h
            have eg := HE.out.eg
            have c0 := HJ.out.c0
            have c0q : ∀ q, (wr.drewN q).cell? ⟨w.heap.size, 0, none⟩ = some (.func (.func g) #[] lb) := fun q => (HJ.out.drawn HE.out q).c0
            go_wp2_with (first | (go_at_fn g; refine (HL1.out _ HJ.out).mono ?_; rintro e w1 ⟨rfl, hb⟩; have HJ1 := Lib.hid (HJ.out.laid HE.out hb); have c0HJ1 := HJ1.out.c0; have c1HJ1 := HJ1.out.c1; clear hb) | (go_at_fn g; refine (HL2.out _ HJ1.out).mono ?_; rintro e w2 ⟨rfl, hb⟩; have HJ2 := Lib.hid (HJ1.out.laid HE.out hb); have c0HJ2 := HJ2.out.c0; have c1HJ2 := HJ2.out.c1; clear hb))
            (try simp only [Exit.inBlock, Exit.then]); refine bodyPost_ret (results_none rfl _ _ _) rfl ?_
            refine ⟨rfl, ?_, HJ2.out.only⟩
            have h := HJ2.out.row
            rw [← HQ.out, sd_right_stop lt dk h1 hL hG]
            exact h
        | false =>
          cases hG : lt dk[first + root]! dk[first + (2 * root + 1)]! with
          | true =>
            have HL1 : Hid (∀ y, SIn g lb sf sb r R w dk y → Calls Try.prog g (#[.int .i64 ((first : Int) + (2 * (root : Int) + 1)), .int .i64 ((first : Int) + (2 * (root : Int) + 1) + 1)] ++ lb) y fun e w' => e = .returned (.bool false) ∧ RowKit.Below y.heap.size y w') := Lib.hid fun y hy => by
              have h := HE.out.less dk y hy.row (first + (2 * root + 1)) (first + (2 * root + 2)) (by omega) (by omega)
              rw [hL, show (((first + (2 * root + 1) : Nat)) : Int) = (first : Int) + (2 * (root : Int) + 1) by omega, show (((first + (2 * root + 2) : Nat)) : Int) = (first : Int) + (2 * (root : Int) + 1) + 1 by omega] at h
              exact h
            have HL2 : Hid (∀ y, SIn g lb sf sb r R w dk y → Calls Try.prog g (#[.int .i64 ((first : Int) + (root : Int)), .int .i64 ((first : Int) + (2 * (root : Int) + 1))] ++ lb) y fun e w' => e = .returned (.bool true) ∧ RowKit.Below y.heap.size y w') := Lib.hid fun y hy => by
              have h := HE.out.less dk y hy.row (first + root) (first + (2 * root + 1)) (by omega) (by omega)
              rw [hG, show (((first + root : Nat)) : Int) = (first : Int) + (root : Int) by omega, show (((first + (2 * root + 1) : Nat)) : Int) = (first : Int) + (2 * (root : Int) + 1) by omega] at h
              exact h
            have HSW : Hid (∀ y, SIn g lb sf sb r R w dk y → ∃ z, (callFunc sf (#[.int .i64 ((first : Int) + (root : Int)), .int .i64 ((first : Int) + (2 * (root : Int) + 1))] ++ sb)).run Try.prog y = .ok (.value (.tuple #[])) z ∧ SIn g lb sf sb r R w (swp dk (first + root) (first + (2 * root + 1))) z) := Lib.hid fun y hy => by
              obtain ⟨z, h1, h2, h3⟩ := HE.out.swap dk y hy.row (first + root) (first + (2 * root + 1)) (by omega) (by omega)
              rw [show (((first + root : Nat)) : Int) = (first : Int) + (root : Int) by omega, show (((first + (2 * root + 1) : Nat)) : Int) = (first : Int) + (2 * (root : Int) + 1) by omega] at h1
              exact ⟨z, h1, hy.swapped hr h2 h3⟩
            have eg := HE.out.eg
            have c0 := HJ.out.c0
            have c0q : ∀ q, (wr.drewN q).cell? ⟨w.heap.size, 0, none⟩ = some (.func (.func g) #[] lb) := fun q => (HJ.out.drawn HE.out q).c0
            go_wp2_with (first | (go_at_fn g; refine (HL1.out _ HJ.out).mono ?_; rintro e w1 ⟨rfl, hb⟩; have HJ1 := Lib.hid (HJ.out.laid HE.out hb); have c0HJ1 := HJ1.out.c0; have c1HJ1 := HJ1.out.c1; clear hb) | (go_at_fn g; refine (HL2.out _ HJ1.out).mono ?_; rintro e w2 ⟨rfl, hb⟩; have HJ2 := Lib.hid (HJ1.out.laid HE.out hb); have c0HJ2 := HJ2.out.c0; have c1HJ2 := HJ2.out.c1; clear hb))
            obtain ⟨z, hs, hz⟩ := HSW.out _ HJ2.out
            have HZ := Lib.hid hz
            rw [hs, Oper.upon_value]
            clear hs hz HSW
            go_wp2
            go_roundw
            case rel => exact ⟨2 * root + 1, swp dk (first + root) (first + (2 * root + 1)), by go_num, by omega, HZ, (show Hid _ from by rw [← HQ.out, sd_left_go lt dk (by omega) (fun _ => hL) hG]; exact rfl)⟩
            case measure => simp [intOf]; omega
          | false =>
            have HL1 : Hid (∀ y, SIn g lb sf sb r R w dk y → Calls Try.prog g (#[.int .i64 ((first : Int) + (2 * (root : Int) + 1)), .int .i64 ((first : Int) + (2 * (root : Int) + 1) + 1)] ++ lb) y fun e w' => e = .returned (.bool false) ∧ RowKit.Below y.heap.size y w') := Lib.hid fun y hy => by
              have h := HE.out.less dk y hy.row (first + (2 * root + 1)) (first + (2 * root + 2)) (by omega) (by omega)
              rw [hL, show (((first + (2 * root + 1) : Nat)) : Int) = (first : Int) + (2 * (root : Int) + 1) by omega, show (((first + (2 * root + 2) : Nat)) : Int) = (first : Int) + (2 * (root : Int) + 1) + 1 by omega] at h
              exact h
            have HL2 : Hid (∀ y, SIn g lb sf sb r R w dk y → Calls Try.prog g (#[.int .i64 ((first : Int) + (root : Int)), .int .i64 ((first : Int) + (2 * (root : Int) + 1))] ++ lb) y fun e w' => e = .returned (.bool false) ∧ RowKit.Below y.heap.size y w') := Lib.hid fun y hy => by
              have h := HE.out.less dk y hy.row (first + root) (first + (2 * root + 1)) (by omega) (by omega)
              rw [hG, show (((first + root : Nat)) : Int) = (first : Int) + (root : Int) by omega, show (((first + (2 * root + 1) : Nat)) : Int) = (first : Int) + (2 * (root : Int) + 1) by omega] at h
              exact h
            have eg := HE.out.eg
            have c0 := HJ.out.c0
            have c0q : ∀ q, (wr.drewN q).cell? ⟨w.heap.size, 0, none⟩ = some (.func (.func g) #[] lb) := fun q => (HJ.out.drawn HE.out q).c0
            go_wp2_with (first | (go_at_fn g; refine (HL1.out _ HJ.out).mono ?_; rintro e w1 ⟨rfl, hb⟩; have HJ1 := Lib.hid (HJ.out.laid HE.out hb); have c0HJ1 := HJ1.out.c0; have c1HJ1 := HJ1.out.c1; clear hb) | (go_at_fn g; refine (HL2.out _ HJ1.out).mono ?_; rintro e w2 ⟨rfl, hb⟩; have HJ2 := Lib.hid (HJ1.out.laid HE.out hb); have c0HJ2 := HJ2.out.c0; have c1HJ2 := HJ2.out.c1; clear hb))
            (try simp only [Exit.inBlock, Exit.then]); refine bodyPost_ret (results_none rfl _ _ _) rfl ?_
            refine ⟨rfl, ?_, HJ2.out.only⟩
            have h := HJ2.out.row
            rw [← HQ.out, sd_left_stop lt dk (by omega) (fun _ => hL) hG]
            exact h
      · have h1z : ¬ (2 * (root : Int) + 1 + 1 < (hi : Int)) := by omega
        cases hG : lt dk[first + root]! dk[first + (2 * root + 1)]! with
        | true =>
          have HL2 : Hid (∀ y, SIn g lb sf sb r R w dk y → Calls Try.prog g (#[.int .i64 ((first : Int) + (root : Int)), .int .i64 ((first : Int) + (2 * (root : Int) + 1))] ++ lb) y fun e w' => e = .returned (.bool true) ∧ RowKit.Below y.heap.size y w') := Lib.hid fun y hy => by
            have h := HE.out.less dk y hy.row (first + root) (first + (2 * root + 1)) (by omega) (by omega)
            rw [hG, show (((first + root : Nat)) : Int) = (first : Int) + (root : Int) by omega, show (((first + (2 * root + 1) : Nat)) : Int) = (first : Int) + (2 * (root : Int) + 1) by omega] at h
            exact h
          have HSW : Hid (∀ y, SIn g lb sf sb r R w dk y → ∃ z, (callFunc sf (#[.int .i64 ((first : Int) + (root : Int)), .int .i64 ((first : Int) + (2 * (root : Int) + 1))] ++ sb)).run Try.prog y = .ok (.value (.tuple #[])) z ∧ SIn g lb sf sb r R w (swp dk (first + root) (first + (2 * root + 1))) z) := Lib.hid fun y hy => by
            obtain ⟨z, h1, h2, h3⟩ := HE.out.swap dk y hy.row (first + root) (first + (2 * root + 1)) (by omega) (by omega)
            rw [show (((first + root : Nat)) : Int) = (first : Int) + (root : Int) by omega, show (((first + (2 * root + 1) : Nat)) : Int) = (first : Int) + (2 * (root : Int) + 1) by omega] at h1
            exact ⟨z, h1, hy.swapped hr h2 h3⟩
          have eg := HE.out.eg
          have c0 := HJ.out.c0
          have c0q : ∀ q, (wr.drewN q).cell? ⟨w.heap.size, 0, none⟩ = some (.func (.func g) #[] lb) := fun q => (HJ.out.drawn HE.out q).c0
          go_wp2_with (go_at_fn g; refine (HL2.out _ HJ.out).mono ?_; rintro e w1 ⟨rfl, hb⟩; have HJ1 := Lib.hid (HJ.out.laid HE.out hb); have c0HJ1 := HJ1.out.c0; have c1HJ1 := HJ1.out.c1; clear hb)
          obtain ⟨z, hs, hz⟩ := HSW.out _ HJ1.out
          have HZ := Lib.hid hz
          rw [hs, Oper.upon_value]
          clear hs hz HSW
          go_wp2
          go_roundw
          case rel => exact ⟨2 * root + 1, swp dk (first + root) (first + (2 * root + 1)), by go_num, by omega, HZ, (show Hid _ from by rw [← HQ.out, sd_left_go lt dk (by omega) (fun h => absurd h h1) hG]; exact rfl)⟩
          case measure => simp [intOf]; omega
        | false =>
          have HL2 : Hid (∀ y, SIn g lb sf sb r R w dk y → Calls Try.prog g (#[.int .i64 ((first : Int) + (root : Int)), .int .i64 ((first : Int) + (2 * (root : Int) + 1))] ++ lb) y fun e w' => e = .returned (.bool false) ∧ RowKit.Below y.heap.size y w') := Lib.hid fun y hy => by
            have h := HE.out.less dk y hy.row (first + root) (first + (2 * root + 1)) (by omega) (by omega)
            rw [hG, show (((first + root : Nat)) : Int) = (first : Int) + (root : Int) by omega, show (((first + (2 * root + 1) : Nat)) : Int) = (first : Int) + (2 * (root : Int) + 1) by omega] at h
            exact h
          have eg := HE.out.eg
          have c0 := HJ.out.c0
          have c0q : ∀ q, (wr.drewN q).cell? ⟨w.heap.size, 0, none⟩ = some (.func (.func g) #[] lb) := fun q => (HJ.out.drawn HE.out q).c0
          go_wp2_with (go_at_fn g; refine (HL2.out _ HJ.out).mono ?_; rintro e w1 ⟨rfl, hb⟩; have HJ1 := Lib.hid (HJ.out.laid HE.out hb); have c0HJ1 := HJ1.out.c0; have c1HJ1 := HJ1.out.c1; clear hb)
          (try simp only [Exit.inBlock, Exit.then]); refine bodyPost_ret (results_none rfl _ _ _) rfl ?_
          refine ⟨rfl, ?_, HJ1.out.only⟩
          have h := HJ1.out.row
          rw [← HQ.out, sd_left_stop lt dk (by omega) (fun h => absurd h h1) hG]
          exact h
end
end Go.Proofs.Ytnpacjdgbmldlaa

/- heapSort by a `less` that lays blocks. -/
namespace Go.Proofs.Ytnpacjdgbmldlaa
open Go.RowKit Go.Lib Go.Sort
section
variable {α : Type} [Inhabited α] {lt : α → α → Bool} {g : Nat} {lb : Array Value} {sf : Nat} {sb : Array Value} {r n N : Nat} {R : Array α → World → Prop}
theorem enters156 : ∀ args w, (callFunc 156 args).run Try.prog w = .ok (.enter 156 args) w := enters_of Try.func156 (by kernel_rfl) rfl
set_option maxHeartbeats 4000000 in
set_option maxRecDepth 1000000 in
theorem heap_any (E : SEnv lt g lb sf sb r n N R) (d : Array α) (w : World) (hR : R d w) (a b : Nat) (hab : a ≤ b) (hb : b ≤ n) :
    Calls Try.prog 145 #[lsV g lb sf sb, .int .i64 a, .int .i64 b] w fun e w' => e = .returned (.tuple #[]) ∧ R (heapSort lt d a b) w' ∧ w.grownBy w' (some r) := by
  have HE := Lib.hid E
  have hr := E.row _ _ hR
  have HI0 : Hid (SIn g lb sf sb r R w d (w.alloc (.cells (lsC g lb sf sb) 168))) := Lib.hid (SIn.start E hR)
  have hn : n < 4611686018427387904 := E.small
  have e156 := enters156
  have ecast : ((b - a : Nat) : Int) = (b : Int) - (a : Int) := by omega
  clear hR E
  go_enter Try.func145, Try.ntmps145
  go_wp2
  go_loopg [9] ((b - a - 1) / 2 + 1) (fun kx s9 wr => s9 = .int .i64 ((kx : Int) - 1) ∧ kx ≤ (b - a - 1) / 2 + 1 ∧ ∃ (dk : Array α), Hid (SIn g lb sf sb r R w dk wr) ∧ Hid (heapBuild lt (b - a) a kx dk = heapBuild lt (b - a) a ((b - a - 1) / 2 + 1) d))
  case atStart => exact ⟨by rw [half_start hab], Nat.le_refl _, d, HI0, rfl⟩
  case round =>
    clear HI0
    obtain ⟨rfl, hkk, dk, HJ, HQ⟩ := hrel
    cases gk with
    | zero =>
      have hB : dk = heapBuild lt (b - a) a ((b - a - 1) / 2 + 1) d := HQ.out
      clear HQ hkk
      go_wp2
      go_loopg [10] (b - a) (fun kx s10 wr2 => s10 = .int .i64 ((kx : Int) - 1) ∧ kx ≤ b - a ∧ ∃ (dj : Array α), Hid (SIn g lb sf sb r R w dj wr2) ∧ Hid (heapPop lt a kx dj = heapPop lt a (b - a) dk))
      case atStart => exact ⟨by rw [ecast], Nat.le_refl _, dk, HJ, rfl⟩
      case round =>
        clear HJ
        obtain ⟨rfl, hkk, dj, HJ, HQ⟩ := hrel
        cases gk with
        | zero =>
          go_wp2
          go_end0
          have e : dj = heapSort lt d a b := by rw [heapSort, ← hB, ← HQ.out]; rfl
          rw [← e]
          exact ⟨rfl, HJ.out.row, HJ.out.only⟩
        | succ kx =>
          obtain ⟨z, hs, h2, h3⟩ := HE.out.swap dj wr HJ.out.row a (a + kx) (by omega) (by omega)
          rw [show ((a + kx : Nat) : Int) = (a : Int) + (kx : Int) by omega] at hs
          have HZ := Lib.hid (HJ.out.swapped hr h2 h3)
          have c1 := HJ.out.c1
          have c0' := HZ.out.c0
          have c1' := HZ.out.c1
          have hcall := sift_any HE.out (swp dj a (a + kx)) z h2 0 kx a (Nat.zero_le _) (by omega)
          have hz := HE.out.row _ _ h2
          have HC := Lib.hid hcall
          clear hcall h2 h3
          go_wp2_with (go_at_fn 156; refine HC.out.mono ?_; rintro e w1 ⟨rfl, h4, h5⟩; have HK := Lib.hid (HZ.out.swapped hr h4 h5); clear h4 h5)
          go_roundg kx
          case measure => omega
          case rel => exact ⟨by simp, by omega, siftDown lt kx a 0 (swp dj a (a + kx)), HK, HQ⟩
    | succ kx =>
      have hcall := sift_any HE.out dk wr HJ.out.row kx (b - a) a (by omega) (by omega)
      rw [ecast] at hcall
      have HC := Lib.hid hcall
      have c0 := HJ.out.c0
      have c1 := HJ.out.c1
      clear hcall
      go_wp2_with (go_at_fn 156; refine HC.out.mono ?_; rintro e w1 ⟨rfl, h4, h5⟩; have HK := Lib.hid (HJ.out.swapped hr h4 h5); clear h4 h5)
      go_roundg kx
      case measure => omega
      case rel => exact ⟨by simp, by omega, siftDown lt (b - a) a kx dk, HK, HQ⟩
end
end Go.Proofs.Ytnpacjdgbmldlaa

/- order2, median, medianAdjacent by a `less` that lays blocks. -/
namespace Go.Proofs.Ytnpacjdgbmldlaa
open Go.RowKit Go.Lib Go.Sort
/-- The counter of swaps. -/
structure CntAt (x : World) (c : Nat) (s : Nat) : Prop where
  cell : x.cell? ⟨c, 0, none⟩ = some (.int .i64 (s : Int))
  fr : x.frozen? ⟨c, 0, none⟩ = false
theorem CntAt.lt {x : World} {c s : Nat} (h : CntAt x c s) : c < x.heap.size := World.block_lt_of_cell? x _ h.cell
theorem CntAt.laid {x y : World} {c s B : Nat} (h : CntAt x c s) (hb : RowKit.Below B x y) (hc : c < B) : CntAt y c s :=
  ⟨(World.cell?_of_block (w := x) (a := ⟨c, 0, none⟩) (hb.block c hc)).trans h.cell, (World.frozen?_of_block (w := x) (a := ⟨c, 0, none⟩) (hb.block c hc)).trans h.fr⟩
theorem below_setCellN {N c : Nat} (h : N ≤ c) {x : World} (v : Value) : RowKit.Below N x (x.setCell ⟨c, 0, none⟩ v) :=
  ⟨rfl, rfl, rfl, by simp [World.setCell], fun k hk => Below.heap_setCell x ⟨c, 0, none⟩ v k (by intro e; simp only at e; omega)⟩
section
variable {α : Type} [Inhabited α] {lt : α → α → Bool} {g : Nat} {lb : Array Value} {sf : Nat} {sb : Array Value} {r n N : Nat} {R : Array α → World → Prop}
set_option maxHeartbeats 2000000 in
set_option maxRecDepth 100000 in
theorem order2_any (E : SEnv lt g lb sf sb r n N R) (d : Array α) (w : World) (hR : R d w) (a b cb s : Nat) (ha : a < n) (hb : b < n) (hc : CntAt w cb s) (hcb : N ≤ cb) (hs : s < 4611686018427387904) :
    Calls Try.prog 171 #[lsV g lb sf sb, .int .i64 a, .int .i64 b, .pointer (some ⟨cb, 0, none⟩)] w fun e w' =>
      e = .returned (.tuple #[.int .i64 (order2 lt d a b s).1, .int .i64 (order2 lt d a b s).2.1]) ∧ R d w' ∧ CntAt w' cb (order2 lt d a b s).2.2 ∧ w.grownBy w' (some cb) := by
  have HE := Lib.hid E
  have HJ : Hid (SIn g lb sf sb r R w d (w.alloc (.cells (lsC g lb sf sb) 168))) := Lib.hid (SIn.start E hR)
  have HC := Lib.hid hc
  have hcl := hc.lt
  have hl := E.less d _ HJ.out.row b a hb ha
  have eg := E.eg
  have c0 := HJ.out.c0
  have hbb := below1 w (.cells (lsC g lb sf sb) 168)
  have HBB := Lib.hid hbb
  have hsw : IntKind.i64.wrap ((s : Int) + 1) = (s : Int) + 1 := by rw [IntKind.wrap_i64]; omega
  clear hc hbb E hR
  cases hlv : lt d[b]! d[a]! with
  | true =>
    rw [hlv] at hl
    have e2 : order2 lt d a b s = (b, a, s + 1) := by simp [order2, hlv]
    have HL := Lib.hid hl
    clear hl hlv
    go_enter Try.func171, Try.ntmps171
    go_wp2_with (go_at_fn g; refine HL.out.mono ?_; rintro e w2 ⟨rfl, hb2⟩; have HB2 := Lib.hid hb2; have HC2 := Lib.hid ((HC.out.laid HBB.out hcl).laid hb2 (by simp; omega)); have cc := HC2.out.cell; have ff := HC2.out.fr; clear hb2)
    go_ret2
    rw [e2]
    refine ⟨rfl, HE.out.keep _ _ _ (below_setCellN hcb _) (HE.out.grow _ _ _ HB2.out HJ.out.row), ⟨?_, ?_⟩, only_setCell (below_then (r := cb) (below_then ⟨rfl, rfl, rfl, Nat.le_refl _, fun _ _ _ => rfl⟩ HBB.out) HB2.out) (.inl rfl) _⟩
    · rw [World.cell?_setCell_same' _ _ _ (by rw [HC2.out.cell]; rfl)]
      rfl
    · rw [World.frozen?_setCell]
      exact HC2.out.fr
  | false =>
    rw [hlv] at hl
    have e2 : order2 lt d a b s = (a, b, s) := by simp [order2, hlv]
    have HL := Lib.hid hl
    clear hl hlv
    go_enter Try.func171, Try.ntmps171
    go_wp2_with (go_at_fn g; refine HL.out.mono ?_; rintro e w2 ⟨rfl, hb2⟩; have HB2 := Lib.hid hb2; have HC2 := Lib.hid ((HC.out.laid HBB.out hcl).laid hb2 (by simp; omega)); clear hb2)
    go_ret2
    rw [e2]
    exact ⟨rfl, HE.out.grow _ _ _ HB2.out HJ.out.row, HC2.out, below_then (r := cb) (below_then ⟨rfl, rfl, rfl, Nat.le_refl _, fun _ _ _ => rfl⟩ HBB.out) HB2.out⟩
/-- Inside a function that was called at w and handed the counter on. -/
structure MIn (g : Nat) (lb : Array Value) (sf : Nat) (sb : Array Value) (R : Array α → World → Prop) (w : World) (d : Array α) (cb s : Nat) (x : World) : Prop where
  row : R d x
  box : x.heap[w.heap.size]? = some (.cells (lsC g lb sf sb) 168 (0, 0))
  cnt : CntAt x cb s
  only : w.grownBy x (some cb)
omit [Inhabited α] in
theorem MIn.c0 {w x : World} {d : Array α} {cb s : Nat} (h : MIn g lb sf sb R w d cb s x) : x.cell? ⟨w.heap.size, 0, none⟩ = some (.func (.func g) #[] lb) := by rw [cell_of_row _ _ _ _ _ _ h.box]; rfl
omit [Inhabited α] in
theorem MIn.c1 {w x : World} {d : Array α} {cb s : Nat} (h : MIn g lb sf sb R w d cb s x) : x.cell? ⟨w.heap.size, 1, none⟩ = some (.func (.func sf) #[] sb) := by rw [cell_of_row _ _ _ _ _ _ h.box]; rfl
theorem MIn.start (E : SEnv lt g lb sf sb r n N R) {w : World} {d : Array α} {cb s : Nat} (h : R d w) (hc : CntAt w cb s) : MIn g lb sf sb R w d cb s (w.alloc (.cells (lsC g lb sf sb) 168)) :=
  ⟨E.grow _ _ _ (below1 _ _) h, heap_alloc_new _ _, hc.laid (below1 _ _) hc.lt, below_then ⟨rfl, rfl, rfl, Nat.le_refl _, fun _ _ _ => rfl⟩ (below1 _ _)⟩
omit [Inhabited α] in
theorem MIn.on {w x y : World} {d : Array α} {cb s s' : Nat} (hc : cb < w.heap.size) (h : MIn g lb sf sb R w d cb s x) (h1 : R d y) (h2 : CntAt y cb s') (h3 : x.grownBy y (some cb)) : MIn g lb sf sb R w d cb s' y :=
  ⟨h1, (h3.block _ (lt_of_row h.box) (fun e => by injection e with e; omega)).trans h.box, h2, only_then h.only h3⟩
theorem enters171 : ∀ args w, (callFunc 171 args).run Try.prog w = .ok (.enter 171 args) w := enters_of Try.func171 (by kernel_rfl) rfl
theorem enters160 : ∀ args w, (callFunc 160 args).run Try.prog w = .ok (.enter 160 args) w := enters_of Try.func160 (by kernel_rfl) rfl
set_option maxHeartbeats 2000000 in
set_option maxRecDepth 100000 in
theorem median_any (E : SEnv lt g lb sf sb r n N R) (d : Array α) (w : World) (hR : R d w) (a b c cb s : Nat) (ha : a < n) (hb : b < n) (hc' : c < n) (hc : CntAt w cb s) (hcb : N ≤ cb) (hs : s + 3 < 4611686018427387904) :
    Calls Try.prog 160 #[lsV g lb sf sb, .int .i64 a, .int .i64 b, .int .i64 c, .pointer (some ⟨cb, 0, none⟩)] w fun e w' =>
      e = .returned (.int .i64 (median lt d a b c s).1) ∧ R d w' ∧ CntAt w' cb (median lt d a b c s).2 ∧ w.grownBy w' (some cb) := by
  have HE := Lib.hid E
  have hcl := hc.lt
  have HM0 : Hid (MIn g lb sf sb R w d cb s (w.alloc (.cells (lsC g lb sf sb) 168))) := Lib.hid (MIn.start E hR hc)
  have l1 := order2_lt' lt d s ha hb
  have s1 := order2_swaps' lt d a b s
  have l2 := order2_lt' lt d (order2 lt d a b s).2.2 l1.2 hc'
  have s2 := order2_swaps' lt d (order2 lt d a b s).2.1 c (order2 lt d a b s).2.2
  have step : Hid (∀ x t a' b', a' < n → b' < n → t < 4611686018427387904 → MIn g lb sf sb R w d cb t x → Calls Try.prog 171 #[lsV g lb sf sb, .int .i64 (a' : Nat), .int .i64 (b' : Nat), .pointer (some ⟨cb, 0, none⟩)] x fun e w' =>
      e = .returned (.tuple #[.int .i64 (order2 lt d a' b' t).1, .int .i64 (order2 lt d a' b' t).2.1]) ∧ MIn g lb sf sb R w d cb (order2 lt d a' b' t).2.2 w') := Lib.hid fun x t a' b' h1 h2 h3 h =>
    (order2_any HE.out d x h.row a' b' cb t h1 h2 h.cnt hcb h3).mono fun e w' ⟨e1, e2, e3, e4⟩ => ⟨e1, h.on hcl e2 e3 e4⟩
  have e171 := enters171
  have c0 := HM0.out.c0
  have c1 := HM0.out.c1
  clear hR hc E
  go_enter Try.func160, Try.ntmps160
  go_wp2_with (go_at_fn_of 171 (Value.int .i64 (b : Int)); refine (step.out _ s a b ha hb (by omega) HM0.out).mono ?_; rintro e w1 ⟨rfl, h⟩; have HM1 := Lib.hid h; have c01 := HM1.out.c0; have c11 := HM1.out.c1; clear h)
  go_wp2_with (go_at_fn_of 171 (Value.int .i64 (c : Int)); refine (step.out _ _ _ c l1.2 hc' (by omega) HM1.out).mono ?_; rintro e w2 ⟨rfl, h⟩; have HM2 := Lib.hid h; have c02 := HM2.out.c0; have c12 := HM2.out.c1; clear h)
  go_wp2_with (go_at_fn_of 171 (Value.int .i64 ((order2 lt d a b s).1 : Int)); refine (step.out _ _ _ _ l1.1 l2.1 (by omega) HM2.out).mono ?_; rintro e w3 ⟨rfl, h⟩; have HM3 := Lib.hid h; clear h)
  go_ret
  exact ⟨rfl, HM3.out.row, HM3.out.cnt, HM3.out.only⟩
set_option maxHeartbeats 2000000 in
set_option maxRecDepth 100000 in
theorem medianAdj_any (E : SEnv lt g lb sf sb r n N R) (d : Array α) (w : World) (hR : R d w) (a cb s : Nat) (ha1 : 1 ≤ a) (ha2 : a + 1 < n) (hc : CntAt w cb s) (hcb : N ≤ cb) (hs : s + 3 < 4611686018427387904) :
    Calls Try.prog 159 #[lsV g lb sf sb, .int .i64 a, .pointer (some ⟨cb, 0, none⟩)] w fun e w' =>
      e = .returned (.int .i64 (medianAdjacent lt d a s).1) ∧ R d w' ∧ CntAt w' cb (medianAdjacent lt d a s).2 ∧ w.grownBy w' (some cb) := by
  have hcl := hc.lt
  have HM0 : Hid (MIn g lb sf sb R w d cb s (w.alloc (.cells (lsC g lb sf sb) 168))) := Lib.hid (MIn.start E hR hc)
  have hm := median_any E d _ HM0.out.row (a - 1) a (a + 1) cb s (by omega) (by omega) ha2 HM0.out.cnt hcb hs
  have hn := E.small
  rw [show ((a - 1 : Nat) : Int) = (a : Int) - 1 by omega, show ((a + 1 : Nat) : Int) = (a : Int) + 1 by omega] at hm
  have HM := Lib.hid hm
  have e160 := enters160
  have c0 := HM0.out.c0
  have c1 := HM0.out.c1
  clear hm hR hc E
  go_enter Try.func159, Try.ntmps159
  go_wp2_with (go_at_fn 160; refine HM.out.mono ?_; rintro e w1 ⟨rfl, h1, h2, h3⟩; have HM1 := Lib.hid (HM0.out.on hcl h1 h2 h3); clear h1 h2 h3)
  go_ret
  exact ⟨rfl, HM1.out.row, HM1.out.cnt, HM1.out.only⟩
end
end Go.Proofs.Ytnpacjdgbmldlaa

/- choosePivot by a `less` that lays blocks. -/
namespace Go.Proofs.Ytnpacjdgbmldlaa
open Go.RowKit Go.Lib Go.Sort
section
variable {α : Type} [Inhabited α] {lt : α → α → Bool} {g : Nat} {lb : Array Value} {sf : Nat} {sb : Array Value} {r n N : Nat} {R : Array α → World → Prop}
/-- Inside choosePivot, called at w: its box, and its own counter behind that. -/
structure PIn (g : Nat) (lb : Array Value) (sf : Nat) (sb : Array Value) (R : Array α → World → Prop) (w : World) (d : Array α) (s : Nat) (x : World) : Prop where
  row : R d x
  box : x.heap[w.heap.size]? = some (.cells (lsC g lb sf sb) 168 (0, 0))
  cnt : CntAt x (w.heap.size + 1) s
  below : RowKit.Below w.heap.size w x
omit [Inhabited α] in
theorem PIn.c0 {w x : World} {d : Array α} {s : Nat} (h : PIn g lb sf sb R w d s x) : x.cell? ⟨w.heap.size, 0, none⟩ = some (.func (.func g) #[] lb) := by rw [cell_of_row _ _ _ _ _ _ h.box]; rfl
omit [Inhabited α] in
theorem PIn.c1 {w x : World} {d : Array α} {s : Nat} (h : PIn g lb sf sb R w d s x) : x.cell? ⟨w.heap.size, 1, none⟩ = some (.func (.func sf) #[] sb) := by rw [cell_of_row _ _ _ _ _ _ h.box]; rfl
theorem PIn.start (E : SEnv lt g lb sf sb r n N R) {w : World} {d : Array α} (h : R d w) : PIn g lb sf sb R w d 0 ((w.alloc (.cells (lsC g lb sf sb) 168)).alloc (.cells #[.int .i64 0] 3)) := by
  have hs : (w.alloc (.cells (lsC g lb sf sb) 168)).heap.size = w.heap.size + 1 := by simp
  have h1 : ((w.alloc (.cells (lsC g lb sf sb) 168)).alloc (.cells #[.int .i64 0] 3)).heap[w.heap.size + 1]? = some (.cells #[.int .i64 0] 3 (0, 0)) := by rw [← hs]; exact heap_alloc_new _ _
  refine ⟨E.grow _ _ _ (below2 _ _ _) h, (Below.heap_alloc _ _ _ (by simp)).trans (heap_alloc_new _ _), ⟨?_, ?_⟩, below2 _ _ _⟩
  · rw [cell_of_row _ _ _ _ _ _ h1]; rfl
  · unfold World.frozen?
    simp only [h1]
    rfl
omit [Inhabited α] in
theorem PIn.on {w x y : World} {d : Array α} {s s' : Nat} (h : PIn g lb sf sb R w d s x) (h1 : R d y) (h2 : CntAt y (w.heap.size + 1) s') (h3 : x.grownBy y (some (w.heap.size + 1))) : PIn g lb sf sb R w d s' y :=
  ⟨h1, (h3.block _ (lt_of_row h.box) (fun e => by injection e with e; omega)).trans h.box, h2, h.below.grown h3 h.below.size fun k e => by injection e with e; omega⟩
theorem enters159 : ∀ args w, (callFunc 159 args).run Try.prog w = .ok (.enter 159 args) w := enters_of Try.func159 (by kernel_rfl) rfl

set_option maxHeartbeats 4000000 in
set_option maxRecDepth 100000 in
theorem pivot_any (E : SEnv lt g lb sf sb r n N R) (d : Array α) (w : World) (hR : R d w) (a b : Nat) (hab : a < b) (hb : b ≤ n) :
    Calls Try.prog 147 #[lsV g lb sf sb, .int .i64 a, .int .i64 b] w fun e w' =>
      e = .returned (.tuple #[.int .i64 (choosePivot lt d a b).1, .int .i64 (hintCode (choosePivot lt d a b).2)]) ∧ R d w' ∧ RowKit.Below w.heap.size w w' := by
  have HP0 : Hid (PIn g lb sf sb R w d 0 ((w.alloc (.cells (lsC g lb sf sb) 168)).alloc (.cells #[.int .i64 0] 3))) := Lib.hid (PIn.start E hR)
  have hN := E.base _ _ hR
  have hsz := E.small
  have MA : Hid (∀ x y s, 1 ≤ x → x + 1 < n → s + 3 < 4611686018427387904 → PIn g lb sf sb R w d s y → Calls Try.prog 159 #[lsV g lb sf sb, .int .i64 (x : Nat), .pointer (some ⟨w.heap.size + 1, 0, none⟩)] y fun e w' => e = .returned (.int .i64 (medianAdjacent lt d x s).1) ∧ PIn g lb sf sb R w d (medianAdjacent lt d x s).2 w') := Lib.hid fun x y s h1 h2 h3 h =>
    (medianAdj_any E d y h.row x (w.heap.size + 1) s h1 h2 h.cnt (by omega) h3).mono fun e w' ⟨e1, e2, e3, e4⟩ => ⟨e1, h.on e2 e3 e4⟩
  have MD : Hid (∀ x1 x2 x3 y s, x1 < n → x2 < n → x3 < n → s + 3 < 4611686018427387904 → PIn g lb sf sb R w d s y → Calls Try.prog 160 #[lsV g lb sf sb, .int .i64 (x1 : Nat), .int .i64 (x2 : Nat), .int .i64 (x3 : Nat), .pointer (some ⟨w.heap.size + 1, 0, none⟩)] y fun e w' => e = .returned (.int .i64 (median lt d x1 x2 x3 s).1) ∧ PIn g lb sf sb R w d (median lt d x1 x2 x3 s).2 w') := Lib.hid fun x1 x2 x3 y s h1 h2 h3 h4 h =>
    (median_any E d y h.row x1 x2 x3 (w.heap.size + 1) s h1 h2 h3 h.cnt (by omega) h4).mono fun e w' ⟨e1, e2, e3, e4⟩ => ⟨e1, h.on e2 e3 e4⟩
  have e159 := enters159
  have e160 := enters160
  clear E hR hN
  rw [choosePivot_eq]
  obtain ⟨I, hI⟩ : ∃ I : Nat, I = a + (b - a) / 4 * 1 := ⟨_, rfl⟩
  obtain ⟨J, hJ⟩ : ∃ J : Nat, J = a + (b - a) / 4 * 2 := ⟨_, rfl⟩
  obtain ⟨K, hK⟩ : ∃ K : Nat, K = a + (b - a) / 4 * 3 := ⟨_, rfl⟩
  have eI : ((a : Int) + ((b : Int) - (a : Int)) / 4) = (I : Int) := by omega
  have eJ : ((a : Int) + ((b : Int) - (a : Int)) / 4 * 2) = (J : Int) := by omega
  have eK : ((a : Int) + ((b : Int) - (a : Int)) / 4 * 3) = (K : Int) := by omega
  by_cases h8 : b - a ≥ 8
  · by_cases h50 : b - a ≥ 50
    · obtain ⟨i1, s1, h1⟩ : ∃ i1 s1, medianAdjacent lt d I 0 = (i1, s1) := ⟨_, _, rfl⟩
      obtain ⟨j1, s2, h2⟩ : ∃ j1 s2, medianAdjacent lt d J s1 = (j1, s2) := ⟨_, _, rfl⟩
      obtain ⟨k1, s3, h3⟩ : ∃ k1 s3, medianAdjacent lt d K s2 = (k1, s3) := ⟨_, _, rfl⟩
      obtain ⟨p, s, h4⟩ : ∃ p s, median lt d i1 j1 k1 s3 = (p, s) := ⟨_, _, rfl⟩
      have hraw : rawPivot lt d a b = (p, s) := by simp only [rawPivot, if_pos h8, if_pos h50, ← hI, ← hJ, ← hK, h1, h2, h3, h4]
      have m1 := medianAdjacent_mem lt d I 0; rw [h1] at m1
      have m2 := medianAdjacent_mem lt d J s1; rw [h2] at m2
      have m3 := medianAdjacent_mem lt d K s2; rw [h3] at m3
      have n1 := medianAdjacent_count lt d I 0; rw [h1] at n1
      have n2 := medianAdjacent_count lt d J s1; rw [h2] at n2
      have n3 := medianAdjacent_count lt d K s2; rw [h3] at n3
      simp only [] at m1 m2 m3 n1 n2 n3
      have k1' := MA.out I _ 0 (by omega) (by omega) (by omega) HP0.out
      rw [h1] at k1'
      have C1 := Lib.hid k1'
      have C2 : Hid (∀ y, PIn g lb sf sb R w d s1 y → Calls Try.prog 159 #[lsV g lb sf sb, .int .i64 (J : Nat), .pointer (some ⟨w.heap.size + 1, 0, none⟩)] y fun e w' => e = .returned (.int .i64 (j1 : Int)) ∧ PIn g lb sf sb R w d s2 w') := Lib.hid fun y h => by
        have h' := MA.out J y s1 (by omega) (by omega) (by omega) h; rw [h2] at h'; exact h'
      have C3 : Hid (∀ y, PIn g lb sf sb R w d s2 y → Calls Try.prog 159 #[lsV g lb sf sb, .int .i64 (K : Nat), .pointer (some ⟨w.heap.size + 1, 0, none⟩)] y fun e w' => e = .returned (.int .i64 (k1 : Int)) ∧ PIn g lb sf sb R w d s3 w') := Lib.hid fun y h => by
        have h' := MA.out K y s2 (by omega) (by omega) (by omega) h; rw [h3] at h'; exact h'
      have C4 : Hid (∀ y, PIn g lb sf sb R w d s3 y → Calls Try.prog 160 #[lsV g lb sf sb, .int .i64 (i1 : Nat), .int .i64 (j1 : Nat), .int .i64 (k1 : Nat), .pointer (some ⟨w.heap.size + 1, 0, none⟩)] y fun e w' => e = .returned (.int .i64 (p : Int)) ∧ PIn g lb sf sb R w d s w') := Lib.hid fun y h => by
        have h' := MD.out i1 j1 k1 y s3 (by omega) (by omega) (by omega) (by omega) h; rw [h4] at h'; exact h'
      have c0 := HP0.out.c0
      have c1 := HP0.out.c1
      rw [hraw]
      obtain ⟨Hc, hHc⟩ : ∃ Hc : Int, Hc = hintCode (hintOf s) := ⟨_, rfl⟩
      have hh0 : s = 0 → Hc = 1 := fun h => by rw [hHc, h]; rfl
      have hh12 : s = 12 → Hc = 2 := fun h => by rw [hHc, h]; rfl
      have hhx : s ≠ 0 → s ≠ 12 → Hc = 0 := fun h1 h2 => by rw [hHc]; unfold hintOf; rw [if_neg h1, if_neg h2]; rfl
      show Calls Try.prog 147 _ w fun e w' => e = .returned (.tuple #[.int .i64 (p : Int), .int .i64 (hintCode (hintOf s))]) ∧ R d w' ∧ RowKit.Below w.heap.size w w'
      rw [← hHc]
      clear hHc hraw
      clear k1' h1 h2 h3 h4 MA MD hI hJ hK m1 m2 m3
      go_enter Try.func147, Try.ntmps147
      go_wp2_with (first
        | (go_at_fn_of 159 (Value.int .i64 (I : Int)); refine C1.out.mono ?_; rintro e w1 ⟨rfl, h⟩; have HP1 := Lib.hid h; have c01 := HP1.out.c0; have c11 := HP1.out.c1; clear h)
        | (go_at_fn_of 159 (Value.int .i64 (J : Int)); refine (C2.out _ HP1.out).mono ?_; rintro e w2 ⟨rfl, h⟩; have HP2 := Lib.hid h; have c02 := HP2.out.c0; have c12 := HP2.out.c1; clear h)
        | (go_at_fn_of 159 (Value.int .i64 (K : Int)); refine (C3.out _ HP2.out).mono ?_; rintro e w3 ⟨rfl, h⟩; have HP3 := Lib.hid h; have c03 := HP3.out.c0; have c13 := HP3.out.c1; clear h)
        | (go_at_fn 160; refine (C4.out _ HP3.out).mono ?_; rintro e w4 ⟨rfl, h⟩; have HP4 := Lib.hid h; have cc4 := HP4.out.cnt.cell; clear h))
      all_goals
        go_ret2
        refine ⟨?_, HP4.out.row, HP4.out.below⟩
        first
          | (have e0 : (s : Int) = 0 := of_beq_int (by assumption)
             rw [hh0 (by omega)]; rfl)
          | (have e1 : (s : Int) = 12 := of_beq_int (by assumption)
             rw [hh12 (by omega)]; rfl)
          | (have e0 : (s : Int) ≠ 0 := of_bne_int (by assumption)
             have e1 : (s : Int) ≠ 12 := of_bne_int (by assumption)
             rw [hhx (by omega) (by omega)]; rfl)
          | (rw [hh0 (by omega)]; rfl)
    · obtain ⟨p, s, h4⟩ : ∃ p s, median lt d I J K 0 = (p, s) := ⟨_, _, rfl⟩
      have hraw : rawPivot lt d a b = (p, s) := by simp only [rawPivot, if_pos h8, if_neg h50, ← hI, ← hJ, ← hK, h4]
      have k1' := MD.out I J K _ 0 (by omega) (by omega) (by omega) (by omega) HP0.out
      rw [h4] at k1'
      have C4 := Lib.hid k1'
      have c0 := HP0.out.c0
      have c1 := HP0.out.c1
      rw [hraw]
      obtain ⟨Hc, hHc⟩ : ∃ Hc : Int, Hc = hintCode (hintOf s) := ⟨_, rfl⟩
      have hh0 : s = 0 → Hc = 1 := fun h => by rw [hHc, h]; rfl
      have hh12 : s = 12 → Hc = 2 := fun h => by rw [hHc, h]; rfl
      have hhx : s ≠ 0 → s ≠ 12 → Hc = 0 := fun h1 h2 => by rw [hHc]; unfold hintOf; rw [if_neg h1, if_neg h2]; rfl
      show Calls Try.prog 147 _ w fun e w' => e = .returned (.tuple #[.int .i64 (p : Int), .int .i64 (hintCode (hintOf s))]) ∧ R d w' ∧ RowKit.Below w.heap.size w w'
      rw [← hHc]
      clear hHc hraw
      clear k1' h4 MA MD hI hJ hK
      go_enter Try.func147, Try.ntmps147
      go_wp2_with (first | (go_at_fn 160; refine C4.out.mono ?_; rintro e w4 ⟨rfl, h⟩; have HP4 := Lib.hid h; have cc4 := HP4.out.cnt.cell; clear h))
      all_goals
        go_ret2
        refine ⟨?_, HP4.out.row, HP4.out.below⟩
        first
          | (have e0 : (s : Int) = 0 := of_beq_int (by assumption)
             rw [hh0 (by omega)]; rfl)
          | (have e1 : (s : Int) = 12 := of_beq_int (by assumption)
             rw [hh12 (by omega)]; rfl)
          | (have e0 : (s : Int) ≠ 0 := of_bne_int (by assumption)
             have e1 : (s : Int) ≠ 12 := of_bne_int (by assumption)
             rw [hhx (by omega) (by omega)]; rfl)
          | (rw [hh0 (by omega)]; rfl)
  · obtain ⟨p, hp⟩ : ∃ p : Nat, p = J := ⟨_, rfl⟩
    obtain ⟨s, hs⟩ : ∃ s : Nat, s = 0 := ⟨_, rfl⟩
    have hraw : rawPivot lt d a b = (p, s) := by simp only [rawPivot, if_neg h8, ← hJ, hp, hs]
    have HP4 := HP0
    have cc4 : ((w.alloc (.cells (lsC g lb sf sb) 168)).alloc (.cells #[.int .i64 0] 3)).cell? ⟨w.heap.size + 1, 0, none⟩ = some (.int .i64 (s : Int)) := by rw [hs]; exact HP4.out.cnt.cell
    rw [hraw]
    obtain ⟨Hc, hHc⟩ : ∃ Hc : Int, Hc = hintCode (hintOf s) := ⟨_, rfl⟩
    have hh0 : s = 0 → Hc = 1 := fun h => by rw [hHc, h]; rfl
    have hh12 : s = 12 → Hc = 2 := fun h => by rw [hHc, h]; rfl
    have hhx : s ≠ 0 → s ≠ 12 → Hc = 0 := fun h1 h2 => by rw [hHc]; unfold hintOf; rw [if_neg h1, if_neg h2]; rfl
    show Calls Try.prog 147 _ w fun e w' => e = .returned (.tuple #[.int .i64 (p : Int), .int .i64 (hintCode (hintOf s))]) ∧ R d w' ∧ RowKit.Below w.heap.size w w'
    rw [← hHc]
    clear hHc hraw
    subst hp
    clear MA MD hI hJ hK
    go_enter Try.func147, Try.ntmps147
    go_wp2
    all_goals
      go_ret2
      refine ⟨?_, HP4.out.row, HP4.out.below⟩
      first
        | (have e0 : (s : Int) = 0 := of_beq_int (by assumption)
           rw [hh0 (by omega)]; rfl)
        | (have e1 : (s : Int) = 12 := of_beq_int (by assumption)
           rw [hh12 (by omega)]; rfl)
        | (have e0 : (s : Int) ≠ 0 := of_bne_int (by assumption)
           have e1 : (s : Int) ≠ 12 := of_bne_int (by assumption)
           rw [hhx (by omega) (by omega)]; rfl)
        | (rw [hh0 (by omega)]; rfl)
end
end Go.Proofs.Ytnpacjdgbmldlaa

/- reverseRange, over the same row. -/
namespace Go.Proofs.Ytnpacjdgbmldlaa
open Go.RowKit Go.Lib Go.Sort
section
variable {α : Type} [Inhabited α] {lt : α → α → Bool} {g : Nat} {lb : Array Value} {sf : Nat} {sb : Array Value} {r n N : Nat} {R : Array α → World → Prop}
set_option maxHeartbeats 2000000 in
set_option maxRecDepth 100000 in
theorem reverse_any (E : SEnv lt g lb sf sb r n N R) (d : Array α) (w : World) (hR : R d w) (a b : Nat) (hab : a ≤ b) (hb : b ≤ n) :
    Calls Try.prog 148 #[lsV g lb sf sb, .int .i64 a, .int .i64 b] w fun e w' => e = .returned (.tuple #[]) ∧ R (reverseRange d a b) w' ∧ w.grownBy w' (some r) := by
  have HE := Lib.hid E
  have hr := E.row _ _ hR
  have HI0 : Hid (SIn g lb sf sb r R w d (w.alloc (.cells (lsC g lb sf sb) 168))) := Lib.hid (SIn.start E hR)
  have hn : n < 4611686018427387904 := E.small
  clear hR E
  go_enter Try.func148, Try.ntmps148
  go_wp2
  go_loopg [6, 7] (b - a) (fun kx s6 s7 wr => ∃ (i jn : Nat) (jz : Int) (dk : Array α), s6 = .int .i64 i ∧ s7 = .int .i64 jz ∧ ((i : Int) < jz → jz = jn ∧ jn < n) ∧ (¬ (i : Int) < jz → ¬ i < jn) ∧ jn - i ≤ kx ∧ Hid (SIn g lb sf sb r R w dk wr) ∧ Hid (reverseLoop i jn dk = reverseLoop a (b - 1) d))
  case atStart => exact ⟨a, b - 1, (b : Int) - 1, d, rfl, rfl, fun h => ⟨by omega, by omega⟩, fun h => by omega, by omega, HI0, rfl⟩
  case round =>
    clear HI0
    obtain ⟨i, jn, jz, dk, rfl, rfl, h1, h2, hkx, HJ, HQ⟩ := hrel
    by_cases hlt : (i : Int) < jz
    · obtain ⟨rfl, hjn⟩ := h1 hlt
      have hij : i < jn := by omega
      obtain ⟨z, hs, h3, h4⟩ := HE.out.swap dk wr HJ.out.row i jn (by omega) (by omega)
      have HZ := Lib.hid (HJ.out.swapped hr h3 h4)
      have c1 := HJ.out.c1
      clear h1 h2 h3 h4
      go_wp2
      go_roundg (jn - 1 - (i + 1))
      case measure => omega
      case rel =>
        refine ⟨i + 1, jn - 1, (jn : Int) - 1, swp dk i jn, by simp, rfl, fun h => ⟨by omega, by omega⟩, fun h => by omega, Nat.le_refl _, HZ, ?_⟩
        have h := HQ.out
        rw [reverseLoop, if_pos hij] at h
        exact h
    · have hnot := h2 hlt
      go_wp2
      go_end0
      refine ⟨rfl, ?_, HJ.out.only⟩
      have h := HQ.out
      rw [reverseLoop, if_neg hnot] at h
      rw [reverseRange, ← h]
      exact HJ.out.row
end
end Go.Proofs.Ytnpacjdgbmldlaa

/- partialInsertionSort by a `less` that lays blocks. -/
namespace Go.Proofs.Ytnpacjdgbmldlaa
open Go.RowKit Go.Lib Go.Sort
section
variable {α : Type} [Inhabited α] {lt : α → α → Bool} {g : Nat} {lb : Array Value} {sf : Nat} {sb : Array Value} {r n N : Nat} {R : Array α → World → Prop}
set_option maxHeartbeats 8000000 in
set_option maxRecDepth 1000000 in
theorem partial_any (E : SEnv lt g lb sf sb r n N R) (d : Array α) (w : World) (hR : R d w) (a b : Nat) (hab : a < b) (hb : b ≤ n) :
    Calls Try.prog 149 #[lsV g lb sf sb, .int .i64 a, .int .i64 b] w fun e w' => e = .returned (.bool (Sort.partialInsertionSort lt d a b).2) ∧ R (Sort.partialInsertionSort lt d a b).1 w' ∧ w.grownBy w' (some r) := by
  have HE := Lib.hid E
  have hr := E.row _ _ hR
  have HI0 : Hid (SIn g lb sf sb r R w d (w.alloc (.cells (lsC g lb sf sb) 168))) := Lib.hid (SIn.start E hR)
  have hn : n < 4611686018427387904 := E.small
  have eg := E.eg
  have HL : Hid (∀ (X : Array α) (y : World) (j : Nat) (v : Bool), SIn g lb sf sb r R w X y → 1 ≤ j → j < n → lt X[j]! X[j - 1]! = v → Calls Try.prog g (#[.int .i64 (j : Int), .int .i64 ((j : Int) - 1)] ++ lb) y fun e w' => e = .returned (.bool v) ∧ SIn g lb sf sb r R w X w') := Lib.hid fun X y j v h h1 h2 hv => by
    have hl := HE.out.less X y h.row j (j - 1) h2 (by omega)
    rw [hv, show ((j - 1 : Nat) : Int) = (j : Int) - 1 by omega] at hl
    exact hl.mono fun e w' ⟨he, hb⟩ => ⟨he, h.laid HE.out hb⟩
  have HS : Hid (∀ (X : Array α) (y : World) (j : Nat), SIn g lb sf sb r R w X y → 1 ≤ j → j < n → ∃ z, (callFunc sf (#[.int .i64 (j : Int), .int .i64 ((j : Int) - 1)] ++ sb)).run Try.prog y = .ok (.value (.tuple #[])) z ∧ SIn g lb sf sb r R w (swp X j (j - 1)) z) := Lib.hid fun X y j h h1 h2 => by
    obtain ⟨z, h3, h4, h5⟩ := HE.out.swap X y h.row j (j - 1) h2 (by omega)
    rw [show ((j - 1 : Nat) : Int) = (j : Int) - 1 by omega] at h3
    exact ⟨z, h3, h.swapped hr h4 h5⟩
  have HQD : Hid (∀ (X : Array α) (y : World), SIn g lb sf sb r R w X y → ∀ q, (y.drewN q).cell? ⟨w.heap.size, 0, none⟩ = some (.func (.func g) #[] lb)) := Lib.hid fun X y h q => (h.drawn HE.out q).c0
  clear hR E
  go_enter Try.func149, Try.ntmps149
  go_wp2
  go_loopg [7, 8] 5 (fun g1 vi vs wr => ∃ (i s : Nat) (dk : Array α), vi = .int .i64 i ∧ vs = .int .i64 s ∧ s ≤ 5 ∧ 5 - s ≤ g1 ∧ a < i ∧ i ≤ b ∧ Hid (SIn g lb sf sb r R w dk wr) ∧ Hid (partialIns lt a b (5 - s) i dk = partialIns lt a b 5 (a + 1) d))
  case atStart => exact ⟨a + 1, 0, d, by go_num, rfl, by omega, by omega, by omega, by omega, HI0, rfl⟩
  case round =>
    clear HI0
    obtain ⟨i, s, dk, rfl, rfl, hs5, hg1, hai, hib, HJ, HO⟩ := hrel
    by_cases hs : s < 5
    · have hsz5 : (s : Int) < 5 := by omega
      go_wp2
      go_loopg [7] (b - i) (fun g2 vi wr2 => ∃ (kx : Nat), vi = .int .i64 kx ∧ i ≤ kx ∧ kx ≤ b ∧ b - kx ≤ g2 ∧ Hid (SIn g lb sf sb r R w dk wr2) ∧ Hid (scanSorted lt dk b kx = scanSorted lt dk b i))
      case atStart => exact ⟨i, rfl, Nat.le_refl _, hib, Nat.le_refl _, HJ, rfl⟩
      case round =>
        clear HJ
        obtain ⟨kx, rfl, hik, hkb, hg2, HJ, HSc⟩ := hrel
        have c0 := HJ.out.c0
        have c0q := HQD.out _ _ HJ.out
        by_cases hkb' : kx < b
        · have hkz : (kx : Int) < (b : Int) := by omega
          cases hlv : lt dk[kx]! dk[kx - 1]! with
          | false =>
            have HL1 := Lib.hid (HL.out dk _ kx false HJ.out (by omega) (by omega) hlv)
            go_wp2_with (go_at_fn g; refine HL1.out.mono ?_; rintro e w1 ⟨rfl, h⟩; have HJ1 := Lib.hid h; clear h)
            go_roundg (b - (kx + 1))
            case measure => omega
            case rel => exact ⟨kx + 1, by go_num, by omega, by omega, Nat.le_refl _, HJ1, (show Hid _ from by rw [← HSc.out, scanSorted_go lt dk b kx hkb' hlv]; exact rfl)⟩
          | true =>
            have HL1 := Lib.hid (HL.out dk _ kx true HJ.out (by omega) (by omega) hlv)
            have HK : Hid (scanSorted lt dk b i = kx) := by show _ = _; rw [← HSc.out, scanSorted_stop lt dk b kx (Or.inr hlv)]
            have hkne : ((kx : Int) == (b : Int)) = false := beq_eq_false_iff_ne.2 (by omega)
            by_cases h50 : b - a < 50
            · have h50z : (b : Int) - (a : Int) < 50 := by omega
              go_wp2_with (go_at_fn g; refine HL1.out.mono ?_; rintro e w1 ⟨rfl, h⟩; have HJ1 := Lib.hid h; clear h)
              have hv : Sort.partialInsertionSort lt d a b = (dk, false) := by
                unfold Sort.partialInsertionSort
                rw [← HO.out, pi_short lt a b s i dk hs (by rw [HK.out]; omega) h50]
              rw [hv]
              go_ret
              exact ⟨rfl, HJ1.out.row, HJ1.out.only⟩
            · have h50z : ¬ ((b : Int) - (a : Int) < 50) := by omega
              by_cases hka : kx - a ≥ 2
              · have hkaz : (2 : Int) ≤ (kx : Int) - (a : Int) := by omega
                go_wp2_with (go_at_fn g; refine HL1.out.mono ?_; rintro e w1 ⟨rfl, h⟩; have HJ1 := Lib.hid h; have c11 := HJ1.out.c1; clear h)
                obtain ⟨z, hsw, hz⟩ := HS.out dk _ kx HJ1.out (by omega) (by omega)
                have HZ := Lib.hid hz
                rw [hsw, Oper.upon_value]
                clear hsw hz
                go_wp2
                go_loopg [9] (kx - 1) (fun g3 vj wr3 => ∃ (j : Nat) (dj : Array α), vj = .int .i64 j ∧ j ≤ kx - 1 ∧ j ≤ g3 ∧ Hid (SIn g lb sf sb r R w dj wr3) ∧ Hid (shiftDown lt j dj = shiftDown lt (kx - 1) (swp dk kx (kx - 1))))
                case atStart => exact ⟨kx - 1, (swp dk kx (kx - 1)), by congr 1; omega, Nat.le_refl _, Nat.le_refl _, HZ, rfl⟩
                case round =>
                  clear HZ
                  obtain ⟨j, dj, rfl, hjk, hg3, HD3, HDn⟩ := hrel
                  have c0 := HD3.out.c0
                  have c0q := HQD.out _ _ HD3.out
                  by_cases hj1 : 1 ≤ j
                  · have hj1z : (1 : Int) ≤ (j : Int) := by omega
                    cases hlv2 : lt dj[j]! dj[j - 1]! with
                    | true =>
                      have HL2 := Lib.hid (HL.out dj _ j true HD3.out hj1 (by omega) hlv2)
                      go_wp2_with (go_at_fn g; refine HL2.out.mono ?_; rintro e w1 ⟨rfl, h⟩; have HJ2 := Lib.hid h; have c12 := HJ2.out.c1; clear h)
                      obtain ⟨z, hsw, hz⟩ := HS.out dj _ j HJ2.out hj1 (by omega)
                      have HZ2 := Lib.hid hz
                      rw [hsw, Oper.upon_value]
                      clear hsw hz
                      go_wp2
                      go_roundg (j - 1)
                      case measure => omega
                      case rel => exact ⟨j - 1, swp dj j (j - 1), by congr 1; omega, by omega, Nat.le_refl _, HZ2, (show Hid _ from by rw [← HDn.out, shiftDown_go lt j dj hj1 hlv2]; exact rfl)⟩
                    | false =>
                      have HL2 := Lib.hid (HL.out dj _ j false HD3.out hj1 (by omega) hlv2)
                      have HD : Hid (fixDown lt a kx (swp dk kx (kx - 1)) = dj) := by show _ = _; unfold fixDown; rw [if_pos hka, ← HDn.out, shiftDown_stop lt j dj (Or.inr hlv2)]
                      by_cases hbk : b - kx ≥ 2
                      · have hbkz : (2 : Int) ≤ (b : Int) - (kx : Int) := by omega
                        go_wp2_with (go_at_fn g; refine HL2.out.mono ?_; rintro e w1 ⟨rfl, h⟩; have HU0 := Lib.hid h; clear h)
                        go_loopg [10] (b - (kx + 1)) (fun g4 vj wr4 => ∃ (ju : Nat) (du : Array α), vj = .int .i64 ju ∧ kx + 1 ≤ ju ∧ ju ≤ b ∧ b - ju ≤ g4 ∧ Hid (SIn g lb sf sb r R w du wr4) ∧ Hid (shiftUp lt b ju du = shiftUp lt b (kx + 1) dj))
                        case atStart => exact ⟨kx + 1, dj, by go_num, Nat.le_refl _, by omega, Nat.le_refl _, HU0, rfl⟩
                        case round =>
                          clear HU0
                          obtain ⟨ju, du, rfl, hkj, hjb, hg4, HU0, HU⟩ := hrel
                          have c0 := HU0.out.c0
                          have c0q := HQD.out _ _ HU0.out
                          by_cases hjb' : ju < b
                          · have hjz : (ju : Int) < (b : Int) := by omega
                            cases hlv3 : lt du[ju]! du[ju - 1]! with
                            | true =>
                              have HL3 := Lib.hid (HL.out du _ ju true HU0.out (by omega) (by omega) hlv3)
                              go_wp2_with (go_at_fn g; refine HL3.out.mono ?_; rintro e w1 ⟨rfl, h⟩; have HJ3 := Lib.hid h; have c13 := HJ3.out.c1; clear h)
                              obtain ⟨z, hsw, hz⟩ := HS.out du _ ju HJ3.out (by omega) (by omega)
                              have HZ3 := Lib.hid hz
                              rw [hsw, Oper.upon_value]
                              clear hsw hz
                              go_wp2
                              go_roundg (b - (ju + 1))
                              case measure => omega
                              case rel => exact ⟨ju + 1, swp du ju (ju - 1), by go_num, by omega, by omega, Nat.le_refl _, HZ3, (show Hid _ from by rw [← HU.out, shiftUp_go lt b ju du hjb' hlv3]; exact rfl)⟩
                            | false =>
                              have HL3 := Lib.hid (HL.out du _ ju false HU0.out (by omega) (by omega) hlv3)
                              go_wp2_with (go_at_fn g; refine HL3.out.mono ?_; rintro e w1 ⟨rfl, h⟩; have HJ3 := Lib.hid h; clear h)
                              go_roundg (5 - (s + 1))
                              case measure => omega
                              case rel => exact ⟨kx, s + 1, du, rfl, by go_num, by omega, Nat.le_refl _, by omega, by omega, HJ3, (show Hid _ from by rw [← HO.out, pi_go lt a b s i kx dk hs HK.out (by omega) h50, HD.out, show fixUp lt b kx dj = du from by unfold fixUp; rw [if_pos hbk, ← HU.out, shiftUp_stop lt b ju du (Or.inr hlv3)]]; exact rfl)⟩
                          · have hjz : ¬ (ju : Int) < (b : Int) := by omega
                            go_wp2
                            go_roundg (5 - (s + 1))
                            case measure => omega
                            case rel => exact ⟨kx, s + 1, du, rfl, by go_num, by omega, Nat.le_refl _, by omega, by omega, HU0, (show Hid _ from by rw [← HO.out, pi_go lt a b s i kx dk hs HK.out (by omega) h50, HD.out, show fixUp lt b kx dj = du from by unfold fixUp; rw [if_pos hbk, ← HU.out, shiftUp_stop lt b ju du (Or.inl (by omega))]]; exact rfl)⟩
                      · have hbkz : ¬ (2 : Int) ≤ (b : Int) - (kx : Int) := by omega
                        go_wp2_with (go_at_fn g; refine HL2.out.mono ?_; rintro e w1 ⟨rfl, h⟩; have HU0 := Lib.hid h; clear h)
                        go_roundg (5 - (s + 1))
                        case measure => omega
                        case rel => exact ⟨kx, s + 1, dj, rfl, by go_num, by omega, Nat.le_refl _, by omega, by omega, HU0, (show Hid _ from by rw [← HO.out, pi_go lt a b s i kx dk hs HK.out (by omega) h50, HD.out, show fixUp lt b kx dj = dj from by unfold fixUp; rw [if_neg hbk]]; exact rfl)⟩
                  · have hj1z : ¬ (1 : Int) ≤ (j : Int) := by omega
                    have HD : Hid (fixDown lt a kx (swp dk kx (kx - 1)) = dj) := by show _ = _; unfold fixDown; rw [if_pos hka, ← HDn.out, shiftDown_stop lt j dj (Or.inl (by omega))]
                    have HU0 := HD3
                    by_cases hbk : b - kx ≥ 2
                    · have hbkz : (2 : Int) ≤ (b : Int) - (kx : Int) := by omega
                      go_wp2
                      go_loopg [10] (b - (kx + 1)) (fun g4 vj wr4 => ∃ (ju : Nat) (du : Array α), vj = .int .i64 ju ∧ kx + 1 ≤ ju ∧ ju ≤ b ∧ b - ju ≤ g4 ∧ Hid (SIn g lb sf sb r R w du wr4) ∧ Hid (shiftUp lt b ju du = shiftUp lt b (kx + 1) dj))
                      case atStart => exact ⟨kx + 1, dj, by go_num, Nat.le_refl _, by omega, Nat.le_refl _, HU0, rfl⟩
                      case round =>
                        clear HU0
                        obtain ⟨ju, du, rfl, hkj, hjb, hg4, HU0, HU⟩ := hrel
                        have c0 := HU0.out.c0
                        have c0q := HQD.out _ _ HU0.out
                        by_cases hjb' : ju < b
                        · have hjz : (ju : Int) < (b : Int) := by omega
                          cases hlv3 : lt du[ju]! du[ju - 1]! with
                          | true =>
                            have HL3 := Lib.hid (HL.out du _ ju true HU0.out (by omega) (by omega) hlv3)
                            go_wp2_with (go_at_fn g; refine HL3.out.mono ?_; rintro e w1 ⟨rfl, h⟩; have HJ3 := Lib.hid h; have c13 := HJ3.out.c1; clear h)
                            obtain ⟨z, hsw, hz⟩ := HS.out du _ ju HJ3.out (by omega) (by omega)
                            have HZ3 := Lib.hid hz
                            rw [hsw, Oper.upon_value]
                            clear hsw hz
                            go_wp2
                            go_roundg (b - (ju + 1))
                            case measure => omega
                            case rel => exact ⟨ju + 1, swp du ju (ju - 1), by go_num, by omega, by omega, Nat.le_refl _, HZ3, (show Hid _ from by rw [← HU.out, shiftUp_go lt b ju du hjb' hlv3]; exact rfl)⟩
                          | false =>
                            have HL3 := Lib.hid (HL.out du _ ju false HU0.out (by omega) (by omega) hlv3)
                            go_wp2_with (go_at_fn g; refine HL3.out.mono ?_; rintro e w1 ⟨rfl, h⟩; have HJ3 := Lib.hid h; clear h)
                            go_roundg (5 - (s + 1))
                            case measure => omega
                            case rel => exact ⟨kx, s + 1, du, rfl, by go_num, by omega, Nat.le_refl _, by omega, by omega, HJ3, (show Hid _ from by rw [← HO.out, pi_go lt a b s i kx dk hs HK.out (by omega) h50, HD.out, show fixUp lt b kx dj = du from by unfold fixUp; rw [if_pos hbk, ← HU.out, shiftUp_stop lt b ju du (Or.inr hlv3)]]; exact rfl)⟩
                        · have hjz : ¬ (ju : Int) < (b : Int) := by omega
                          go_wp2
                          go_roundg (5 - (s + 1))
                          case measure => omega
                          case rel => exact ⟨kx, s + 1, du, rfl, by go_num, by omega, Nat.le_refl _, by omega, by omega, HU0, (show Hid _ from by rw [← HO.out, pi_go lt a b s i kx dk hs HK.out (by omega) h50, HD.out, show fixUp lt b kx dj = du from by unfold fixUp; rw [if_pos hbk, ← HU.out, shiftUp_stop lt b ju du (Or.inl (by omega))]]; exact rfl)⟩
                    · have hbkz : ¬ (2 : Int) ≤ (b : Int) - (kx : Int) := by omega
                      go_wp2
                      go_roundg (5 - (s + 1))
                      case measure => omega
                      case rel => exact ⟨kx, s + 1, dj, rfl, by go_num, by omega, Nat.le_refl _, by omega, by omega, HU0, (show Hid _ from by rw [← HO.out, pi_go lt a b s i kx dk hs HK.out (by omega) h50, HD.out, show fixUp lt b kx dj = dj from by unfold fixUp; rw [if_neg hbk]]; exact rfl)⟩
              · have hkaz : ¬ (2 : Int) ≤ (kx : Int) - (a : Int) := by omega
                have HD : Hid (fixDown lt a kx (swp dk kx (kx - 1)) = (swp dk kx (kx - 1))) := by show _ = _; unfold fixDown; rw [if_neg hka]
                by_cases hbk : b - kx ≥ 2
                · have hbkz : (2 : Int) ≤ (b : Int) - (kx : Int) := by omega
                  go_wp2_with (go_at_fn g; refine HL1.out.mono ?_; rintro e w1 ⟨rfl, h⟩; have HJ1 := Lib.hid h; have c11 := HJ1.out.c1; clear h)
                  obtain ⟨z, hsw, hz⟩ := HS.out dk _ kx HJ1.out (by omega) (by omega)
                  have HZ := Lib.hid hz
                  rw [hsw, Oper.upon_value]
                  clear hsw hz
                  go_wp2
                  have HU0 := HZ
                  go_loopg [10] (b - (kx + 1)) (fun g4 vj wr4 => ∃ (ju : Nat) (du : Array α), vj = .int .i64 ju ∧ kx + 1 ≤ ju ∧ ju ≤ b ∧ b - ju ≤ g4 ∧ Hid (SIn g lb sf sb r R w du wr4) ∧ Hid (shiftUp lt b ju du = shiftUp lt b (kx + 1) (swp dk kx (kx - 1))))
                  case atStart => exact ⟨kx + 1, (swp dk kx (kx - 1)), by go_num, Nat.le_refl _, by omega, Nat.le_refl _, HU0, rfl⟩
                  case round =>
                    clear HU0
                    obtain ⟨ju, du, rfl, hkj, hjb, hg4, HU0, HU⟩ := hrel
                    have c0 := HU0.out.c0
                    have c0q := HQD.out _ _ HU0.out
                    by_cases hjb' : ju < b
                    · have hjz : (ju : Int) < (b : Int) := by omega
                      cases hlv3 : lt du[ju]! du[ju - 1]! with
                      | true =>
                        have HL3 := Lib.hid (HL.out du _ ju true HU0.out (by omega) (by omega) hlv3)
                        go_wp2_with (go_at_fn g; refine HL3.out.mono ?_; rintro e w1 ⟨rfl, h⟩; have HJ3 := Lib.hid h; have c13 := HJ3.out.c1; clear h)
                        obtain ⟨z, hsw, hz⟩ := HS.out du _ ju HJ3.out (by omega) (by omega)
                        have HZ3 := Lib.hid hz
                        rw [hsw, Oper.upon_value]
                        clear hsw hz
                        go_wp2
                        go_roundg (b - (ju + 1))
                        case measure => omega
                        case rel => exact ⟨ju + 1, swp du ju (ju - 1), by go_num, by omega, by omega, Nat.le_refl _, HZ3, (show Hid _ from by rw [← HU.out, shiftUp_go lt b ju du hjb' hlv3]; exact rfl)⟩
                      | false =>
                        have HL3 := Lib.hid (HL.out du _ ju false HU0.out (by omega) (by omega) hlv3)
                        go_wp2_with (go_at_fn g; refine HL3.out.mono ?_; rintro e w1 ⟨rfl, h⟩; have HJ3 := Lib.hid h; clear h)
                        go_roundg (5 - (s + 1))
                        case measure => omega
                        case rel => exact ⟨kx, s + 1, du, rfl, by go_num, by omega, Nat.le_refl _, by omega, by omega, HJ3, (show Hid _ from by rw [← HO.out, pi_go lt a b s i kx dk hs HK.out (by omega) h50, HD.out, show fixUp lt b kx (swp dk kx (kx - 1)) = du from by unfold fixUp; rw [if_pos hbk, ← HU.out, shiftUp_stop lt b ju du (Or.inr hlv3)]]; exact rfl)⟩
                    · have hjz : ¬ (ju : Int) < (b : Int) := by omega
                      go_wp2
                      go_roundg (5 - (s + 1))
                      case measure => omega
                      case rel => exact ⟨kx, s + 1, du, rfl, by go_num, by omega, Nat.le_refl _, by omega, by omega, HU0, (show Hid _ from by rw [← HO.out, pi_go lt a b s i kx dk hs HK.out (by omega) h50, HD.out, show fixUp lt b kx (swp dk kx (kx - 1)) = du from by unfold fixUp; rw [if_pos hbk, ← HU.out, shiftUp_stop lt b ju du (Or.inl (by omega))]]; exact rfl)⟩
                · exfalso; omega
        · obtain rfl : kx = b := by omega
          have hkz : ¬ (kx : Int) < (kx : Int) := by omega
          go_wp2
          have hv : Sort.partialInsertionSort lt d a kx = (dk, true) := by
            unfold Sort.partialInsertionSort
            rw [← HO.out, pi_true lt a kx s i dk hs (by rw [← HSc.out, scanSorted_stop lt dk kx kx (Or.inl (by omega))])]
          rw [hv]
          go_ret
          exact ⟨rfl, HJ.out.row, HJ.out.only⟩
    · obtain rfl : s = 5 := by omega
      go_wp2
      have hv : Sort.partialInsertionSort lt d a b = (dk, false) := by
        unfold Sort.partialInsertionSort
        rw [← HO.out, pi_end]
      rw [hv]
      go_ret
      exact ⟨rfl, HJ.out.row, HJ.out.only⟩
end
end Go.Proofs.Ytnpacjdgbmldlaa

/- partitionEqual by a `less` that lays blocks. -/
namespace Go.Proofs.Ytnpacjdgbmldlaa
open Go.RowKit Go.Lib Go.Sort
section
variable {α : Type} [Inhabited α] {lt : α → α → Bool} {g : Nat} {lb : Array Value} {sf : Nat} {sb : Array Value} {r n N : Nat} {R : Array α → World → Prop}
theorem less_at (E : SEnv lt g lb sf sb r n N R) (w : World) : ∀ (X : Array α) (y : World) (i j : Nat) (v : Bool), SIn g lb sf sb r R w X y → i < n → j < n → lt X[i]! X[j]! = v → Calls Try.prog g (#[.int .i64 (i : Int), .int .i64 (j : Int)] ++ lb) y fun e w' => e = .returned (.bool v) ∧ SIn g lb sf sb r R w X w' := fun X y i j v h h1 h2 hv => by
  have hl := E.less X y h.row i j h1 h2
  rw [hv] at hl
  exact hl.mono fun e w' ⟨he, hb⟩ => ⟨he, h.laid E hb⟩
theorem swap_at (E : SEnv lt g lb sf sb r n N R) (w : World) (hr : r < w.heap.size) : ∀ (X : Array α) (y : World) (i j : Nat), SIn g lb sf sb r R w X y → i < n → j < n → ∃ z, (callFunc sf (#[.int .i64 (i : Int), .int .i64 (j : Int)] ++ sb)).run Try.prog y = .ok (.value (.tuple #[])) z ∧ SIn g lb sf sb r R w (swp X i j) z := fun X y i j h h1 h2 => by
  obtain ⟨z, h3, h4, h5⟩ := E.swap X y h.row i j h1 h2
  exact ⟨z, h3, h.swapped hr h4 h5⟩
set_option maxHeartbeats 8000000 in
set_option maxRecDepth 1000000 in
theorem partEq_any (E : SEnv lt g lb sf sb r n N R) (d : Array α) (w : World) (hR : R d w) (a b pivot : Nat) (hap : a ≤ pivot) (hpb : pivot < b) (hb : b ≤ n) :
    Calls Try.prog 150 #[lsV g lb sf sb, .int .i64 a, .int .i64 b, .int .i64 pivot] w fun e w' => e = .returned (.int .i64 (Sort.partitionEqual lt d a b pivot).1) ∧ R (Sort.partitionEqual lt d a b pivot).2 w' ∧ w.grownBy w' (some r) := by
  have HE := Lib.hid E
  have hr := E.row _ _ hR
  have HI0 : Hid (SIn g lb sf sb r R w d (w.alloc (.cells (lsC g lb sf sb) 168))) := Lib.hid (SIn.start E hR)
  have hn : n < 4611686018427387904 := E.small
  have eg := E.eg
  have HL := Lib.hid (less_at E w)
  have HS := Lib.hid (swap_at E w hr)
  have HQD : Hid (∀ (X : Array α) (y : World), SIn g lb sf sb r R w X y → ∀ q, (y.drewN q).cell? ⟨w.heap.size, 0, none⟩ = some (.func (.func g) #[] lb)) := Lib.hid fun X y h q => (h.drawn HE.out q).c0
  have c1 := HI0.out.c1
  obtain ⟨z0, hs0, hz0⟩ := HS.out d _ a pivot HI0.out (by omega) (by omega)
  have HZ0 := Lib.hid hz0
  clear hR E hz0 HI0
  go_enter Try.func150, Try.ntmps150
  unfold lsC at hs0
  go_wp2
  clear hs0 c1
  go_loopw [9, 10] (fun vi vj wr => ∃ (i j : Nat) (dk : Array α), vi = .int .i64 i ∧ vj = .int .i64 j ∧ a < i ∧ i ≤ j + 1 ∧ j < b ∧ Hid (SIn g lb sf sb r R w dk wr) ∧ Hid (Sort.partEqLoop lt a i j dk = Sort.partEqLoop lt a (a + 1) (b - 1) (Sort.swp d a pivot)))
    (fun vi vj _ => (intOf vj).toNat + 1 - (intOf vi).toNat)
  case atStart => exact ⟨a + 1, b - 1, Sort.swp d a pivot, by go_num, by go_num, by omega, by omega, by omega, HZ0, rfl⟩
  case round =>
    clear HZ0
    obtain ⟨i, j, dk, rfl, rfl, hai, hij, hjb, HJ, AE⟩ := hrel
    go_wp2
    go_loopw [9] (fun vi w1 => ∃ (i' : Nat), vi = .int .i64 i' ∧ i ≤ i' ∧ i' ≤ j + 1 ∧ Hid (SIn g lb sf sb r R w dk w1) ∧
        Hid (Sort.scanUp (fun x => !lt dk[a]! x) dk j i' = Sort.scanUp (fun x => !lt dk[a]! x) dk j i))
      (fun vi _ => j + 1 - (intOf vi).toNat)
    case atStart => exact ⟨i, rfl, Nat.le_refl _, hij, HJ, rfl⟩
    case round =>
      clear HJ
      obtain ⟨i', rfl, hii, hij', HJ, hsc⟩ := hrel
      have c0 := HJ.out.c0
      have c0q := HQD.out _ _ HJ.out
      by_cases hle : i' ≤ j
      · cases hlv : lt dk[a]! dk[i']! with
        | false =>
          have HL1 := Lib.hid (HL.out dk _ a i' false HJ.out (by omega) (by omega) hlv)
          go_wp2_with (go_at_fn g; refine HL1.out.mono ?_; rintro e w1 ⟨rfl, h⟩; have HJ1 := Lib.hid h; clear h)
          go_roundw
          case rel => exact ⟨i' + 1, by go_num, by omega, by omega, HJ1, (scanUp_go (fun x => !lt dk[a]! x) dk j i' hle (by simp [hlv])).symm.trans hsc.out⟩
          case measure => simp [intOf]; omega
        | true =>
          have HL1 := Lib.hid (HL.out dk _ a i' true HJ.out (by omega) (by omega) hlv)
          have hi2 : Hid (i' = Sort.scanUp (fun x => !lt dk[a]! x) dk j i) := (scanUp_end (fun x => !lt dk[a]! x) dk j i' (Or.inr (by simp [hlv]))).symm.trans hsc.out
          go_wp2_with (go_at_fn g; refine HL1.out.mono ?_; rintro e w1 ⟨rfl, h⟩; have HJ1 := Lib.hid h; clear h)
          clear c0 c0q hsc HJ
          go_loopw [10] (fun vj w2 => ∃ (j' : Nat), vj = .int .i64 j' ∧ j' ≤ j ∧ i' ≤ j' + 1 ∧ Hid (SIn g lb sf sb r R w dk w2) ∧
              Hid (Sort.scanDown (fun x => lt dk[a]! x) dk i' j' = Sort.scanDown (fun x => lt dk[a]! x) dk i' j))
            (fun vj _ => (intOf vj).toNat)
          case atStart => exact ⟨j, rfl, Nat.le_refl _, hij', HJ1, rfl⟩
          case round =>
            clear HJ1
            obtain ⟨j', rfl, hjj, hij2, HD, hsd⟩ := hrel
            have c0 := HD.out.c0
            have c0q := HQD.out _ _ HD.out
            by_cases hle2 : i' ≤ j'
            · cases hlv2 : lt dk[a]! dk[j']! with
              | true =>
                have HL2 := Lib.hid (HL.out dk _ a j' true HD.out (by omega) (by omega) hlv2)
                go_wp2_with (go_at_fn g; refine HL2.out.mono ?_; rintro e w1 ⟨rfl, h⟩; have HJ2 := Lib.hid h; clear h)
                go_roundw
                case rel => exact ⟨j' - 1, by go_num, by omega, by omega, HJ2, (scanDown_go (fun x => lt dk[a]! x) dk i' j' hle2 (by omega) hlv2).symm.trans hsd.out⟩
                case measure => simp [intOf]; omega
              | false =>
                have HL2 := Lib.hid (HL.out dk _ a j' false HD.out (by omega) (by omega) hlv2)
                have hj2 : Hid (j' = Sort.scanDown (fun x => lt dk[a]! x) dk i' j) := (scanDown_end (fun x => lt dk[a]! x) dk i' j' (Or.inr hlv2)).symm.trans hsd.out
                have hlt3 := scans_lt lt a i j dk (by omega) hi2.out hj2.out hle2
                clear hsd
                go_wp2_with (go_at_fn g; refine HL2.out.mono ?_; rintro e w1 ⟨rfl, h⟩; have HJ2 := Lib.hid h; have c12 := HJ2.out.c1; clear h)
                obtain ⟨z, hsw, hz⟩ := HS.out dk _ i' j' HJ2.out (by omega) (by omega)
                have HZ2 := Lib.hid hz
                rw [hsw, Oper.upon_value]
                clear hsw hz
                go_wp2
                go_roundw
                case rel => exact ⟨i' + 1, j' - 1, Sort.swp dk i' j', by go_num, by go_num, by omega, by omega, by omega, HZ2, (show Hid _ from by rw [← AE.out]; exact (partEq_go lt a i j dk hi2.out hj2.out (by omega)).symm)⟩
                case measure => simp [intOf]; omega
            · have hj2 : Hid (j' = Sort.scanDown (fun x => lt dk[a]! x) dk i' j) := (scanDown_end (fun x => lt dk[a]! x) dk i' j' (Or.inl hle2)).symm.trans hsd.out
              clear hsd
              go_wp2
              go_ret
              have e := partEq_break lt a i j dk hi2.out hj2.out (by omega)
              refine ⟨?_, ?_, HD.out.only⟩
              · unfold Sort.partitionEqual; rw [← AE.out, e]; rfl
              · unfold Sort.partitionEqual; rw [← AE.out, e]; exact HD.out.row
      · have hi2 : Hid (i' = Sort.scanUp (fun x => !lt dk[a]! x) dk j i) := (scanUp_end (fun x => !lt dk[a]! x) dk j i' (Or.inl hle)).symm.trans hsc.out
        go_wp2
        clear c0 c0q hsc
        go_loopw [10] (fun vj w2 => ∃ (j' : Nat), vj = .int .i64 j' ∧ j' ≤ j ∧ i' ≤ j' + 1 ∧ Hid (SIn g lb sf sb r R w dk w2) ∧
            Hid (Sort.scanDown (fun x => lt dk[a]! x) dk i' j' = Sort.scanDown (fun x => lt dk[a]! x) dk i' j))
          (fun vj _ => (intOf vj).toNat)
        case atStart => exact ⟨j, rfl, Nat.le_refl _, hij', HJ, rfl⟩
        case round =>
          clear HJ
          obtain ⟨j', rfl, hjj, hij2, HD, hsd⟩ := hrel
          have c0 := HD.out.c0
          have c0q := HQD.out _ _ HD.out
          by_cases hle2 : i' ≤ j'
          · exfalso; omega
          · have hj2 : Hid (j' = Sort.scanDown (fun x => lt dk[a]! x) dk i' j) := (scanDown_end (fun x => lt dk[a]! x) dk i' j' (Or.inl hle2)).symm.trans hsd.out
            clear hsd
            go_wp2
            go_ret
            have e := partEq_break lt a i j dk hi2.out hj2.out (by omega)
            refine ⟨?_, ?_, HD.out.only⟩
            · unfold Sort.partitionEqual; rw [← AE.out, e]; rfl
            · unfold Sort.partitionEqual; rw [← AE.out, e]; exact HD.out.row
end
end Go.Proofs.Ytnpacjdgbmldlaa

/- partition by a `less` that lays blocks. -/
namespace Go.Proofs.Ytnpacjdgbmldlaa
open Go.RowKit Go.Lib Go.Sort
section
variable {α : Type} [Inhabited α] {lt : α → α → Bool} {g : Nat} {lb : Array Value} {sf : Nat} {sb : Array Value} {r n N : Nat} {R : Array α → World → Prop}
set_option maxHeartbeats 12800000 in
set_option maxRecDepth 1000000 in
theorem part_any (E : SEnv lt g lb sf sb r n N R) (d : Array α) (w : World) (hR : R d w) (a b pivot : Nat) (hap : a ≤ pivot) (hpb : pivot < b) (hb : b ≤ n) :
    Calls Try.prog 151 #[lsV g lb sf sb, .int .i64 a, .int .i64 b, .int .i64 pivot] w fun e w' => e = .returned (.tuple #[.int .i64 (Sort.partition lt d a b pivot).1, .bool (Sort.partition lt d a b pivot).2.1]) ∧ R (Sort.partition lt d a b pivot).2.2 w' ∧ w.grownBy w' (some r) := by
  have HE := Lib.hid E
  have hr := E.row _ _ hR
  have HI0 : Hid (SIn g lb sf sb r R w d (w.alloc (.cells (lsC g lb sf sb) 168))) := Lib.hid (SIn.start E hR)
  have hn : n < 4611686018427387904 := E.small
  have eg := E.eg
  have HL := Lib.hid (less_at E w)
  have HS := Lib.hid (swap_at E w hr)
  have HQD : Hid (∀ (X : Array α) (y : World), SIn g lb sf sb r R w X y → ∀ q, (y.drewN q).cell? ⟨w.heap.size, 0, none⟩ = some (.func (.func g) #[] lb)) := Lib.hid fun X y h q => (h.drawn HE.out q).c0
  have c1 := HI0.out.c1
  obtain ⟨z0, hs0, hz0⟩ := HS.out d _ a pivot HI0.out (by omega) (by omega)
  unfold lsC at hs0
  obtain ⟨i, hi⟩ : ∃ i : Nat, i = a + 1 := ⟨_, rfl⟩
  obtain ⟨j, hj⟩ : ∃ j : Nat, j = b - 1 := ⟨_, rfl⟩
  obtain ⟨dk, hdk⟩ : ∃ dk : Array α, dk = Sort.swp d a pivot := ⟨_, rfl⟩
  rw [← hdk] at hz0
  have HJ := Lib.hid hz0
  have hai : a < i := by omega
  have hij : i ≤ j + 1 := by omega
  have hjb : j < b := by omega
  have Hi := Lib.hid hi
  have Hj := Lib.hid hj
  have Hdk := Lib.hid hdk
  clear hR E hz0 HI0 hi hj hdk
  go_enter Try.func151, Try.ntmps151
  go_wp2
  clear hs0 c1
  rw [show ((a : Int) + 1) = (i : Int) by have := Hi.out; omega, show ((b : Int) - 1) = (j : Int) by have := Hj.out; omega]
  go_loopw [10] (fun vi w1 => ∃ (i' : Nat), vi = .int .i64 i' ∧ i ≤ i' ∧ i' ≤ j + 1 ∧ Hid (SIn g lb sf sb r R w dk w1) ∧
      Hid (Sort.scanUp (fun x => lt x dk[a]!) dk j i' = Sort.scanUp (fun x => lt x dk[a]!) dk j i))
    (fun vi _ => j + 1 - (intOf vi).toNat)
  case atStart => exact ⟨i, rfl, Nat.le_refl _, hij, HJ, rfl⟩
  case round =>
    clear HJ
    obtain ⟨i', rfl, hii, hij', HJ, hsc⟩ := hrel
    have c0 := HJ.out.c0
    have c0q := HQD.out _ _ HJ.out
    by_cases hle : i' ≤ j
    · cases hlv : lt dk[i']! dk[a]! with
      | true =>
        have HL1 := Lib.hid (HL.out dk _ i' a true HJ.out (by omega) (by omega) hlv)
        go_wp2_with (go_at_fn g; refine HL1.out.mono ?_; rintro e w1 ⟨rfl, h⟩; have HJ1 := Lib.hid h; clear h)
        go_roundw
        case rel => exact ⟨i' + 1, by go_num, by omega, by omega, HJ1, (scanUp_go (fun x => lt x dk[a]!) dk j i' hle hlv).symm.trans hsc.out⟩
        case measure => simp [intOf]; omega
      | false =>
        have HL1 := Lib.hid (HL.out dk _ i' a false HJ.out (by omega) (by omega) hlv)
        have hi2 : Hid (i' = Sort.scanUp (fun x => lt x dk[a]!) dk j i) := (scanUp_end (fun x => lt x dk[a]!) dk j i' (Or.inr hlv)).symm.trans hsc.out
        go_wp2_with (go_at_fn g; refine HL1.out.mono ?_; rintro e w1 ⟨rfl, h⟩; have HJ1 := Lib.hid h; clear h)
        clear c0 c0q hsc HJ
        go_loopw [11] (fun vj w2 => ∃ (j' : Nat), vj = .int .i64 j' ∧ j' ≤ j ∧ i' ≤ j' + 1 ∧ Hid (SIn g lb sf sb r R w dk w2) ∧
            Hid (Sort.scanDown (fun x => !lt x dk[a]!) dk i' j' = Sort.scanDown (fun x => !lt x dk[a]!) dk i' j))
          (fun vj _ => (intOf vj).toNat)
        case atStart => exact ⟨j, rfl, Nat.le_refl _, hij', HJ1, rfl⟩
        case round =>
          clear HJ1
          obtain ⟨j', rfl, hjj, hij2, HD, hsd⟩ := hrel
          have c0 := HD.out.c0
          have c0q := HQD.out _ _ HD.out
          by_cases hle2 : i' ≤ j'
          · cases hlv2 : lt dk[j']! dk[a]! with
            | false =>
              have HL2 := Lib.hid (HL.out dk _ j' a false HD.out (by omega) (by omega) hlv2)
              go_wp2_with (go_at_fn g; refine HL2.out.mono ?_; rintro e w1 ⟨rfl, h⟩; have HJ2 := Lib.hid h; clear h)
              go_roundw
              case rel => exact ⟨j' - 1, by go_num, by omega, by omega, HJ2, (scanDown_go (fun x => !lt x dk[a]!) dk i' j' hle2 (by omega) (by simp [hlv2])).symm.trans hsd.out⟩
              case measure => simp [intOf]; omega
            | true =>
              have HL2 := Lib.hid (HL.out dk _ j' a true HD.out (by omega) (by omega) hlv2)
              have hj2 : Hid (j' = Sort.scanDown (fun x => !lt x dk[a]!) dk i' j) := (scanDown_end (fun x => !lt x dk[a]!) dk i' j' (Or.inr (by simp [hlv2]))).symm.trans hsd.out
              have hlt3 := part_scans_lt lt a i j dk (by omega) hi2.out hj2.out hle2
              clear hsd
              go_wp2_with (go_at_fn g; refine HL2.out.mono ?_; rintro e w1 ⟨rfl, h⟩; have HJ2 := Lib.hid h; have c12 := HJ2.out.c1; clear h)
              obtain ⟨z, hsw, hz⟩ := HS.out dk _ i' j' HJ2.out (by omega) (by omega)
              have HZ2 := Lib.hid hz
              rw [hsw, Oper.upon_value]
              clear hsw hz c12
              go_wp2
              (try rw [decide_eq_false (show ¬ j' < i' by omega)])
              obtain ⟨I0, hI0⟩ : ∃ I0 : Nat, I0 = i' + 1 := ⟨_, rfl⟩
              obtain ⟨J0, hJ0⟩ : ∃ J0 : Nat, J0 = j' - 1 := ⟨_, rfl⟩
              obtain ⟨D0, hD0⟩ : ∃ D0 : Array α, D0 = Sort.swp dk i' j' := ⟨_, rfl⟩
              have PF : Hid (Sort.partition lt d a b pivot = ((Sort.partLoop lt a I0 J0 D0).1, false, Sort.swp (Sort.partLoop lt a I0 J0 D0).2 (Sort.partLoop lt a I0 J0 D0).1 a)) := by
                rw [hI0, hJ0, hD0]; exact part_first_go lt d a b pivot Hi.out Hj.out Hdk.out hi2.out hj2.out (by omega)
              go_loopw [10, 11] (fun vi vj wr => ∃ (i j : Nat) (dk : Array α), vi = .int .i64 i ∧ vj = .int .i64 j ∧ a < i ∧ i ≤ j + 1 ∧ j < b ∧ Hid (SIn g lb sf sb r R w dk wr) ∧ Hid (Sort.partLoop lt a i j dk = Sort.partLoop lt a I0 J0 D0))
                (fun vi vj _ => (intOf vj).toNat + 1 - (intOf vi).toNat)
              case atStart => exact ⟨i' + 1, j' - 1, Sort.swp dk i' j', by go_num, by go_num, by omega, by omega, by omega, HZ2, by show _ = _; rw [hI0, hJ0, hD0]⟩
              case round =>
                clear HZ2 hI0 hJ0 hD0 hj2 hi2 hlt3 c0 c0q Hi Hj Hdk HL2 HD
                obtain ⟨i, j, dk, rfl, rfl, hai, hij, hjb, HJ, AE⟩ := hrel
                go_wp2
                go_loopw [10] (fun vi w1 => ∃ (i' : Nat), vi = .int .i64 i' ∧ i ≤ i' ∧ i' ≤ j + 1 ∧ Hid (SIn g lb sf sb r R w dk w1) ∧
                    Hid (Sort.scanUp (fun x => lt x dk[a]!) dk j i' = Sort.scanUp (fun x => lt x dk[a]!) dk j i))
                  (fun vi _ => j + 1 - (intOf vi).toNat)
                case atStart => exact ⟨i, rfl, Nat.le_refl _, hij, HJ, rfl⟩
                case round =>
                  clear HJ
                  obtain ⟨i', rfl, hii, hij', HJ, hsc⟩ := hrel
                  have c0 := HJ.out.c0
                  have c0q := HQD.out _ _ HJ.out
                  by_cases hle : i' ≤ j
                  · cases hlv : lt dk[i']! dk[a]! with
                    | true =>
                      have HL1 := Lib.hid (HL.out dk _ i' a true HJ.out (by omega) (by omega) hlv)
                      go_wp2_with (go_at_fn g; refine HL1.out.mono ?_; rintro e w1 ⟨rfl, h⟩; have HJ1 := Lib.hid h; clear h)
                      go_roundw
                      case rel => exact ⟨i' + 1, by go_num, by omega, by omega, HJ1, (scanUp_go (fun x => lt x dk[a]!) dk j i' hle hlv).symm.trans hsc.out⟩
                      case measure => simp [intOf]; omega
                    | false =>
                      have HL1 := Lib.hid (HL.out dk _ i' a false HJ.out (by omega) (by omega) hlv)
                      have hi2 : Hid (i' = Sort.scanUp (fun x => lt x dk[a]!) dk j i) := (scanUp_end (fun x => lt x dk[a]!) dk j i' (Or.inr hlv)).symm.trans hsc.out
                      go_wp2_with (go_at_fn g; refine HL1.out.mono ?_; rintro e w1 ⟨rfl, h⟩; have HJ1 := Lib.hid h; clear h)
                      clear c0 c0q hsc HJ
                      go_loopw [11] (fun vj w2 => ∃ (j' : Nat), vj = .int .i64 j' ∧ j' ≤ j ∧ i' ≤ j' + 1 ∧ Hid (SIn g lb sf sb r R w dk w2) ∧
                          Hid (Sort.scanDown (fun x => !lt x dk[a]!) dk i' j' = Sort.scanDown (fun x => !lt x dk[a]!) dk i' j))
                        (fun vj _ => (intOf vj).toNat)
                      case atStart => exact ⟨j, rfl, Nat.le_refl _, hij', HJ1, rfl⟩
                      case round =>
                        clear HJ1
                        obtain ⟨j', rfl, hjj, hij2, HD, hsd⟩ := hrel
                        have c0 := HD.out.c0
                        have c0q := HQD.out _ _ HD.out
                        by_cases hle2 : i' ≤ j'
                        · cases hlv2 : lt dk[j']! dk[a]! with
                          | false =>
                            have HL2 := Lib.hid (HL.out dk _ j' a false HD.out (by omega) (by omega) hlv2)
                            go_wp2_with (go_at_fn g; refine HL2.out.mono ?_; rintro e w1 ⟨rfl, h⟩; have HJ2 := Lib.hid h; clear h)
                            go_roundw
                            case rel => exact ⟨j' - 1, by go_num, by omega, by omega, HJ2, (scanDown_go (fun x => !lt x dk[a]!) dk i' j' hle2 (by omega) (by simp [hlv2])).symm.trans hsd.out⟩
                            case measure => simp [intOf]; omega
                          | true =>
                            have HL2 := Lib.hid (HL.out dk _ j' a true HD.out (by omega) (by omega) hlv2)
                            have hj2 : Hid (j' = Sort.scanDown (fun x => !lt x dk[a]!) dk i' j) := (scanDown_end (fun x => !lt x dk[a]!) dk i' j' (Or.inr (by simp [hlv2]))).symm.trans hsd.out
                            have hlt3 := part_scans_lt lt a i j dk (by omega) hi2.out hj2.out hle2
                            clear hsd
                            go_wp2_with (go_at_fn g; refine HL2.out.mono ?_; rintro e w1 ⟨rfl, h⟩; have HJ2 := Lib.hid h; have c12 := HJ2.out.c1; clear h)
                            obtain ⟨z, hsw, hz⟩ := HS.out dk _ i' j' HJ2.out (by omega) (by omega)
                            have HZ2 := Lib.hid hz
                            rw [hsw, Oper.upon_value]
                            clear hsw hz c12
                            go_wp2
                            go_roundw
                            case rel => exact ⟨i' + 1, j' - 1, Sort.swp dk i' j', by go_num, by go_num, by omega, by omega, by omega, HZ2, (show Hid _ from by rw [← AE.out]; exact (part_go lt a i j dk hi2.out hj2.out (by omega)).symm)⟩
                            case measure => simp [intOf]; omega
                        · have hj2 : Hid (j' = Sort.scanDown (fun x => !lt x dk[a]!) dk i' j) := (scanDown_end (fun x => !lt x dk[a]!) dk i' j' (Or.inl hle2)).symm.trans hsd.out
                          clear hsd
                          have c1 := HD.out.c1
                          obtain ⟨z, hsw, hz⟩ := HS.out dk _ j' a HD.out (by omega) (by omega)
                          have HZ2 := Lib.hid hz
                          clear hz
                          go_wp2
                          (try (rw [hsw, Oper.upon_value]; clear hsw; go_wp2))
                          go_ret2
                          have e := part_break lt a i j dk hi2.out hj2.out (by omega)
                          rw [PF.out, ← AE.out, e]
                          exact ⟨rfl, HZ2.out.row, HZ2.out.only⟩
                  · have hi2 : Hid (i' = Sort.scanUp (fun x => lt x dk[a]!) dk j i) := (scanUp_end (fun x => lt x dk[a]!) dk j i' (Or.inl hle)).symm.trans hsc.out
                    go_wp2
                    clear c0 c0q hsc
                    go_loopw [11] (fun vj w2 => ∃ (j' : Nat), vj = .int .i64 j' ∧ j' ≤ j ∧ i' ≤ j' + 1 ∧ Hid (SIn g lb sf sb r R w dk w2) ∧
                        Hid (Sort.scanDown (fun x => !lt x dk[a]!) dk i' j' = Sort.scanDown (fun x => !lt x dk[a]!) dk i' j))
                      (fun vj _ => (intOf vj).toNat)
                    case atStart => exact ⟨j, rfl, Nat.le_refl _, hij', HJ, rfl⟩
                    case round =>
                      clear HJ
                      obtain ⟨j', rfl, hjj, hij2, HD, hsd⟩ := hrel
                      have c0 := HD.out.c0
                      have c0q := HQD.out _ _ HD.out
                      by_cases hle2 : i' ≤ j'
                      · exfalso; omega
                      · have hj2 : Hid (j' = Sort.scanDown (fun x => !lt x dk[a]!) dk i' j) := (scanDown_end (fun x => !lt x dk[a]!) dk i' j' (Or.inl hle2)).symm.trans hsd.out
                        clear hsd
                        have c1 := HD.out.c1
                        obtain ⟨z, hsw, hz⟩ := HS.out dk _ j' a HD.out (by omega) (by omega)
                        have HZ2 := Lib.hid hz
                        clear hz
                        go_wp2
                        (try (rw [hsw, Oper.upon_value]; clear hsw; go_wp2))
                        go_ret2
                        have e := part_break lt a i j dk hi2.out hj2.out (by omega)
                        rw [PF.out, ← AE.out, e]
                        exact ⟨rfl, HZ2.out.row, HZ2.out.only⟩
          · have hj2 : Hid (j' = Sort.scanDown (fun x => !lt x dk[a]!) dk i' j) := (scanDown_end (fun x => !lt x dk[a]!) dk i' j' (Or.inl hle2)).symm.trans hsd.out
            clear hsd
            have c1 := HD.out.c1
            obtain ⟨z, hsw, hz⟩ := HS.out dk _ j' a HD.out (by omega) (by omega)
            have HZ2 := Lib.hid hz
            clear hz
            go_wp2
            (try (rw [hsw, Oper.upon_value]; clear hsw; go_wp2))
            go_ret2
            have e := part_first_break lt d a b pivot Hi.out Hj.out Hdk.out hi2.out hj2.out (by omega)
            rw [e]
            exact ⟨rfl, HZ2.out.row, HZ2.out.only⟩
    · have hi2 : Hid (i' = Sort.scanUp (fun x => lt x dk[a]!) dk j i) := (scanUp_end (fun x => lt x dk[a]!) dk j i' (Or.inl hle)).symm.trans hsc.out
      go_wp2
      clear c0 c0q hsc
      go_loopw [11] (fun vj w2 => ∃ (j' : Nat), vj = .int .i64 j' ∧ j' ≤ j ∧ i' ≤ j' + 1 ∧ Hid (SIn g lb sf sb r R w dk w2) ∧
          Hid (Sort.scanDown (fun x => !lt x dk[a]!) dk i' j' = Sort.scanDown (fun x => !lt x dk[a]!) dk i' j))
        (fun vj _ => (intOf vj).toNat)
      case atStart => exact ⟨j, rfl, Nat.le_refl _, hij', HJ, rfl⟩
      case round =>
        clear HJ
        obtain ⟨j', rfl, hjj, hij2, HD, hsd⟩ := hrel
        have c0 := HD.out.c0
        have c0q := HQD.out _ _ HD.out
        by_cases hle2 : i' ≤ j'
        · exfalso; omega
        · have hj2 : Hid (j' = Sort.scanDown (fun x => !lt x dk[a]!) dk i' j) := (scanDown_end (fun x => !lt x dk[a]!) dk i' j' (Or.inl hle2)).symm.trans hsd.out
          clear hsd
          have c1 := HD.out.c1
          obtain ⟨z, hsw, hz⟩ := HS.out dk _ j' a HD.out (by omega) (by omega)
          have HZ2 := Lib.hid hz
          clear hz
          go_wp2
          (try (rw [hsw, Oper.upon_value]; clear hsw; go_wp2))
          go_ret2
          have e := part_first_break lt d a b pivot Hi.out Hj.out Hdk.out hi2.out hj2.out (by omega)
          rw [e]
          exact ⟨rfl, HZ2.out.row, HZ2.out.only⟩
end
end Go.Proofs.Ytnpacjdgbmldlaa

/- breakPatterns: a row that is only swapped. -/
namespace Go.Proofs.Ytnpacjdgbmldlaa
open Go.RowKit Go.Lib Go.Sort Go.Shelf
section
variable {α : Type} [Inhabited α] {lt : α → α → Bool} {g : Nat} {lb : Array Value} {sf : Nat} {sb : Array Value} {r n N : Nat} {R : Array α → World → Prop}
/-- Inside breakPatterns, its random number in the box behind lessSwap's. -/
structure BIn (g : Nat) (lb : Array Value) (sf : Nat) (sb : Array Value) (r : Nat) (R : Array α → World → Prop) (w : World) (d : Array α) (q : Nat) (x : World) : Prop where
  s : SIn g lb sf sb r R w d x
  cell : x.cell? ⟨w.heap.size + 1, 0, none⟩ = some (.int .u64 (q : Int))
  fr : x.frozen? ⟨w.heap.size + 1, 0, none⟩ = false
theorem below_setCellB {N c : Nat} (h : N ≤ c) {x : World} (v : Value) : RowKit.Below N x (x.setCell ⟨c, 0, none⟩ v) :=
  ⟨rfl, rfl, rfl, by simp [World.setCell], fun k hk => Below.heap_setCell x ⟨c, 0, none⟩ v k (by intro e; simp only at e; omega)⟩
theorem BIn.next (E : SEnv lt g lb sf sb r n N R) {w x : World} {d : Array α} {q : Nat} (hw : N ≤ w.heap.size) (h : BIn g lb sf sb r R w d q x) (q' : Nat) : BIn g lb sf sb r R w d q' ((x.setCell ⟨w.heap.size + 1, 0, none⟩ (.int .u64 (q' : Int))).drewN 3) := by
  have hb : RowKit.Below (w.heap.size + 1) x ((x.setCell ⟨w.heap.size + 1, 0, none⟩ (.int .u64 (q' : Int))).drewN 3) := below_drewN (below_setCellB (Nat.le_refl _) _) 3
  refine ⟨⟨E.keep _ _ _ (hb.mono (by omega)) h.s.row, (hb.block _ (by omega)).trans h.s.box, ?_⟩, ?_, ?_⟩
  · have h1 := h.s.only
    exact ⟨hb.os.trans h1.os, hb.tape.trans h1.tape, hb.output.trans h1.output, Nat.le_trans h1.size hb.size, fun i hi hn => (hb.block i (by omega)).trans (h1.block i hi hn)⟩
  · rw [World.cell?_drewN]
    exact World.cell?_setCell_same _ _ _ h.cell
  · rw [World.frozen?_drewN]
    have := h.fr
    simpa using this
omit [Inhabited α] in
theorem BIn.swapped {w x y : World} {d d' : Array α} {q : Nat} (hr : r < w.heap.size) (h : BIn g lb sf sb r R w d q x) (h1 : R d' y) (h2 : x.grownBy y (some r)) : BIn g lb sf sb r R w d' q y := by
  have hl := World.block_lt_of_cell? x _ h.cell
  have hk := h2.block (w.heap.size + 1) hl (fun e => by injection e with e; omega)
  exact ⟨h.s.swapped hr h1 h2, (World.cell?_of_block (w := x) (a := ⟨w.heap.size + 1, 0, none⟩) hk).trans h.cell, (World.frozen?_of_block (w := x) (a := ⟨w.heap.size + 1, 0, none⟩) hk).trans h.fr⟩
theorem enters157 : ∀ args w, (callFunc 157 args).run Try.prog w = .ok (.enter 157 args) w := enters_of Try.func157 (by kernel_rfl) rfl
theorem enters158 : ∀ args w, (callFunc 158 args).run Try.prog w = .ok (.enter 158 args) w := enters_of Try.func158 (by kernel_rfl) rfl
theorem np2_any (L : Nat) (h : L < 4611686018427387904) (w : World) : Calls Try.prog 157 #[.int .i64 (L : Int)] w fun e w' => e = .returned (.int .u64 ((1 <<< bitsLen L : Nat) : Int)) ∧ w' = w :=
  Any.nextPowerOfTwo (P := Try.prog) (ρ := Try.sv6_ren) { Try.sv6 with } L h w
theorem xnext_any (rb X : Nat) (hX : X < 18446744073709551616) (w : World) (hc : w.cell? ⟨rb, 0, none⟩ = some (.int .u64 X)) (hf : w.frozen? ⟨rb, 0, none⟩ = false) :
    Calls Try.prog 158 #[.pointer (some ⟨rb, 0, none⟩)] w fun e w' => e = .returned (.int .u64 (xorNextN X : Nat)) ∧ w' = (w.setCell ⟨rb, 0, none⟩ (.int .u64 (xorNextN X : Nat))).drewN 3 :=
  Any.xorshift_Next (P := Try.prog) (ρ := Try.sv6_ren) { Try.sv6 with } rb 0 X hX w hc hf

set_option maxHeartbeats 4000000 in
set_option maxRecDepth 1000000 in
theorem break_go (E : SEnv lt g lb sf sb r n N R) (d : Array α) (w : World) (hR : R d w) (a L : Nat) (hb : a + L ≤ n) (h8 : 8 ≤ L) :
    Calls Try.prog 146 #[lsV g lb sf sb, .int .i64 a, .int .i64 ((a + L : Nat) : Int)] w fun e w' => e = .returned (.tuple #[]) ∧ R (breakPatterns d a (a + L)) w' ∧ w.grownBy w' (some r) := by
  have HE := Lib.hid E
  have hr := E.row _ _ hR
  have hn : n < 4611686018427387904 := E.small
  have hw : N ≤ w.heap.size := E.base _ _ hR
  have HB0 : Hid (∀ o, SIn g lb sf sb r R w d ((w.alloc (.cells (lsC g lb sf sb) 168)).alloc o)) := Lib.hid fun o => (SIn.start E hR).laid E (below1 _ _)
  clear hR E
  rw [breakPatterns_eq d a L h8]
  obtain ⟨M, hM⟩ : ∃ M : Nat, M = 1 <<< bitsLen L := ⟨_, rfl⟩
  have hM1 : 1 ≤ M := by rw [hM, Nat.one_shiftLeft]; exact Nat.two_pow_pos _
  have hM2 : M ≤ 2 * L := by rw [hM, Nat.one_shiftLeft]; exact two_pow_bitsLen_le (by omega)
  have hNP : ∀ w, Calls Try.prog 157 #[.int .i64 (L : Int)] w fun e w' => e = .returned (.int .u64 (M : Int)) ∧ w' = w := by rw [hM]; exact fun w => np2_any L (by omega) w
  rw [← hM]
  have HNP := Lib.hid hNP
  clear hM hNP
  have hLz : ((a : Int) + (L : Int) - (a : Int)) = (L : Int) := by omega
  have h8z : (8 : Int) ≤ (L : Int) := by omega
  have e157 := enters157
  have e158 := enters158
  go_enter Try.func146, Try.ntmps146
  go_wp2_with (first | (go_at_fn 157; refine (HNP.out _).mono ?_; rintro e w' ⟨rfl, rfl⟩))
  go_loopg [9] 3 (fun g1 vi wr => ∃ (t : Nat) (q : UInt64) (dk : Array α), vi = .int .i64 ((a : Int) + (L : Int) / 4 * 2 - 1 + (t : Int)) ∧ t ≤ 3 ∧ 3 - t ≤ g1 ∧ Hid (BIn g lb sf sb r R w dk q.toNat wr) ∧
      Hid (bpRest a L M (a + L / 4 * 2 - 1) (3 - t) t (q, dk) = bpRest a L M (a + L / 4 * 2 - 1) 3 0 (UInt64.ofNat L, d)))
  case atStart =>
    refine ⟨0, UInt64.ofNat L, d, by simp, by omega, by omega, Lib.hid ⟨HB0.out _, ?_, ?_⟩, rfl⟩
    · rw [show (UInt64.ofNat L).toNat = L from by simp; omega]
      simp
    · simp
  case round =>
    obtain ⟨t, q, dk, rfl, ht, hg1, HB, HR⟩ := hrel
    clear HB0
    by_cases ht3 : t < 3
    · have hle : (a : Int) + (L : Int) / 4 * 2 - 1 + (t : Int) ≤ (a : Int) + (L : Int) / 4 * 2 + 1 := by omega
      obtain ⟨Q, hQ⟩ : ∃ Q : Nat, Q = q.toNat := ⟨_, rfl⟩
      have lQ : Q < 18446744073709551616 := by rw [hQ]; exact q.toNat_lt
      obtain ⟨Q', hQ'⟩ : ∃ Q' : Nat, Q' = xorNextN Q := ⟨_, rfl⟩
      have lQ' : Q' < 18446744073709551616 := by rw [hQ']; exact xorNextN_lt Q lQ
      obtain ⟨O, hO⟩ : ∃ O : Nat, O = Q' &&& (M - 1) := ⟨_, rfl⟩
      have lO : O ≤ M - 1 := by rw [hO]; exact Nat.and_le_right
      have eAnd : bits .and .u64 (Q' : Int) ((M : Int) - 1) = (O : Int) := by
        rw [show ((M : Int) - 1) = ((M - 1 : Nat) : Int) by omega, bits_and_u64_nat _ _ lQ' (by omega), hO]
      have HX : Hid (Calls Try.prog 158 #[.pointer (some ⟨w.heap.size + 1, 0, none⟩)] wr fun e w' => e = .returned (.int .u64 (Q' : Int)) ∧ BIn g lb sf sb r R w dk Q' w') := by
        have h := xnext_any (w.heap.size + 1) Q lQ wr (by rw [hQ]; exact HB.out.cell) HB.out.fr
        rw [← hQ'] at h
        exact Lib.hid (h.mono fun e w' ⟨h1, h2⟩ => ⟨h1, by rw [h2]; exact HB.out.next HE.out hw Q'⟩)
      have HN : Hid (Q' = (xorNext q).toNat ∧ O = (xorNext q).toNat &&& (M - 1)) := by
        have e : Q' = (xorNext q).toNat := by rw [hQ', hQ, xorNext_toNat]
        exact ⟨e, by rw [hO, e]⟩
      have c1 := HB.out.s.c1
      clear hQ hQ' hO
      by_cases hLO : L ≤ O
      · have hLOz : (L : Int) ≤ (O : Int) := by omega
        go_wp2_with (go_at_fn 158; refine HX.out.mono ?_; rintro e w2 ⟨rfl, h⟩; have HB2 := Lib.hid h; clear h; have c12 := HB2.out.s.c1)
        obtain ⟨y, hs, hRy, hgy⟩ := HE.out.swap dk w2 HB2.out.s.row (a + L / 4 * 2 - 1 + t) (a + (O - L)) (by omega) (by omega)
        rw [show ((a + L / 4 * 2 - 1 + t : Nat) : Int) = (a : Int) + (L : Int) / 4 * 2 - 1 + (t : Int) by omega, show ((a + (O - L) : Nat) : Int) = (a : Int) + ((O : Int) - (L : Int)) by omega] at hs
        have HB3 := Lib.hid (HB2.out.swapped hr hRy hgy)
        rw [hs, Oper.upon_value]
        clear hs hRy hgy
        go_wp2
        go_roundg (3 - (t + 1))
        case measure => omega
        case rel => exact ⟨t + 1, xorNext q, swp dk (a + L / 4 * 2 - 1 + t) (a + (O - L)), by congr 1; push_cast; omega, by omega, Nat.le_refl _, by rw [← HN.out.1]; exact HB3,
          (show Hid _ from by rw [← HR.out, bp_step a L M _ t q dk (O - L) ht3 (by rw [← HN.out.2, if_pos (by omega)])]; exact rfl)⟩
      · have hLOz : ¬ (L : Int) ≤ (O : Int) := by omega
        go_wp2_with (go_at_fn 158; refine HX.out.mono ?_; rintro e w2 ⟨rfl, h⟩; have HB2 := Lib.hid h; clear h; have c12 := HB2.out.s.c1)
        obtain ⟨y, hs, hRy, hgy⟩ := HE.out.swap dk w2 HB2.out.s.row (a + L / 4 * 2 - 1 + t) (a + O) (by omega) (by omega)
        rw [show ((a + L / 4 * 2 - 1 + t : Nat) : Int) = (a : Int) + (L : Int) / 4 * 2 - 1 + (t : Int) by omega, show ((a + O : Nat) : Int) = (a : Int) + (O : Int) by omega] at hs
        have HB3 := Lib.hid (HB2.out.swapped hr hRy hgy)
        rw [hs, Oper.upon_value]
        clear hs hRy hgy
        go_wp2
        go_roundg (3 - (t + 1))
        case measure => omega
        case rel => exact ⟨t + 1, xorNext q, swp dk (a + L / 4 * 2 - 1 + t) (a + O), by congr 1; push_cast; omega, by omega, Nat.le_refl _, by rw [← HN.out.1]; exact HB3,
          (show Hid _ from by rw [← HR.out, bp_step a L M _ t q dk O ht3 (by rw [← HN.out.2, if_neg (by omega)])]; exact rfl)⟩
    · obtain rfl : t = 3 := by omega
      have hle : ¬ ((a : Int) + (L : Int) / 4 * 2 - 1 + ((3 : Nat) : Int) ≤ (a : Int) + (L : Int) / 4 * 2 + 1) := by omega
      go_wp2
      go_end0
      refine ⟨rfl, ?_, HB.out.s.only⟩
      rw [← HR.out]
      exact HB.out.s.row

set_option maxHeartbeats 2000000 in
set_option maxRecDepth 100000 in
theorem break_any (E : SEnv lt g lb sf sb r n N R) (d : Array α) (w : World) (hR : R d w) (a b : Nat) (hab : a ≤ b) (hb : b ≤ n) :
    Calls Try.prog 146 #[lsV g lb sf sb, .int .i64 a, .int .i64 b] w fun e w' => e = .returned (.tuple #[]) ∧ R (breakPatterns d a b) w' ∧ w.grownBy w' (some r) := by
  obtain ⟨L, rfl⟩ : ∃ L, b = a + L := ⟨b - a, by omega⟩
  by_cases h8 : 8 ≤ L
  · exact break_go E d w hR a L hb h8
  · have hv : breakPatterns d a (a + L) = d := by unfold breakPatterns; simp only [Nat.add_sub_cancel_left]; rw [if_neg h8]
    rw [hv]
    have hLz : ((a : Int) + (L : Int) - (a : Int)) = (L : Int) := by omega
    have h8z : ¬ (8 : Int) ≤ (L : Int) := by omega
    have hn : n < 4611686018427387904 := E.small
    have HI0 : Hid (SIn g lb sf sb r R w d (w.alloc (.cells (lsC g lb sf sb) 168))) := Lib.hid (SIn.start E hR)
    clear hR E
    go_enter Try.func146, Try.ntmps146
    go_wp2
    go_end0
    exact ⟨rfl, HI0.out.row, HI0.out.only⟩
end
end Go.Proofs.Ytnpacjdgbmldlaa

/- pdqsort by a `less` that lays blocks, over an abstract row. -/
namespace Go.Proofs.Ytnpacjdgbmldlaa
open Go.RowKit Go.Lib Go.Sort
section
variable {α : Type} [Inhabited α] {lt : α → α → Bool} {g : Nat} {lb : Array Value} {sf : Nat} {sb : Array Value} {r n N : Nat} {R : Array α → World → Prop}
theorem enters144 : ∀ args w, (callFunc 144 args).run Try.prog w = .ok (.enter 144 args) w := enters_of Try.func144 (by kernel_rfl) rfl
theorem enters145 : ∀ args w, (callFunc 145 args).run Try.prog w = .ok (.enter 145 args) w := enters_of Try.func145 (by kernel_rfl) rfl
theorem enters146 : ∀ args w, (callFunc 146 args).run Try.prog w = .ok (.enter 146 args) w := enters_of Try.func146 (by kernel_rfl) rfl
theorem enters147 : ∀ args w, (callFunc 147 args).run Try.prog w = .ok (.enter 147 args) w := enters_of Try.func147 (by kernel_rfl) rfl
theorem enters148 : ∀ args w, (callFunc 148 args).run Try.prog w = .ok (.enter 148 args) w := enters_of Try.func148 (by kernel_rfl) rfl
theorem enters149 : ∀ args w, (callFunc 149 args).run Try.prog w = .ok (.enter 149 args) w := enters_of Try.func149 (by kernel_rfl) rfl
theorem enters150 : ∀ args w, (callFunc 150 args).run Try.prog w = .ok (.enter 150 args) w := enters_of Try.func150 (by kernel_rfl) rfl
theorem enters151 : ∀ args w, (callFunc 151 args).run Try.prog w = .ok (.enter 151 args) w := enters_of Try.func151 (by kernel_rfl) rfl
theorem enters122 : ∀ args w, (callFunc 122 args).run Try.prog w = .ok (.enter 122 args) w := enters_of Try.func122 (by kernel_rfl) rfl

set_option maxHeartbeats 12800000 in
set_option maxRecDepth 1000000 in
theorem pdq_any (E : SEnv lt g lb sf sb r n N R) (hO : SWO lt) : ∀ (m a b limit : Nat) (d : Array α) (w : World), b - a < m → R d w → a ≤ b → b ≤ n → limit < 4611686018427387904 → Sort.Below lt a b d →
    Calls Try.prog 122 #[lsV g lb sf sb, .int .i64 a, .int .i64 b, .int .i64 limit] w fun e w' => e = .returned (.tuple #[]) ∧ R (pdq lt d a b limit true true) w' ∧ w.grownBy w' (some r) := by
  have e144 := enters144; have e145 := enters145; have e146 := enters146; have e147 := enters147; have e148 := enters148
  have e149 := enters149; have e150 := enters150; have e151 := enters151; have e122 := enters122
  have eg := E.eg
  have HE := Lib.hid E
  have hn : n < 4611686018427387904 := E.small
  clear E
  intro m
  induction m with
  | zero => intro _ _ _ _ _ h; exact absurd h (Nat.not_lt_zero _)
  | succ m ih =>
    have IH := Lib.hid ih
    clear ih
    intro a b limit d w hm hR hab hb hlimit hBel0
    have hr := HE.out.row _ _ hR
    have hsz := HE.out.size _ _ hR
    have HS0 : Hid (SIn g lb sf sb r R w d (w.alloc (.cells (lsC g lb sf sb) 168))) := Lib.hid (SIn.start HE.out hR)
    have HL : Hid (∀ (X : Array α) (y : World) (i j : Nat) (v : Bool), SIn g lb sf sb r R w X y → i < n → j < n → lt X[i]! X[j]! = v → Calls Try.prog g (#[.int .i64 (i : Int), .int .i64 (j : Int)] ++ lb) y fun e w' => e = .returned (.bool v) ∧ SIn g lb sf sb r R w X w') := Lib.hid (less_at HE.out w)
    have HBel0 := Lib.hid hBel0
    clear hR hBel0
    go_enter Try.func122, Try.ntmps122
    go_wp2
    go_loopg [1, 2, 3, 8, 9] (b - a) (fun kx s1 s2 s3 s8 s9 wr => ∃ (a' b' lim : Nat) (wb wp : Bool) (dk : Array α), s1 = .int .i64 a' ∧ s2 = .int .i64 b' ∧ s3 = .int .i64 lim ∧ s8 = .bool wb ∧ s9 = .bool wp ∧
      a' ≤ b' ∧ b' ≤ n ∧ b' - a' ≤ kx ∧ kx ≤ b - a ∧ lim ≤ limit ∧ Hid (Sort.Below lt a' b' dk) ∧ Hid (SIn g lb sf sb r R w dk wr) ∧ Hid (pdq lt dk a' b' lim wb wp = pdq lt d a b limit true true))
    case atStart => exact ⟨a, b, limit, true, true, d, rfl, rfl, rfl, rfl, rfl, hab, hb, Nat.le_refl _, Nat.le_refl _, Nat.le_refl _, HBel0, HS0, rfl⟩
    case round =>
      obtain ⟨a', b', lim, wb, wp, dk, rfl, rfl, rfl, rfl, rfl, hab', hb', hkx, hkN, hlim, HBel, HJ, A⟩ := hrel
      clear HS0 HBel0
      have hds := HE.out.size _ _ HJ.out.row
      have c0 := HJ.out.c0
      have c1 := HJ.out.c1
      by_cases h12 : b' - a' ≤ 12
      · have h12z : (b' : Int) - (a' : Int) ≤ 12 := by omega
        have hc := Lib.hid (ins_any HE.out dk wr HJ.out.row a' b' hab' hb')
        go_wp2_with (go_at_fn 144; refine hc.out.mono ?_; rintro e w1 ⟨rfl, h1, h2⟩; have HJ1 := Lib.hid (HJ.out.swapped hr h1 h2); clear h1 h2)
        (try simp only [Exit.inBlock, Exit.then]); refine bodyPost_ret (results_none rfl _ _ _) rfl ?_
        refine ⟨rfl, ?_, HJ1.out.only⟩
        rw [← A.out, pdq_small h12]
        exact HJ1.out.row
      · have h12z : ¬ ((b' : Int) - (a' : Int) ≤ 12) := by omega
        by_cases hl0 : lim = 0
        · subst hl0
          have hc := Lib.hid (heap_any HE.out dk wr HJ.out.row a' b' hab' hb')
          go_wp2_with (go_at_fn 145; refine hc.out.mono ?_; rintro e w1 ⟨rfl, h1, h2⟩; have HJ1 := Lib.hid (HJ.out.swapped hr h1 h2); clear h1 h2)
          (try simp only [Exit.inBlock, Exit.then]); refine bodyPost_ret (results_none rfl _ _ _) rfl ?_
          refine ⟨rfl, ?_, HJ1.out.only⟩
          rw [← A.out, pdq_heap h12 rfl]
          exact HJ1.out.row
        · have hl0z : ¬ ((lim : Int) = 0) := by omega
          have HF := Lib.hid (rd_facts (lt := lt) (limit := lim) (wb := wb) (wp := wp) hO partialInsertionSort_holds reverseRange_holds (show a' < b' by omega) (show b' ≤ dk.size by omega) HBel.out)
          go_upto_if 35 with fail
          go_cut [3] from 19 (fun s3 wc => s3 = .int .i64 (rd lt dk a' b' lim wb wp).lim ∧ Hid (SIn g lb sf sb r R w (rd lt dk a' b' lim wb wp).d1 wc))
          case first =>
            cases wb
            · have hc := Lib.hid (break_any HE.out dk wr HJ.out.row a' b' hab' hb')
              go_wp2_with (go_at_fn 146; refine hc.out.mono ?_; rintro e w1 ⟨rfl, h1, h2⟩; have HJ1 := Lib.hid (HJ.out.swapped hr h1 h2); clear h1 h2)
              go_meet
              case rel =>
                refine ⟨?_, HJ1⟩
                show Value.int .i64 ((lim : Int) - 1) = Value.int .i64 ((lim - 1 : Nat) : Int)
                congr 1
                omega
            · go_wp2_with fail
              go_meet
              case rel => exact ⟨rfl, HJ⟩
          case rest =>
            obtain ⟨rfl, HJ1⟩ := hcut
            clear c0 c1
            have hc17 : Hid (Calls Try.prog 147 #[lsV g lb sf sb, .int .i64 a', .int .i64 b'] wc fun e w' => e = .returned (.tuple #[.int .i64 (rd lt dk a' b' lim wb wp).c.1, .int .i64 (hintCode (rd lt dk a' b' lim wb wp).c.2)]) ∧ R (rd lt dk a' b' lim wb wp).d1 w' ∧ RowKit.Below wc.heap.size wc w') := Lib.hid (pivot_any HE.out (rd lt dk a' b' lim wb wp).d1 _ HJ1.out.row a' b' (by omega) hb')
            have c0 := HJ1.out.c0
            have c1 := HJ1.out.c1
            go_upto_if 50 with (go_at_fn 147; refine hc17.out.mono ?_; rintro e w2 ⟨rfl, h1, h2⟩; clear h1; have HJ2 := Lib.hid (HJ1.out.laid HE.out h2); clear h2)
            clear c0 c1
            have c0 := HJ2.out.c0
            have c1 := HJ2.out.c1
            go_cut [11, 12] from 19 (fun s11 s12 wc => s11 = .int .i64 (rd lt dk a' b' lim wb wp).pivot ∧ s12 = .int .i64 (hintCode (rd lt dk a' b' lim wb wp).hint) ∧ Hid (SIn g lb sf sb r R w (rd lt dk a' b' lim wb wp).d2 wc))
            case first =>
              by_cases hh : (rd lt dk a' b' lim wb wp).c.2 = .decreasing
              · have hcode : hintCode (rd lt dk a' b' lim wb wp).c.2 = 2 := by rw [hh]; rfl
                obtain ⟨e2, epv, eht⟩ := rd_dec hh
                have hc18 := Lib.hid (reverse_any HE.out (rd lt dk a' b' lim wb wp).d1 _ HJ2.out.row a' b' hab' hb')
                have hc1 := HF.out.2.2.1
                go_wp2_with (go_at_fn 148; refine hc18.out.mono ?_; rintro e w3 ⟨rfl, h1, h2⟩; have HJ3 := Lib.hid (HJ2.out.swapped hr h1 h2); clear h1 h2)
                go_meet
                case rel =>
                  refine ⟨?_, by rw [eht]; rfl, by rw [e2]; exact HJ3⟩
                  rw [epv]
                  congr 1
                  omega
              · have hcode : ¬ (hintCode (rd lt dk a' b' lim wb wp).c.2 = 2) := fun h => hh (hintCode_two h)
                obtain ⟨e2, epv, eht⟩ := rd_not hh
                go_wp2_with fail
                go_meet
                case rel => exact ⟨by rw [epv], by rw [eht], by rw [e2]; exact HJ2⟩
            case rest =>
              obtain ⟨rfl, rfl, HJ3⟩ := hcut
              clear c0 c1
              obtain ⟨s1, B1, hc1, s2, B2, hpv, s3, B3⟩ := HF.out
              have HB3 := Lib.hid B3
              clear B1 B2 B3
              have c0 := HJ3.out.c0
              have c1 := HJ3.out.c1
              go_upto_region 16 with fail
              go_cut [12, 68] from 19 (fun s12 s68 wx => s12 = .int .i64 (hintCode (rd lt dk a' b' lim wb wp).hint) ∧ s68 = .bool (wb && wp && decide ((rd lt dk a' b' lim wb wp).hint = .increasing)) ∧ Hid (SIn g lb sf sb r R w (rd lt dk a' b' lim wb wp).d2 wx))
              case first =>
                cases wb <;> cases wp <;> cases hh3 : (rd lt dk a' b' lim _ _).hint <;>
                  (have hcode3 := congrArg hintCode hh3
                   simp only [hintCode] at hcode3
                   go_wp2_with fail
                   go_meet
                   exact ⟨by simp [hh3, hintCode], by simp [hh3, hintCode], HJ3⟩)
              case rest =>
                clear c0 c1
                clear HJ3
                obtain ⟨rfl, rfl, HJ3⟩ := hcut
                have c0 := HJ3.out.c0
                have c1 := HJ3.out.c1
                go_upto_if 68 with fail
                go_cut [] from 19 (fun wx => (rd lt dk a' b' lim wb wp).pi.2 = false ∧ Hid (SIn g lb sf sb r R w (rd lt dk a' b' lim wb wp).pi.1 wx))
                case first =>
                  cases h68 : (wb && wp && decide ((rd lt dk a' b' lim wb wp).hint = .increasing))
                  · have epi := rd_pi_no h68
                    go_wp2_with fail
                    go_meet
                    case rel => exact ⟨by rw [epi], by rw [epi]; exact HJ3⟩
                  · have epi := rd_pi_yes h68
                    have hc19 := partial_any HE.out (rd lt dk a' b' lim wb wp).d2 _ HJ3.out.row a' b' (by omega) hb'
                    rw [← epi] at hc19
                    have HC19 := Lib.hid hc19
                    clear hc19
                    go_wp2_with (go_at_fn 149; refine HC19.out.mono ?_; rintro e w4 ⟨rfl, h1, h2⟩; have HJ4 := Lib.hid (HJ3.out.swapped hr h1 h2); clear h1 h2)
                    all_goals first
                      | (have hp2 : (rd lt dk a' b' lim wb wp).pi.2 = false := by rw [epi]; assumption
                         go_meet
                         exact ⟨hp2, HJ4⟩)
                      | (have hp2 : (rd lt dk a' b' lim wb wp).pi.2 = true := by rw [epi]; assumption
                         (try simp only [Exit.inBlock, Exit.then]); refine bodyPost_ret (results_none rfl _ _ _) rfl ?_
                         refine ⟨rfl, ?_, HJ4.out.only⟩
                         rw [← A.out, pdq_done h12 hl0 hp2]
                         exact HJ4.out.row)
                case rest =>
                  clear c0 c1
                  clear HJ3
                  obtain ⟨hp2, HJ5⟩ := hcut
                  have c0 := HJ5.out.c0
                  have c1 := HJ5.out.c1
                  go_upto_region 18 with fail
                  go_cut [83] from 19 (fun s83 wx => s83 = .bool (decide (a' > 0) && !lt (rd lt dk a' b' lim wb wp).pi.1[a' - 1]! (rd lt dk a' b' lim wb wp).pi.1[(rd lt dk a' b' lim wb wp).pivot]!) ∧ Hid (SIn g lb sf sb r R w (rd lt dk a' b' lim wb wp).pi.1 wx))
                  case first =>
                    rcases Nat.eq_zero_or_pos a' with ha0 | ha0
                    · have ha0z : decide ((a' : Int) > 0) = false := decide_eq_false (by omega)
                      go_wp2_with fail
                      go_meet
                      case rel => exact ⟨by simp [ha0], HJ5⟩
                    · have ha0z : (a' : Int) > 0 := by omega
                      have c0q : ∀ q, (World.drewN _ q).cell? ⟨w.heap.size, 0, none⟩ = some (.func (.func g) #[] lb) := fun q => (HJ5.out.drawn HE.out q).c0
                      cases hlv : lt (rd lt dk a' b' lim wb wp).pi.1[a' - 1]! (rd lt dk a' b' lim wb wp).pi.1[(rd lt dk a' b' lim wb wp).pivot]! <;>
                        (have hl := HL.out (rd lt dk a' b' lim wb wp).pi.1 _ (a' - 1) (rd lt dk a' b' lim wb wp).pivot _ HJ5.out (by omega) (by omega) hlv
                         rw [show ((a' - 1 : Nat) : Int) = (a' : Int) - 1 by omega] at hl
                         have HL1 := Lib.hid hl
                         clear hl
                         go_wp2_with (go_at_fn g; refine HL1.out.mono ?_; rintro e w' ⟨rfl, h⟩; have HJ6 := Lib.hid h; clear h)
                         go_meet
                         exact ⟨by simp [ha0, hlv], HJ6⟩)
                  case rest =>
                    clear c0 c1
                    clear HJ5
                    obtain ⟨rfl, HJ6⟩ := hcut
                    have c0 := HJ6.out.c0
                    have c1 := HJ6.out.c1
                    cases h87 : (decide (a' > 0) && !lt (rd lt dk a' b' lim wb wp).pi.1[a' - 1]! (rd lt dk a' b' lim wb wp).pi.1[(rd lt dk a' b' lim wb wp).pivot]!)
                    · obtain ⟨mid, ap, d4, hx⟩ : ∃ mid ap d4, Sort.partition lt (rd lt dk a' b' lim wb wp).pi.1 a' b' (rd lt dk a' b' lim wb wp).pivot = (mid, ap, d4) := ⟨(Sort.partition lt (rd lt dk a' b' lim wb wp).pi.1 a' b' (rd lt dk a' b' lim wb wp).pivot).1, (Sort.partition lt (rd lt dk a' b' lim wb wp).pi.1 a' b' (rd lt dk a' b' lim wb wp).pivot).2.1, (Sort.partition lt (rd lt dk a' b' lim wb wp).pi.1 a' b' (rd lt dk a' b' lim wb wp).pivot).2.2, rfl⟩
                      obtain ⟨r1, r2, r3, r4, r5, r6, r7⟩ := round_part hO (partition_holds lt) hpv.1 hpv.2 (show b' ≤ (rd lt dk a' b' lim wb wp).pi.1.size by omega) HB3.out hx
                      have hc22 := part_any HE.out (rd lt dk a' b' lim wb wp).pi.1 _ HJ6.out.row a' b' (rd lt dk a' b' lim wb wp).pivot hpv.1 hpv.2 hb'
                      rw [hx] at hc22
                      have HC22 := Lib.hid hc22
                      have X : Hid (Sort.partition lt (rd lt dk a' b' lim wb wp).pi.1 a' b' (rd lt dk a' b' lim wb wp).pivot = (mid, ap, d4)) := hx
                      have HR4 := Lib.hid r4
                      have HR5 := Lib.hid r5
                      have HR6 := Lib.hid r6
                      have HR7 := Lib.hid r7
                      clear hx hc22 r4 r5 r6 r7
                      go_upto_if 109 with (go_at_fn 151; refine HC22.out.mono ?_; rintro e w7 ⟨rfl, h1, h2⟩; have HJ7 := Lib.hid (HJ6.out.swapped hr h1 h2); clear h1 h2)
                      have hx := X.out
                      have hs4 : d4.size = n := HE.out.size _ _ HJ7.out.row
                      clear c0 c1
                      have c0 := HJ7.out.c0
                      have c1 := HJ7.out.c1
                      by_cases h4 : mid - a' < b' - mid
                      · have h4z : (mid : Int) - (a' : Int) < (b' : Int) - (mid : Int) := by omega
                        have hih := Lib.hid (IH.out a' mid (rd lt dk a' b' lim wb wp).lim d4 _ (by omega) HJ7.out.row (by omega) (by omega) (Nat.lt_of_le_of_lt (Nat.le_trans rd_lim_le hlim) hlimit) HR4.out)
                        have pS := Lib.hid (pdq_sorts lt hO d4 a' mid (rd lt dk a' b' lim wb wp).lim true true (by omega) (by omega) HR4.out)
                        have X2 := Lib.hid hx
                        clear hx
                        go_wp2_with (go_at_fn 122; refine hih.out.mono ?_; rintro e w8 ⟨rfl, h1, h2⟩; have HJ8 := Lib.hid (HJ7.out.swapped hr h1 h2); clear h1 h2)
                        go_roundg (b' - (mid + 1))
                        case measure => omega
                        case rel =>
                          obtain ⟨pL, sL⟩ := pS.out
                          refine ⟨mid + 1, b', (rd lt dk a' b' lim wb wp).lim, decide (mid - a' ≥ (b' - a') / 8), ap, pdq lt d4 a' mid (rd lt dk a' b' lim wb wp).lim true true, by simp, rfl, rfl, ?_, rfl, by omega, by omega, Nat.le_refl _, by omega, Nat.le_trans rd_lim_le hlim, Lib.hid (HR6.out _ pL sL).1, HJ8, ?_⟩
                          · exact congrArg Value.bool (eighth (by omega) (by omega))
                          · have hx := X2.out
                            show _ = _
                            rw [← A.out, pdq_left h12 hl0 hp2 h87 (by rw [hx]; exact ⟨r1, r2⟩) (by rw [hx]; exact h4), hx]
                      · have h4z : ¬ ((mid : Int) - (a' : Int) < (b' : Int) - (mid : Int)) := by omega
                        have hih := IH.out (mid + 1) b' (rd lt dk a' b' lim wb wp).lim d4 _ (by omega) HJ7.out.row (by omega) (by omega) (Nat.lt_of_le_of_lt (Nat.le_trans rd_lim_le hlim) hlimit) HR5.out
                        rw [show ((mid + 1 : Nat) : Int) = (mid : Int) + 1 by omega] at hih
                        have HIH := Lib.hid hih
                        have pS := Lib.hid (pdq_sorts lt hO d4 (mid + 1) b' (rd lt dk a' b' lim wb wp).lim true true (by omega) (by omega) HR5.out)
                        have X2 := Lib.hid hx
                        clear hx hih
                        go_wp2_with (go_at_fn 122; refine HIH.out.mono ?_; rintro e w8 ⟨rfl, h1, h2⟩; have HJ8 := Lib.hid (HJ7.out.swapped hr h1 h2); clear h1 h2)
                        go_roundg (mid - a')
                        case measure => omega
                        case rel =>
                          obtain ⟨pL, sL⟩ := pS.out
                          refine ⟨a', mid, (rd lt dk a' b' lim wb wp).lim, decide (b' - mid ≥ (b' - a') / 8), ap, pdq lt d4 (mid + 1) b' (rd lt dk a' b' lim wb wp).lim true true, rfl, rfl, rfl, ?_, rfl, by omega, by omega, Nat.le_refl _, by omega, Nat.le_trans rd_lim_le hlim, Lib.hid (HR7.out _ pL sL).1, HJ8, ?_⟩
                          · exact congrArg Value.bool (eighth (by omega) (by omega))
                          · have hx := X2.out
                            show _ = _
                            rw [← A.out, pdq_right h12 hl0 hp2 h87 (by rw [hx]; exact ⟨r1, r2⟩) (by rw [hx]; exact h4), hx]
                    · have h87' := h87
                      simp only [Bool.and_eq_true, decide_eq_true_eq, Bool.not_eq_true'] at h87'
                      obtain ⟨mid, d4, hx⟩ : ∃ mid d4, Sort.partitionEqual lt (rd lt dk a' b' lim wb wp).pi.1 a' b' (rd lt dk a' b' lim wb wp).pivot = (mid, d4) := ⟨(Sort.partitionEqual lt (rd lt dk a' b' lim wb wp).pi.1 a' b' (rd lt dk a' b' lim wb wp).pivot).1, (Sort.partitionEqual lt (rd lt dk a' b' lim wb wp).pi.1 a' b' (rd lt dk a' b' lim wb wp).pivot).2, rfl⟩
                      obtain ⟨r1, r2, r3, r4, _⟩ := round_eq hO (partitionEqual_holds lt) h87'.1 hpv.1 hpv.2 (show b' ≤ (rd lt dk a' b' lim wb wp).pi.1.size by omega) HB3.out h87'.2 hx
                      have hc21 := partEq_any HE.out (rd lt dk a' b' lim wb wp).pi.1 _ HJ6.out.row a' b' (rd lt dk a' b' lim wb wp).pivot hpv.1 hpv.2 hb'
                      rw [hx] at hc21
                      have HC21 := Lib.hid hc21
                      have X : Hid (Sort.partitionEqual lt (rd lt dk a' b' lim wb wp).pi.1 a' b' (rd lt dk a' b' lim wb wp).pivot = (mid, d4)) := hx
                      have HR4 := Lib.hid r4
                      clear hx hc21 r4
                      go_wp2_with (go_at_fn 150; refine HC21.out.mono ?_; rintro e w7 ⟨rfl, h1, h2⟩; have HJ7 := Lib.hid (HJ6.out.swapped hr h1 h2); clear h1 h2)
                      go_roundg (b' - mid)
                      case measure => omega
                      case rel =>
                        have hx := X.out
                        refine ⟨mid, b', (rd lt dk a' b' lim wb wp).lim, wb, wp, d4, rfl, rfl, rfl, rfl, rfl, r2, hb', Nat.le_refl _, by omega, Nat.le_trans rd_lim_le hlim, HR4, HJ7, ?_⟩
                        show _ = _
                        rw [← A.out, pdq_eq h12 hl0 hp2 h87 (by rw [hx]; exact ⟨r1, r2⟩), hx]
end
end Go.Proofs.Ytnpacjdgbmldlaa
