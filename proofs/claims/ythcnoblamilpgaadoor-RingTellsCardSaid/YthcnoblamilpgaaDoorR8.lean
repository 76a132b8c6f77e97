/- sync.Once, done by one goroutine: its parts; a ring; its points, made once. -/
import Derived.Test.YthcnoblamilpgaaDoorR7
import Derived.Tactics
import Derived.Tactics2
import Derived.Defers
import Derived.Laws.Pointers
import Derived.Laws.LoneSync
import Derived.RegionTactic
import Derived.RegionCalls
set_option maxRecDepth 100000
set_option linter.unusedVariables false
set_option linter.unusedSimpArgs false
namespace Go.Proofs.YthcnoblamilpgaaDoor
open Go.RowKit


theorem disable (w : World) : (callFunc 84 #[]).run Tryd.prog w = .ok (.value (.tuple #[])) w := run_call_mark0 Tryd.func84 (by kernel_rfl) (by kernel_rfl) (by kernel_rfl) .disable (by kernel_rfl) w
theorem enable (w : World) : (callFunc 86 #[]).run Tryd.prog w = .ok (.value (.tuple #[])) w := run_call_mark0 Tryd.func86 (by kernel_rfl) (by kernel_rfl) (by kernel_rfl) .enable (by kernel_rfl) w
theorem acquire (a : Addr) (w : World) : (callFunc 87 #[.pointer (some a)]).run Tryd.prog w = .ok (.value (.tuple #[])) w := run_call_marked Tryd.func87 (by kernel_rfl) (by kernel_rfl) (by kernel_rfl) .acquire (by kernel_rfl) a w
theorem releaseMerge (a : Addr) (w : World) : (callFunc 89 #[.pointer (some a)]).run Tryd.prog w = .ok (.value (.tuple #[])) w := run_call_marked Tryd.func89 (by kernel_rfl) (by kernel_rfl) (by kernel_rfl) .releaseMerge (by kernel_rfl) a w

/-- '(*sync/atomic.Bool).Store(true)', ENTERED AS A DEFERRED CALL: the cell holds 1. -/
theorem store_deferred (a : Addr) (x : Value) (u : FrameMode) (w : World) (hc : w.cell? a = some x) (hz : w.frozen? a = false) :
    CallsD Tryd.prog 68 #[.pointer (some a), .bool true] u w fun e u' w' => u' = u ∧ (e = .returned (.tuple #[]) ∧ w' = w.drew.setCell a (.int .u32 1)) := by
  have hc' : w.drew.cell? a = some x := by go_simp
  have hz' : w.drew.frozen? a = false := by go_simp
  have hst := run_call_store (P := Tryd.prog) Tryd.func77 (by kernel_rfl) (by kernel_rfl) (by kernel_rfl) (by kernel_rfl) (k := .u32) (y := 1) hc' hz'
  go_enter_d Tryd.func68, Tryd.ntmps68
  go_wp2
  go_region_calls
  all_goals (go_end0; exact ⟨rfl, rfl⟩)

/-- '(*sync.Mutex).Unlock', ENTERED AS A DEFERRED CALL, the lock held and nobody waiting (state 1): state 0. -/
theorem unlock_deferred (a : Addr) (u : FrameMode) (w : World) (hc : w.cell? a = some (.int .i32 1)) (hz : w.frozen? a = false) :
    CallsD Tryd.prog 67 #[.pointer (some a)] u w fun e u' w' => u' = u ∧ (e = .returned (.tuple #[]) ∧ w' = w.setCell a (.int .i32 0)) := by
  have hd := disable
  have he := enable
  have hr := releaseMerge
  have hadd := run_call_add (P := Tryd.prog) Tryd.func90 (by kernel_rfl) (by kernel_rfl) (by kernel_rfl) .i32 (by kernel_rfl) (y := -1) (s := 0) hc hz (by simp [go_sem]; rfl)
  have hcv := run_convert_to_unsafe (P := Tryd.prog) (src := 125) (dst := 129) Tryd.underlying125 Tryd.underlying129 (by kernel_rfl) hc
  go_enter_d Tryd.func67, Tryd.ntmps67
  go_wp2
  go_end0
  exact ⟨rfl, rfl⟩

/-- '(*sync.Mutex).Lock', the lock free (state 0): state 1. A CONTRACT, to be met at the call ('go_at_call 9'). -/
theorem lock_free (a : Addr) (w : World) (hc : w.cell? a = some (.int .i32 0)) (hz : w.frozen? a = false) :
    Calls Tryd.prog 66 #[.pointer (some a)] w fun e w' => e = .returned (.tuple #[]) ∧ w' = w.setCell a (.int .i32 1) := by
  have hd := disable
  have he := enable
  have ha := acquire
  have hcas := run_call_cas_hit (P := Tryd.prog) Tryd.func85 (by kernel_rfl) (by kernel_rfl) (by kernel_rfl) .i32 (by kernel_rfl) (y := 1) hc hz
  have hc' : (w.setCell a (.int .i32 1)).cell? a = some (.int .i32 1) := World.cell?_setCell_same w a _ hc
  have hcv := run_convert_to_unsafe (P := Tryd.prog) (src := 125) (dst := 129) Tryd.underlying125 Tryd.underlying129 (by kernel_rfl) hc'
  go_enter Tryd.func66, Tryd.ntmps66
  go_wp2
  first | go_end0 | (simp only [Exit.inBlock, Exit.then]; refine bodyPost_ret (results_none rfl _ _ _) rfl ?_) | refine bodyPost_ret (results_none rfl _ _ _) rfl ?_
  exact ⟨rfl, rfl⟩


/-- The cells of a ring. -/
def rc (N V : Nat) (R : Nat) (dn st : Int) (pv : Value) : Array Value := #[.int .i64 ((N : Nat) : Int), .int .i64 ((V : Nat) : Int), .int .i64 ((R : Nat) : Int), .int .u32 dn, .int .i32 st, .int .u32 0, pv]
def Rb (x : World) (g N V R : Nat) (dn st : Int) (pv : Value) : Prop := x.heap[g]? = some (.cells (rc N V R dn st pv) 69 (0, 0))
theorem set_heap {x : World} {g o : Nat} {cs : Array Value} {t : TypeId} {fr : Nat × Nat} (h : x.heap[g]? = some (.cells cs t fr)) (v : Value) : (x.setCell ⟨g, o, none⟩ v).heap[g]? = some (.cells (cs.setIfInBounds o v) t fr) := by
  rw [Go.Sort.setCell_eq]
  unfold Go.Sort.mapBlock
  simp only [Array.getElem?_modify, if_pos]
  rw [h]
  rfl
theorem Rb.set6 {x : World} {g N V R : Nat} {dn st : Int} {pv : Value} (h : Rb x g N V R dn st pv) (v : Value) : Rb (x.setCell ⟨g, 6, none⟩ v) g N V R dn st v := set_heap h v
theorem Rb.set3 {x : World} {g N V R : Nat} {dn st : Int} {pv : Value} (h : Rb x g N V R dn st pv) (v : Int) : Rb (x.setCell ⟨g, 3, none⟩ (.int .u32 v)) g N V R v st pv := set_heap h _
theorem Rb.set4 {x : World} {g N V R : Nat} {dn st : Int} {pv : Value} (h : Rb x g N V R dn st pv) (v : Int) : Rb (x.setCell ⟨g, 4, none⟩ (.int .i32 v)) g N V R dn v pv := set_heap h _
theorem Rb.lt {x : World} {g N V R : Nat} {dn st : Int} {pv : Value} (h : Rb x g N V R dn st pv) : g < x.heap.size := (Array.getElem?_eq_some_iff.1 h).1
theorem Rb.frozen {x : World} {g N V R : Nat} {dn st : Int} {pv : Value} (h : Rb x g N V R dn st pv) (o : Nat) : x.frozen? ⟨g, o, none⟩ = false := by
  have h := h
  unfold Rb at h
  simp [World.frozen?, h]
theorem Rb.cell {x : World} {g N V R : Nat} {dn st : Int} {pv : Value} (h : Rb x g N V R dn st pv) (o : Nat) : x.cell? ⟨g, o, none⟩ = (rc N V R dn st pv)[o]? := cell_of_row _ _ _ _ _ _ h
theorem PRow.only {w w' : World} {g : Nat} {ok : Nat → Prop} {A : Option Addr} {ls : List Pt} (h : PRow w ok A ls) (hg : w.grownBy w' (some g)) {cs : Array Value} {fr : Nat × Nat} (ht : w.heap[g]? = some (.cells cs 69 fr)) : PRow w' ok A ls :=
  h.keep fun b _ hl ⟨cs', fr', hb⟩ => hg.block b hl (fun e => by
    injection e with e
    subst e
    rw [hb] at ht
    injection ht with ht
    injection ht with _ ht
    cases ht)
/-- What the closure finds. -/
structure AD (g N V R : Nat) (st : Int) (pl : Addr) (x : World) : Prop where
  rb : ∃ pv, Rb x g N V R 0 st pv
  pl : x.cell? pl = some (.pointer (some ⟨g, 0, none⟩))
  tabs : Tabs x
def AR (g N V R : Nat) (st : Int) (j : Nat) (x y : World) : Prop := x.grownBy y (some g) ∧ (j ≠ 8 → y.heap[g]? = x.heap[g]?) ∧ (∀ pv, Rb x g N V R 0 st pv → ∃ pv', Rb y g N V R 0 st pv') ∧ (∀ cs fr, x.heap[g]? = some (.cells cs 69 fr) → ∃ cs', y.heap[g]? = some (.cells cs' 69 fr))
theorem AR.below {g N V R : Nat} {st : Int} {j : Nat} {x y : World} (hb : Below x.heap.size x y) (hg : g < x.heap.size) : AR g N V R st j x y :=
  ⟨⟨hb.os, hb.tape, hb.output, hb.size, fun k hk _ => hb.block k hk⟩, fun _ => hb.block g hg, fun pv h => ⟨pv, (hb.block g hg).trans h⟩, fun cs fr h => ⟨cs, (hb.block g hg).trans h⟩⟩
theorem AD.then_ {g N V R : Nat} {st : Int} {pl : Addr} {j : Nat} {x y : World} (h : AD g N V R st pl x) (k : AR g N V R st j x y) (hpl : pl.block ≠ g) (hg : 2 ≤ g) : AD g N V R st pl y := by
  obtain ⟨pv, hp⟩ := h.rb
  refine ⟨k.2.2.1 pv hp, k.1.cell h.pl (fun e => hpl (by injection e)), h.tabs.only k.1 hg⟩
def AP (g N V : Nat) (B : Nat) (v : Value) (x : World) : Prop := ∃ A c, v = .slice A (Ring.pts ptAt V N).length c ∧ (Ring.pts ptAt V N).length ≤ c ∧ PRow x (fun b => B ≤ b) A (Ring.pts ptAt V N) ∧ ∃ cs fr, x.heap[g]? = some (.cells cs 69 fr)
theorem AP.then_ {g N V R : Nat} {st : Int} {B : Nat} {v : Value} {j : Nat} {x y : World} (h : AP g N V B v x) (k : AR g N V R st j x y) : AP g N V B v y := by
  obtain ⟨A, c, e, hl, hp, cs, fr, ht⟩ := h
  obtain ⟨cs', ht'⟩ := k.2.2.2 cs fr ht
  exact ⟨A, c, e, hl, hp.only k.1 ht, _, _, ht'⟩
def AF (g N V R : Nat) (st : Int) (B : Nat) (x : World) : Prop := ∃ A c, Rb x g N V R 0 st (.slice A (Ring.pts ptAt V N).length c) ∧ (Ring.pts ptAt V N).length ≤ c ∧ PRow x (fun b => B ≤ b) A (Ring.pts ptAt V N)
theorem AF.then_ {g N V R : Nat} {st : Int} {B : Nat} {j : Nat} {x y : World} (h : AF g N V R st B x) (k : AR g N V R st j x y) (hj : j ≠ 8) : AF g N V R st B y := by
  obtain ⟨A, c, hr, hl, hp⟩ := h
  exact ⟨A, c, (k.2.1 hj).trans hr, hl, hp.only k.1 hr⟩
end Go.Proofs.YthcnoblamilpgaaDoor
