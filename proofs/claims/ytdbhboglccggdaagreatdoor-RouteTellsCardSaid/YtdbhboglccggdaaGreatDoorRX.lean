/- sync.Once, done by one goroutine: its parts; a ring; its points, made once. The closure that makes a ring's points. sync.Once's slow road; Do; a ring's points. -/
import Derived.Test.YtdbhboglccggdaaGreatDoorR7
import Derived.Tactics
import Derived.Tactics2
import Derived.Defers
import Derived.Laws.Pointers
import Derived.Laws.LoneSync
import Derived.RegionTactic
import Derived.RegionCalls
set_option maxRecDepth 100000
set_option linter.unusedVariables false
set_option linter.unusedSimpArgs false
namespace Go.Proofs.YtdbhboglccggdaaGreatDoor
open Go.RowKit


theorem disable (w : World) : (callFunc 115 #[]).run Tryz.prog w = .ok (.value (.tuple #[])) w := run_call_mark0 Tryz.func115 (by kernel_rfl) (by kernel_rfl) (by kernel_rfl) .disable (by kernel_rfl) w
theorem enable (w : World) : (callFunc 117 #[]).run Tryz.prog w = .ok (.value (.tuple #[])) w := run_call_mark0 Tryz.func117 (by kernel_rfl) (by kernel_rfl) (by kernel_rfl) .enable (by kernel_rfl) w
theorem acquire (a : Addr) (w : World) : (callFunc 118 #[.pointer (some a)]).run Tryz.prog w = .ok (.value (.tuple #[])) w := run_call_marked Tryz.func118 (by kernel_rfl) (by kernel_rfl) (by kernel_rfl) .acquire (by kernel_rfl) a w
theorem releaseMerge (a : Addr) (w : World) : (callFunc 120 #[.pointer (some a)]).run Tryz.prog w = .ok (.value (.tuple #[])) w := run_call_marked Tryz.func120 (by kernel_rfl) (by kernel_rfl) (by kernel_rfl) .releaseMerge (by kernel_rfl) a w

/-- '(*sync/atomic.Bool).Store(true)', ENTERED AS A DEFERRED CALL: the cell holds 1. -/
theorem store_deferred (a : Addr) (x : Value) (u : FrameMode) (w : World) (hc : w.cell? a = some x) (hz : w.frozen? a = false) :
    CallsD Tryz.prog 98 #[.pointer (some a), .bool true] u w fun e u' w' => u' = u ∧ (e = .returned (.tuple #[]) ∧ w' = w.drew.setCell a (.int .u32 1)) := by
  have hc' : w.drew.cell? a = some x := by go_simp
  have hz' : w.drew.frozen? a = false := by go_simp
  have hst := run_call_store (P := Tryz.prog) Tryz.func108 (by kernel_rfl) (by kernel_rfl) (by kernel_rfl) (by kernel_rfl) (k := .u32) (y := 1) hc' hz'
  go_enter_d Tryz.func98, Tryz.ntmps98
  go_wp2
  go_region_calls
  all_goals (go_end0; exact ⟨rfl, rfl⟩)

/-- '(*sync.Mutex).Unlock', ENTERED AS A DEFERRED CALL, the lock held and nobody waiting (state 1): state 0. -/
theorem unlock_deferred (a : Addr) (u : FrameMode) (w : World) (hc : w.cell? a = some (.int .i32 1)) (hz : w.frozen? a = false) :
    CallsD Tryz.prog 97 #[.pointer (some a)] u w fun e u' w' => u' = u ∧ (e = .returned (.tuple #[]) ∧ w' = w.setCell a (.int .i32 0)) := by
  have hd := disable
  have he := enable
  have hr := releaseMerge
  have hadd := run_call_add (P := Tryz.prog) Tryz.func121 (by kernel_rfl) (by kernel_rfl) (by kernel_rfl) .i32 (by kernel_rfl) (y := -1) (s := 0) hc hz (by simp [go_sem]; rfl)
  have hcv := run_convert_to_unsafe (P := Tryz.prog) (src := 157) (dst := 161) Tryz.underlying157 Tryz.underlying161 (by kernel_rfl) hc
  go_enter_d Tryz.func97, Tryz.ntmps97
  go_wp2
  go_end0
  exact ⟨rfl, rfl⟩

/-- '(*sync.Mutex).Lock', the lock free (state 0): state 1. A CONTRACT, to be met at the call ('go_at_call 46'). -/
theorem lock_free (a : Addr) (w : World) (hc : w.cell? a = some (.int .i32 0)) (hz : w.frozen? a = false) :
    Calls Tryz.prog 96 #[.pointer (some a)] w fun e w' => e = .returned (.tuple #[]) ∧ w' = w.setCell a (.int .i32 1) := by
  have hd := disable
  have he := enable
  have ha := acquire
  have hcas := run_call_cas_hit (P := Tryz.prog) Tryz.func116 (by kernel_rfl) (by kernel_rfl) (by kernel_rfl) .i32 (by kernel_rfl) (y := 1) hc hz
  have hc' : (w.setCell a (.int .i32 1)).cell? a = some (.int .i32 1) := World.cell?_setCell_same w a _ hc
  have hcv := run_convert_to_unsafe (P := Tryz.prog) (src := 157) (dst := 161) Tryz.underlying157 Tryz.underlying161 (by kernel_rfl) hc'
  go_enter Tryz.func96, Tryz.ntmps96
  go_wp2
  first | go_end0 | (simp only [Exit.inBlock, Exit.then]; refine bodyPost_ret (results_none rfl _ _ _) rfl ?_) | refine bodyPost_ret (results_none rfl _ _ _) rfl ?_
  exact ⟨rfl, rfl⟩


/-- The cells of a ring. -/
def rc (N V : Nat) (R : Nat) (dn st : Int) (pv : Value) : Array Value := #[.int .i64 ((N : Nat) : Int), .int .i64 ((V : Nat) : Int), .int .i64 ((R : Nat) : Int), .int .u32 dn, .int .i32 st, .int .u32 0, pv]
def Rb (x : World) (g N V R : Nat) (dn st : Int) (pv : Value) : Prop := x.heap[g]? = some (.cells (rc N V R dn st pv) 71 (0, 0))
theorem set_heap {x : World} {g o : Nat} {cs : Array Value} {t : TypeId} {fr : Nat × Nat} (h : x.heap[g]? = some (.cells cs t fr)) (v : Value) : (x.setCell ⟨g, o, none⟩ v).heap[g]? = some (.cells (cs.setIfInBounds o v) t fr) := by
  rw [Go.Sort.setCell_eq]
  unfold Go.Sort.mapBlock
  simp only [Array.getElem?_modify, if_pos]
  rw [h]
  rfl
theorem Rb.set6 {x : World} {g N V R : Nat} {dn st : Int} {pv : Value} (h : Rb x g N V R dn st pv) (v : Value) : Rb (x.setCell ⟨g, 6, none⟩ v) g N V R dn st v := set_heap h v
theorem Rb.set3 {x : World} {g N V R : Nat} {dn st : Int} {pv : Value} (h : Rb x g N V R dn st pv) (v : Int) : Rb (x.setCell ⟨g, 3, none⟩ (.int .u32 v)) g N V R v st pv := set_heap h _
theorem Rb.set4 {x : World} {g N V R : Nat} {dn st : Int} {pv : Value} (h : Rb x g N V R dn st pv) (v : Int) : Rb (x.setCell ⟨g, 4, none⟩ (.int .i32 v)) g N V R dn v pv := set_heap h _
theorem Rb.lt {x : World} {g N V R : Nat} {dn st : Int} {pv : Value} (h : Rb x g N V R dn st pv) : g < x.heap.size := (Array.getElem?_eq_some_iff.1 h).1
theorem Rb.frozen {x : World} {g N V R : Nat} {dn st : Int} {pv : Value} (h : Rb x g N V R dn st pv) (o : Nat) : x.frozen? ⟨g, o, none⟩ = false := by
  have h := h
  unfold Rb at h
  simp [World.frozen?, h]
theorem Rb.cell {x : World} {g N V R : Nat} {dn st : Int} {pv : Value} (h : Rb x g N V R dn st pv) (o : Nat) : x.cell? ⟨g, o, none⟩ = (rc N V R dn st pv)[o]? := cell_of_row _ _ _ _ _ _ h
theorem PRow.only {w w' : World} {g : Nat} {ok : Nat → Prop} {A : Option Addr} {ls : List Pt} (h : PRow w ok A ls) (hg : w.grownBy w' (some g)) {cs : Array Value} {fr : Nat × Nat} (ht : w.heap[g]? = some (.cells cs 71 fr)) : PRow w' ok A ls :=
  h.keep fun b _ hl ⟨cs', fr', hb⟩ => hg.block b hl (fun e => by
    injection e with e
    subst e
    rw [hb] at ht
    injection ht with ht
    injection ht with _ ht
    cases ht)
/-- What the closure finds. -/
structure AD (g N V R : Nat) (st : Int) (pl : Addr) (x : World) : Prop where
  rb : ∃ pv, Rb x g N V R 0 st pv
  pl : x.cell? pl = some (.pointer (some ⟨g, 0, none⟩))
  tabs : Tabs x
def AR (g N V R : Nat) (st : Int) (j : Nat) (x y : World) : Prop := x.grownBy y (some g) ∧ (j ≠ 8 → y.heap[g]? = x.heap[g]?) ∧ (∀ pv, Rb x g N V R 0 st pv → ∃ pv', Rb y g N V R 0 st pv') ∧ (∀ cs fr, x.heap[g]? = some (.cells cs 71 fr) → ∃ cs', y.heap[g]? = some (.cells cs' 71 fr))
theorem AR.below {g N V R : Nat} {st : Int} {j : Nat} {x y : World} (hb : Below x.heap.size x y) (hg : g < x.heap.size) : AR g N V R st j x y :=
  ⟨⟨hb.os, hb.tape, hb.output, hb.size, fun k hk _ => hb.block k hk⟩, fun _ => hb.block g hg, fun pv h => ⟨pv, (hb.block g hg).trans h⟩, fun cs fr h => ⟨cs, (hb.block g hg).trans h⟩⟩
theorem AD.then_ {g N V R : Nat} {st : Int} {pl : Addr} {j : Nat} {x y : World} (h : AD g N V R st pl x) (k : AR g N V R st j x y) (hpl : pl.block ≠ g) (hg : 2 ≤ g) : AD g N V R st pl y := by
  obtain ⟨pv, hp⟩ := h.rb
  refine ⟨k.2.2.1 pv hp, k.1.cell h.pl (fun e => hpl (by injection e)), h.tabs.only k.1 hg⟩
def AP (g N V : Nat) (B : Nat) (v : Value) (x : World) : Prop := ∃ A c, v = .slice A (Ring.pts ptAt V N).length c ∧ (Ring.pts ptAt V N).length ≤ c ∧ PRow x (fun b => B ≤ b) A (Ring.pts ptAt V N) ∧ ∃ cs fr, x.heap[g]? = some (.cells cs 71 fr)
theorem AP.then_ {g N V R : Nat} {st : Int} {B : Nat} {v : Value} {j : Nat} {x y : World} (h : AP g N V B v x) (k : AR g N V R st j x y) : AP g N V B v y := by
  obtain ⟨A, c, e, hl, hp, cs, fr, ht⟩ := h
  obtain ⟨cs', ht'⟩ := k.2.2.2 cs fr ht
  exact ⟨A, c, e, hl, hp.only k.1 ht, _, _, ht'⟩
def AF (g N V R : Nat) (st : Int) (B : Nat) (x : World) : Prop := ∃ A c, Rb x g N V R 0 st (.slice A (Ring.pts ptAt V N).length c) ∧ (Ring.pts ptAt V N).length ≤ c ∧ PRow x (fun b => B ≤ b) A (Ring.pts ptAt V N)
theorem AF.then_ {g N V R : Nat} {st : Int} {B : Nat} {j : Nat} {x y : World} (h : AF g N V R st B x) (k : AR g N V R st j x y) (hj : j ≠ 8) : AF g N V R st B y := by
  obtain ⟨A, c, hr, hl, hp⟩ := h
  exact ⟨A, c, (k.2.1 hj).trans hr, hl, hp.only k.1 hr⟩
end Go.Proofs.YtdbhboglccggdaaGreatDoor

set_option maxRecDepth 100000
set_option linter.unusedVariables false
set_option linter.unusedSimpArgs false
namespace Go.Proofs.YtdbhboglccggdaaGreatDoor
open Go.RowKit
theorem size38 : (Tryz.prog.info? 23).map (·.size) = some 3 := by kernel_rfl
set_option maxHeartbeats 4000000 in
theorem made1_any (g N V R : Nat) (st : Int) (pl : Addr) (w : World) (hN : N ≤ 8) (hV : V ≤ 16) (hg2 : 2 ≤ g) (hpl : pl.block ≠ g) (h : AD g N V R st pl w) :
    Calls Tryz.prog 63 #[.pointer (some pl)] w fun e w' => e = .returned (.tuple #[]) ∧ AF g N V R st w.heap.size w' ∧ w.grownBy w' (some g) := by
  have HA := Lib.hid h
  have HG2 := Lib.hid hg2
  have HPL := Lib.hid hpl
  have HCP : Hid (∀ x, Tabs x → w.heap.size ≤ x.heap.size → g < x.heap.size → (∃ cs fr, x.heap[g]? = some (.cells cs 71 fr)) → Calls Tryz.prog 64 #[.agg #[.int .i64 ((N : Nat) : Int), .int .i64 ((V : Nat) : Int), .int .i64 ((R : Nat) : Int)]] x fun e w' => ∃ v, e = .returned v ∧ Below x.heap.size x w' ∧ AP g N V w.heap.size v w') := Lib.hid (fun x hx hs hgl ⟨cs, fr, ht⟩ => (pointsOf_any N V R hN hV x hx).mono (by
    rintro e w' ⟨A, c, rfl, hl, hp, hb⟩
    exact ⟨_, rfl, hb, A, c, rfl, hl, hp.weak (fun b hb _ => by omega), cs, fr, (hb.block g hgl).trans ht⟩))
  clear h hg2 hpl hN hV
  go_enter Tryz.func63, Tryz.ntmps63
  refine WM.wp_region_kinds (fun j x y => AR g N V R st j x y) (fun _ x => AD g N V R st pl x ∧ w.heap.size ≤ x.heap.size) (fun x => w.grownBy x (some g))
    [(0, .val (.pointer (some ⟨g, 0, none⟩)) fun _ => True), (1, .val (.pointer (some ⟨g, 0, none⟩)) fun _ => True), (4, .val (.agg #[.int .i64 ((N : Nat) : Int), .int .i64 ((V : Nat) : Int), .int .i64 ((R : Nat) : Int)]) fun _ => True), (5, .mem (AP g N V w.heap.size)), (8, .val undef (AF g N V R st w.heap.size))]
    (by kernel_rfl) (by kernel_rfl) (fun _ _ _ hb h => only_trans h hb.1) (fun _ _ _ _ _ hb h => ⟨h.1.then_ hb HPL.out HG2.out, Nat.le_trans h.2 hb.1.size⟩) ?_ (only_drew (only_refl _ _)) (fun _ => ⟨⟨HA.out.rb, HA.out.pl, HA.out.tabs.of_blocks rfl rfl HA.out.tabs.two⟩, Nat.le_refl _⟩) ?_
  · intro z hz
    simp only [List.mem_cons, List.mem_nil_iff, or_false] at hz
    rcases hz with rfl | rfl | rfl | rfl | rfl
    · exact fun _ _ _ _ _ _ => trivial
    · exact fun _ _ _ _ _ _ => trivial
    · exact fun _ _ _ _ _ _ => trivial
    · exact fun j v x y hj hb h => h.then_ hb
    · exact fun j x y hj hb h => h.then_ hb (fun e => hj e.symm)
  refine WM.mono_val rfl rfl (fun x hD hF => ?_) ?_
  · have hc := hD.1.pl
    go_simp
    exact ⟨AR.below (Below.refl _ _) (by obtain ⟨_, h⟩ := hD.1.rb; exact h.lt), rfl⟩
  apply Exists.intro
  refine ⟨by simp only [Act.put, List.setIfInBounds_toArray, List.set_cons_succ, List.set_cons_zero]; rfl, ?_⟩
  refine WM.mono_val rfl rfl (fun x hD hF => ?_) ?_
  · have hc := hD.1.pl
    go_simp
    exact ⟨AR.below (Below.refl _ _) (by obtain ⟨_, h⟩ := hD.1.rb; exact h.lt), rfl⟩
  apply Exists.intro
  refine ⟨by simp only [Act.put, List.setIfInBounds_toArray, List.set_cons_succ, List.set_cons_zero]; rfl, ?_⟩
  iterate 2
    refine WM.mono_pure rfl rfl ?_
    apply Exists.intro
    refine ⟨fun x => ?_, ?_⟩
    · go_simp
      rfl
    apply Exists.intro
    refine ⟨by simp only [Act.put, List.setIfInBounds_toArray, List.set_cons_succ, List.set_cons_zero]; rfl, ?_⟩
  refine WM.mono_val rfl rfl (fun x hD hF => ?_) ?_
  · obtain ⟨pv, hr⟩ := hD.1.rb
    have hl := run_loadVar_arr (P := Tryz.prog) x g 0 23 #[.int .i64 ((N : Nat) : Int), .int .i64 ((V : Nat) : Int), .int .i64 ((R : Nat) : Int)] _ (fun j v hj => by
      rw [Nat.zero_add, hr.cell]
      match j, hj with
      | 0, hj => exact hj
      | 1, hj => exact hj
      | 2, hj => exact hj) Tryz.underlying23 rfl size38
    rw [exec_load 23 (.tmp 4) rfl g 0 rfl hl]
    exact ⟨AR.below (Below.refl _ _) hr.lt, rfl, trivial⟩
  apply Exists.intro
  refine ⟨by simp only [Act.put, List.setIfInBounds_toArray, List.set_cons_succ, List.set_cons_zero]; rfl, ?_⟩
  refine WM.mono_mem rfl rfl (fun x hD hF => ?_) (fun v6 => ?_)
  · obtain ⟨pv, hr⟩ := hD.1.rb
    go_simp
    refine (HCP.out x hD.1.tabs hD.2 hr.lt ⟨_, _, hr⟩).mono ?_
    rintro e y ⟨v, rfl, hb, hap⟩
    exact ⟨v, rfl, AR.below hb hr.lt, hap⟩
  apply Exists.intro
  refine ⟨by simp only [Act.put, List.setIfInBounds_toArray, List.set_cons_succ, List.set_cons_zero]; rfl, ?_⟩
  iterate 2
    refine WM.mono_pure rfl rfl ?_
    apply Exists.intro
    refine ⟨fun x => ?_, ?_⟩
    · go_simp
      rfl
    apply Exists.intro
    refine ⟨by simp only [Act.put, List.setIfInBounds_toArray, List.set_cons_succ, List.set_cons_zero]; rfl, ?_⟩
  refine WM.mono_val rfl rfl (fun x hD hF => ?_) ?_
  · obtain ⟨A, c, e, hl, hp, cs, fr, ht⟩ := (hF 5 _ _ rfl rfl (by decide)).1
    subst e
    obtain ⟨pv, hr⟩ := hD.1.rb
    have hc : x.cell? ⟨g, 6, none⟩ = some pv := by rw [hr.cell]; rfl
    have hz := hr.frozen 6
    go_simp
    have hgr : x.grownBy (x.setCell ⟨g, 6, none⟩ (.slice A (Ring.pts ptAt V N).length c)) (some g) := only_setCell (only_refl _ _) (.inl rfl) _
    exact ⟨⟨hgr, fun h => absurd rfl h, fun pv' h' => ⟨_, h'.set6 _⟩, fun cs' fr' h' => ⟨_, set_heap h' _⟩⟩, rfl, A, c, hr.set6 _, hl, hp.only hgr ht⟩
  apply Exists.intro
  refine ⟨by simp only [Act.put, List.setIfInBounds_toArray, List.set_cons_succ, List.set_cons_zero]; rfl, ?_⟩
  refine WM.mono_nil fun x hE hF => ?_
  have hfin := (hF 8).1
  go_wp2
  go_end0
  exact ⟨rfl, hfin, hE⟩
end Go.Proofs.YtdbhboglccggdaaGreatDoor

set_option maxRecDepth 100000
set_option linter.unusedVariables false
set_option linter.unusedSimpArgs false
namespace Go.Proofs.YtdbhboglccggdaaGreatDoor
open Go.RowKit
/-- A ring whose points are made. -/
def Made (x : World) (g N V R : Nat) (ok : Nat → Prop) : Prop := ∃ A c, Rb x g N V R 1 0 (.slice A (Ring.pts ptAt V N).length c) ∧ (Ring.pts ptAt V N).length ≤ c ∧ PRow x ok A (Ring.pts ptAt V N)
set_option maxHeartbeats 4000000 in
theorem slow_any (g N V R : Nat) (pl : Addr) (pv : Value) (w : World) (hN : N ≤ 8) (hV : V ≤ 16) (hg2 : 2 ≤ g) (hpl : pl.block ≠ g) (h : Rb w g N V R 0 0 pv) (hp : w.cell? pl = some (.pointer (some ⟨g, 0, none⟩))) (ht : Tabs w) :
    Calls Tryz.prog 82 #[.pointer (some ⟨g, 3, none⟩), .func (.func 63) #[] #[.pointer (some pl)]] w fun e w' => e = .returned (.tuple #[]) ∧ Made w' g N V R (fun b => w.heap.size ≤ b) ∧ w.grownBy w' (some g) := by
  have h4 : w.cell? ⟨g, 4, none⟩ = some (.int .i32 0) := by rw [h.cell]; rfl
  have z4 := h.frozen 4
  have r1 := h.set4 1
  have h3 : (w.setCell ⟨g, 4, none⟩ (.int .i32 1)).cell? ⟨g, 3, none⟩ = some (.int .u32 0) := by rw [r1.cell]; rfl
  have hl := run_call_load (P := Tryz.prog) Tryz.func95 (by kernel_rfl) (by kernel_rfl) (by kernel_rfl) .u32 (by kernel_rfl) h3
  have hnot : ∀ (x : Bool) (w : World), (Op.unary .not (.bool x)).run Tryz.prog w = .ok (.bool (!x)) w := fun _ _ => rfl
  have hgr1 : w.grownBy (w.setCell ⟨g, 4, none⟩ (.int .i32 1)) (some g) := only_setCell (only_refl _ _) (.inl rfl) _
  have HM := Lib.hid (made1_any g N V R 1 pl (w.setCell ⟨g, 4, none⟩ (.int .i32 1)) hN hV hg2 hpl ⟨⟨_, r1⟩, hgr1.cell hp (fun e => hpl (by injection e)), ht.only hgr1 hg2⟩)
  have HL := Lib.hid (lock_free ⟨g, 4, none⟩ w h4 z4)
  have HG1 := Lib.hid hgr1
  have hsz : (w.setCell ⟨g, 4, none⟩ (.int .i32 1)).heap.size = w.heap.size := by simp [World.setCell]
  have HSZ := Lib.hid hsz
  clear hN hV hpl h hp ht h4 z4 r1 hgr1 hsz
  go_enter_defers Tryz.func82, Tryz.ntmps82
  go_wp2_with (first
    | (go_at_call 96; refine HL.out.mono ?_; rintro e w' ⟨rfl, rfl⟩)
    | (go_at_call 81; go_in)
    | (go_at_call 63; refine HM.out.mono ?_; rintro e w3 ⟨rfl, haf, hgr⟩; have HAF := Lib.hid haf; have HGR := Lib.hid hgr; clear haf hgr))
  obtain ⟨A, c, hr3, hlc, hpr⟩ := HAF.out
  -- the two deferred calls, the last laid first
  refine leaves_cons (f := 98) (args := #[.pointer (some ⟨g, 3, none⟩), .bool true]) (by simp) (by simp [go_sem]) ?_
  refine (store_deferred ⟨g, 3, none⟩ (.int .u32 0) .returning w3 (by rw [hr3.cell]; rfl) (hr3.frozen 3)).mono ?_
  rintro e u' w'' ⟨rfl, rfl, rfl⟩
  have hrd : Rb w3.drew g N V R 0 1 (.slice A (Ring.pts ptAt V N).length c) := hr3
  have hr4 := hrd.set3 1
  refine leaves_cons (f := 97) (args := #[.pointer (some ⟨g, 4, none⟩)]) (by simp [settle]) (by simp [go_sem]) ?_
  refine (unlock_deferred ⟨g, 4, none⟩ _ _ (by rw [hr4.cell]; rfl) (hr4.frozen 4)).mono ?_
  rintro e u' w'' ⟨rfl, rfl, rfl⟩
  have hr5 := hr4.set4 0
  have hga : w3.grownBy (w3.drew.setCell ⟨g, 3, none⟩ (.int .u32 1)) (some g) := only_setCell (only_drew (only_refl _ _)) (.inl rfl) _
  have hgb : w3.grownBy ((w3.drew.setCell ⟨g, 3, none⟩ (.int .u32 1)).setCell ⟨g, 4, none⟩ (.int .i32 0)) (some g) := only_setCell hga (.inl rfl) _
  have hgc := only_trans (only_trans HG1.out HGR.out) hgb
  have hmade : Made ((w3.drew.setCell ⟨g, 3, none⟩ (.int .u32 1)).setCell ⟨g, 4, none⟩ (.int .i32 0)) g N V R (fun b => w.heap.size ≤ b) := ⟨A, c, hr5, hlc, (hpr.only hgb hr3).weak (fun b hb _ => by rw [HSZ.out] at hb; exact hb)⟩
  simp [Leaves, settle, results, Tryz.results82]
  exact ⟨hmade, hgc⟩
set_option maxHeartbeats 1000000 in
theorem do_any (g N V R : Nat) (pl : Addr) (pv : Value) (w : World) (hN : N ≤ 8) (hV : V ≤ 16) (hg2 : 2 ≤ g) (hpl : pl.block ≠ g) (h : Rb w g N V R 0 0 pv) (hp : w.cell? pl = some (.pointer (some ⟨g, 0, none⟩))) (ht : Tabs w) :
    Calls Tryz.prog 62 #[.pointer (some ⟨g, 3, none⟩), .func (.func 63) #[] #[.pointer (some pl)]] w fun e w' => e = .returned (.tuple #[]) ∧ Made w' g N V R (fun b => w.heap.size ≤ b) ∧ w.grownBy w' (some g) := by
  have h3 : w.cell? ⟨g, 3, none⟩ = some (.int .u32 0) := by rw [h.cell]; rfl
  have hl := run_call_load (P := Tryz.prog) Tryz.func95 (by kernel_rfl) (by kernel_rfl) (by kernel_rfl) .u32 (by kernel_rfl) h3
  have hnot : ∀ (x : Bool) (w : World), (Op.unary .not (.bool x)).run Tryz.prog w = .ok (.bool (!x)) w := fun _ _ => rfl
  have HS := Lib.hid (slow_any g N V R pl pv w hN hV hg2 hpl h hp ht)
  clear hN hV hg2 hpl h hp ht
  go_enter Tryz.func62, Tryz.ntmps62
  go_wp2_with (first
    | (go_at_call 81; go_in)
    | (go_at_call 82; refine HS.out.mono ?_; rintro e w' ⟨rfl, hm, hg⟩; have HM := Lib.hid hm; have HG := Lib.hid hg; clear hm hg))
  go_end0
  exact ⟨rfl, HM.out, HG.out⟩
theorem do_done (g N V R : Nat) (fv : Value) (pv : Value) (w : World) (h : Rb w g N V R 1 0 pv) :
    Calls Tryz.prog 62 #[.pointer (some ⟨g, 3, none⟩), fv] w fun e w' => e = .returned (.tuple #[]) ∧ w' = w := by
  have h3 : w.cell? ⟨g, 3, none⟩ = some (.int .u32 1) := by rw [h.cell]; rfl
  have hl := run_call_load (P := Tryz.prog) Tryz.func95 (by kernel_rfl) (by kernel_rfl) (by kernel_rfl) .u32 (by kernel_rfl) h3
  have hnot : ∀ (x : Bool) (w : World), (Op.unary .not (.bool x)).run Tryz.prog w = .ok (.bool (!x)) w := fun _ _ => rfl
  clear h
  go_enter Tryz.func62, Tryz.ntmps62
  go_wp2
  go_end0
  exact ⟨rfl, rfl⟩
/-- A ring that a call made: its points are made, or not yet. -/
def RingAt (x : World) (g N V R : Nat) : Prop := N ≤ 8 ∧ V ≤ 16 ∧ 2 ≤ g ∧ (Rb x g N V R 0 0 (.slice none 0 0) ∨ Made x g N V R (fun _ => True))
theorem RingAt.tag {x : World} {g N V R : Nat} (h : RingAt x g N V R) : ∃ cs fr, x.heap[g]? = some (.cells cs 71 fr) := by
  rcases h.2.2.2 with h | ⟨A, c, h, _⟩
  · exact ⟨_, _, h⟩
  · exact ⟨_, _, h⟩
theorem RingAt.lt {x : World} {g N V R : Nat} (h : RingAt x g N V R) : g < x.heap.size := by
  obtain ⟨cs, fr, h⟩ := h.tag
  exact (Array.getElem?_eq_some_iff.1 h).1
theorem RingAt.grow {x y : World} {g N V R : Nat} (h : RingAt x g N V R) (hb : Below x.heap.size x y) : RingAt y g N V R := by
  have hl := h.lt
  obtain ⟨h1, h2, h3, h4⟩ := h
  refine ⟨h1, h2, h3, ?_⟩
  rcases h4 with h4 | ⟨A, c, h4, h5, h6⟩
  · exact .inl ((hb.block g hl).trans h4)
  · exact .inr ⟨A, c, (hb.block g hl).trans h4, h5, h6.grow hb⟩
theorem RingAt.only {x y : World} {g g' N V R : Nat} (h : RingAt x g N V R) (hb : x.grownBy y (some g')) (hne : g ≠ g') (ht : ∃ cs fr, x.heap[g']? = some (.cells cs 71 fr)) : RingAt y g N V R := by
  have hl := h.lt
  obtain ⟨h1, h2, h3, h4⟩ := h
  obtain ⟨cs, fr, ht⟩ := ht
  have hgg := hb.block g hl (fun e => hne (by injection e))
  refine ⟨h1, h2, h3, ?_⟩
  rcases h4 with h4 | ⟨A, c, h4, h5, h6⟩
  · exact .inl (hgg.trans h4)
  · exact .inr ⟨A, c, hgg.trans h4, h5, h6.only hb ht⟩
set_option maxHeartbeats 1000000 in
/-- A ring's points: made when they are asked for first. -/
theorem all_any (g N V R : Nat) (w : World) (h : RingAt w g N V R) (ht : Tabs w) :
    Calls Tryz.prog 48 #[.pointer (some ⟨g, 0, none⟩)] w fun e w' => ∃ A c, e = .returned (.slice A (Ring.pts ptAt V N).length c) ∧ (Ring.pts ptAt V N).length ≤ c ∧ PRow w' (fun _ => True) A (Ring.pts ptAt V N) ∧ RingAt w' g N V R ∧ w.grownBy w' (some g) := by
  have hl := h.lt
  obtain ⟨hN, hV, hg2, hst⟩ := h
  have hmf : ∀ (fn : Fn) (first cap : Array Value) (w : World), (Instr.makeFunc fn first cap).run Tryz.prog w = .ok (.func fn first cap) w := fun _ _ _ _ => rfl
  have hb0 := (Below.refl w.heap.size w).alloc (Nat.le_refl _) (.cells #[.pointer (some ⟨g, 0, none⟩)] 26)
  have hpl : (w.alloc (.cells #[.pointer (some ⟨g, 0, none⟩)] 26)).cell? ⟨w.heap.size, 0, none⟩ = some (.pointer (some ⟨g, 0, none⟩)) := by rw [cell_of_row _ _ _ _ _ _ (heap_alloc_new _ _)]; rfl
  have hg0 : w.grownBy (w.alloc (.cells #[.pointer (some ⟨g, 0, none⟩)] 26)) (some g) := only_alloc (only_refl _ _) _
  rcases hst with hr | ⟨A, c, hr, hlc, hpr⟩
  · have hr0 : Rb (w.alloc (.cells #[.pointer (some ⟨g, 0, none⟩)] 26)) g N V R 0 0 (.slice none 0 0) := (hb0.block g hl).trans hr
    have HD := Lib.hid (do_any g N V R ⟨w.heap.size, 0, none⟩ _ _ hN hV hg2 (by simp; omega) hr0 hpl (ht.below hb0))
    have HG0 := Lib.hid hg0
    have HB0 := Lib.hid hb0
    have HH : Hid (N ≤ 8 ∧ V ≤ 16 ∧ 2 ≤ g) := ⟨hN, hV, hg2⟩
    have HLT := Lib.hid hl
    clear hN hV hg2 hr hr0 hg0 hb0 ht hl
    go_enter Tryz.func48, Tryz.ntmps48
    go_wp2_with (go_at_call 62; refine HD.out.mono ?_; rintro e w2 ⟨rfl, ⟨A, c, hr2, hlc, hp2⟩, hg2⟩; have hpl2 := hg2.cell hpl (fun e => by injection e with e; have := HLT.out; dsimp only at e; omega); have hc6 : w2.cell? ⟨g, 6, none⟩ = some (.slice A (Ring.pts ptAt V N).length c) := by rw [hr2.cell]; rfl
                 have HR2 := Lib.hid hr2; have HG2 := Lib.hid hg2; have HP2 := Lib.hid hp2; have HL2 := Lib.hid hlc; clear hr2 hg2 hp2 hlc)
    go_ret
    exact ⟨A, c, rfl, HL2.out, HP2.out.weak (fun _ _ _ => trivial), ⟨HH.out.1, HH.out.2.1, HH.out.2.2, .inr ⟨A, c, HR2.out, HL2.out, HP2.out.weak (fun _ _ _ => trivial)⟩⟩, only_trans HG0.out HG2.out⟩
  · have hr0 : Rb (w.alloc (.cells #[.pointer (some ⟨g, 0, none⟩)] 26)) g N V R 1 0 (.slice A (Ring.pts ptAt V N).length c) := (hb0.block g hl).trans hr
    have hc6 : (w.alloc (.cells #[.pointer (some ⟨g, 0, none⟩)] 26)).cell? ⟨g, 6, none⟩ = some (.slice A (Ring.pts ptAt V N).length c) := by rw [hr0.cell]; rfl
    have HD := Lib.hid (fun fv => do_done g N V R fv _ _ hr0)
    have HG0 := Lib.hid hg0
    have HB0 := Lib.hid hb0
    have HR0 := Lib.hid hr0
    have HH : Hid (N ≤ 8 ∧ V ≤ 16 ∧ 2 ≤ g) := ⟨hN, hV, hg2⟩
    have HL2 := Lib.hid hlc
    have HP2 := Lib.hid (hpr.grow hb0)
    clear hN hV hg2 hr hr0 hg0 hb0 ht hl hpr hlc
    go_enter Tryz.func48, Tryz.ntmps48
    go_wp2_with (go_at_call 62; refine (HD.out _).mono ?_; rintro e w2 ⟨rfl, rfl⟩)
    go_ret
    exact ⟨A, c, rfl, HL2.out, HP2.out, ⟨HH.out.1, HH.out.2.1, HH.out.2.2, .inr ⟨A, c, HR0.out, HL2.out, HP2.out⟩⟩, HG0.out⟩
theorem all_nil (w : World) : Calls Tryz.prog 48 #[.pointer none] w fun e w' => e = .returned (.slice none 0 0) ∧ Below w.heap.size w w' := by
  go_enter Tryz.func48, Tryz.ntmps48
  go_wp2
  go_ret
  exact ⟨rfl, (Below.refl _ _).alloc (Nat.le_refl _) _⟩
end Go.Proofs.YtdbhboglccggdaaGreatDoor
