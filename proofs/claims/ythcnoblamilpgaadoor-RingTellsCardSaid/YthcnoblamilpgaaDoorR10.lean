/- sync.Once's slow road; Do; a ring's points. -/
import Derived.Test.YthcnoblamilpgaaDoorR9
set_option maxRecDepth 100000
set_option linter.unusedVariables false
set_option linter.unusedSimpArgs false
namespace Go.Proofs.YthcnoblamilpgaaDoor
open Go.RowKit
/-- A ring whose points are made. -/
def Made (x : World) (g N V R : Nat) (ok : Nat → Prop) : Prop := ∃ A c, Rb x g N V R 1 0 (.slice A (Ring.pts ptAt V N).length c) ∧ (Ring.pts ptAt V N).length ≤ c ∧ PRow x ok A (Ring.pts ptAt V N)
set_option maxHeartbeats 4000000 in
theorem slow_any (g N V R : Nat) (pl : Addr) (pv : Value) (w : World) (hN : N ≤ 8) (hV : V ≤ 16) (hg2 : 2 ≤ g) (hpl : pl.block ≠ g) (h : Rb w g N V R 0 0 pv) (hp : w.cell? pl = some (.pointer (some ⟨g, 0, none⟩))) (ht : Tabs w) :
    Calls Tryd.prog 59 #[.pointer (some ⟨g, 3, none⟩), .func (.func 49) #[] #[.pointer (some pl)]] w fun e w' => e = .returned (.tuple #[]) ∧ Made w' g N V R (fun b => w.heap.size ≤ b) ∧ w.grownBy w' (some g) := by
  have h4 : w.cell? ⟨g, 4, none⟩ = some (.int .i32 0) := by rw [h.cell]; rfl
  have z4 := h.frozen 4
  have r1 := h.set4 1
  have h3 : (w.setCell ⟨g, 4, none⟩ (.int .i32 1)).cell? ⟨g, 3, none⟩ = some (.int .u32 0) := by rw [r1.cell]; rfl
  have hl := run_call_load (P := Tryd.prog) Tryd.func65 (by kernel_rfl) (by kernel_rfl) (by kernel_rfl) .u32 (by kernel_rfl) h3
  have hnot : ∀ (x : Bool) (w : World), (Op.unary .not (.bool x)).run Tryd.prog w = .ok (.bool (!x)) w := fun _ _ => rfl
  have hgr1 : w.grownBy (w.setCell ⟨g, 4, none⟩ (.int .i32 1)) (some g) := only_setCell (only_refl _ _) (.inl rfl) _
  have HM := Lib.hid (made1_any g N V R 1 pl (w.setCell ⟨g, 4, none⟩ (.int .i32 1)) hN hV hg2 hpl ⟨⟨_, r1⟩, hgr1.cell hp (fun e => hpl (by injection e)), ht.only hgr1 hg2⟩)
  have HL := Lib.hid (lock_free ⟨g, 4, none⟩ w h4 z4)
  have HG1 := Lib.hid hgr1
  have hsz : (w.setCell ⟨g, 4, none⟩ (.int .i32 1)).heap.size = w.heap.size := by simp [World.setCell]
  have HSZ := Lib.hid hsz
  clear hN hV hpl h hp ht h4 z4 r1 hgr1 hsz
  go_enter_defers Tryd.func59, Tryd.ntmps59
  go_wp2_with (first
    | (go_at_call 66; refine HL.out.mono ?_; rintro e w' ⟨rfl, rfl⟩)
    | (go_at_call 58; go_in)
    | (go_at_call 49; refine HM.out.mono ?_; rintro e w3 ⟨rfl, haf, hgr⟩; have HAF := Lib.hid haf; have HGR := Lib.hid hgr; clear haf hgr))
  obtain ⟨A, c, hr3, hlc, hpr⟩ := HAF.out
  -- the two deferred calls, the last laid first
  refine leaves_cons (f := 68) (args := #[.pointer (some ⟨g, 3, none⟩), .bool true]) (by simp) (by simp [go_sem]) ?_
  refine (store_deferred ⟨g, 3, none⟩ (.int .u32 0) .returning w3 (by rw [hr3.cell]; rfl) (hr3.frozen 3)).mono ?_
  rintro e u' w'' ⟨rfl, rfl, rfl⟩
  have hrd : Rb w3.drew g N V R 0 1 (.slice A (Ring.pts ptAt V N).length c) := hr3
  have hr4 := hrd.set3 1
  refine leaves_cons (f := 67) (args := #[.pointer (some ⟨g, 4, none⟩)]) (by simp [settle]) (by simp [go_sem]) ?_
  refine (unlock_deferred ⟨g, 4, none⟩ _ _ (by rw [hr4.cell]; rfl) (hr4.frozen 4)).mono ?_
  rintro e u' w'' ⟨rfl, rfl, rfl⟩
  have hr5 := hr4.set4 0
  have hga : w3.grownBy (w3.drew.setCell ⟨g, 3, none⟩ (.int .u32 1)) (some g) := only_setCell (only_drew (only_refl _ _)) (.inl rfl) _
  have hgb : w3.grownBy ((w3.drew.setCell ⟨g, 3, none⟩ (.int .u32 1)).setCell ⟨g, 4, none⟩ (.int .i32 0)) (some g) := only_setCell hga (.inl rfl) _
  have hgc := only_trans (only_trans HG1.out HGR.out) hgb
  have hmade : Made ((w3.drew.setCell ⟨g, 3, none⟩ (.int .u32 1)).setCell ⟨g, 4, none⟩ (.int .i32 0)) g N V R (fun b => w.heap.size ≤ b) := ⟨A, c, hr5, hlc, (hpr.only hgb hr3).weak (fun b hb _ => by rw [HSZ.out] at hb; exact hb)⟩
  simp [Leaves, settle, results, Tryd.results59]
  exact ⟨hmade, hgc⟩
set_option maxHeartbeats 1000000 in
theorem do_any (g N V R : Nat) (pl : Addr) (pv : Value) (w : World) (hN : N ≤ 8) (hV : V ≤ 16) (hg2 : 2 ≤ g) (hpl : pl.block ≠ g) (h : Rb w g N V R 0 0 pv) (hp : w.cell? pl = some (.pointer (some ⟨g, 0, none⟩))) (ht : Tabs w) :
    Calls Tryd.prog 48 #[.pointer (some ⟨g, 3, none⟩), .func (.func 49) #[] #[.pointer (some pl)]] w fun e w' => e = .returned (.tuple #[]) ∧ Made w' g N V R (fun b => w.heap.size ≤ b) ∧ w.grownBy w' (some g) := by
  have h3 : w.cell? ⟨g, 3, none⟩ = some (.int .u32 0) := by rw [h.cell]; rfl
  have hl := run_call_load (P := Tryd.prog) Tryd.func65 (by kernel_rfl) (by kernel_rfl) (by kernel_rfl) .u32 (by kernel_rfl) h3
  have hnot : ∀ (x : Bool) (w : World), (Op.unary .not (.bool x)).run Tryd.prog w = .ok (.bool (!x)) w := fun _ _ => rfl
  have HS := Lib.hid (slow_any g N V R pl pv w hN hV hg2 hpl h hp ht)
  clear hN hV hg2 hpl h hp ht
  go_enter Tryd.func48, Tryd.ntmps48
  go_wp2_with (first
    | (go_at_call 58; go_in)
    | (go_at_call 59; refine HS.out.mono ?_; rintro e w' ⟨rfl, hm, hg⟩; have HM := Lib.hid hm; have HG := Lib.hid hg; clear hm hg))
  go_end0
  exact ⟨rfl, HM.out, HG.out⟩
theorem do_done (g N V R : Nat) (fv : Value) (pv : Value) (w : World) (h : Rb w g N V R 1 0 pv) :
    Calls Tryd.prog 48 #[.pointer (some ⟨g, 3, none⟩), fv] w fun e w' => e = .returned (.tuple #[]) ∧ w' = w := by
  have h3 : w.cell? ⟨g, 3, none⟩ = some (.int .u32 1) := by rw [h.cell]; rfl
  have hl := run_call_load (P := Tryd.prog) Tryd.func65 (by kernel_rfl) (by kernel_rfl) (by kernel_rfl) .u32 (by kernel_rfl) h3
  have hnot : ∀ (x : Bool) (w : World), (Op.unary .not (.bool x)).run Tryd.prog w = .ok (.bool (!x)) w := fun _ _ => rfl
  clear h
  go_enter Tryd.func48, Tryd.ntmps48
  go_wp2
  go_end0
  exact ⟨rfl, rfl⟩
/-- A ring that a call made: its points are made, or not yet. -/
def RingAt (x : World) (g N V R : Nat) : Prop := N ≤ 8 ∧ V ≤ 16 ∧ 2 ≤ g ∧ (Rb x g N V R 0 0 (.slice none 0 0) ∨ Made x g N V R (fun _ => True))
theorem RingAt.tag {x : World} {g N V R : Nat} (h : RingAt x g N V R) : ∃ cs fr, x.heap[g]? = some (.cells cs 69 fr) := by
  rcases h.2.2.2 with h | ⟨A, c, h, _⟩
  · exact ⟨_, _, h⟩
  · exact ⟨_, _, h⟩
theorem RingAt.lt {x : World} {g N V R : Nat} (h : RingAt x g N V R) : g < x.heap.size := by
  obtain ⟨cs, fr, h⟩ := h.tag
  exact (Array.getElem?_eq_some_iff.1 h).1
theorem RingAt.grow {x y : World} {g N V R : Nat} (h : RingAt x g N V R) (hb : Below x.heap.size x y) : RingAt y g N V R := by
  have hl := h.lt
  obtain ⟨h1, h2, h3, h4⟩ := h
  refine ⟨h1, h2, h3, ?_⟩
  rcases h4 with h4 | ⟨A, c, h4, h5, h6⟩
  · exact .inl ((hb.block g hl).trans h4)
  · exact .inr ⟨A, c, (hb.block g hl).trans h4, h5, h6.grow hb⟩
theorem RingAt.only {x y : World} {g g' N V R : Nat} (h : RingAt x g N V R) (hb : x.grownBy y (some g')) (hne : g ≠ g') (ht : ∃ cs fr, x.heap[g']? = some (.cells cs 69 fr)) : RingAt y g N V R := by
  have hl := h.lt
  obtain ⟨h1, h2, h3, h4⟩ := h
  obtain ⟨cs, fr, ht⟩ := ht
  have hgg := hb.block g hl (fun e => hne (by injection e))
  refine ⟨h1, h2, h3, ?_⟩
  rcases h4 with h4 | ⟨A, c, h4, h5, h6⟩
  · exact .inl (hgg.trans h4)
  · exact .inr ⟨A, c, hgg.trans h4, h5, h6.only hb ht⟩
set_option maxHeartbeats 1000000 in
/-- A ring's points: made when they are asked for first. -/
theorem all_any (g N V R : Nat) (w : World) (h : RingAt w g N V R) (ht : Tabs w) :
    Calls Tryd.prog 40 #[.pointer (some ⟨g, 0, none⟩)] w fun e w' => ∃ A c, e = .returned (.slice A (Ring.pts ptAt V N).length c) ∧ (Ring.pts ptAt V N).length ≤ c ∧ PRow w' (fun _ => True) A (Ring.pts ptAt V N) ∧ RingAt w' g N V R ∧ w.grownBy w' (some g) := by
  have hl := h.lt
  obtain ⟨hN, hV, hg2, hst⟩ := h
  have hmf : ∀ (fn : Fn) (first cap : Array Value) (w : World), (Instr.makeFunc fn first cap).run Tryd.prog w = .ok (.func fn first cap) w := fun _ _ _ _ => rfl
  have hb0 := (Below.refl w.heap.size w).alloc (Nat.le_refl _) (.cells #[.pointer (some ⟨g, 0, none⟩)] 39)
  have hpl : (w.alloc (.cells #[.pointer (some ⟨g, 0, none⟩)] 39)).cell? ⟨w.heap.size, 0, none⟩ = some (.pointer (some ⟨g, 0, none⟩)) := by rw [cell_of_row _ _ _ _ _ _ (heap_alloc_new _ _)]; rfl
  have hg0 : w.grownBy (w.alloc (.cells #[.pointer (some ⟨g, 0, none⟩)] 39)) (some g) := only_alloc (only_refl _ _) _
  rcases hst with hr | ⟨A, c, hr, hlc, hpr⟩
  · have hr0 : Rb (w.alloc (.cells #[.pointer (some ⟨g, 0, none⟩)] 39)) g N V R 0 0 (.slice none 0 0) := (hb0.block g hl).trans hr
    have HD := Lib.hid (do_any g N V R ⟨w.heap.size, 0, none⟩ _ _ hN hV hg2 (by simp; omega) hr0 hpl (ht.below hb0))
    have HG0 := Lib.hid hg0
    have HB0 := Lib.hid hb0
    have HH : Hid (N ≤ 8 ∧ V ≤ 16 ∧ 2 ≤ g) := ⟨hN, hV, hg2⟩
    have HLT := Lib.hid hl
    clear hN hV hg2 hr hr0 hg0 hb0 ht hl
    go_enter Tryd.func40, Tryd.ntmps40
    go_wp2_with (go_at_call 48; refine HD.out.mono ?_; rintro e w2 ⟨rfl, ⟨A, c, hr2, hlc, hp2⟩, hg2⟩; have hpl2 := hg2.cell hpl (fun e => by injection e with e; have := HLT.out; dsimp only at e; omega); have hc6 : w2.cell? ⟨g, 6, none⟩ = some (.slice A (Ring.pts ptAt V N).length c) := by rw [hr2.cell]; rfl
                 have HR2 := Lib.hid hr2; have HG2 := Lib.hid hg2; have HP2 := Lib.hid hp2; have HL2 := Lib.hid hlc; clear hr2 hg2 hp2 hlc)
    go_ret
    exact ⟨A, c, rfl, HL2.out, HP2.out.weak (fun _ _ _ => trivial), ⟨HH.out.1, HH.out.2.1, HH.out.2.2, .inr ⟨A, c, HR2.out, HL2.out, HP2.out.weak (fun _ _ _ => trivial)⟩⟩, only_trans HG0.out HG2.out⟩
  · have hr0 : Rb (w.alloc (.cells #[.pointer (some ⟨g, 0, none⟩)] 39)) g N V R 1 0 (.slice A (Ring.pts ptAt V N).length c) := (hb0.block g hl).trans hr
    have hc6 : (w.alloc (.cells #[.pointer (some ⟨g, 0, none⟩)] 39)).cell? ⟨g, 6, none⟩ = some (.slice A (Ring.pts ptAt V N).length c) := by rw [hr0.cell]; rfl
    have HD := Lib.hid (fun fv => do_done g N V R fv _ _ hr0)
    have HG0 := Lib.hid hg0
    have HB0 := Lib.hid hb0
    have HR0 := Lib.hid hr0
    have HH : Hid (N ≤ 8 ∧ V ≤ 16 ∧ 2 ≤ g) := ⟨hN, hV, hg2⟩
    have HL2 := Lib.hid hlc
    have HP2 := Lib.hid (hpr.grow hb0)
    clear hN hV hg2 hr hr0 hg0 hb0 ht hl hpr hlc
    go_enter Tryd.func40, Tryd.ntmps40
    go_wp2_with (go_at_call 48; refine (HD.out _).mono ?_; rintro e w2 ⟨rfl, rfl⟩)
    go_ret
    exact ⟨A, c, rfl, HL2.out, HP2.out, ⟨HH.out.1, HH.out.2.1, HH.out.2.2, .inr ⟨A, c, HR0.out, HL2.out, HP2.out⟩⟩, HG0.out⟩
theorem all_nil (w : World) : Calls Tryd.prog 40 #[.pointer none] w fun e w' => e = .returned (.slice none 0 0) ∧ Below w.heap.size w w' := by
  go_enter Tryd.func40, Tryd.ntmps40
  go_wp2
  go_ret
  exact ⟨rfl, (Below.refl _ _).alloc (Nat.le_refl _) _⟩
end Go.Proofs.YthcnoblamilpgaaDoor
