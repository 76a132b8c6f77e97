/- Route's reference: its ring, lists, who is picked. Route's reference: who is picked, others, what is shared, peers. Route's reference: what is shared, and peers. -/
import Derived.Test.YtdbhboglccggdaaGreatDoorQ12
import Derived.Test.YtdbhboglccggdaaGreatDoorR23
set_option maxRecDepth 100000
set_option linter.unusedVariables false
set_option linter.unusedSimpArgs false
namespace Go.Proofs.YtdbhboglccggdaaGreatDoor
open Go.RowKit Go.Shelf
/-- The reference's ring, as a value. -/
def rrC (N R : Nat) (n : Nat) (A1 : Option Addr) (c1 : Nat) (A2 : Option Addr) (c2 : Nat) : Array Value := #[.int .i64 (N : Int), .int .i64 (R : Int), .slice A1 n c1, .slice A2 n c2]
structure RR (L : List Pt) (A1 A2 : Option Addr) (x : World) : Prop where
  p : Row .u64 x (fun _ => True) A1 (L.map (·.1))
  o : Row .i64 x (fun _ => True) A2 (L.map (·.2))
theorem RR.grow {L : List Pt} {A1 A2 : Option Addr} {x y : World} (h : RR L A1 A2 x) (hb : Below x.heap.size x y) : RR L A1 A2 y := ⟨h.p.grow hb, h.o.grow hb⟩
theorem built33 (N R n : Nat) (A1 : Option Addr) (c1 : Nat) (A2 : Option Addr) (c2 : Nat) : Tryz.prog.built 33 [(0, .int .i64 (N : Int)), (1, .int .i64 (R : Int)), (2, .slice A1 n c1), (3, .slice A2 n c2)] = some (rrC N R n A1 c1 A2 c2) := by kernel_rfl
theorem size33 : (Tryz.prog.info? 33).map (·.size) = some 4 := by kernel_rfl
theorem info33 : (Tryz.prog.info? 33).map (fun i => (i.zero, i.size)) = some (some (.agg #[.int .i64 0, .int .i64 0, .slice none 0 0, .slice none 0 0]), 4) := by kernel_rfl
theorem rr_one (N R n : Nat) (A1 : Option Addr) (c1 : Nat) (A2 : Option Addr) (c2 : Nat) : (rrC N R n A1 c1 A2 c2).all (·.oneCell') = true := by simp [rrC, Value.oneCell']
def NRes (L : List Pt) (N R : Nat) (w : World) (e : Ending) (y : World) : Prop := ∃ A1 c1 A2 c2, e = .returned (.agg (rrC N R L.length A1 c1 A2 c2)) ∧ Row .u64 y (fun b => w.heap.size ≤ b) A1 (L.map (·.1)) ∧ Row .i64 y (fun b => w.heap.size ≤ b) A2 (L.map (·.2)) ∧ Below w.heap.size w y
theorem NRes.of {L : List Pt} {N R : Nat} {w y : World} {A1 : Option Addr} {c1 : Nat} {A2 : Option Addr} {c2 : Nat} (h : Row .u64 y (fun b => w.heap.size ≤ b) A1 (L.map (·.1))) (h2 : Row .i64 y (fun b => w.heap.size ≤ b) A2 (L.map (·.2))) (hb : Below w.heap.size w y) : NRes L N R w (.returned (.agg (rrC N R L.length A1 c1 A2 c2))) y := ⟨A1, c1, A2, c2, rfl, h, h2, hb⟩
set_option maxHeartbeats 4000000 in
theorem rnew_any (N V R : Nat) (hN : N ≤ 8) (hV : V ≤ 16) (w : World) : Calls Tryz.prog 9 #[.int .i64 (N : Int), .int .i64 (V : Int), .int .i64 (R : Int)] w (NRes (Ring.pts ptAt V N) N R w) := by
  have hz := (zero_of_info info33).1
  obtain ⟨Z, hZ⟩ : ∃ Z : Array Value, Z = #[.int .i64 0, .int .i64 0, .slice none 0 0, .slice none 0 0] := ⟨_, rfl⟩
  have HZS : Hid (Z.size = 4) := by rw [hZ]; exact rfl
  rw [← hZ] at hz
  have HC := Lib.hid (rring_any N V hN hV (w.alloc (.cells Z 33)))
  have HX := Lib.hid (heap_alloc_new w (.cells Z 33))
  have HB := Lib.hid (below1 w (.cells Z 33))
  obtain ⟨L, hL⟩ : ∃ L, L = Ring.pts ptAt V N := ⟨_, rfl⟩
  rw [← hL] at HC ⊢
  clear hZ hL
  go_enter Tryz.func9, Tryz.ntmps9
  go_wp2_with fail
  refine HC.out.mono ?_
  rintro e y1 ⟨A1, c1, A2, c2, rfl, hg⟩
  have HG := Lib.hid hg
  have HX1 := Lib.hid ((hg.below.block w.heap.size (by simp)).trans HX.out)
  have HB1 := Lib.hid (HB.out.trans (hg.below.mono HB.out.size))
  have HBU := Lib.hid (built33 N R L.length A1 c1 A2 c2)
  have HO := Lib.hid (rr_one N R L.length A1 c1 A2 c2)
  have HCS : Hid ((rrC N R L.length A1 c1 A2 c2).size = 4) := Lib.hid rfl
  clear hg HC HX
  go_wp2_with (first
    | (refine wpList_built rfl 33 #[(0, .tmp 15), (1, .tmp 16), (2, .tmp 17), (3, .tmp 18)] rfl [(0, .int .i64 (N : Int)), (1, .int .i64 (R : Int)), (2, .slice A1 L.length c1), (3, .slice A2 L.length c2)] rfl _ HBU.out ?_)
    | (refine wpList_store_row rfl 33 _ _ rfl w.heap.size (rrC N R L.length A1 c1 A2 c2) rfl rfl 33 _ HX1.out (by rw [HCS.out]; exact size33) (by rw [HZS.out, HCS.out]) HO.out ?_)
    | (refine bodyPost_ret (results_cell_row Tryz.results9 _ _ w.heap.size 33 (rrC N R L.length A1 c1 A2 c2) (0, 0) _ rfl (setRow_heap _ _ _ _ _ _ HX1.out) Tryz.underlying33 rfl (by rw [HCS.out]; exact size33)) rfl ?_))
  refine NRes.of ?_ ?_ (below_setRow' HB1.out (Nat.le_refl _) _)
  · exact (HG.out.p.keep fun b j hb hl => World.cell?_of_block (w := y1) (a := ⟨b, j, none⟩) (by rw [World.size_alloc] at hb; exact setRow_other _ _ _ _ (show b ≠ w.heap.size by omega))).weak fun b hb _ => by rw [World.size_alloc] at hb; omega
  · exact (HG.out.o.keep fun b j hb hl => World.cell?_of_block (w := y1) (a := ⟨b, j, none⟩) (by rw [World.size_alloc] at hb; exact setRow_other _ _ _ _ (show b ≠ w.heap.size by omega))).weak fun b hb _ => by rw [World.size_alloc] at hb; omega
theorem rr_load (N R n : Nat) (A1 : Option Addr) (c1 : Nat) (A2 : Option Addr) (c2 : Nat) {x : World} {b : Nat} (h : x.heap[b]? = some (.cells (rrC N R n A1 c1 A2 c2) 33 (0, 0))) :
    x.cell? ⟨b, 0, none⟩ = some (.int .i64 (N : Int)) ∧ x.cell? ⟨b, 1, none⟩ = some (.int .i64 (R : Int)) ∧ x.cell? ⟨b, 2, none⟩ = some (.slice A1 n c1) ∧ x.cell? ⟨b, 3, none⟩ = some (.slice A2 n c2) := by
  refine ⟨?_, ?_, ?_, ?_⟩ <;> rw [cell_of_row _ _ _ _ _ _ h] <;> rfl
set_option maxHeartbeats 4000000 in
theorem rpartL_any (L : List Pt) (N R : Nat) (hR : R ≤ 8) (hL : L.length ≤ 200) (A1 A2 : Option Addr) (c1 c2 k : Nat) (hk : k < 8) (w : World) (h : RR L A1 A2 w) :
    Calls Tryz.prog 36 #[.agg (rrC N R L.length A1 c1 A2 c2), .int .i64 (k : Int)] w (LRes (LK L R (k : Int)) w) := by
  have hB := below1 w (.cells (rrC N R L.length A1 c1 A2 c2) 33)
  obtain ⟨e0, e1, e2, e3⟩ := rr_load N R L.length A1 c1 A2 c2 (heap_alloc_new w (.cells (rrC N R L.length A1 c1 A2 c2) 33))
  have h' := h.grow hB
  have HC := Lib.hid (rlist_any L A1 A2 c1 c2 R k hR hL hk _ h'.p h'.o)
  have HQ := Lib.hid (LK_ok L R k hk)
  have HB := Lib.hid hB
  rw [← HQ.out] at HC
  obtain ⟨l, hl⟩ : ∃ l, l = LK L R (k : Int) := ⟨_, rfl⟩
  rw [← hl] at HC ⊢
  clear hB h h' HQ hl
  go_enter Tryz.func36, Tryz.ntmps36
  go_wp2_with fail
  refine HC.out.mono ?_
  rintro e y1 ⟨B, c, rfl, hr, hb⟩
  have HR1 := Lib.hid (hr.weak (Q := fun b => w.heap.size ≤ b) fun b hb1 _ => Nat.le_trans HB.out.size hb1)
  have HB1 := Lib.hid (HB.out.trans (hb.mono HB.out.size))
  clear hr hb HC e0 e1 e2 e3
  go_wp2_with fail
  go_ret
  exact LRes.of HR1.out HB1.out
theorem row_range {x : World} {b : Nat} {C : Array Value} {t : TypeId} {fr : Nat × Nat} (h : x.heap[b]? = some (.cells C t fr)) : rangeA x b 0 C := by
  intro j v hj
  rw [Nat.zero_add, cell_of_row _ _ _ _ _ _ h]
  exact hj
/-- While the reference looks for a key's list. -/
structure LI (w : World) (C : Array Value) (L : List Pt) (A1 A2 : Option Addr) (x : World) : Prop where
  rr : RR L A1 A2 x
  box : x.heap[w.heap.size]? = some (.cells C 33)
  below : Below w.heap.size w x
theorem LI.grow {w : World} {C : Array Value} {L : List Pt} {A1 A2 : Option Addr} {x y : World} (h : LI w C L A1 A2 x) (hb : Below x.heap.size x y) : LI w C L A1 A2 y :=
  ⟨h.rr.grow hb, (hb.block _ (Array.getElem?_eq_some_iff.1 h.box).1).trans h.box, h.below.trans (hb.mono h.below.size)⟩
def LSp (w : World) (l : List Nat) (v : Value) (x : World) : Prop := ∃ B c, v = .slice B l.length c ∧ Row .i64 x (fun b => w.heap.size ≤ b) B l
theorem LSp.grow {w : World} {l : List Nat} {v : Value} {x y : World} (h : LSp w l v x) (hb : Below x.heap.size x y) : LSp w l v y := by
  obtain ⟨B, c, e, hr⟩ := h
  exact ⟨B, c, e, hr.grow hb⟩
set_option maxHeartbeats 4000000 in
theorem rlist13_any (L : List Pt) (N R : Nat) (hR : R ≤ 8) (hL : L.length ≤ 200) (A1 A2 : Option Addr) (c1 c2 : Nat) (s : ByteArray) (hs : s.size ≤ 2000) (w : World) (h : RR L A1 A2 w) :
    Calls Tryz.prog 14 #[.agg (rrC N R L.length A1 c1 A2 c2), .string s] w (LRes (KL L R s) w) := by
  have hB := below1 w (.cells (rrC N R L.length A1 c1 A2 c2) 33)
  have hX := heap_alloc_new w (.cells (rrC N R L.length A1 c1 A2 c2) 33)
  have HR := Lib.hid (rright_any s (w.alloc (.cells (rrC N R L.length A1 c1 A2 c2) 33)))
  have HB := Lib.hid hB
  cases hr : rightK s with
  | false =>
    have HK := Lib.hid (KL_no (ls := L) (R := R) hr)
    rw [hr] at HR
    clear hB hX hr h
    go_enter Tryz.func14, Tryz.ntmps14
    go_wp2_with (go_at_call 35; refine HR.out.mono ?_; rintro e w1 ⟨rfl, rfl⟩)
    go_ret
    rw [HK.out]
    exact LRes.of (B := none) (c := 0) (Row.nil _ _ _ _) HB.out
  | true =>
    have HK := Lib.hid (KL_yes (ls := L) (R := R) hr)
    rw [hr] at HR
    have HRR := Lib.hid (h.grow hB)
    have HX := Lib.hid hX
    have HPA := Lib.hid (fun x => rpart_any s x hs)
    have HPL := Lib.hid (fun x hx => rpartL_any L N R hR hL A1 A2 c1 c2 (partK s) (partK_lt s) x hx)
    obtain ⟨k, hk⟩ : ∃ k, k = partK s := ⟨_, rfl⟩
    obtain ⟨l, hl⟩ : ∃ l, l = LK L R ((partK s : Nat) : Int) := ⟨_, rfl⟩
    obtain ⟨C, hC⟩ : ∃ C, C = rrC N R L.length A1 c1 A2 c2 := ⟨_, rfl⟩
    rw [← hl] at HPL HK
    rw [← hk] at HPA HPL
    have HS : Hid (C.size = 4) := Lib.hid (by rw [hC]; rfl)
    rw [← hC] at HR HX HB HRR HPL ⊢
    clear hB hX hr h hk hl hC
    go_enter Tryz.func14, Tryz.ntmps14
    go_wp2_with (go_at_call 35; refine HR.out.mono ?_; rintro e w1 ⟨rfl, rfl⟩)
    go_wp2_with fail
    have HD0 : Hid (LI w C L A1 A2 (w.alloc (.cells C 33)).drew) := Lib.hid ⟨⟨HRR.out.p.drew, HRR.out.o.drew⟩, HX.out, HB.out.drew⟩
    refine WM.wp_region_kinds (fun _ x y => Below x.heap.size x y) (fun _ x => LI w C L A1 A2 x) (fun x => LI w C L A1 A2 x)
      [(0, .val (.agg C) fun _ => True), (2, .val (.int .i64 (k : Int)) fun _ => True), (3, .mem (LSp w l))]
      (by kernel_rfl) (by kernel_rfl) (fun _ x y hb h => h.grow hb) (fun _ _ x y _ hb h => h.grow hb) ?_ HD0.out (fun _ => HD0.out) ?_
    · intro z hz
      simp only [List.mem_cons, List.mem_nil_iff, or_false] at hz
      rcases hz with rfl | rfl | rfl
      · exact fun _ _ _ _ _ _ => trivial
      · exact fun _ _ _ _ _ _ => trivial
      · exact fun j v x y hne hb h => LSp.grow h hb
    refine WM.mono_val rfl rfl (fun x hD hF => ?_) ?_
    · have hl := run_loadVar_arr (P := Tryz.prog) x w.heap.size 0 33 C _ (row_range hD.box) Tryz.underlying33 rfl (by rw [HS.out]; exact size33)
      rw [exec_load 33 (.tmp 2) rfl w.heap.size 0 rfl hl]
      exact ⟨Below.refl _ _, rfl, trivial⟩
    apply Exists.intro
    refine ⟨by simp only [Act.put, List.setIfInBounds_toArray, List.set_cons_succ, List.set_cons_zero]; rfl, ?_⟩
    refine WM.mono_pure rfl rfl ?_
    refine ⟨.string s, fun x => ?_, ?_⟩
    · rfl
    apply Exists.intro
    refine ⟨by simp only [Act.put, List.setIfInBounds_toArray, List.set_cons_succ, List.set_cons_zero]; rfl, ?_⟩
    refine WM.mono_val rfl rfl (fun x hD hF => ?_) ?_
    · go_simp
      refine (HPA.out x).mono ?_
      rintro e y ⟨rfl, hb⟩
      exact ⟨_, rfl, hb, rfl⟩
    apply Exists.intro
    refine ⟨by simp only [Act.put, List.setIfInBounds_toArray, List.set_cons_succ, List.set_cons_zero]; rfl, ?_⟩
    refine WM.mono_mem rfl rfl (fun x hD hF => ?_) (fun v11 => ?_)
    · go_simp
      refine (HPL.out x hD.rr).mono ?_
      rintro e y ⟨B, c, rfl, hr, hb⟩
      exact ⟨_, rfl, hb, B, c, rfl, hr.weak fun b hb1 _ => Nat.le_trans hD.below.size hb1⟩
    apply Exists.intro
    refine ⟨by simp only [Act.put, List.setIfInBounds_toArray, List.set_cons_succ, List.set_cons_zero]; rfl, ?_⟩
    refine WM.mono_pure rfl rfl ?_
    refine ⟨v11, fun x => ?_, ?_⟩
    · rfl
    apply Exists.intro
    refine ⟨by simp only [Act.put, List.setIfInBounds_toArray, List.set_cons_succ, List.set_cons_zero]; rfl, ?_⟩
    refine WM.mono_nil ?_
    intro x hE hF
    obtain ⟨B, c, rfl, hr⟩ : LSp w l v11 x := (hF 3).1
    have HF1 := Lib.hid hr
    have HE1 := Lib.hid hE
    clear hE hF hr HD0
    go_wp2_with fail
    go_ret
    rw [HK.out]
    exact LRes.of HF1.out HE1.out.below

end Go.Proofs.YtdbhboglccggdaaGreatDoor

set_option maxRecDepth 100000
set_option linter.unusedVariables false
set_option linter.unusedSimpArgs false
namespace Go.Proofs.YtdbhboglccggdaaGreatDoor
open Go.RowKit Go.Shelf
def rpickR (ls : List Pt) (R : Nat) (s : ByteArray) (us : List Int) : Int × Int := if rightK s = true then pickL (KL ls R s) us else (0, 1)
def QRs (r : Int × Int) (w : World) (e : Ending) (y : World) : Prop := e = .returned (.tuple #[.int .i64 r.1, .int .i64 r.2]) ∧ Below w.heap.size w y
theorem QRs.of {r : Int × Int} {a b : Int} {w y : World} (hr : r = (a, b)) (hb : Below w.heap.size w y) : QRs r w (.returned (.tuple #[.int .i64 a, .int .i64 b])) y := by
  subst hr
  exact ⟨rfl, hb⟩
theorem LI.start {w : World} {C : Array Value} {L : List Pt} {A1 A2 : Option Addr} (h : RR L A1 A2 w) : LI w C L A1 A2 (w.alloc (.cells C 33)) := ⟨h.grow (below1 _ _), heap_alloc_new _ _, below1 _ _⟩
theorem LI.drew {w : World} {C : Array Value} {L : List Pt} {A1 A2 : Option Addr} {x : World} (h : LI w C L A1 A2 x) : LI w C L A1 A2 x.drew := h.grow ⟨rfl, rfl, rfl, Nat.le_refl _, fun _ _ => rfl⟩
set_option maxHeartbeats 8000000 in
theorem rpick13_any (L : List Pt) (N R : Nat) (hR : R ≤ 8) (hL : L.length ≤ 200) (A1 A2 : Option Addr) (c1 c2 : Nat) (s : ByteArray) (hs : s.size ≤ 2000) (A : Option Addr) (us : List Int) (cu : Nat) (hu : us.length ≤ 1000000) (w : World) (h : RR L A1 A2 w) (hA : RowZ w (fun b => b < w.heap.size) A us) :
    Calls Tryz.prog 11 #[.agg (rrC N R L.length A1 c1 A2 c2), .string s, .slice A us.length cu] w (QRs (rpickR L R s us) w) := by
  have HLI := Lib.hid (LI.start (C := rrC N R L.length A1 c1 A2 c2) h)
  have HR := Lib.hid (rright_any s (w.alloc (.cells (rrC N R L.length A1 c1 A2 c2) 33)))
  have HU := Lib.hid hA
  have HUM := Lib.hid hu
  cases hr : rightK s with
  | false =>
    have HK : Hid (rpickR L R s us = (0, 1)) := Lib.hid (by unfold rpickR; rw [if_neg (by rw [hr]; decide)])
    rw [hr] at HR
    clear hr h hA hu
    go_enter Tryz.func11, Tryz.ntmps11
    go_wp2_with (go_at_call 35; refine HR.out.mono ?_; rintro e w1 ⟨rfl, rfl⟩)
    go_ret2
    exact QRs.of HK.out HLI.out.below
  | true =>
    have HK : Hid (rpickR L R s us = pickL (KL L R s) us) := Lib.hid (by unfold rpickR; rw [if_pos hr])
    have HC := Lib.hid (fun x hx => rlist13_any L N R hR hL A1 A2 c1 c2 s hs x hx)
    have HLE := Lib.hid (KL_len L R s)
    have HR8 := Lib.hid hR
    obtain ⟨l, hl⟩ : ∃ l, l = KL L R s := ⟨_, rfl⟩
    obtain ⟨C, hC⟩ : ∃ C, C = rrC N R L.length A1 c1 A2 c2 := ⟨_, rfl⟩
    have HS : Hid (C.size = 4) := Lib.hid (by rw [hC]; rfl)
    rw [hr] at HR
    rw [← hl] at HK HC HLE
    rw [← hC] at HR HLI HC ⊢
    clear hr h hA hu hl hC
    go_enter Tryz.func11, Tryz.ntmps11
    go_wp2_with (first
      | (go_at_call 35; refine HR.out.mono ?_; rintro e w1 ⟨rfl, rfl⟩)
      | (refine wpList_load_w (by go_simp) 33 _ rfl w.heap.size 0 rfl C _ (row_range HLI.out.box) Tryz.underlying33 rfl (by rw [HS.out]; exact size33) ?_))
    refine (HC.out _ HLI.out.rr).mono ?_
    rintro e y1 ⟨B, c, rfl, hr1, hb⟩
    have HL1 := Lib.hid (HLI.out.grow hb)
    have HROW := Lib.hid hr1
    have HU1 := Lib.hid (HU.out.keep fun b hb1 hl => HL1.out.below.block b hb1)
    clear hr1 hb HC HLI HR HU
    go_wp2_with fail
    go_loopw [9] (fun iv x => ∃ i : Nat, i ≤ l.length ∧ iv = .int .i64 i ∧ Hid (∀ j, j < i → hasZ us ((l.getD j 0 : Nat) : Int) = false) ∧ y1 = x) (fun iv _ => l.length - (intOf iv).toNat)
    case atStart => exact ⟨0, by omega, rfl, Lib.hid (fun j hj => absurd hj (Nat.not_lt_zero _)), rfl⟩
    case round =>
      obtain ⟨i, hi, rfl, HN, rfl⟩ := hrel
      by_cases hlt : i < l.length
      · have hlt' : (i : Int) < (l.length : Int) := by omega
        have eI : IntKind.i64.wrap ((i : Int) + 1) = (i : Int) + 1 := by have := HLE.out; have := HR8.out; rw [IntKind.wrap_i64]; omega
        obtain ⟨b, o, hB, _, hcs⟩ := HROW.out.at_ (by omega)
        subst hB
        have hc := hcs i hlt
        obtain ⟨q, hq⟩ : ∃ q, q = l.getD i 0 := ⟨_, rfl⟩
        rw [← hq] at hc
        have HQ := Lib.hid hq
        have HI := Lib.hid (rinZ_any us cu A (q : Int) y1 HU1.out HUM.out)
        clear hcs hq
        cases hz : hasZ us (q : Int) with
        | true =>
          have HP := Lib.hid (pickL_some hlt (by rw [← HQ.out]; exact hz) HN.out)
          rw [← HQ.out] at HP
          rw [hz] at HI
          clear hz
          go_wp2_with fail
          refine HI.out.mono ?_
          rintro e z ⟨rfl, rfl⟩
          go_wp2_with fail
          go_ret2
          exact QRs.of (HK.out.trans HP.out) HL1.out.below
        | false =>
          have HN2 : Hid (∀ j, j < i + 1 → hasZ us ((l.getD j 0 : Nat) : Int) = false) := Lib.hid (fun j hj => by
            by_cases e : j = i
            · subst e
              rw [← HQ.out]
              exact hz
            · exact HN.out j (by omega))
          rw [hz] at HI
          clear hz
          go_wp2_with fail
          refine HI.out.mono ?_
          rintro e z ⟨rfl, rfl⟩
          go_wp2_with fail
          go_roundw
          all_goals clear eI
          case rel => exact ⟨i + 1, by omega, by go_num, HN2, trivial⟩
          case measure => simp [intOf]; omega
      · obtain rfl : i = l.length := by omega
        have HP := Lib.hid (pickL_none HN.out)
        go_wp2_with fail
        go_ret2
        exact QRs.of (HK.out.trans HP.out) HL1.out.below
set_option maxHeartbeats 8000000 in
theorem rothers13_any (L : List Pt) (N R : Nat) (hR : R ≤ 8) (hL : L.length ≤ 200) (A1 A2 : Option Addr) (c1 c2 : Nat) (s : ByteArray) (hs : s.size ≤ 2000) (node : Int) (w : World) (h : RR L A1 A2 w) :
    Calls Tryz.prog 18 #[.agg (rrC N R L.length A1 c1 A2 c2), .string s, .int .i64 node] w (LRes (without (KL L R s) node) w) := by
  have HLI := Lib.hid (LI.start (C := rrC N R L.length A1 c1 A2 c2) h)
  have HC := Lib.hid (fun x hx => rlist13_any L N R hR hL A1 A2 c1 c2 s hs x hx)
  have HLE := Lib.hid (KL_len L R s)
  have HR8 := Lib.hid hR
  obtain ⟨l, hl⟩ : ∃ l, l = KL L R s := ⟨_, rfl⟩
  obtain ⟨C, hC⟩ : ∃ C, C = rrC N R L.length A1 c1 A2 c2 := ⟨_, rfl⟩
  have HS : Hid (C.size = 4) := Lib.hid (by rw [hC]; rfl)
  rw [← hl] at HC HLE ⊢
  rw [← hC] at HLI HC ⊢
  clear h hl hC
  go_enter Tryz.func18, Tryz.ntmps18
  go_wp2_with (refine wpList_load_w (by go_simp) 33 _ rfl w.heap.size 0 rfl C _ (row_range HLI.out.box) Tryz.underlying33 rfl (by rw [HS.out]; exact size33) ?_)
  refine (HC.out _ HLI.out.rr).mono ?_
  rintro e y1 ⟨B, c, rfl, hr1, hb⟩
  have HB1 := Lib.hid (HLI.out.grow hb).below
  have HROW := Lib.hid (hr1.weak (Q := fun b => b < y1.heap.size) fun b _ hl => hl)
  clear hr1 hb HC HLI
  obtain ⟨p, hp⟩ : ∃ p : Nat → Bool, p = fun n => decide (((n : Nat) : Int) = node) := ⟨_, rfl⟩
  have HW : Hid (keptF p l l.length = without l node) := Lib.hid (by rw [keptF_end, hp]; rfl)
  have HPP := Lib.hid hp
  clear hp
  go_wp2_with fail
  go_loopw [8, 9] (fun v iv x => ∃ i : Nat, i ≤ l.length ∧ iv = .int .i64 i ∧ Hid (x.ownsRow y1.heap.size 3 1 v (keptF p l i).length (vals .i64 (keptF p l i))) ∧ Hid (Row .i64 x (fun b => b < y1.heap.size) B l) ∧ Hid (Below y1.heap.size y1 x)) (fun _ iv _ => l.length - (intOf iv).toNat)
  case atStart => exact ⟨0, by omega, rfl, World.ownsRow_nil _ _ _ _, HROW, Lib.hid (Below.refl _ _)⟩
  case round =>
    clear HROW
    obtain ⟨i, hi, rfl, HO, HROW, HB⟩ := hrel
    by_cases hlt : i < l.length
    · have hlt' : (i : Int) < (l.length : Int) := by omega
      have eI : IntKind.i64.wrap ((i : Int) + 1) = (i : Int) + 1 := by have := HLE.out; have := HR8.out; rw [IntKind.wrap_i64]; omega
      obtain ⟨b, o, hB, _, hcs⟩ := HROW.out.at_ (by omega)
      subst hB
      have hc := hcs i hlt
      obtain ⟨q, hq⟩ : ∃ q, q = l.getD i 0 := ⟨_, rfl⟩
      rw [← hq] at hc
      have HKL := Lib.hid (keptF_len p l i)
      by_cases hqn : (q : Int) = node
      · have hne : ((q : Int) != node) = false := by rw [bne_eq_false_iff_eq]; exact hqn
        have HKE := Lib.hid (keptF_drop (p := p) hlt (by rw [← hq, HPP.out]; exact decide_eq_true hqn))
        clear hcs hq hqn
        go_wp2_with fail
        go_roundw
        all_goals clear eI
        case rel => exact ⟨i + 1, by omega, by go_num, by rw [HKE.out]; exact HO, HROW, HB⟩
        case measure => simp [intOf]; omega
      · have hne : ((q : Int) != node) = true := by rw [bne_iff_ne]; exact hqn
        have HKE := Lib.hid (keptF_keep (p := p) hlt (by rw [← hq, HPP.out]; exact decide_eq_false hqn))
        rw [← hq] at HKE
        obtain ⟨acc, hacc⟩ : ∃ acc, acc = keptF p l i := ⟨_, rfl⟩
        rw [← hacc] at HO HKE HKL
        have HSZ := Lib.hid HB.out.size
        clear hcs hq hqn hacc
        go_wp2_with (refine wpList_append_one rfl (.tmp 25) (.tmp 30) 24 rfl y1.heap.size 3 (.int .i64 0) 8 Tryz.underlying24 info3 rfl _ acc.length (vals .i64 acc) rfl HO.out (.int .i64 (q : Int)) 3 rfl rfl (by have := HKL.out; have := HLE.out; have := HR8.out; unfold maxLen; omega) (by have := HKL.out; have := HLE.out; have := HR8.out; omega) HSZ.out ?_; intro v' w5 hown hbel)
        have HO2 : Hid (w5.ownsRow y1.heap.size 3 1 v' (keptF p l (i + 1)).length (vals .i64 (keptF p l (i + 1)))) := Lib.hid (by
          rw [HKE.out, vals_append, List.length_append]
          exact hown.out)
        have HB2 := Lib.hid (HB.out.trans hbel.out)
        have HR2 := Lib.hid (HROW.out.below hbel.out (fun b hb _ => hb))
        clear hown hbel HO HB HROW
        go_roundw
        all_goals clear eI
        case rel => exact ⟨i + 1, by omega, by go_num, HO2, HR2, HB2⟩
        case measure => simp [intOf]; omega
    · obtain rfl : i = l.length := by omega
      rw [HW.out] at HO
      obtain ⟨A', c', rfl, _, _, hrow⟩ := own_row1 HO.out
      have HRO := Lib.hid (hrow.weak (Q := fun b => w.heap.size ≤ b) fun b hb _ => Nat.le_trans HB1.out.size hb.1)
      clear hrow
      go_wp2_with fail
      go_ret
      exact LRes.of HRO.out (HB1.out.trans (HB.out.mono HB1.out.size))
end Go.Proofs.YtdbhboglccggdaaGreatDoor

set_option maxRecDepth 100000
set_option linter.unusedVariables false
set_option linter.unusedSimpArgs false
namespace Go.Proofs.YtdbhboglccggdaaGreatDoor
open Go.RowKit Go.Shelf
/-- The parts that both hold, of the first n. -/
def shN (L : List Pt) (R : Nat) (a b : Int) (n : Nat) : List Nat := (List.range n).filter fun (k : Nat) => decide (a ≠ b) && (hasI (LK L R (k : Int)) a && hasI (LK L R (k : Int)) b)
theorem shN_succ (L : List Pt) (R : Nat) (a b : Int) (n : Nat) : shN L R a b (n + 1) = shN L R a b n ++ (if (decide (a ≠ b) && (hasI (LK L R (n : Int)) a && hasI (LK L R (n : Int)) b)) = true then [n] else []) := by
  unfold shN
  rw [List.range_succ, List.filter_append]
  congr 1
  rw [List.filter_cons, List.filter_nil]
theorem shN_len (L : List Pt) (R : Nat) (a b : Int) (n : Nat) : (shN L R a b n).length ≤ n := by
  unfold shN
  have := List.length_filter_le (fun (k : Nat) => decide (a ≠ b) && (hasI (LK L R (k : Int)) a && hasI (LK L R (k : Int)) b)) (List.range n)
  rwa [List.length_range] at this
theorem shN_end (L : List Pt) (R : Nat) (a b : Int) : shN L R a b 8 = sharedL L R a b := by
  rw [shared_eq]
  unfold shN
  by_cases h : a = b
  · rw [if_pos h, List.filter_eq_nil_iff]
    intro k _
    rw [h]
    simp
  · rw [if_neg h]
    apply List.filter_congr
    intro k _
    rw [decide_eq_true h, Bool.true_and]
theorem own_below {base n : Nat} {e : TypeId} {v : Value} {l : List Value} {x y : World} (ho : x.ownsRow base e 1 v n l) (hb : Below x.heap.size x y) : y.ownsRow base e 1 v n l := by
  refine ⟨ho.1, ?_⟩
  rcases ho.2 with h | ⟨g, cap, cur, hv, hg, hh, hr⟩
  · exact .inl h
  · exact .inr ⟨g, cap, cur, hv, hg, (hb.block g (Array.getElem?_eq_some_iff.1 hh).1).trans hh, hr⟩
/-- While the reference gathers: what it looks at lies below M, what it gathers from there on. -/
structure LJ (w : World) (C : Array Value) (L : List Pt) (A1 A2 : Option Addr) (M : Nat) (x : World) : Prop where
  p : Row .u64 x (fun b => b < M) A1 (L.map (·.1))
  o : Row .i64 x (fun b => b < M) A2 (L.map (·.2))
  box : x.heap[w.heap.size]? = some (.cells C 33)
  below : Below w.heap.size w x
  size : M ≤ x.heap.size
  lt : w.heap.size < M
theorem LI.lj {w : World} {C : Array Value} {L : List Pt} {A1 A2 : Option Addr} {x : World} (h : LI w C L A1 A2 x) : LJ w C L A1 A2 x.heap.size x :=
  ⟨h.rr.p.weak fun _ _ hl => hl, h.rr.o.weak fun _ _ hl => hl, h.box, h.below, Nat.le_refl _, (Array.getElem?_eq_some_iff.1 h.box).1⟩
theorem LJ.rr {w : World} {C : Array Value} {L : List Pt} {A1 A2 : Option Addr} {M : Nat} {x : World} (h : LJ w C L A1 A2 M x) : RR L A1 A2 x := ⟨h.p.weak fun _ _ _ => trivial, h.o.weak fun _ _ _ => trivial⟩
theorem LJ.step {w : World} {C : Array Value} {L : List Pt} {A1 A2 : Option Addr} {M : Nat} {x y : World} (h : LJ w C L A1 A2 M x) (hb : Below M x y) : LJ w C L A1 A2 M y :=
  ⟨h.p.below hb fun _ hk _ => hk, h.o.below hb fun _ hk _ => hk, (hb.block _ h.lt).trans h.box, h.below.trans (hb.mono (Nat.le_of_lt h.lt)), Nat.le_trans h.size hb.size, h.lt⟩
theorem LJ.grow {w : World} {C : Array Value} {L : List Pt} {A1 A2 : Option Addr} {M : Nat} {x y : World} (h : LJ w C L A1 A2 M x) (hb : Below x.heap.size x y) : LJ w C L A1 A2 M y := h.step (hb.mono h.size)
theorem LJ.own {w : World} {C : Array Value} {L : List Pt} {A1 A2 : Option Addr} {M n : Nat} {e : TypeId} {v : Value} {l : List Value} {x y : World} (h : LJ w C L A1 A2 M x) (ho : x.ownsRow M e 1 v n l) (hg : x.grownBy y v.ownBlock) : LJ w C L A1 A2 M y :=
  h.step ((Below.refl _ _).grown hg h.size fun k hk => (ho.lt k hk).1)
set_option maxHeartbeats 8000000 in
theorem rshared13_any (L : List Pt) (N R : Nat) (hR : R ≤ 8) (hL : L.length ≤ 200) (A1 A2 : Option Addr) (c1 c2 : Nat) (a b : Int) (w : World) (h : RR L A1 A2 w) :
    Calls Tryz.prog 20 #[.agg (rrC N R L.length A1 c1 A2 c2), .int .i64 a, .int .i64 b] w (LRes (sharedL L R a b) w) := by
  have HLI := Lib.hid (LI.start (C := rrC N R L.length A1 c1 A2 c2) h)
  have HC := Lib.hid (fun (k : Nat) (hk : k < 8) x hx => rpartL_any L N R hR hL A1 A2 c1 c2 k hk x hx)
  have HR8 := Lib.hid hR
  have HEND := Lib.hid (shN_end L R a b)
  obtain ⟨C, hC⟩ : ∃ C, C = rrC N R L.length A1 c1 A2 c2 := ⟨_, rfl⟩
  have HS : Hid (C.size = 4) := Lib.hid (by rw [hC]; rfl)
  rw [← hC] at HLI HC ⊢
  clear h hC hR hL
  go_enter Tryz.func20, Tryz.ntmps20
  go_wp2_with fail
  have HLJ := Lib.hid HLI.out.lj
  obtain ⟨y1, hy1⟩ : ∃ y1, y1 = w.alloc (.cells C 33) := ⟨_, rfl⟩
  have HY := Lib.hid (show w.heap.size ≤ y1.heap.size by rw [hy1, World.size_alloc]; omega)
  rw [← hy1] at HLJ ⊢
  clear hy1 HLI
  go_loopw [7, 8] (fun v iv x => ∃ i : Nat, i ≤ 8 ∧ iv = .int .i64 i ∧ Hid (x.ownsRow y1.heap.size 3 1 v (shN L R a b i).length (vals .i64 (shN L R a b i))) ∧ Hid (LJ w C L A1 A2 y1.heap.size x)) (fun _ iv _ => 8 - (intOf iv).toNat)
  case atStart => exact ⟨0, by omega, rfl, World.ownsRow_nil _ _ _ _, HLJ⟩
  case round =>
    clear HLJ
    obtain ⟨i, hi, rfl, HO, HLI⟩ := hrel
    by_cases hlt : i < 8
    · have hlt' : (i : Int) < 8 := by omega
      have eI : IntKind.i64.wrap ((i : Int) + 1) = (i : Int) + 1 := by rw [IntKind.wrap_i64]; omega
      have HSU := Lib.hid (shN_succ L R a b i)
      have HSL := Lib.hid (shN_len L R a b i)
      have HCK := Lib.hid (HC.out i hlt wr HLI.out.rr)
      have HLK := Lib.hid (LK_len L R (i : Int))
      obtain ⟨lk, hlk⟩ : ∃ lk, lk = LK L R (i : Int) := ⟨_, rfl⟩
      obtain ⟨acc, hacc⟩ : ∃ acc, acc = shN L R a b i := ⟨_, rfl⟩
      rw [← hlk] at HSU HCK HLK
      rw [← hacc] at HO HSU HSL
      clear hlk hacc
      go_wp2_with (refine wpList_load_w (by go_simp) 33 _ rfl w.heap.size 0 rfl C _ (row_range HLI.out.box) Tryz.underlying33 rfl (by rw [HS.out]; exact size33) ?_)
      refine HCK.out.mono ?_
      rintro e y2 ⟨B, c, rfl, hr2, hb2⟩
      have HL2 := Lib.hid (HLI.out.grow hb2)
      have HO2 := Lib.hid (own_below HO.out hb2)
      have HZ2 := Lib.hid HL2.out.size
      have HROW := Lib.hid hr2
      have HM : Hid (lk.length ≤ 1000000) := Lib.hid (by have := HLK.out; have := HR8.out; omega)
      clear hr2 hb2 HLI HO HCK HLK
      by_cases hab : a = b
      · have hne : (a != b) = false := by rw [bne_eq_false_iff_eq]; exact hab
        rw [decide_eq_false (fun e => e hab), Bool.false_and, if_neg (by decide), List.append_nil] at HSU
        clear hab HROW
        go_wp2_with fail
        go_roundw
        all_goals clear eI
        case rel => exact ⟨i + 1, by omega, by go_num, by rw [HSU.out]; exact HO2, HL2⟩
        case measure => simp [intOf]; omega
      · have hne : (a != b) = true := by rw [bne_iff_ne]; exact hab
        rw [decide_eq_true hab, Bool.true_and] at HSU
        clear hab
        have HI1 := Lib.hid (rin_nat lk c B a y2 HROW.out HM.out)
        have HI2 := Lib.hid (rin_nat lk c B b y2 HROW.out HM.out)
        cases h1 : hasI lk a with
        | false =>
          rw [h1, Bool.false_and, if_neg (by decide), List.append_nil] at HSU
          rw [h1] at HI1
          clear h1 HI2
          go_wp2_with fail
          refine HI1.out.mono ?_
          rintro e z ⟨rfl, rfl⟩
          clear HI1
          go_wp2_with fail
          go_roundw
          all_goals clear eI
          case rel => exact ⟨i + 1, by omega, by go_num, by rw [HSU.out]; exact HO2, HL2⟩
          case measure => simp [intOf]; omega
        | true =>
          rw [h1, Bool.true_and] at HSU
          rw [h1] at HI1
          clear h1
          cases h2 : hasI lk b with
          | false =>
            rw [h2, if_neg (by decide), List.append_nil] at HSU
            rw [h2] at HI2
            clear h2
            go_wp2_with fail
            refine HI1.out.mono ?_
            rintro e z ⟨rfl, rfl⟩
            clear HI1
            go_wp2_with fail
            refine HI2.out.mono ?_
            rintro e z ⟨rfl, rfl⟩
            clear HI2
            go_wp2_with fail
            go_roundw
            all_goals clear eI
            case rel => exact ⟨i + 1, by omega, by go_num, by rw [HSU.out]; exact HO2, HL2⟩
            case measure => simp [intOf]; omega
          | true =>
            rw [h2, if_pos rfl] at HSU
            rw [h2] at HI2
            clear h2
            go_wp2_with fail
            refine HI1.out.mono ?_
            rintro e z ⟨rfl, rfl⟩
            clear HI1
            go_wp2_with fail
            refine HI2.out.mono ?_
            rintro e z ⟨rfl, rfl⟩
            clear HI2
            go_wp2_with (refine wpList_append_oneG rfl (.tmp 30) (.tmp 32) 24 rfl y1.heap.size 3 (.int .i64 0) 8 Tryz.underlying24 info3 rfl _ acc.length (vals .i64 acc) rfl HO2.out (.int .i64 (i : Int)) 3 rfl rfl (by have := HSL.out; unfold maxLen; omega) (by have := HSL.out; omega) HZ2.out ?_; intro v' w5 hown hgr)
            have HO3 : Hid (w5.ownsRow y1.heap.size 3 1 v' (shN L R a b (i + 1)).length (vals .i64 (shN L R a b (i + 1)))) := Lib.hid (by
              rw [HSU.out, vals_append, List.length_append]
              exact hown.out)
            have HL3 := Lib.hid (HL2.out.own HO2.out hgr.out)
            clear hown hgr
            go_roundw
            all_goals clear eI
            case rel => exact ⟨i + 1, by omega, by go_num, HO3, HL3⟩
            case measure => simp [intOf]; omega
    · obtain rfl : i = 8 := by omega
      rw [HEND.out] at HO
      obtain ⟨A', c', rfl, _, _, hrow⟩ := own_row1 HO.out
      have HRO := Lib.hid (hrow.weak (Q := fun b => w.heap.size ≤ b) fun b hb _ => Nat.le_trans HY.out hb.1)
      clear hrow
      go_wp2_with fail
      go_ret
      exact LRes.of HRO.out HLI.out.below
/-- The first n nodes with which a node shares a part. -/
def peN (L : List Pt) (R : Nat) (node : Int) (n : Nat) : List Nat := (List.range n).filterMap fun (m : Nat) => if 0 < (sharedL L R node ((m + 1 : Nat) : Int)).length then some (m + 1) else none
theorem peN_succ (L : List Pt) (R : Nat) (node : Int) (n : Nat) : peN L R node (n + 1) = peN L R node n ++ (if 0 < (sharedL L R node ((n + 1 : Nat) : Int)).length then [n + 1] else []) := by
  unfold peN
  rw [List.range_succ, List.filterMap_append]
  congr 1
  simp only [List.filterMap_cons, List.filterMap_nil]
  by_cases h : 0 < (sharedL L R node ((n + 1 : Nat) : Int)).length
  · rw [if_pos h, if_pos h]
  · rw [if_neg h, if_neg h]
theorem peN_step (L : List Pt) (R : Nat) (node : Int) {d : Nat} (h : 1 ≤ d) : peN L R node d = peN L R node (d - 1) ++ (if 0 < (sharedL L R node (d : Int)).length then [d] else []) := by
  obtain ⟨n, rfl⟩ : ∃ n, d = n + 1 := ⟨d - 1, by omega⟩
  exact peN_succ L R node n
theorem peN_len (L : List Pt) (R : Nat) (node : Int) (n : Nat) : (peN L R node n).length ≤ n := by
  unfold peN
  have := List.length_filterMap_le (fun (m : Nat) => if 0 < (sharedL L R node ((m + 1 : Nat) : Int)).length then some (m + 1) else none) (List.range n)
  rwa [List.length_range] at this
theorem peN_mem (L : List Pt) (R : Nat) (node : Int) (n x : Nat) : x ∈ peN L R node n ↔ (1 ≤ x ∧ x ≤ n) ∧ 0 < (sharedL L R node (x : Int)).length := by
  unfold peN
  rw [List.mem_filterMap]
  constructor
  · rintro ⟨m, hm, h⟩
    rw [List.mem_range] at hm
    split at h
    · rename_i h2
      injection h with h
      subst h
      exact ⟨by omega, h2⟩
    · cases h
  · rintro ⟨h1, h2⟩
    refine ⟨x - 1, by rw [List.mem_range]; omega, ?_⟩
    rw [show x - 1 + 1 = x by omega, if_pos h2]
theorem peN_rise (L : List Pt) (R : Nat) (node : Int) (n : Nat) : (peN L R node n).Pairwise (· < ·) := by
  induction n with
  | zero => exact List.Pairwise.nil
  | succ n ih =>
    rw [peN_succ, List.pairwise_append]
    refine ⟨ih, ?_, fun x hx y hy => ?_⟩
    · split
      · exact List.pairwise_singleton _ _
      · exact List.Pairwise.nil
    · have := ((peN_mem L R node n x).1 hx).1
      split at hy
      · rw [List.mem_singleton] at hy
        omega
      · cases hy
set_option maxHeartbeats 8000000 in
theorem rpeers13_any (L : List Pt) (N R : Nat) (hN : N ≤ 8) (hR : R ≤ 8) (hL : L.length ≤ 200) (A1 A2 : Option Addr) (c1 c2 : Nat) (node : Int) (w : World) (h : RR L A1 A2 w) :
    Calls Tryz.prog 22 #[.agg (rrC N R L.length A1 c1 A2 c2), .int .i64 node] w (LRes (peN L R node N) w) := by
  have HLI := Lib.hid (LI.start (C := rrC N R L.length A1 c1 A2 c2) h)
  have HC := Lib.hid (fun (n : Nat) x hx => rshared13_any L N R hR hL A1 A2 c1 c2 node (n : Int) x hx)
  have HN8 := Lib.hid hN
  obtain ⟨C, hC⟩ : ∃ C, C = rrC N R L.length A1 c1 A2 c2 := ⟨_, rfl⟩
  have HS : Hid (C.size = 4) := Lib.hid (by rw [hC]; rfl)
  have HC0 : Hid (C[0]? = some (.int .i64 (N : Int))) := Lib.hid (by rw [hC]; rfl)
  rw [← hC] at HLI HC ⊢
  clear h hC hR hL hN
  go_enter Tryz.func22, Tryz.ntmps22
  go_wp2_with fail
  have HLJ := Lib.hid HLI.out.lj
  obtain ⟨y1, hy1⟩ : ∃ y1, y1 = w.alloc (.cells C 33) := ⟨_, rfl⟩
  have HY := Lib.hid (show w.heap.size ≤ y1.heap.size by rw [hy1, World.size_alloc]; omega)
  rw [← hy1] at HLJ ⊢
  clear hy1 HLI
  go_loopw [5, 6] (fun v iv x => ∃ d : Nat, 1 ≤ d ∧ d ≤ N + 1 ∧ iv = .int .i64 (d : Int) ∧ Hid (x.ownsRow y1.heap.size 3 1 v (peN L R node (d - 1)).length (vals .i64 (peN L R node (d - 1)))) ∧ Hid (LJ w C L A1 A2 y1.heap.size x)) (fun _ iv _ => N + 1 - (intOf iv).toNat)
  case atStart => exact ⟨1, by omega, by omega, rfl, World.ownsRow_nil _ _ _ _, HLJ⟩
  case round =>
    clear HLJ
    obtain ⟨d, hd1, hd2, rfl, HO, HLI⟩ := hrel
    have hc0 : wr.cell? ⟨w.heap.size, 0, none⟩ = some (.int .i64 (N : Int)) := by rw [cell_of_row _ _ _ _ _ _ HLI.out.box]; exact HC0.out
    by_cases hlt : d ≤ N
    · have hlt' : (d : Int) ≤ (N : Int) := by omega
      have eI : IntKind.i64.wrap ((d : Int) + 1) = (d : Int) + 1 := by have := HN8.out; rw [IntKind.wrap_i64]; omega
      have HSU := Lib.hid (peN_step L R node hd1)
      have HSL := Lib.hid (peN_len L R node (d - 1))
      have HCK := Lib.hid (HC.out d wr HLI.out.rr)
      obtain ⟨acc, hacc⟩ : ∃ acc, acc = peN L R node (d - 1) := ⟨_, rfl⟩
      rw [← hacc] at HO HSU HSL
      obtain ⟨sl, hsl⟩ : ∃ sl, sl = (sharedL L R node (d : Int)).length := ⟨_, rfl⟩
      have HCK2 : Hid (Calls Tryz.prog 20 #[.agg C, .int .i64 node, .int .i64 (d : Int)] wr fun e y => ∃ B c, e = .returned (.slice B sl c) ∧ Below wr.heap.size wr y) := Lib.hid (HCK.out.mono (by
        rintro e y ⟨B, c, rfl, _, hb⟩
        exact ⟨B, c, by rw [hsl], hb⟩))
      rw [← hsl] at HSU
      clear hacc hsl HCK
      go_wp2_with (refine wpList_load_w (by go_simp) 33 _ rfl w.heap.size 0 rfl C _ (row_range HLI.out.box) Tryz.underlying33 rfl (by rw [HS.out]; exact size33) ?_)
      refine HCK2.out.mono ?_
      rintro e y2 ⟨B, c, rfl, hb2⟩
      have HL2 := Lib.hid (HLI.out.grow hb2)
      have HO2 := Lib.hid (own_below HO.out hb2)
      have HZ2 := Lib.hid HL2.out.size
      clear hb2 HLI HO HCK2 hc0
      by_cases hs : 0 < sl
      · rw [if_pos hs] at HSU
        have hs' : (0 : Int) < (sl : Int) := by omega
        go_wp2_with (refine wpList_append_oneG rfl (.tmp 19) (.tmp 21) 24 rfl y1.heap.size 3 (.int .i64 0) 8 Tryz.underlying24 info3 rfl _ acc.length (vals .i64 acc) rfl HO2.out (.int .i64 (d : Int)) 3 rfl rfl (by have := HSL.out; have := HN8.out; unfold maxLen; omega) (by have := HSL.out; have := HN8.out; omega) HZ2.out ?_; intro v' w5 hown hgr)
        have HO3 : Hid (w5.ownsRow y1.heap.size 3 1 v' (peN L R node d).length (vals .i64 (peN L R node d))) := Lib.hid (by
          rw [HSU.out, vals_append, List.length_append]
          exact hown.out)
        have HL3 := Lib.hid (HL2.out.own HO2.out hgr.out)
        clear hown hgr
        go_roundw
        all_goals clear eI
        case rel => exact ⟨d + 1, by omega, by omega, by go_num, by rw [Nat.add_sub_cancel]; exact HO3, HL3⟩
        case measure => simp [intOf]; omega
      · rw [if_neg hs, List.append_nil] at HSU
        have hs' : ¬ (0 : Int) < (sl : Int) := by omega
        go_wp2_with fail
        go_roundw
        all_goals clear eI
        case rel => exact ⟨d + 1, by omega, by omega, by go_num, by rw [Nat.add_sub_cancel, HSU.out]; exact HO2, HL2⟩
        case measure => simp [intOf]; omega
    · obtain rfl : d = N + 1 := by omega
      have hlt' : ¬ ((N + 1 : Nat) : Int) ≤ (N : Int) := by omega
      rw [Nat.add_sub_cancel] at HO
      obtain ⟨A', c', rfl, _, _, hrow⟩ := own_row1 HO.out
      have HRO := Lib.hid (hrow.weak (Q := fun b => w.heap.size ≤ b) fun b hb _ => Nat.le_trans HY.out hb.1)
      clear hrow hd1 hd2
      go_wp2_with fail
      go_ret
      exact LRes.of HRO.out HLI.out.below
end Go.Proofs.YtdbhboglccggdaaGreatDoor
