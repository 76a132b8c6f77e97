/- The law RouteTells. -/
import Derived.Test.YtdbhboglccggdaaGreatDoorQD
set_option maxRecDepth 100000
set_option linter.unusedVariables false
set_option linter.unusedSimpArgs false
namespace Go.Proofs.YtdbhboglccggdaaGreatDoor
open Go.RowKit Go.Shelf
theorem pick_same {ls : List Pt} {R : Nat} {s : ByteArray} {us : List Int} (h : rightK s = true → KL ls R s ≠ []) : rpickR ls R s us = pickR ls R s us := by
  unfold rpickR pickR
  cases hr : rightK s with
  | true => rw [if_pos rfl, if_pos rfl, if_neg (h hr)]
  | false => rfl
theorem peer_iff {N V R : Nat} {a : Int} (x : Nat) : Peer (Ring.pts ptAt V N) R a x ↔ (1 ≤ x ∧ x ≤ N) ∧ 0 < (sharedL (Ring.pts ptAt V N) R a (x : Int)).length := by
  constructor
  · rintro ⟨h1, k, h2, h3⟩
    obtain ⟨h4, h5⟩ := partsI_mem h2
    refine ⟨?_, ?_⟩
    · rw [LK_ok _ _ _ h4] at h3
      exact Ring.listOf_node h3
    · rw [shared_eq, if_neg (fun e => h1 e.symm)]
      apply List.length_pos_of_mem (a := k)
      rw [List.mem_filter, Bool.and_eq_true]
      exact ⟨by simpa using h4, h5, hasI_mem.2 ⟨x, h3, rfl⟩⟩
  · rintro ⟨_, h2⟩
    obtain ⟨k, hk⟩ := List.exists_mem_of_length_pos h2
    have hm := shared_mem hk
    rw [shared_eq] at hk
    split at hk
    · cases hk
    · rename_i hne
      rw [List.mem_filter] at hk
      obtain ⟨n, h3, h4⟩ := hasI_mem.1 hm.2
      have : n = x := by omega
      subst this
      refine ⟨fun e => hne e.symm, k, ?_, h3⟩
      unfold partsI
      rw [List.mem_filter]
      exact ⟨hk.1, hm.1⟩
theorem peers_same {N V R : Nat} {a : Int} {l : List Nat} (hl : l.Pairwise (· < ·)) (hm : ∀ x, x ∈ l ↔ Peer (Ring.pts ptAt V N) R a x) : l = peN (Ring.pts ptAt V N) R a N := by
  have hr := peN_rise (Ring.pts ptAt V N) R a N
  have hp : l.Perm (peN (Ring.pts ptAt V N) R a N) := by
    rw [List.perm_ext_iff_of_nodup (hl.imp (fun h => Nat.ne_of_lt h)) (hr.imp (fun h => Nat.ne_of_lt h))]
    intro x
    rw [hm, peer_iff, peN_mem]
  exact hp.eq_of_pairwise (le := (· < ·)) (fun a b _ _ h1 h2 => by omega) hl hr
set_option maxHeartbeats 4000000 in
theorem rtells_big (N V R : Int) (s : ByteArray) (A : Option Addr) (us : List Int) (cu : Nat) (a b : Int) (w : World) (ht : Tabs w) (hbig : 100 < s.size ∨ (¬ 100 < s.size ∧ 30 < us.length)) : Calls Tryz.prog 3 #[.agg (cfg N V R), .string s, .slice A us.length cu, .int .i64 a, .int .i64 b] w fun e w' => e = .returned (.bool true) ∧ Below w.heap.size w w' := by
  have HB := Lib.hid (below1 w (.cells (cfg N V R) 23))
  have HAL := Lib.hid (alive13_any (w.alloc (.cells (cfg N V R) 23)) (ht.below HB.out))
  clear ht
  rcases hbig with h1 | ⟨h1, h2⟩
  · have k1 : (100 : Int) < (s.size : Int) := by omega
    go_enter Tryz.func3, Tryz.ntmps3
    go_wp2_with fail
    refine HAL.out.mono ?_
    rintro e y3 ⟨rfl, hb⟩
    have HAB := Lib.hid (HB.out.trans (hb.mono HB.out.size))
    clear hb HAL
    go_wp2_with fail
    go_ret
    exact ⟨rfl, HAB.out⟩
  · have k1 : ¬ (100 : Int) < (s.size : Int) := by omega
    have k2 : (30 : Int) < (us.length : Int) := by omega
    go_enter Tryz.func3, Tryz.ntmps3
    go_wp2_with fail
    refine HAL.out.mono ?_
    rintro e y3 ⟨rfl, hb⟩
    have HAB := Lib.hid (HB.out.trans (hb.mono HB.out.size))
    clear hb HAL
    go_wp2_with fail
    go_ret
    exact ⟨rfl, HAB.out⟩
set_option maxHeartbeats 4000000 in
theorem rtells_bad (N V R : Int) (s : ByteArray) (A : Option Addr) (us : List Int) (cu : Nat) (a b : Int) (w : World) (ht : Tabs w) (hr : rightC N V R = false) (hs : s.size ≤ 100) (hu : us.length ≤ 30) : Calls Tryz.prog 3 #[.agg (cfg N V R), .string s, .slice A us.length cu, .int .i64 a, .int .i64 b] w fun e w' => e = .returned (.bool true) ∧ Below w.heap.size w w' := by
  have HX := Lib.hid (heap_alloc_new w (.cells (cfg N V R) 23))
  have HB := Lib.hid (below1 w (.cells (cfg N V R) 23))
  have HT := Lib.hid ht
  have HS := Lib.hid (cfg_size N V R)
  have HNB := Lib.hid (new_bad N V R (w.alloc (.cells (cfg N V R) 23)) hr)
  have HRR := Lib.hid (fun x => rright12_any N V R x)
  rw [hr] at HRR
  have k1 : ¬ (100 : Int) < (s.size : Int) := by omega
  have k2 : ¬ (30 : Int) < (us.length : Int) := by omega
  clear ht hr hs hu
  go_enter Tryz.func3, Tryz.ntmps3
  go_wp2_with (refine wpList_load_w (by go_simp) 23 _ rfl w.heap.size 0 rfl (cfg N V R) _ (cfg_range HX.out) Tryz.underlying23 rfl HS.out ?_)
  refine HNB.out.mono ?_
  rintro e y1 ⟨rfl, hb⟩
  have HYB := Lib.hid (HB.out.trans (hb.mono HB.out.size))
  have HX1 := Lib.hid ((hb.block w.heap.size (by simp)).trans HX.out)
  clear hb HX HB HNB
  go_wp2_with fail
  refine (alive13_any y1 (HT.out.below HYB.out)).mono ?_
  rintro e y3 ⟨rfl, hb⟩
  have HAB := Lib.hid (HYB.out.trans (hb.mono HYB.out.size))
  have hx3 := (hb.block w.heap.size (Array.getElem?_eq_some_iff.1 HX1.out).1).trans HX1.out
  have c0 : y3.cell? ⟨w.heap.size, 0, none⟩ = some (.int .i64 N) := by rw [cell_of_row _ _ _ _ _ _ hx3]; rfl
  have c1 : y3.cell? ⟨w.heap.size, 1, none⟩ = some (.int .i64 V) := by rw [cell_of_row _ _ _ _ _ _ hx3]; rfl
  have c2 : y3.cell? ⟨w.heap.size, 2, none⟩ = some (.int .i64 R) := by rw [cell_of_row _ _ _ _ _ _ hx3]; rfl
  clear hb HYB HX1 hx3
  go_wp2_with fail
  refine (HRR.out y3).mono ?_
  rintro e y4 ⟨rfl, rfl⟩
  go_wp2_with fail
  go_ret
  exact ⟨rfl, HAB.out⟩
/-! ### while the law compares -/
def Rl (w : World) (g N V R : Nat) (x y : World) : Prop := Only (fun b => b = g) x y ∧ (RH w g N V R x → RH w g N V R y)
structure TZ (w : World) (g N V R : Nat) (C : Array Value) (L : List Pt) (A1 A2 : Option Addr) (bx : Nat) (A : Option Addr) (us : List Int) (x : World) : Prop where
  r : RH w g N V R x
  p : Row .u64 x (fun b => b ≠ g) A1 (L.map (·.1))
  o : Row .i64 x (fun b => b ≠ g) A2 (L.map (·.2))
  box : x.heap[bx]? = some (.cells C 33)
  ne : bx ≠ g
  u : RowZ x (fun b => b ≠ g) A us
theorem TZ.step {w : World} {g N V R : Nat} {C : Array Value} {L : List Pt} {A1 A2 : Option Addr} {bx : Nat} {A : Option Addr} {us : List Int} {x y : World} (h : TZ w g N V R C L A1 A2 bx A us x) (k : Rl w g N V R x y) : TZ w g N V R C L A1 A2 bx A us y :=
  ⟨k.2 h.r, h.p.kept k.1 (fun _ h e => h e), h.o.kept k.1 (fun _ h e => h e), (k.1.block bx (Array.getElem?_eq_some_iff.1 h.box).1 h.ne).trans h.box, h.ne, h.u.keep fun b hb hl => k.1.block b hl hb⟩
theorem TZ.rr {w : World} {g N V R : Nat} {C : Array Value} {L : List Pt} {A1 A2 : Option Addr} {bx : Nat} {A : Option Addr} {us : List Int} {x : World} (h : TZ w g N V R C L A1 A2 bx A us x) : RR L A1 A2 x := ⟨h.p.weak fun _ _ _ => trivial, h.o.weak fun _ _ _ => trivial⟩
theorem Rl.below {w : World} {g N V R : Nat} (h2 : 2 ≤ w.heap.size) {x y : World} (hb : Below x.heap.size x y) : Rl w g N V R x y := ⟨Only.of_below hb, fun h => h.soft (.of_below hb) h2⟩
/-- A list in the law's hands. -/
def LSm (g : Nat) (l : List Nat) (v : Value) (x : World) : Prop := ∃ B c, v = .slice B l.length c ∧ Row .i64 x (fun b => b ≠ g) B l
theorem LSm.step {w : World} {g N V R : Nat} {l : List Nat} {v : Value} {x y : World} (h : LSm g l v x) (k : Rl w g N V R x y) : LSm g l v y := by
  obtain ⟨B, c, e, hr⟩ := h
  exact ⟨B, c, e, hr.kept k.1 (fun _ h e => h e)⟩
theorem of_LRs {w : World} {g N V R : Nat} {l : List Nat} {x : World} (hx : RH w g N V R x) {e : Ending} {y : World} (h : LRs (fun b => b = g) (RH w g N V R) l x e y) : ∃ v, e = .returned v ∧ Rl w g N V R x y ∧ LSm g l v y := by
  obtain ⟨B, c, rfl, hm, ho, hf⟩ := h
  exact ⟨_, rfl, ⟨ho, fun _ => hf⟩, B, c, rfl, hm.row.weak fun b hb _ e => by have := hx.ring.lt; omega⟩
theorem of_LRes {w : World} {g N V R : Nat} (h2 : 2 ≤ w.heap.size) {l : List Nat} {x : World} (hx : RH w g N V R x) {e : Ending} {y : World} (h : LRes l x e y) : ∃ v, e = .returned v ∧ Rl w g N V R x y ∧ LSm g l v y := by
  obtain ⟨B, c, rfl, hr, hb⟩ := h
  exact ⟨_, rfl, Rl.below h2 hb, B, c, rfl, hr.weak fun b hb _ e => by have := hx.ring.lt; omega⟩
set_option maxHeartbeats 16000000 in
theorem rtells_ok (N V R : Nat) (s : ByteArray) (A : Option Addr) (us : List Int) (cu : Nat) (a b : Int) (w : World) (ht : Tabs w) (hr : rightC N V R = true) (hs : s.size ≤ 100) (hu : us.length ≤ 30) (hA : RowZ w (fun b => b < w.heap.size) A us) : Calls Tryz.prog 3 #[.agg (cfg N V R), .string s, .slice A us.length cu, .int .i64 a, .int .i64 b] w fun e w' => e = .returned (.bool true) ∧ Below w.heap.size w w' := by
  have HLIM := Lib.hid (cfg_limits hr)
  have HX := Lib.hid (heap_alloc_new w (.cells (cfg N V R) 23))
  have HB := Lib.hid (below1 w (.cells (cfg N V R) 23))
  have H2 := Lib.hid ht.two
  have HS := Lib.hid (cfg_size N V R)
  have HSZ : Hid (s.size ≤ maxLen) := Lib.hid (by unfold maxLen; omega)
  have HS2 : Hid (s.size ≤ 2000) := Lib.hid (by omega)
  have HUM : Hid (us.length ≤ 1000000) := Lib.hid (by omega)
  have HU := Lib.hid hA
  have k1 : ¬ (100 : Int) < (s.size : Int) := by omega
  have k2 : ¬ (30 : Int) < (us.length : Int) := by omega
  have HN1 := Lib.hid (new_ok N V R (w.alloc (.cells (cfg N V R) 23)) hr (ht.below HB.out))
  have HTB := Lib.hid (fun x (hx : Below w.heap.size w x) => ht.below hx)
  clear ht hr hs hu hA
  go_enter Tryz.func3, Tryz.ntmps3
  go_wp2_with (refine wpList_load_w (by go_simp) 23 _ rfl w.heap.size 0 rfl (cfg N V R) _ (cfg_range HX.out) Tryz.underlying23 rfl HS.out ?_)
  refine HN1.out.mono ?_
  rintro e y1 ⟨g, rfl, hg, hrg, hb⟩
  have hyb := HB.out.trans (hb.mono HB.out.size)
  rw [World.size_alloc] at hg
  have HG := Lib.hid hg
  have hr1 : RH w g N V R y1 := ⟨hrg, HTB.out _ hyb, by have := hb.size; simpa using this, hyb, (hb.block w.heap.size (by simp)).trans HX.out⟩
  have hc0 := hr1.box0
  have hc1 := hr1.box1
  have hc2 := hr1.box2
  have HR1 := Lib.hid hr1
  have HU1 : Hid (RowZ y1 (fun b => b ≠ g) A us) := Lib.hid ((HU.out.keep fun b hb hl => hyb.block b hb).weak fun b hb _ e => by omega)
  have HE : Hid (EP w g N V R) := Lib.hid (env_holds H2.out hg HLIM.out.2.1 HLIM.out.2.2.2.1 (by have := HLIM.out; omega) (N := N) (V := V) (R := R))
  have HNW := Lib.hid (rnew_any N V R HLIM.out.2.1 HLIM.out.2.2.2.1 y1)
  have hz := (zero_of_info info33).1
  obtain ⟨Z, hZ⟩ : ∃ Z : Array Value, Z = #[.int .i64 0, .int .i64 0, .slice none 0 0, .slice none 0 0] := ⟨_, rfl⟩
  have HZS : Hid (Z.size = 4) := by rw [hZ]; exact rfl
  rw [← hZ] at hz
  have HR8 : Hid (R ≤ 8) := Lib.hid (by have := HLIM.out; omega)
  have HN8 : Hid (N ≤ 8) := Lib.hid HLIM.out.2.1
  have HLL : Hid ((Ring.pts ptAt V N).length ≤ 200) := Lib.hid (by
    rw [Ring.pts_length]
    have := Nat.mul_le_mul HLIM.out.2.1 HLIM.out.2.2.2.1
    omega)
  have HPS := Lib.hid (pick_same (ls := Ring.pts ptAt V N) (R := R) (s := s) (us := us) (fun hk e => by
    have h1 : (KL (Ring.pts ptAt V N) R s).length = R := by
      rw [KL_yes hk, LK_ok _ _ _ (partK_lt s)]
      exact Ring.listOf_length (by have := HLIM.out; omega) HLIM.out.2.2.2.2.2
    rw [e] at h1
    have := HLIM.out
    simp at h1
    omega))
  clear hg hrg hb hyb hr1 HX HB HN1 HTB HS HU hZ
  go_wp2_with fail
  refine HNW.out.mono ?_
  rintro e y2 ⟨A1, c1, A2, c2, rfl, hrp, hro, hb⟩
  obtain ⟨L, hL⟩ : ∃ L, L = Ring.pts ptAt V N := ⟨_, rfl⟩
  have HPI := Lib.hid (fun x (h : RH w g N V R x) (h2 : RowZ x (fun b => b < x.heap.size ∧ ¬ b = g) A us) => pick_env HE.out (fun _ h => h.tabs) s HSZ.out A cu us x h2 HUM.out h)
  have HC13 := Lib.hid (fun x hx => rtlist_env HE.out (fun _ h => h.tabs) s HSZ.out x hx)
  have HC15 := Lib.hid (fun x hx => rtholds_env HE.out (fun _ h => h.tabs) a s HSZ.out x hx)
  have HC17 := Lib.hid (fun x hx => rtothers_env HE.out (fun _ h => h.tabs) a s HSZ.out x hx)
  have HC19 := Lib.hid (fun x hx => rtshared_env HE.out a b x hx)
  have HC21 : Hid (∀ x, RH w g N V R x → Calls Tryz.prog 21 #[.pointer (some ⟨g, 0, none⟩), .int .i64 a] x (LRs (fun b => b = g) (RH w g N V R) (peN (Ring.pts ptAt V N) R a N) x)) := Lib.hid (fun x hx => (peers_env HE.out a x hx).mono (by
    rintro e y ⟨m, h1, h2, _, h⟩
    rw [peers_same h1 h2] at h
    exact h))
  rw [← hL] at hrp hro HLL HPS HPI HC13 HC15 HC17 HC19 HC21 ⊢
  have HRP := Lib.hid (fun x hx hy => rpick13_any L N R HR8.out HLL.out A1 A2 c1 c2 s HS2.out A us cu HUM.out x hx hy)
  have HF14 := Lib.hid (fun x hx => rlist13_any L N R HR8.out HLL.out A1 A2 c1 c2 s HS2.out x hx)
  have HF18 := Lib.hid (fun x hx => rothers13_any L N R HR8.out HLL.out A1 A2 c1 c2 s HS2.out a x hx)
  have HF20 := Lib.hid (fun x hx => rshared13_any L N R HR8.out HLL.out A1 A2 c1 c2 a b x hx)
  have HF22 := Lib.hid (fun x hx => rpeers13_any L N R HN8.out HR8.out HLL.out A1 A2 c1 c2 a x hx)
  obtain ⟨C, hC⟩ : ∃ C, C = rrC N R L.length A1 c1 A2 c2 := ⟨_, rfl⟩
  have HCS : Hid (C.size = 4) := Lib.hid (by rw [hC]; rfl)
  have HCO : Hid (C.all (·.oneCell') = true) := Lib.hid (by rw [hC]; exact rr_one N R L.length A1 c1 A2 c2)
  rw [← hC] at HRP HF14 HF18 HF20 HF22 ⊢
  have HXZ := Lib.hid (heap_alloc_new y2 (.cells Z 33))
  have hba := below1 y2 (.cells Z 33)
  have hbs := below_setRow' (g := y2.heap.size) hba (Nat.le_refl _) C
  have hboxs := setRow_heap _ _ _ C _ _ (heap_alloc_new y2 (.cells Z 33))
  have HTZ : Hid (TZ w g N V R C L A1 A2 y2.heap.size A us ((y2.alloc (.cells Z 33)).setRow y2.heap.size C)) := Lib.hid (by
    have h2 := (Rl.below (g := g) (N := N) (V := V) (R := R) H2.out hb).2 HR1.out
    have hl := h2.ring.lt
    refine ⟨(Rl.below H2.out hbs).2 h2, ?_, ?_, hboxs, fun e => by omega, ?_⟩
    · exact (hrp.weak (Q := fun b => b ≠ g) (fun b hb1 _ e => by have := HR1.out.ring.lt; omega)).grow hbs
    · exact (hro.weak (Q := fun b => b ≠ g) (fun b hb1 _ e => by have := HR1.out.ring.lt; omega)).grow hbs
    · exact (HU1.out.keep fun b hb1 hl1 => hb.block b hl1).keep (fun b hb1 hl1 => hbs.block b hl1))
  have HPN : Hid (RowZ ((y2.alloc (.cells Z 33)).setRow y2.heap.size C) (fun b => b < ((y2.alloc (.cells Z 33)).setRow y2.heap.size C).heap.size ∧ ¬ b = g) A us) := Lib.hid (HTZ.out.u.weak fun b hb hl => ⟨hl, hb⟩)
  obtain ⟨x3, hx3⟩ : ∃ x3, x3 = (y2.alloc (.cells Z 33)).setRow y2.heap.size C := ⟨_, rfl⟩
  obtain ⟨bx, hbx⟩ : ∃ bx, bx = y2.heap.size := ⟨_, rfl⟩
  obtain ⟨pr, hpr⟩ : ∃ pr, pr = pickR L R s us := ⟨_, rfl⟩
  obtain ⟨l, hl⟩ : ∃ l, l = KL L R s := ⟨_, rfl⟩
  obtain ⟨lo, hlo⟩ : ∃ lo, lo = without (KL L R s) a := ⟨_, rfl⟩
  obtain ⟨lsh, hlsh⟩ : ∃ lsh, lsh = sharedL L R a b := ⟨_, rfl⟩
  obtain ⟨lp, hlp⟩ : ∃ lp, lp = peN L R a N := ⟨_, rfl⟩
  obtain ⟨hv, hhv⟩ : ∃ hv, hv = hasI (KL L R s) a := ⟨_, rfl⟩
  have HHV : Hid (hv = hasI l a) := Lib.hid (by rw [hhv, hl])
  have HLE : Hid (l.length ≤ 1000000 ∧ lo.length ≤ 1000000 ∧ lsh.length ≤ 1000000 ∧ lp.length ≤ 1000000) := Lib.hid (by
    have h1 := KL_len L R s
    have h2 := without_len (KL L R s) a
    have h3 := shared_len L R a b
    have h4 := peN_len L R a N
    have h5 := HR8.out
    have h6 := HN8.out
    rw [hl, hlo, hlsh, hlp]
    omega)
  rw [HPS.out] at HRP
  rw [← hpr] at HPI HRP
  rw [← hhv] at HC15
  rw [← hlo] at HC17 HF18
  rw [← hl] at HC13 HF14
  rw [← hlsh] at HC19 HF20
  rw [← hlp] at HC21 HF22
  obtain ⟨pn, pe⟩ := pr
  have hbb1 : (pn == pn) = true := by simp
  have hbb2 : (pe == pe) = true := by simp
  have hbb3 : (hv == hv) = true := by simp
  clear hpr hl hlo hlsh hlp hhv hC hL hrp hro hb hba hbs hboxs hc0 hc1 hc2 HU1 HR1
  go_wp2_with (refine wpList_store_row rfl 33 _ _ rfl y2.heap.size C rfl rfl 33 _ HXZ.out (by rw [HCS.out]; exact size33) (by rw [HZS.out, HCS.out]) HCO.out ?_)
  rw [← hx3] at HTZ HPN ⊢
  rw [← hbx] at HTZ ⊢
  clear hx3 hbx hz HXZ
  refine (HPI.out x3 HTZ.out.r HPN.out).mono ?_
  rintro e x4 ⟨rfl, ho, hf⟩
  have HTZ4 := Lib.hid (HTZ.out.step ⟨ho, fun _ => hf⟩)
  clear ho hf HTZ HPN HPI
  go_wp2_with (refine wpList_load_w (by go_simp) 33 _ rfl bx 0 rfl C _ (row_range HTZ4.out.box) Tryz.underlying33 rfl (by rw [HCS.out]; exact size33) ?_)
  refine (HRP.out x4 HTZ4.out.rr (HTZ4.out.u.weak fun b hb hl => hl)).mono ?_
  rintro e x5 ⟨rfl, hb⟩
  have HTZ5 := Lib.hid (HTZ4.out.step (Rl.below H2.out hb))
  have HD0 := Lib.hid (HTZ5.out.step (Rl.below (y := x5.drew) H2.out ⟨rfl, rfl, rfl, Nat.le_refl _, fun _ _ => rfl⟩))
  clear hb HTZ4 HTZ5 HRP
  go_wp2_with fail
  refine WM.wp_region_kinds (fun _ x y => Rl w g N V R x y) (fun _ x => TZ w g N V R C L A1 A2 bx A us x) (fun x => TZ w g N V R C L A1 A2 bx A us x)
    [(0, .val (.bool true) fun _ => True), (14, .mem (LSm g l)), (15, .val (.agg C) fun _ => True), (17, .mem (LSm g l)), (18, .val (.bool true) fun _ => True), (24, .val (.bool hv) fun _ => True), (25, .val (.agg C) fun _ => True), (27, .mem (LSm g l)), (29, .val (.bool hv) fun _ => True), (36, .mem (LSm g lo)), (37, .val (.agg C) fun _ => True), (40, .mem (LSm g lo)), (41, .val (.bool true) fun _ => True), (47, .mem (LSm g lsh)), (48, .val (.agg C) fun _ => True), (51, .mem (LSm g lsh)), (52, .val (.bool true) fun _ => True), (57, .mem (LSm g lp)), (58, .val (.agg C) fun _ => True), (60, .mem (LSm g lp)), (61, .val (.bool true) fun _ => True)]
    (by kernel_rfl) (by kernel_rfl) (fun _ x y hb h => h.step hb) (fun _ _ x y _ hb h => h.step hb) ?_ HD0.out (fun _ => HD0.out) ?_
  · intro z hz
    simp only [List.mem_cons, List.mem_nil_iff, or_false] at hz
    rcases hz with rfl | rfl | rfl | rfl | rfl | rfl | rfl | rfl | rfl | rfl | rfl | rfl | rfl | rfl | rfl | rfl | rfl | rfl | rfl | rfl | rfl
    · exact fun _ _ _ _ _ _ => trivial
    · exact fun j v x y hne hr h => LSm.step h hr
    · exact fun _ _ _ _ _ _ => trivial
    · exact fun j v x y hne hr h => LSm.step h hr
    · exact fun _ _ _ _ _ _ => trivial
    · exact fun _ _ _ _ _ _ => trivial
    · exact fun _ _ _ _ _ _ => trivial
    · exact fun j v x y hne hr h => LSm.step h hr
    · exact fun _ _ _ _ _ _ => trivial
    · exact fun j v x y hne hr h => LSm.step h hr
    · exact fun _ _ _ _ _ _ => trivial
    · exact fun j v x y hne hr h => LSm.step h hr
    · exact fun _ _ _ _ _ _ => trivial
    · exact fun j v x y hne hr h => LSm.step h hr
    · exact fun _ _ _ _ _ _ => trivial
    · exact fun j v x y hne hr h => LSm.step h hr
    · exact fun _ _ _ _ _ _ => trivial
    · exact fun j v x y hne hr h => LSm.step h hr
    · exact fun _ _ _ _ _ _ => trivial
    · exact fun j v x y hne hr h => LSm.step h hr
    · exact fun _ _ _ _ _ _ => trivial
  refine WM.mono_val rfl rfl (fun x hD hF => ?_) ?_
  · go_simp
    refine (alive13_any x hD.r.tabs).mono ?_
    rintro e y ⟨rfl, hb⟩
    exact ⟨_, rfl, Rl.below H2.out hb, rfl⟩
  apply Exists.intro
  refine ⟨by simp only [Act.put, List.setIfInBounds_toArray, List.set_cons_succ, List.set_cons_zero]; rfl, ?_⟩
  refine WM.mono_pure rfl rfl ?_
  refine ⟨.bool true, fun x => ?_, ?_⟩
  · rfl
  apply Exists.intro
  refine ⟨by simp only [Act.put, List.setIfInBounds_toArray, List.set_cons_succ, List.set_cons_zero]; rfl, ?_⟩
  refine WM.mono_pure rfl rfl ?_
  refine ⟨.int .i64 pn, fun x => ?_, ?_⟩
  · rfl
  apply Exists.intro
  refine ⟨by simp only [Act.put, List.setIfInBounds_toArray, List.set_cons_succ, List.set_cons_zero]; rfl, ?_⟩
  refine WM.mono_pure rfl rfl ?_
  refine ⟨.int .i64 pn, fun x => ?_, ?_⟩
  · rfl
  apply Exists.intro
  refine ⟨by simp only [Act.put, List.setIfInBounds_toArray, List.set_cons_succ, List.set_cons_zero]; rfl, ?_⟩
  refine WM.mono_pure rfl rfl ?_
  refine ⟨.bool true, fun x => ?_, ?_⟩
  · go_simp
  apply Exists.intro
  refine ⟨by simp only [Act.put, List.setIfInBounds_toArray, List.set_cons_succ, List.set_cons_zero]; rfl, ?_⟩
  refine WM.mono_pure rfl rfl ?_
  refine ⟨.bool true, fun x => ?_, ?_⟩
  · rfl
  apply Exists.intro
  refine ⟨by simp only [Act.put, List.setIfInBounds_toArray, List.set_cons_succ, List.set_cons_zero]; rfl, ?_⟩
  refine WM.mono_pure rfl rfl ?_
  refine ⟨.bool true, fun x => ?_, ?_⟩
  · rfl
  apply Exists.intro
  refine ⟨by simp only [Act.put, List.setIfInBounds_toArray, List.set_cons_succ, List.set_cons_zero]; rfl, ?_⟩
  refine WM.mono_pure rfl rfl ?_
  refine ⟨.int .i64 pe, fun x => ?_, ?_⟩
  · rfl
  apply Exists.intro
  refine ⟨by simp only [Act.put, List.setIfInBounds_toArray, List.set_cons_succ, List.set_cons_zero]; rfl, ?_⟩
  refine WM.mono_pure rfl rfl ?_
  refine ⟨.int .i64 pe, fun x => ?_, ?_⟩
  · rfl
  apply Exists.intro
  refine ⟨by simp only [Act.put, List.setIfInBounds_toArray, List.set_cons_succ, List.set_cons_zero]; rfl, ?_⟩
  refine WM.mono_pure rfl rfl ?_
  refine ⟨.bool true, fun x => ?_, ?_⟩
  · go_simp
  apply Exists.intro
  refine ⟨by simp only [Act.put, List.setIfInBounds_toArray, List.set_cons_succ, List.set_cons_zero]; rfl, ?_⟩
  refine WM.mono_pure rfl rfl ?_
  refine ⟨.bool true, fun x => ?_, ?_⟩
  · rfl
  apply Exists.intro
  refine ⟨by simp only [Act.put, List.setIfInBounds_toArray, List.set_cons_succ, List.set_cons_zero]; rfl, ?_⟩
  refine WM.mono_pure rfl rfl ?_
  refine ⟨.bool true, fun x => ?_, ?_⟩
  · rfl
  apply Exists.intro
  refine ⟨by simp only [Act.put, List.setIfInBounds_toArray, List.set_cons_succ, List.set_cons_zero]; rfl, ?_⟩
  refine WM.mono_pure rfl rfl ?_
  refine ⟨.pointer (some ⟨g, 0, none⟩), fun x => ?_, ?_⟩
  · rfl
  apply Exists.intro
  refine ⟨by simp only [Act.put, List.setIfInBounds_toArray, List.set_cons_succ, List.set_cons_zero]; rfl, ?_⟩
  refine WM.mono_pure rfl rfl ?_
  refine ⟨.string s, fun x => ?_, ?_⟩
  · rfl
  apply Exists.intro
  refine ⟨by simp only [Act.put, List.setIfInBounds_toArray, List.set_cons_succ, List.set_cons_zero]; rfl, ?_⟩
  refine WM.mono_mem rfl rfl (fun x hD hF => ?_) (fun v80 => ?_)
  · go_simp
    refine (HC13.out x hD.r).mono ?_
    intro e y hh
    obtain ⟨v, rfl, k1, k2⟩ := of_LRs hD.r hh
    exact ⟨_, rfl, k1, k2⟩
  apply Exists.intro
  refine ⟨by simp only [Act.put, List.setIfInBounds_toArray, List.set_cons_succ, List.set_cons_zero]; rfl, ?_⟩
  refine WM.mono_val rfl rfl (fun x hD hF => ?_) ?_
  · have hl := run_loadVar_arr (P := Tryz.prog) x bx 0 33 C _ (row_range hD.box) Tryz.underlying33 rfl (by rw [HCS.out]; exact size33)
    rw [exec_load 33 (.tmp 13) rfl bx 0 rfl hl]
    exact ⟨⟨Only.refl _ _, id⟩, rfl, trivial⟩
  apply Exists.intro
  refine ⟨by simp only [Act.put, List.setIfInBounds_toArray, List.set_cons_succ, List.set_cons_zero]; rfl, ?_⟩
  refine WM.mono_pure rfl rfl ?_
  refine ⟨.string s, fun x => ?_, ?_⟩
  · rfl
  apply Exists.intro
  refine ⟨by simp only [Act.put, List.setIfInBounds_toArray, List.set_cons_succ, List.set_cons_zero]; rfl, ?_⟩
  refine WM.mono_mem rfl rfl (fun x hD hF => ?_) (fun v83 => ?_)
  · go_simp
    refine (HF14.out x hD.rr).mono ?_
    intro e y hh
    obtain ⟨v, rfl, k1, k2⟩ := of_LRes H2.out hD.r hh
    exact ⟨_, rfl, k1, k2⟩
  apply Exists.intro
  refine ⟨by simp only [Act.put, List.setIfInBounds_toArray, List.set_cons_succ, List.set_cons_zero]; rfl, ?_⟩
  refine WM.mono_val rfl rfl (fun x hD hF => ?_) ?_
  · obtain ⟨B1, k1, e1, r1⟩ : LSm g l v80 x := (hF 14 _ 80 rfl rfl (by decide)).1
    obtain ⟨B2, k2, e2, r2⟩ : LSm g l v83 x := (hF 17 _ 83 rfl rfl (by decide)).1
    subst e1 e2
    have hsa := same_any l l k1 k2 B1 B2 x r1 r2 HLE.out.1
    rw [decide_eq_true (rfl : l = l)] at hsa
    go_simp
    refine hsa.mono ?_
    rintro e y ⟨rfl, hb⟩
    exact ⟨_, rfl, Rl.below H2.out hb, rfl⟩
  apply Exists.intro
  refine ⟨by simp only [Act.put, List.setIfInBounds_toArray, List.set_cons_succ, List.set_cons_zero]; rfl, ?_⟩
  refine WM.mono_pure rfl rfl ?_
  refine ⟨.bool true, fun x => ?_, ?_⟩
  · rfl
  apply Exists.intro
  refine ⟨by simp only [Act.put, List.setIfInBounds_toArray, List.set_cons_succ, List.set_cons_zero]; rfl, ?_⟩
  refine WM.mono_pure rfl rfl ?_
  refine ⟨.bool true, fun x => ?_, ?_⟩
  · rfl
  apply Exists.intro
  refine ⟨by simp only [Act.put, List.setIfInBounds_toArray, List.set_cons_succ, List.set_cons_zero]; rfl, ?_⟩
  refine WM.mono_pure rfl rfl ?_
  refine ⟨.pointer (some ⟨g, 0, none⟩), fun x => ?_, ?_⟩
  · rfl
  apply Exists.intro
  refine ⟨by simp only [Act.put, List.setIfInBounds_toArray, List.set_cons_succ, List.set_cons_zero]; rfl, ?_⟩
  refine WM.mono_pure rfl rfl ?_
  refine ⟨.int .i64 a, fun x => ?_, ?_⟩
  · rfl
  apply Exists.intro
  refine ⟨by simp only [Act.put, List.setIfInBounds_toArray, List.set_cons_succ, List.set_cons_zero]; rfl, ?_⟩
  refine WM.mono_pure rfl rfl ?_
  refine ⟨.string s, fun x => ?_, ?_⟩
  · rfl
  apply Exists.intro
  refine ⟨by simp only [Act.put, List.setIfInBounds_toArray, List.set_cons_succ, List.set_cons_zero]; rfl, ?_⟩
  refine WM.mono_val rfl rfl (fun x hD hF => ?_) ?_
  · go_simp
    refine (HC15.out x hD.r).mono ?_
    rintro e y ⟨rfl, ho, hf⟩
    exact ⟨_, rfl, ⟨ho, fun _ => hf⟩, rfl⟩
  apply Exists.intro
  refine ⟨by simp only [Act.put, List.setIfInBounds_toArray, List.set_cons_succ, List.set_cons_zero]; rfl, ?_⟩
  refine WM.mono_val rfl rfl (fun x hD hF => ?_) ?_
  · have hl := run_loadVar_arr (P := Tryz.prog) x bx 0 33 C _ (row_range hD.box) Tryz.underlying33 rfl (by rw [HCS.out]; exact size33)
    rw [exec_load 33 (.tmp 13) rfl bx 0 rfl hl]
    exact ⟨⟨Only.refl _ _, id⟩, rfl, trivial⟩
  apply Exists.intro
  refine ⟨by simp only [Act.put, List.setIfInBounds_toArray, List.set_cons_succ, List.set_cons_zero]; rfl, ?_⟩
  refine WM.mono_pure rfl rfl ?_
  refine ⟨.string s, fun x => ?_, ?_⟩
  · rfl
  apply Exists.intro
  refine ⟨by simp only [Act.put, List.setIfInBounds_toArray, List.set_cons_succ, List.set_cons_zero]; rfl, ?_⟩
  refine WM.mono_mem rfl rfl (fun x hD hF => ?_) (fun v93 => ?_)
  · go_simp
    refine (HF14.out x hD.rr).mono ?_
    intro e y hh
    obtain ⟨v, rfl, k1, k2⟩ := of_LRes H2.out hD.r hh
    exact ⟨_, rfl, k1, k2⟩
  apply Exists.intro
  refine ⟨by simp only [Act.put, List.setIfInBounds_toArray, List.set_cons_succ, List.set_cons_zero]; rfl, ?_⟩
  refine WM.mono_pure rfl rfl ?_
  refine ⟨.int .i64 a, fun x => ?_, ?_⟩
  · rfl
  apply Exists.intro
  refine ⟨by simp only [Act.put, List.setIfInBounds_toArray, List.set_cons_succ, List.set_cons_zero]; rfl, ?_⟩
  refine WM.mono_val rfl rfl (fun x hD hF => ?_) ?_
  · obtain ⟨B1, k1, e1, r1⟩ : LSm g l v93 x := (hF 27 _ 93 rfl rfl (by decide)).1
    subst e1
    have hin := rin_nat l k1 B1 a x r1 HLE.out.1
    rw [← HHV.out] at hin
    go_simp
    refine hin.mono ?_
    rintro e y ⟨rfl, rfl⟩
    exact ⟨_, rfl, ⟨Only.refl _ _, id⟩, rfl⟩
  apply Exists.intro
  refine ⟨by simp only [Act.put, List.setIfInBounds_toArray, List.set_cons_succ, List.set_cons_zero]; rfl, ?_⟩
  refine WM.mono_pure rfl rfl ?_
  refine ⟨.bool true, fun x => ?_, ?_⟩
  · go_simp
  apply Exists.intro
  refine ⟨by simp only [Act.put, List.setIfInBounds_toArray, List.set_cons_succ, List.set_cons_zero]; rfl, ?_⟩
  refine WM.mono_pure rfl rfl ?_
  refine ⟨.bool true, fun x => ?_, ?_⟩
  · rfl
  apply Exists.intro
  refine ⟨by simp only [Act.put, List.setIfInBounds_toArray, List.set_cons_succ, List.set_cons_zero]; rfl, ?_⟩
  refine WM.mono_pure rfl rfl ?_
  refine ⟨.bool true, fun x => ?_, ?_⟩
  · rfl
  apply Exists.intro
  refine ⟨by simp only [Act.put, List.setIfInBounds_toArray, List.set_cons_succ, List.set_cons_zero]; rfl, ?_⟩
  refine WM.mono_pure rfl rfl ?_
  refine ⟨.pointer (some ⟨g, 0, none⟩), fun x => ?_, ?_⟩
  · rfl
  apply Exists.intro
  refine ⟨by simp only [Act.put, List.setIfInBounds_toArray, List.set_cons_succ, List.set_cons_zero]; rfl, ?_⟩
  refine WM.mono_pure rfl rfl ?_
  refine ⟨.string s, fun x => ?_, ?_⟩
  · rfl
  apply Exists.intro
  refine ⟨by simp only [Act.put, List.setIfInBounds_toArray, List.set_cons_succ, List.set_cons_zero]; rfl, ?_⟩
  refine WM.mono_pure rfl rfl ?_
  refine ⟨.int .i64 a, fun x => ?_, ?_⟩
  · rfl
  apply Exists.intro
  refine ⟨by simp only [Act.put, List.setIfInBounds_toArray, List.set_cons_succ, List.set_cons_zero]; rfl, ?_⟩
  refine WM.mono_mem rfl rfl (fun x hD hF => ?_) (fun v102 => ?_)
  · go_simp
    refine (HC17.out x hD.r).mono ?_
    intro e y hh
    obtain ⟨v, rfl, k1, k2⟩ := of_LRs hD.r hh
    exact ⟨_, rfl, k1, k2⟩
  apply Exists.intro
  refine ⟨by simp only [Act.put, List.setIfInBounds_toArray, List.set_cons_succ, List.set_cons_zero]; rfl, ?_⟩
  refine WM.mono_val rfl rfl (fun x hD hF => ?_) ?_
  · have hl := run_loadVar_arr (P := Tryz.prog) x bx 0 33 C _ (row_range hD.box) Tryz.underlying33 rfl (by rw [HCS.out]; exact size33)
    rw [exec_load 33 (.tmp 13) rfl bx 0 rfl hl]
    exact ⟨⟨Only.refl _ _, id⟩, rfl, trivial⟩
  apply Exists.intro
  refine ⟨by simp only [Act.put, List.setIfInBounds_toArray, List.set_cons_succ, List.set_cons_zero]; rfl, ?_⟩
  refine WM.mono_pure rfl rfl ?_
  refine ⟨.string s, fun x => ?_, ?_⟩
  · rfl
  apply Exists.intro
  refine ⟨by simp only [Act.put, List.setIfInBounds_toArray, List.set_cons_succ, List.set_cons_zero]; rfl, ?_⟩
  refine WM.mono_pure rfl rfl ?_
  refine ⟨.int .i64 a, fun x => ?_, ?_⟩
  · rfl
  apply Exists.intro
  refine ⟨by simp only [Act.put, List.setIfInBounds_toArray, List.set_cons_succ, List.set_cons_zero]; rfl, ?_⟩
  refine WM.mono_mem rfl rfl (fun x hD hF => ?_) (fun v106 => ?_)
  · go_simp
    refine (HF18.out x hD.rr).mono ?_
    intro e y hh
    obtain ⟨v, rfl, k1, k2⟩ := of_LRes H2.out hD.r hh
    exact ⟨_, rfl, k1, k2⟩
  apply Exists.intro
  refine ⟨by simp only [Act.put, List.setIfInBounds_toArray, List.set_cons_succ, List.set_cons_zero]; rfl, ?_⟩
  refine WM.mono_val rfl rfl (fun x hD hF => ?_) ?_
  · obtain ⟨B1, k1, e1, r1⟩ : LSm g lo v102 x := (hF 36 _ 102 rfl rfl (by decide)).1
    obtain ⟨B2, k2, e2, r2⟩ : LSm g lo v106 x := (hF 40 _ 106 rfl rfl (by decide)).1
    subst e1 e2
    have hsa := same_any lo lo k1 k2 B1 B2 x r1 r2 HLE.out.2.1
    rw [decide_eq_true (rfl : lo = lo)] at hsa
    go_simp
    refine hsa.mono ?_
    rintro e y ⟨rfl, hb⟩
    exact ⟨_, rfl, Rl.below H2.out hb, rfl⟩
  apply Exists.intro
  refine ⟨by simp only [Act.put, List.setIfInBounds_toArray, List.set_cons_succ, List.set_cons_zero]; rfl, ?_⟩
  refine WM.mono_pure rfl rfl ?_
  refine ⟨.bool true, fun x => ?_, ?_⟩
  · rfl
  apply Exists.intro
  refine ⟨by simp only [Act.put, List.setIfInBounds_toArray, List.set_cons_succ, List.set_cons_zero]; rfl, ?_⟩
  refine WM.mono_pure rfl rfl ?_
  refine ⟨.bool true, fun x => ?_, ?_⟩
  · rfl
  apply Exists.intro
  refine ⟨by simp only [Act.put, List.setIfInBounds_toArray, List.set_cons_succ, List.set_cons_zero]; rfl, ?_⟩
  refine WM.mono_pure rfl rfl ?_
  refine ⟨.pointer (some ⟨g, 0, none⟩), fun x => ?_, ?_⟩
  · rfl
  apply Exists.intro
  refine ⟨by simp only [Act.put, List.setIfInBounds_toArray, List.set_cons_succ, List.set_cons_zero]; rfl, ?_⟩
  refine WM.mono_pure rfl rfl ?_
  refine ⟨.int .i64 a, fun x => ?_, ?_⟩
  · rfl
  apply Exists.intro
  refine ⟨by simp only [Act.put, List.setIfInBounds_toArray, List.set_cons_succ, List.set_cons_zero]; rfl, ?_⟩
  refine WM.mono_pure rfl rfl ?_
  refine ⟨.int .i64 b, fun x => ?_, ?_⟩
  · rfl
  apply Exists.intro
  refine ⟨by simp only [Act.put, List.setIfInBounds_toArray, List.set_cons_succ, List.set_cons_zero]; rfl, ?_⟩
  refine WM.mono_mem rfl rfl (fun x hD hF => ?_) (fun v113 => ?_)
  · go_simp
    refine (HC19.out x hD.r).mono ?_
    intro e y hh
    obtain ⟨v, rfl, k1, k2⟩ := of_LRs hD.r hh
    exact ⟨_, rfl, k1, k2⟩
  apply Exists.intro
  refine ⟨by simp only [Act.put, List.setIfInBounds_toArray, List.set_cons_succ, List.set_cons_zero]; rfl, ?_⟩
  refine WM.mono_val rfl rfl (fun x hD hF => ?_) ?_
  · have hl := run_loadVar_arr (P := Tryz.prog) x bx 0 33 C _ (row_range hD.box) Tryz.underlying33 rfl (by rw [HCS.out]; exact size33)
    rw [exec_load 33 (.tmp 13) rfl bx 0 rfl hl]
    exact ⟨⟨Only.refl _ _, id⟩, rfl, trivial⟩
  apply Exists.intro
  refine ⟨by simp only [Act.put, List.setIfInBounds_toArray, List.set_cons_succ, List.set_cons_zero]; rfl, ?_⟩
  refine WM.mono_pure rfl rfl ?_
  refine ⟨.int .i64 a, fun x => ?_, ?_⟩
  · rfl
  apply Exists.intro
  refine ⟨by simp only [Act.put, List.setIfInBounds_toArray, List.set_cons_succ, List.set_cons_zero]; rfl, ?_⟩
  refine WM.mono_pure rfl rfl ?_
  refine ⟨.int .i64 b, fun x => ?_, ?_⟩
  · rfl
  apply Exists.intro
  refine ⟨by simp only [Act.put, List.setIfInBounds_toArray, List.set_cons_succ, List.set_cons_zero]; rfl, ?_⟩
  refine WM.mono_mem rfl rfl (fun x hD hF => ?_) (fun v117 => ?_)
  · go_simp
    refine (HF20.out x hD.rr).mono ?_
    intro e y hh
    obtain ⟨v, rfl, k1, k2⟩ := of_LRes H2.out hD.r hh
    exact ⟨_, rfl, k1, k2⟩
  apply Exists.intro
  refine ⟨by simp only [Act.put, List.setIfInBounds_toArray, List.set_cons_succ, List.set_cons_zero]; rfl, ?_⟩
  refine WM.mono_val rfl rfl (fun x hD hF => ?_) ?_
  · obtain ⟨B1, k1, e1, r1⟩ : LSm g lsh v113 x := (hF 47 _ 113 rfl rfl (by decide)).1
    obtain ⟨B2, k2, e2, r2⟩ : LSm g lsh v117 x := (hF 51 _ 117 rfl rfl (by decide)).1
    subst e1 e2
    have hsa := same_any lsh lsh k1 k2 B1 B2 x r1 r2 HLE.out.2.2.1
    rw [decide_eq_true (rfl : lsh = lsh)] at hsa
    go_simp
    refine hsa.mono ?_
    rintro e y ⟨rfl, hb⟩
    exact ⟨_, rfl, Rl.below H2.out hb, rfl⟩
  apply Exists.intro
  refine ⟨by simp only [Act.put, List.setIfInBounds_toArray, List.set_cons_succ, List.set_cons_zero]; rfl, ?_⟩
  refine WM.mono_pure rfl rfl ?_
  refine ⟨.bool true, fun x => ?_, ?_⟩
  · rfl
  apply Exists.intro
  refine ⟨by simp only [Act.put, List.setIfInBounds_toArray, List.set_cons_succ, List.set_cons_zero]; rfl, ?_⟩
  refine WM.mono_pure rfl rfl ?_
  refine ⟨.bool true, fun x => ?_, ?_⟩
  · rfl
  apply Exists.intro
  refine ⟨by simp only [Act.put, List.setIfInBounds_toArray, List.set_cons_succ, List.set_cons_zero]; rfl, ?_⟩
  refine WM.mono_pure rfl rfl ?_
  refine ⟨.pointer (some ⟨g, 0, none⟩), fun x => ?_, ?_⟩
  · rfl
  apply Exists.intro
  refine ⟨by simp only [Act.put, List.setIfInBounds_toArray, List.set_cons_succ, List.set_cons_zero]; rfl, ?_⟩
  refine WM.mono_pure rfl rfl ?_
  refine ⟨.int .i64 a, fun x => ?_, ?_⟩
  · rfl
  apply Exists.intro
  refine ⟨by simp only [Act.put, List.setIfInBounds_toArray, List.set_cons_succ, List.set_cons_zero]; rfl, ?_⟩
  refine WM.mono_mem rfl rfl (fun x hD hF => ?_) (fun v123 => ?_)
  · go_simp
    refine (HC21.out x hD.r).mono ?_
    intro e y hh
    obtain ⟨v, rfl, k1, k2⟩ := of_LRs hD.r hh
    exact ⟨_, rfl, k1, k2⟩
  apply Exists.intro
  refine ⟨by simp only [Act.put, List.setIfInBounds_toArray, List.set_cons_succ, List.set_cons_zero]; rfl, ?_⟩
  refine WM.mono_val rfl rfl (fun x hD hF => ?_) ?_
  · have hl := run_loadVar_arr (P := Tryz.prog) x bx 0 33 C _ (row_range hD.box) Tryz.underlying33 rfl (by rw [HCS.out]; exact size33)
    rw [exec_load 33 (.tmp 13) rfl bx 0 rfl hl]
    exact ⟨⟨Only.refl _ _, id⟩, rfl, trivial⟩
  apply Exists.intro
  refine ⟨by simp only [Act.put, List.setIfInBounds_toArray, List.set_cons_succ, List.set_cons_zero]; rfl, ?_⟩
  refine WM.mono_pure rfl rfl ?_
  refine ⟨.int .i64 a, fun x => ?_, ?_⟩
  · rfl
  apply Exists.intro
  refine ⟨by simp only [Act.put, List.setIfInBounds_toArray, List.set_cons_succ, List.set_cons_zero]; rfl, ?_⟩
  refine WM.mono_mem rfl rfl (fun x hD hF => ?_) (fun v126 => ?_)
  · go_simp
    refine (HF22.out x hD.rr).mono ?_
    intro e y hh
    obtain ⟨v, rfl, k1, k2⟩ := of_LRes H2.out hD.r hh
    exact ⟨_, rfl, k1, k2⟩
  apply Exists.intro
  refine ⟨by simp only [Act.put, List.setIfInBounds_toArray, List.set_cons_succ, List.set_cons_zero]; rfl, ?_⟩
  refine WM.mono_val rfl rfl (fun x hD hF => ?_) ?_
  · obtain ⟨B1, k1, e1, r1⟩ : LSm g lp v123 x := (hF 57 _ 123 rfl rfl (by decide)).1
    obtain ⟨B2, k2, e2, r2⟩ : LSm g lp v126 x := (hF 60 _ 126 rfl rfl (by decide)).1
    subst e1 e2
    have hsa := same_any lp lp k1 k2 B1 B2 x r1 r2 HLE.out.2.2.2
    rw [decide_eq_true (rfl : lp = lp)] at hsa
    go_simp
    refine hsa.mono ?_
    rintro e y ⟨rfl, hb⟩
    exact ⟨_, rfl, Rl.below H2.out hb, rfl⟩
  apply Exists.intro
  refine ⟨by simp only [Act.put, List.setIfInBounds_toArray, List.set_cons_succ, List.set_cons_zero]; rfl, ?_⟩
  refine WM.mono_pure rfl rfl ?_
  refine ⟨.bool true, fun x => ?_, ?_⟩
  · rfl
  apply Exists.intro
  refine ⟨by simp only [Act.put, List.setIfInBounds_toArray, List.set_cons_succ, List.set_cons_zero]; rfl, ?_⟩
  refine WM.mono_pure rfl rfl ?_
  refine ⟨.bool true, fun x => ?_, ?_⟩
  · rfl
  apply Exists.intro
  refine ⟨by simp only [Act.put, List.setIfInBounds_toArray, List.set_cons_succ, List.set_cons_zero]; rfl, ?_⟩
  refine WM.mono_nil fun x hE hF => ?_
  have HEX := Lib.hid hE
  clear hE hF HD0
  go_wp2_with fail
  go_ret
  exact ⟨rfl, HEX.out.r.below⟩
end Go.Proofs.YtdbhboglccggdaaGreatDoor
