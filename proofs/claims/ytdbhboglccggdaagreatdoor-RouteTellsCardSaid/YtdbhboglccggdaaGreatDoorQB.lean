/- Route: List, Holds, Others, Shared. Route: Pick. slices.Sort and Compact of numbers of one's own. Route: Peers. -/
import Derived.Test.YtdbhboglccggdaaGreatDoorQA
import Derived.Test.YtdbhboglccggdaaGreatDoorR14
import Derived.Test.YtdbhboglccggdaaGreatDoorSort
import Derived.Laws.AppendOwnNone
set_option maxRecDepth 100000
set_option linter.unusedVariables false
set_option linter.unusedSimpArgs false
namespace Go.Proofs.YtdbhboglccggdaaGreatDoor
open Go.RowKit Go.Shelf
theorem soft_put {N b : Nat} {x y : World} {cur : Array Value} (hh : x.heap[b]? = some (.cells cur 3 (0, 0))) (hN : N ≤ b) (hg : x.grownBy y (some b)) : Soft N x y := by
  refine ⟨hg.os, hg.tape, hg.output, hg.size, fun k hk ht => hg.block k hk (fun e => ?_)⟩
  injection e with e
  subst e
  rcases ht with ht | ⟨cs, t, fr, h2, ht⟩
  · omega
  · rw [hh] at h2
    injection h2 with h2
    injection h2 with _ h2
    subst h2
    rcases ht with ht | ht <;> exact absurd ht (by decide)
/-- A key's list. -/
def KL (ls : List Pt) (R : Nat) (s : ByteArray) : List Nat := if rightK s = true then LK ls R ((partK s : Nat) : Int) else []
theorem KL_yes {ls : List Pt} {R : Nat} {s : ByteArray} (h : rightK s = true) : KL ls R s = LK ls R ((partK s : Nat) : Int) := by unfold KL; rw [if_pos h]
theorem KL_no {ls : List Pt} {R : Nat} {s : ByteArray} (h : rightK s = false) : KL ls R s = [] := by unfold KL; rw [if_neg (by rw [h]; decide)]
theorem KL_len (ls : List Pt) (R : Nat) (s : ByteArray) : (KL ls R s).length ≤ R := by
  unfold KL
  split
  · exact LK_len _ _ _
  · exact Nat.zero_le _
def LRs (G : Nat → Prop) (Φ : World → Prop) (l : List Nat) (w : World) (e : Ending) (y : World) : Prop :=
  ∃ B c, e = .returned (.slice B l.length c) ∧ Mine y (fun b => w.heap.size ≤ b) B c l ∧ Only G w y ∧ Φ y
theorem LRs.of {G : Nat → Prop} {Φ : World → Prop} {l : List Nat} {w y : World} {B : Option Addr} {c : Nat} (h : Mine y (fun b => w.heap.size ≤ b) B c l) (ho : Only G w y) (hf : Φ y) : LRs G Φ l w (.returned (.slice B l.length c)) y := ⟨B, c, rfl, h, ho, hf⟩
set_option maxHeartbeats 2000000 in
theorem rtlist_env {N : Nat} {G : Nat → Prop} {p : Value} {ls : List Pt} {R : Nat} {Φ : World → Prop} (E : Env N G p ls R Φ) (ht : ∀ x, Φ x → Tabs x) (s : ByteArray) (hs : s.size ≤ maxLen) (w : World) (h : Φ w) :
    Calls Tryz.prog 13 #[p, .string s] w (LRs G Φ (KL ls R s) w) := by
  have HP := Lib.hid (part_any s w (ht w h) hs)
  have HL := Lib.hid (fun x hx => list_own E ((partK s : Nat) : Int) x hx)
  have HE := Lib.hid E
  have HF := Lib.hid h
  have HR := Lib.hid (right_any s w)
  clear ht h E hs
  cases hr : rightK s with
  | false =>
    have HK := Lib.hid (KL_no (ls := ls) (R := R) hr)
    rw [hr] at HR
    clear hr
    go_enter Tryz.func13, Tryz.ntmps13
    go_wp2_with (go_at_call 24; refine HR.out.mono ?_; rintro e w1 ⟨rfl, rfl⟩)
    go_ret
    rw [HK.out]
    exact LRs.of (Mine.nil _ _ none 0 (Nat.zero_le _) (fun _ => rfl)) (Only.refl _ _) HF.out
  | true =>
    have HK := Lib.hid (KL_yes (ls := ls) (R := R) hr)
    rw [hr] at HR
    clear hr
    obtain ⟨k, hk⟩ : ∃ k, k = ((partK s : Nat) : Int) := ⟨_, rfl⟩
    rw [← hk] at HP HL HK
    clear hk
    go_enter Tryz.func13, Tryz.ntmps13
    go_wp2_with (go_at_call 24; refine HR.out.mono ?_; rintro e w1 ⟨rfl, rfl⟩)
    refine HP.out.mono ?_
    rintro e w1 ⟨rfl, hb⟩
    have HF1 := Lib.hid (HE.out.down hb HF.out)
    have HB1 := Lib.hid hb
    clear hb HP HR
    go_wp2_with fail
    refine (HL.out w1 HF1.out).mono ?_
    rintro e w2 ⟨B, c, rfl, hm, ho, hf⟩
    have HM := Lib.hid hm
    have HO := Lib.hid ho
    have HF2 := Lib.hid hf
    clear hm ho hf HL
    go_wp2_with fail
    go_ret
    rw [HK.out]
    exact LRs.of (HM.out.weak fun b hb _ => Nat.le_trans HB1.out.size hb) ((Only.of_below HB1.out).trans HO.out) HF2.out
theorem Env.put {N M : Nat} {G : Nat → Prop} {p : Value} {ls : List Pt} {R : Nat} {Φ : World → Prop} (E : Env N G p ls R Φ) (hM : N ≤ M) (x y : World) (b : Nat) (cur : Array Value) (ho : M ≤ b) (hh : x.heap[b]? = some (.cells cur 3 (0, 0))) (hg : x.grownBy y (some b)) (h : Φ x) : Φ y :=
  E.up x y (soft_put hh (Nat.le_trans hM ho) hg) h
/-- What holds once a node stands in a box of its own. -/
theorem Env.asks_is {N M T : Nat} {G : Nat → Prop} {p : Value} {ls : List Pt} {R : Nat} {Φ : World → Prop} (E : Env N G p ls R Φ) (hM : N ≤ M) (node : Int) :
    Asks (fun b => M ≤ b ∧ b < T) G (fun x => Φ x ∧ x.heap[T]? = some (.cells #[.int .i64 node] 3 (0, 0))) 57 #[.pointer (some ⟨T, 0, none⟩)] (fun n => decide (((n : Nat) : Int) = node)) :=
  Proofs.YtdbhboglccggdaaGreatDoor.asks_is T node (fun x y b cur ho hh hg h => E.put hM x y b cur ho.1 hh hg h) E.tag (fun h => by omega)
set_option maxHeartbeats 2000000 in
theorem rtholds_env {N : Nat} {G : Nat → Prop} {p : Value} {ls : List Pt} {R : Nat} {Φ : World → Prop} (E : Env N G p ls R Φ) (ht : ∀ x, Φ x → Tabs x) (node : Int) (s : ByteArray) (hs : s.size ≤ maxLen) (w : World) (h : Φ w) :
    Calls Tryz.prog 15 #[p, .int .i64 node, .string s] w fun e y => e = .returned (.bool (hasI (KL ls R s) node)) ∧ Only G w y ∧ Φ y := by
  have HL := Lib.hid (rtlist_env E ht s hs w h)
  have HE := Lib.hid E
  have HG : Hid (∀ b, w.heap.size ≤ b → ¬ G b) := Lib.hid (fun b hb hg => by have := E.old h hg; omega)
  have HNW := Lib.hid (E.nle w h)
  have HM6 : Hid ((KL ls R s).length ≤ 1000000) := Lib.hid (by have := KL_len ls R s; have := E.r; omega)
  obtain ⟨l, hl⟩ : ∃ l, l = KL ls R s := ⟨_, rfl⟩
  rw [← hl] at HL HM6 ⊢
  clear ht h E hs hl
  go_enter Tryz.func15, Tryz.ntmps15
  go_wp2_with fail
  refine HL.out.mono ?_
  rintro e w1 ⟨B, c, rfl, hm, ho, hf⟩
  have HM := Lib.hid hm
  have HO := Lib.hid ho
  have HF1 := Lib.hid hf
  clear hm ho hf HL
  go_wp2_with fail
  refine (is_any node w1).mono ?_
  rintro e w2 ⟨rfl, rfl⟩
  have HC := Lib.hid (containsF_any (HE.out.asks_is (T := w1.heap.size) HNW.out node) l c B (w1.alloc (.cells #[.int .i64 node] 3)) ((HM.out.weak fun b hb hl => ⟨hb, hl⟩).grow (below1 _ _)).row (fun b hb => HG.out b hb.1) HM6.out ⟨HE.out.down (below1 _ _) HF1.out, heap_alloc_new _ _⟩)
  rw [any_has] at HC
  have HB2 := Lib.hid (below1 w1 (.cells #[.int .i64 node] 3))
  go_wp2_with fail
  refine HC.out.mono ?_
  rintro e w3 ⟨rfl, ho, hf⟩
  have HO3 := Lib.hid ((HO.out.trans (Only.of_below HB2.out)).trans ho)
  have HF3 := Lib.hid hf.1
  clear ho hf HC
  go_wp2_with fail
  go_ret
  exact ⟨rfl, HO3.out, HF3.out⟩
/-- A list without a node. -/
def without (l : List Nat) (node : Int) : List Nat := l.filter fun n => !decide (((n : Nat) : Int) = node)
theorem without_len (l : List Nat) (node : Int) : (without l node).length ≤ l.length := List.length_filter_le _ _
theorem clipM_any {w : World} {ok : Nat → Prop} (A : Option Addr) (c : Nat) (l : List Nat) (h : Mine w ok A c l) : Calls Tryz.prog 40 #[.slice A l.length c] w fun e y => e = .returned (.slice A l.length l.length) ∧ w = y := clip_any A l.length c h.le w
set_option maxHeartbeats 2000000 in
theorem rtothers_env {N : Nat} {G : Nat → Prop} {p : Value} {ls : List Pt} {R : Nat} {Φ : World → Prop} (E : Env N G p ls R Φ) (ht : ∀ x, Φ x → Tabs x) (node : Int) (s : ByteArray) (hs : s.size ≤ maxLen) (w : World) (h : Φ w) :
    Calls Tryz.prog 17 #[p, .string s, .int .i64 node] w (LRs G Φ (without (KL ls R s) node) w) := by
  have HL := Lib.hid (rtlist_env E ht s hs w h)
  have HE := Lib.hid E
  have HG : Hid (∀ b, w.heap.size ≤ b → ¬ G b) := Lib.hid (fun b hb hg => by have := E.old h hg; omega)
  have HNW := Lib.hid (E.nle w h)
  have HM6 : Hid ((KL ls R s).length ≤ 1000000) := Lib.hid (by have := KL_len ls R s; have := E.r; omega)
  obtain ⟨l, hl⟩ : ∃ l, l = KL ls R s := ⟨_, rfl⟩
  rw [← hl] at HL HM6 ⊢
  clear ht h E hs hl
  go_enter Tryz.func17, Tryz.ntmps17
  go_wp2_with fail
  refine HL.out.mono ?_
  rintro e w1 ⟨B, c, rfl, hm, ho, hf⟩
  have HM := Lib.hid hm
  have HO := Lib.hid ho
  have HF1 := Lib.hid hf
  clear hm ho hf HL
  go_wp2_with fail
  refine (is_any node w1).mono ?_
  rintro e w2 ⟨rfl, rfl⟩
  have HC := Lib.hid (deleteF_any (HE.out.asks_is (T := w1.heap.size) HNW.out node) l c B (w1.alloc (.cells #[.int .i64 node] 3)) ((HM.out.weak fun b hb hl => ⟨hb, hl⟩).grow (below1 _ _)) (fun b hb => HG.out b hb.1) HM6.out ⟨HE.out.down (below1 _ _) HF1.out, heap_alloc_new _ _⟩)
  have HB2 := Lib.hid (below1 w1 (.cells #[.int .i64 node] 3))
  go_wp2_with fail
  refine HC.out.mono ?_
  rintro e w3 ⟨rfl, hm, ho, hf⟩
  have HM3 : Hid (Mine w3 (fun b => w.heap.size ≤ b ∧ b < w1.heap.size) B c (without l node)) := Lib.hid hm
  have HO3 := Lib.hid ((HO.out.trans (Only.of_below HB2.out)).own (ho.lax fun k hk => hk.imp id (fun h => h.1)))
  have HF3 := Lib.hid hf.1
  have HQ : Hid ((l.filter fun x => !decide (((x : Nat) : Int) = node)) = without l node) := Lib.hid rfl
  rw [HQ.out]
  clear hm ho hf HC
  go_wp2_with fail
  refine (clipM_any B c _ HM3.out).mono ?_
  rintro e w4 ⟨rfl, rfl⟩
  go_wp2_with fail
  go_ret
  exact LRs.of (HM3.out.clip.weak fun b hb _ => hb.1) HO3.out HF3.out
/-! ### Shared -/
theorem Env.box {N : Nat} {G : Nat → Prop} {p : Value} {ls : List Pt} {R : Nat} {Φ : World → Prop} (E : Env N G p ls R Φ) {x y : World} {b : Nat} {v : Value} {t : TypeId} (h : Φ x) (hb : x.heap[b]? = some (.cells #[v] t (0, 0))) (ht : t ≠ 71) (ho : Only G x y) : y.heap[b]? = some (.cells #[v] t (0, 0)) :=
  (ho.block b (Array.getElem?_eq_some_iff.1 hb).1 (fun hg => by
    obtain ⟨cs, fr, h2⟩ := E.tag x b h hg
    rw [hb] at h2
    injection h2 with h2
    injection h2 with _ h2
    exact ht h2)).trans hb
def notH (ls : List Pt) (R : Nat) (node : Int) (n : Nat) : Bool := !hasI (LK ls R (n : Int)) node
set_option maxHeartbeats 2000000 in
theorem shared1_any {N : Nat} {G : Nat → Prop} {p : Value} {ls : List Pt} {R : Nat} {Φ : World → Prop} (E : Env N G p ls R Φ) (n : Nat) (node : Int) (b1 b2 : Nat) (w : World) (h : Φ w) (h1 : w.heap[b1]? = some (.cells #[p] 26 (0, 0))) (h2 : w.heap[b2]? = some (.cells #[.int .i64 node] 3 (0, 0))) (hp : p.oneCell' = true) :
    Calls Tryz.prog 42 #[.int .i64 ((n : Nat) : Int), .pointer (some ⟨b1, 0, none⟩), .pointer (some ⟨b2, 0, none⟩)] w fun e y => e = .returned (.bool (notH ls R node n)) ∧ Only G w y ∧ Φ y := by
  have hc1 : w.cell? ⟨b1, 0, none⟩ = some p := by rw [cell_of_row _ _ _ _ _ _ h1]; rfl
  have hc2 : w.cell? ⟨b2, 0, none⟩ = some (.int .i64 node) := by rw [cell_of_row _ _ _ _ _ _ h2]; rfl
  have HC := Lib.hid (holds_env E node (n : Int) w h)
  have HQ : Hid (notH ls R node n = !hasI (LK ls R (n : Int)) node) := Lib.hid rfl
  clear h h1 h2 E
  go_enter Tryz.func42, Tryz.ntmps42
  go_wp2_with fail
  refine HC.out.mono ?_
  rintro e w3 ⟨rfl, ho, hf⟩
  have HO := Lib.hid ho
  have HF := Lib.hid hf
  clear ho hf HC
  go_wp2_with fail
  go_ret
  exact ⟨by rw [HQ.out]; rfl, HO.out, HF.out⟩
theorem Env.asks_sh {N M T : Nat} {G : Nat → Prop} {p : Value} {ls : List Pt} {R : Nat} {Φ : World → Prop} (E : Env N G p ls R Φ) (hM : N ≤ M) (node : Int) (b1 b2 : Nat) (hb1 : b1 < M) (hb2 : b2 < M) (hp : p.oneCell' = true) :
    Asks (fun b => M ≤ b ∧ b < T) G (fun x => Φ x ∧ x.heap[b1]? = some (.cells #[p] 26 (0, 0)) ∧ x.heap[b2]? = some (.cells #[.int .i64 node] 3 (0, 0))) 42 #[.pointer (some ⟨b1, 0, none⟩), .pointer (some ⟨b2, 0, none⟩)] (notH ls R node) where
  enters := enters_of Tryz.func42 (by kernel_rfl) rfl
  put x y b cur ho hh hg h := ⟨E.put hM x y b cur ho.1 hh hg h.1, (hg.block b1 (Array.getElem?_eq_some_iff.1 h.2.1).1 (fun e => by injection e with e; omega)).trans h.2.1, (hg.block b2 (Array.getElem?_eq_some_iff.1 h.2.2).1 (fun e => by injection e with e; omega)).trans h.2.2⟩
  call n x h := (shared1_any E n node b1 b2 x h.1 h.2.1 h.2.2 hp).mono (by
    rintro e y ⟨rfl, ho, hf⟩
    exact ⟨rfl, ho, hf, E.box h.1 h.2.1 (by decide) ho, E.box h.1 h.2.2 (by decide) ho⟩)
  tag x b h := E.tag x b h.1
/-- The parts that two nodes hold. -/
def sharedL (ls : List Pt) (R : Nat) (a b : Int) : List Nat := if a = b then [] else (partsI ls R a 8).filter fun n => !notH ls R b n
set_option maxHeartbeats 2000000 in
theorem rtshared_env {N : Nat} {G : Nat → Prop} {q : Option Addr} {ls : List Pt} {R : Nat} {Φ : World → Prop} (E : Env N G (.pointer q) ls R Φ) (a b : Int) (w : World) (h : Φ w) :
    Calls Tryz.prog 19 #[.pointer q, .int .i64 a, .int .i64 b] w (LRs G Φ (sharedL ls R a b) w) := by
  have hB := ((below1 w (.cells #[.pointer q] 26)).trans ((below1 (w.alloc (.cells #[.pointer q] 26)) (.cells #[.int .i64 b] 3)).mono (by simp)))
  have h1 : ((w.alloc (.cells #[.pointer q] 26)).alloc (.cells #[.int .i64 b] 3)).heap[w.heap.size]? = some (.cells #[.pointer q] 26 (0, 0)) := ((below1 (w.alloc (.cells #[.pointer q] 26)) (.cells #[.int .i64 b] 3)).block _ (by simp)).trans (heap_alloc_new _ _)
  have h2 : ((w.alloc (.cells #[.pointer q] 26)).alloc (.cells #[.int .i64 b] 3)).heap[w.heap.size + 1]? = some (.cells #[.int .i64 b] 3 (0, 0)) := by
    have := heap_alloc_new (w.alloc (.cells #[.pointer q] 26)) (.cells #[.int .i64 b] 3)
    rwa [World.size_alloc] at this
  have hc1 : ((w.alloc (.cells #[.pointer q] 26)).alloc (.cells #[.int .i64 b] 3)).cell? ⟨w.heap.size, 0, none⟩ = some (.pointer q) := by rw [cell_of_row _ _ _ _ _ _ h1]; rfl
  have hc2 : ((w.alloc (.cells #[.pointer q] 26)).alloc (.cells #[.int .i64 b] 3)).cell? ⟨w.heap.size + 1, 0, none⟩ = some (.int .i64 b) := by rw [cell_of_row _ _ _ _ _ _ h2]; rfl
  have hf := E.down hB h
  have HG : Hid (∀ k, w.heap.size ≤ k → ¬ G k) := Lib.hid (fun k hk hg => by have := E.old h hg; omega)
  have hsz : ((w.alloc (.cells #[.pointer q] 26)).alloc (.cells #[.int .i64 b] 3)).heap.size = w.heap.size + 2 := by simp
  have HE := Lib.hid E
  have HNW := Lib.hid (E.nle w h)
  obtain ⟨y, hy⟩ : ∃ y, y = (w.alloc (.cells #[.pointer q] 26)).alloc (.cells #[.int .i64 b] 3) := ⟨_, rfl⟩
  by_cases hab : a = b
  · subst hab
    have hf0 : Hid (sharedL ls R a a = []) := Lib.hid (by unfold sharedL; rw [if_pos rfl])
    have HF := Lib.hid hf
    have HB := Lib.hid hB
    have hbb : (a == a) = true := by simp
    clear E h hf h1 h2 hB hsz hy hc1
    go_enter Tryz.func19, Tryz.ntmps19
    go_wp2_with fail
    go_ret
    rw [hf0.out]
    exact LRs.of (Mine.nil _ _ none 0 (Nat.zero_le _) (fun _ => rfl)) (Only.of_below HB.out) HF.out
  · have HS : Hid (sharedL ls R a b = (partsI ls R a 8).filter fun n => !notH ls R b n) := Lib.hid (by unfold sharedL; rw [if_neg hab])
    have hbb : (a == b) = false := by rw [beq_eq_false_iff_ne]; exact hab
    have HL := Lib.hid (parts_own E a _ hf)
    have HBX := Lib.hid (And.intro h1 h2)
    have HF := Lib.hid hf
    have HB := Lib.hid hB
    have HZ := Lib.hid hsz
    have HM6 : Hid ((partsI ls R a 8).length ≤ 1000000) := Lib.hid (by have := partsI_len ls R a 8; omega)
    obtain ⟨l, hl⟩ : ∃ l, l = partsI ls R a 8 := ⟨_, rfl⟩
    rw [← hl] at HL HS HM6
    clear E h hf h1 h2 hB hsz hy hl hab
    go_enter Tryz.func19, Tryz.ntmps19
    go_wp2_with fail
    refine HL.out.mono ?_
    rintro e w1 ⟨B, rfl, hm, ho, hf⟩
    have HO1 := Lib.hid ((Only.of_below HB.out).trans ho)
    have HA := HE.out.asks_sh (M := w.heap.size + 2) (T := w1.heap.size) (Nat.le_trans HNW.out (by omega)) b w.heap.size (w.heap.size + 1) (by omega) (by omega) rfl
    have HC := Lib.hid (deleteF_any HA l l.length B w1 (hm.weak fun k hk hl => ⟨by have := HZ.out; omega, hl⟩) (fun k hk => HG.out k (by omega)) HM6.out ⟨hf, HE.out.box HF.out HBX.out.1 (by decide) ho, HE.out.box HF.out HBX.out.2 (by decide) ho⟩)
    clear hm ho hf HA HL hc1 hc2
    go_wp2_with fail
    refine HC.out.mono ?_
    rintro e w3 ⟨rfl, hm, ho, hf⟩
    have HM3 := Lib.hid hm
    have HO3 := Lib.hid (HO1.out.own (ho.lax fun k hk => hk.imp id (fun h => by have := h.1; omega)))
    have HF3 := Lib.hid hf.1
    rw [← HS.out] at HM3 ⊢
    clear hm ho hf HC
    go_wp2_with fail
    refine (clipM_any B _ _ HM3.out).mono ?_
    rintro e w4 ⟨rfl, rfl⟩
    go_wp2_with fail
    go_ret
    exact LRs.of (HM3.out.clip.weak fun k hb _ => by have := hb.1; omega) HO3.out HF3.out
end Go.Proofs.YtdbhboglccggdaaGreatDoor

set_option maxRecDepth 100000
set_option linter.unusedVariables false
set_option linter.unusedSimpArgs false
namespace Go.Proofs.YtdbhboglccggdaaGreatDoor
open Go.RowKit Go.Shelf
/-- Who is picked of a list. -/
def pickL (l : List Nat) (us : List Int) : Int × Int :=
  match l.find? fun (n : Nat) => hasZ us (n : Int) with
  | none => (0, 15)
  | some n => (((n : Nat) : Int), 0)
def pickR (ls : List Pt) (R : Nat) (s : ByteArray) (us : List Int) : Int × Int :=
  if rightK s = true then (if KL ls R s = [] then (0, 6) else pickL (KL ls R s) us) else (0, 1)
theorem find_of_get {l : List Nat} {p : Nat → Bool} : ∀ {k : Nat}, k < l.length → p (l.getD k 0) = true → (∀ j, j < k → p (l.getD j 0) = false) → l.find? p = some (l.getD k 0) := by
  induction l with
  | nil => intro k h; cases h
  | cons x l ih =>
    intro k hk hp hall
    cases k with
    | zero =>
      have hp' : p x = true := hp
      rw [List.find?_cons, hp']
      rfl
    | succ k =>
      have h0 : p x = false := hall 0 (by omega)
      rw [List.find?_cons, h0]
      exact ih (k := k) (by simpa using hk) hp (fun j hj => hall (j + 1) (by omega))
theorem find_none {l : List Nat} {p : Nat → Bool} (h : ∀ j, j < l.length → p (l.getD j 0) = false) : l.find? p = none := by
  rw [List.find?_eq_none]
  intro x hx
  obtain ⟨j, hj, rfl⟩ := List.getElem_of_mem hx
  have := h j hj
  rw [List.getD_eq_getElem?_getD, List.getElem?_eq_getElem hj] at this
  simpa using this
theorem pickL_none {l : List Nat} {us : List Int} (h : ∀ j, j < l.length → hasZ us ((l.getD j 0 : Nat) : Int) = false) : pickL l us = (0, 15) := by
  unfold pickL
  rw [find_none (p := fun (n : Nat) => hasZ us (n : Int)) h]
theorem pickL_some {l : List Nat} {us : List Int} {k : Nat} (hk : k < l.length) (hp : hasZ us ((l.getD k 0 : Nat) : Int) = true) (h : ∀ j, j < k → hasZ us ((l.getD j 0 : Nat) : Int) = false) : pickL l us = (((l.getD k 0 : Nat) : Int), 0) := by
  unfold pickL
  rw [find_of_get (p := fun (n : Nat) => hasZ us (n : Int)) hk hp h]
def PRs (G : Nat → Prop) (Φ : World → Prop) (r : Int × Int) (w : World) (e : Ending) (y : World) : Prop := e = .returned (.tuple #[.int .i64 r.1, .int .i64 r.2]) ∧ Only G w y ∧ Φ y
theorem PRs.of {G : Nat → Prop} {Φ : World → Prop} {r : Int × Int} {a b : Int} {w y : World} (hr : r = (a, b)) (ho : Only G w y) (hf : Φ y) : PRs G Φ r w (.returned (.tuple #[.int .i64 a, .int .i64 b])) y := by
  subst hr
  exact ⟨rfl, ho, hf⟩
set_option maxHeartbeats 4000000 in
theorem pick_env {N : Nat} {G : Nat → Prop} {p : Value} {ls : List Pt} {R : Nat} {Φ : World → Prop} (E : Env N G p ls R Φ) (ht : ∀ x, Φ x → Tabs x) (s : ByteArray) (hs : s.size ≤ maxLen) (A : Option Addr) (c : Nat) (us : List Int) (w : World) (hu : RowZ w (fun b => b < w.heap.size ∧ ¬ G b) A us) (hm : us.length ≤ 1000000) (h : Φ w) :
    Calls Tryz.prog 10 #[p, .string s, .slice A us.length c] w (PRs G Φ (pickR ls R s us) w) := by
  have hB := below1 w (.cells #[.slice A us.length c] 24)
  have hX := heap_alloc_new w (.cells #[.slice A us.length c] 24)
  have HR := Lib.hid (right_any s (w.alloc (.cells #[.slice A us.length c] 24)))
  have HF := Lib.hid (E.down hB h)
  have HB := Lib.hid hB
  cases hr : rightK s with
  | false =>
    have HP : Hid (pickR ls R s us = (0, 1)) := Lib.hid (by unfold pickR; rw [if_neg (by rw [hr]; decide)])
    rw [hr] at HR
    clear hB hX hr hu E ht h
    go_enter Tryz.func10, Tryz.ntmps10
    go_wp2_with (go_at_call 24; refine HR.out.mono ?_; rintro e w1 ⟨rfl, rfl⟩)
    go_ret2
    exact PRs.of HP.out (Only.of_below HB.out) HF.out
  | true =>
    have HL := Lib.hid (rtlist_env E ht s hs _ (E.down hB h))
    have HP : Hid (pickR ls R s us = if KL ls R s = [] then (0, 6) else pickL (KL ls R s) us) := Lib.hid (by unfold pickR; rw [if_pos hr])
    have HE := Lib.hid E
    have HG : Hid (∀ b, w.heap.size ≤ b → ¬ G b) := Lib.hid (fun b hb hg => by have := E.old h hg; omega)
    have HNW := Lib.hid (E.nle w h)
    have HM6 : Hid ((KL ls R s).length ≤ 1000000) := Lib.hid (by have := KL_len ls R s; have := E.r; omega)
    have HX := Lib.hid hX
    have HU := Lib.hid hu
    have HUM := Lib.hid hm
    obtain ⟨l, hl⟩ : ∃ l, l = KL ls R s := ⟨_, rfl⟩
    rw [hr] at HR
    rw [← hl] at HL HM6 HP
    clear hB hX hr hu E ht h hl hm hs
    go_enter Tryz.func10, Tryz.ntmps10
    go_wp2_with (go_at_call 24; refine HR.out.mono ?_; rintro e w1 ⟨rfl, rfl⟩)
    refine HL.out.mono ?_
    rintro e w2 ⟨B, cc, rfl, hmm, ho, hf⟩
    have HM := Lib.hid hmm
    have HO := Lib.hid ((Only.of_below HB.out).trans ho)
    have HO1 := Lib.hid ho
    have HF2 := Lib.hid hf
    clear hmm ho hf HL
    by_cases hne : l = []
    · subst hne
      rw [if_pos rfl] at HP
      go_wp2_with fail
      go_ret2
      exact PRs.of HP.out HO.out HF2.out
    · have hlen : ((l.length : Int) == 0) = false := by
        rw [beq_eq_false_iff_ne]
        intro e
        exact hne (List.length_eq_zero_iff.1 (by omega))
      have hlen2 : ¬ l.length = 0 := fun e => hne (List.length_eq_zero_iff.1 e)
      rw [if_neg hne] at HP
      have HA := asks_up (ok := fun b => w.heap.size + 1 ≤ b) (G := G) (up := fun b => b < w.heap.size ∧ ¬ G b) (Φ := Φ) w.heap.size A c us HUM.out (fun x y b cur ho hh hg h => HE.out.put (Nat.le_trans HNW.out (by omega)) x y b cur ho hh hg h) HE.out.tag (by omega) (fun b hb => by omega)
      have HC := Lib.hid (indexF_any HA l cc B w2 (HM.out.row.weak fun b hb _ => by rw [World.size_alloc] at hb; exact hb) (fun b hb => HG.out b (by omega)) HM6.out ⟨HF2.out, (HO1.out.block _ (by simp) (HG.out _ (Nat.le_refl _))).trans HX.out, HU.out.keep fun b hb hl => (HO.out.block b hl hb.2)⟩)
      clear hne HA
      go_wp2_with fail
      refine HC.out.mono ?_
      rintro e w3 ⟨r, rfl, hr, ho, hf⟩
      have HO3 := Lib.hid (HO.out.trans ho)
      have HM3 := Lib.hid (HM.out.row.kept ho (fun b hb => HG.out b (by rw [World.size_alloc] at hb; omega)))
      have HF3 := Lib.hid hf.1
      clear ho hf HC
      rcases hr with ⟨rfl, hall⟩ | ⟨k, rfl, hk, hp, hall⟩
      · have HPK := Lib.hid (pickL_none hall)
        clear hall
        go_wp2_with fail
        go_ret2
        exact PRs.of (HP.out.trans HPK.out) HO3.out HF3.out
      · have HPK := Lib.hid (pickL_some hk hp hall)
        obtain ⟨b, o, hBB, _, hcs⟩ := HM3.out.at_ (by omega)
        subst hBB
        have hc1 := hcs k hk
        obtain ⟨d, hd⟩ : ∃ d, d = l.getD k 0 := ⟨_, rfl⟩
        rw [← hd] at hc1 HPK
        have hkk : ¬ (k : Int) < 0 := by omega
        have hkl : (k : Int) < (l.length : Int) := by omega
        clear hall hp hcs hd
        go_wp2_with fail
        go_ret2
        exact PRs.of (HP.out.trans HPK.out) HO3.out HF3.out
end Go.Proofs.YtdbhboglccggdaaGreatDoor

set_option maxRecDepth 100000
set_option linter.unusedVariables false
set_option linter.unusedSimpArgs false
namespace Go.Proofs.YtdbhboglccggdaaGreatDoor
open Go.RowKit Go.Shelf
def zs (l : List Nat) : List Int := l.map fun (x : Nat) => (x : Int)
theorem getD_mem' {l : List Nat} {i : Nat} (hi : i < l.length) : l.getD i 0 ∈ l := by
  rw [List.getD_eq_getElem?_getD, List.getElem?_eq_getElem hi]
  exact List.getElem_mem _
theorem zs_length (l : List Nat) : (zs l).length = l.length := by simp [zs]
theorem zs_get (l : List Nat) {j : Nat} (hj : j < l.length) : (zs l).toArray[j]! = ((l.getD j 0 : Nat) : Int) := by
  rw [getElem!_pos (zs l).toArray j (by simpa [zs] using hj)]
  simp [zs, List.getD_eq_getElem?_getD, hj]
theorem mine_holds {x : World} {ok : Nat → Prop} {A : Option Addr} {c : Nat} {l : List Nat} (h : Mine x ok A c l) (hp : 0 < l.length) :
    ∃ b cur, A = some ⟨b, 0, none⟩ ∧ ok b ∧ x.heap[b]? = some (.cells cur 3 (0, 0)) ∧ c ≤ cur.size ∧ Sort.Holds (Value.int .i64) x b 0 (zs l).toArray := by
  obtain ⟨b, cur, e, hb, hh, hc, ht⟩ := h.at_ hp
  refine ⟨b, cur, e, hb, hh, hc, fun j hj => ?_⟩
  have hj' : j < l.length := by simpa [zs] using hj
  refine ⟨?_, by simp [World.frozen?, hh]⟩
  rw [Nat.zero_add, cell_of_row _ _ _ _ _ _ hh, zs_get l hj']
  exact take_get ht hj'
theorem putRow_heap {x : World} {b n : Nat} {cur : Array Value} {t : TypeId} {fr : Nat × Nat} (d : Array Int) (os : Array Obj) (h : x.heap[b]? = some (.cells cur t fr)) :
    (Sort.grow (Sort.putRow (Value.int .i64) (Sort.ahead x n) b 0 d) os).heap[b]? = some (.cells (Sort.putCells (Value.int .i64) 0 d cur) t fr) := by
  have hl : b < x.heap.size := (Array.getElem?_eq_some_iff.1 h).1
  have e : (Sort.grow (Sort.putRow (Value.int .i64) (Sort.ahead x n) b 0 d) os).heap[b]? = (x.heap[b]?).map (Sort.onCells (Sort.putCells (Value.int .i64) 0 d)) := by
    rw [Sort.heap_grow_old _ _ (by rw [Sort.size_putRow]; exact hl)]
    unfold Sort.putRow Sort.mapBlock
    simp only [Array.getElem?_modify, if_pos]
    rfl
  rw [e, h]
  rfl
theorem putRow_grown (x : World) (b n : Nat) (d : Array Int) (os : Array Obj) : x.grownBy (Sort.grow (Sort.putRow (Value.int .i64) (Sort.ahead x n) b 0 d) os) (some b) := by
  refine ⟨rfl, rfl, rfl, ?_, fun k hk hne => ?_⟩
  · rw [Sort.size_grow, Sort.size_putRow]
    exact Nat.le_add_right _ _
  · rw [Sort.heap_grow_old _ _ (by rw [Sort.size_putRow]; exact hk)]
    unfold Sort.putRow Sort.mapBlock
    simp only [Array.getElem?_modify]
    rw [if_neg (fun e => hne (by rw [e]))]
    rfl
theorem putCells_size (d : Array Int) (cur : Array Value) : (Sort.putCells (Value.int .i64) 0 d cur).size = cur.size := by simp [Sort.putCells]
theorem putCells_get (l m : List Nat) (cur : Array Value) {j : Nat} (hj : j < l.length) (hc : l.length ≤ cur.size) (r : List Int) : (Sort.putCells (Value.int .i64) 0 (zs l ++ r).toArray cur)[j]? = some (.int .i64 ((l.getD j 0 : Nat) : Int)) := by
  unfold Sort.putCells
  rw [Array.getElem?_mapIdx, Array.getElem?_eq_getElem (by omega), Option.map_some, if_pos ⟨Nat.zero_le _, by simp [zs]; omega⟩]
  congr 2
  rw [Nat.sub_zero, getElem!_pos (zs l ++ r).toArray j (by simp [zs]; omega)]
  simp only [List.getElem_toArray]
  rw [List.getElem_append_left (by rw [zs_length]; exact hj)]
  simp [zs, List.getD_eq_getElem?_getD, hj]
theorem zs_sort (l : List Nat) : (zs l).mergeSort (fun x y => decide (x ≤ y)) = zs (l.mergeSort fun x y => decide (x ≤ y)) := by
  unfold zs
  symm
  apply List.map_mergeSort
  intro a _ b _
  simp
/-- What turned alone is a row of one's own. -/
def Turned (ok : Nat → Prop) (x y : World) : Prop := (∃ b cur, ok b ∧ x.heap[b]? = some (.cells cur 3 (0, 0)) ∧ x.grownBy y (some b)) ∨ Below x.heap.size x y
theorem Turned.only {ok : Nat → Prop} {x y : World} (G : Nat → Prop) (h : Turned ok x y) : Only (fun k => G k ∨ ok k) x y := by
  rcases h with ⟨b, cur, hb, _, hg⟩ | hb
  · exact (Only.add (G := G) hg).lax (fun k hk => by
      rcases hk with h | rfl
      · exact .inl h
      · exact .inr hb)
  · exact Only.of_below hb
theorem Mine.of_nil {x : World} {ok : Nat → Prop} {A : Option Addr} {c : Nat} {f : Nat → Nat → Bool} (h : Mine x ok A c []) : Mine x ok A c (([] : List Nat).mergeSort f) := by
  rw [show ([] : List Nat).mergeSort f = [] from by simp]
  exact h
set_option maxHeartbeats 1000000 in
theorem sortI_any (l : List Nat) (A : Option Addr) (c : Nat) (w : World) {ok : Nat → Prop} (h : Mine w ok A c l) (hm : l.length ≤ 1000000) :
    Calls Tryz.prog 43 #[.slice A l.length c] w fun e y => e = .returned (.tuple #[]) ∧ Mine y ok A c (l.mergeSort fun x y => decide (x ≤ y)) ∧ Turned ok w y := by
  rcases Nat.eq_zero_or_pos l.length with h0 | hp
  · have hl : l = [] := List.eq_nil_of_length_eq_zero h0
    subst hl
    refine (Any.slices_Sort_int_none Tryz.sortI A c w).mono ?_
    rintro e y ⟨rfl, rfl⟩
    exact ⟨rfl, h.of_nil, .inr (Below.refl _ _)⟩
  · obtain ⟨b, cur, hA, hb, hh, hc, hH⟩ := mine_holds h hp
    subst hA
    have hlt : b < w.heap.size := (Array.getElem?_eq_some_iff.1 hh).1
    have hS := Any.slices_Sort_int Tryz.sortI b 0 c (zs l) w hH hlt (by rw [zs_length]; omega)
    rw [zs_length] at hS
    refine hS.mono ?_
    rintro e y ⟨rfl, n, os, rfl⟩
    rw [zs_sort]
    have hlen : (l.mergeSort fun x y => decide (x ≤ y)).length = l.length := List.length_mergeSort l
    have hle := h.le
    refine ⟨rfl, ⟨by rw [hlen]; exact h.le, h.top, h.no, fun _ => ⟨b, _, rfl, hb, putRow_heap _ _ hh, by rw [putCells_size]; exact hc, get_take fun j hj => ?_⟩⟩, .inl ⟨b, cur, hb, hh, putRow_grown _ _ _ _ _⟩⟩
    have := putCells_get (l.mergeSort fun x y => decide (x ≤ y)) [] cur hj (by omega) []
    rwa [List.append_nil] at this
structure CI (d : Array Int) (m : Nat) (r : List Int) : Prop where
  lt : r.Pairwise (· < ·)
  sub : ∀ x, x ∈ r → ∃ j, j < m ∧ d[j]! = x
  has : ∀ j, j < m → d[j]! ∈ r
  top : ∀ x, x ∈ r → 0 < m → x ≤ d[m - 1]!
  len : r.length ≤ m
theorem compact_spec (d : Array Int) (hd : ∀ i j, i ≤ j → j < d.size → d[i]! ≤ d[j]!) : ∀ m, m ≤ d.size → CI d m (Lib.compactUpTo d m)
  | 0, _ => ⟨by simp [Lib.compactUpTo], fun x hx => by simp [Lib.compactUpTo] at hx, fun j hj => absurd hj (Nat.not_lt_zero _), fun _ _ h => absurd h (Nat.lt_irrefl _), by simp [Lib.compactUpTo]⟩
  | m + 1, hm => by
    have h := compact_spec d hd m (by omega)
    rw [Lib.compactUpTo_succ]
    cases hk : Lib.keeps d m with
    | true =>
      rw [if_pos rfl]
      have hlt : ∀ x, x ∈ Lib.compactUpTo d m → x < d[m]! := fun x hx => by
        have h0 : 0 < m := by
          obtain ⟨j, hj, _⟩ := h.sub x hx
          omega
        have h1 := h.top x hx h0
        have h2 := hd (m - 1) m (by omega) (by omega)
        have h3 : d[m]! ≠ d[m - 1]! := by
          have := of_decide_eq_true hk
          rcases this with e | e
          · omega
          · exact e
        omega
      refine ⟨?_, ?_, ?_, ?_, ?_⟩
      · rw [List.pairwise_append]
        exact ⟨h.lt, List.pairwise_singleton _ _, fun x hx y hy => by rw [List.mem_singleton] at hy; subst hy; exact hlt x hx⟩
      · intro x hx
        rw [List.mem_append, List.mem_singleton] at hx
        rcases hx with hx | rfl
        · obtain ⟨j, hj, e⟩ := h.sub x hx
          exact ⟨j, by omega, e⟩
        · exact ⟨m, by omega, rfl⟩
      · intro j hj
        rw [List.mem_append, List.mem_singleton]
        rcases Nat.lt_or_ge j m with h1 | h1
        · exact .inl (h.has j h1)
        · obtain rfl : m = j := by omega
          exact .inr rfl
      · intro x hx _
        rw [List.mem_append, List.mem_singleton] at hx
        rcases hx with hx | rfl
        · exact Int.le_of_lt (hlt x hx)
        · exact Int.le_refl _
      · rw [List.length_append, List.length_singleton]
        have := h.len
        omega
    | false =>
      rw [if_neg (by decide), List.append_nil]
      have hne : m ≠ 0 ∧ d[m]! = d[m - 1]! := by
        have := of_decide_eq_false hk
        refine ⟨fun e => this (.inl e), ?_⟩
        rcases Int.lt_trichotomy d[m]! d[m - 1]! with h1 | h1 | h1
        · exact absurd (.inr (by omega)) this
        · exact h1
        · exact absurd (.inr (by omega)) this
      refine ⟨h.lt, ?_, ?_, ?_, by have := h.len; omega⟩
      · intro x hx
        obtain ⟨j, hj, e⟩ := h.sub x hx
        exact ⟨j, by omega, e⟩
      · intro j hj
        rcases Nat.lt_or_ge j m with h1 | h1
        · exact h.has j h1
        · obtain rfl : m = j := by omega
          rw [hne.2]
          exact h.has _ (by omega)
      · intro x hx _
        have := h.top x hx (by omega)
        rw [show m + 1 - 1 = m by omega, hne.2]
        exact this
theorem compact_nat (l : List Nat) (hl : l.Pairwise (· ≤ ·)) : ∃ m : List Nat, Lib.compact (zs l) = zs m ∧ m.Pairwise (· < ·) ∧ (∀ x, x ∈ m ↔ x ∈ l) ∧ m.length ≤ l.length := by
  have hsz : (zs l).toArray.size = l.length := by simp [zs]
  have hg : ∀ j, j < l.length → (zs l).toArray[j]! = ((l.getD j 0 : Nat) : Int) := fun j hj => zs_get l hj
  have h := compact_spec (zs l).toArray (fun i j hij hj => by
    rw [hsz] at hj
    rw [hg i (by omega), hg j hj]
    rcases Nat.lt_or_ge i j with h1 | h1
    · have := List.pairwise_iff_getElem.1 hl i j (by omega) hj h1
      rw [List.getD_eq_getElem?_getD, List.getD_eq_getElem?_getD, List.getElem?_eq_getElem hj, List.getElem?_eq_getElem (show i < l.length by omega)]
      simpa using this
    · obtain rfl : i = j := by omega
      exact Int.le_refl _) l.length (by omega)
  have hcu : Lib.compact (zs l) = Lib.compactUpTo (zs l).toArray l.length := by unfold Lib.compact; rw [zs_length]
  rw [hcu]
  obtain ⟨r, hr⟩ : ∃ r, r = Lib.compactUpTo (zs l).toArray l.length := ⟨_, rfl⟩
  rw [← hr] at h ⊢
  have hnn : ∀ x, x ∈ r → ∃ n, n ∈ l ∧ x = ((n : Nat) : Int) := fun x hx => by
    obtain ⟨j, hj, e⟩ := h.sub x hx
    rw [hg j hj] at e
    exact ⟨l.getD j 0, getD_mem' hj, e.symm⟩
  have hz : zs (r.map Int.toNat) = r := by
    unfold zs
    rw [List.map_map]
    conv => rhs; rw [← List.map_id r]
    apply List.map_congr_left
    intro x hx
    obtain ⟨n, _, rfl⟩ := hnn x hx
    rfl
  refine ⟨r.map Int.toNat, hz.symm, ?_, ?_, by rw [List.length_map]; exact h.len⟩
  · rw [List.pairwise_map]
    refine h.lt.imp_of_mem ?_
    intro x y hx hy hlt
    obtain ⟨n, _, rfl⟩ := hnn x hx
    obtain ⟨m, _, rfl⟩ := hnn y hy
    show n < m
    omega
  · intro x
    rw [List.mem_map]
    constructor
    · rintro ⟨y, hy, rfl⟩
      obtain ⟨n, hn, rfl⟩ := hnn y hy
      exact hn
    · intro hx
      obtain ⟨j, hj, rfl⟩ := List.getElem_of_mem hx
      refine ⟨_, h.has j hj, ?_⟩
      rw [hg j hj, List.getD_eq_getElem?_getD, List.getElem?_eq_getElem hj]
      rfl
set_option maxHeartbeats 1000000 in
theorem compactI_any (l : List Nat) (A : Option Addr) (c : Nat) (w : World) {ok : Nat → Prop} (h : Mine w ok A c l) (hl : l.Pairwise (· ≤ ·)) (hm : l.length ≤ 1000000) :
    Calls Tryz.prog 44 #[.slice A l.length c] w fun e y => ∃ m : List Nat, e = .returned (.slice A m.length c) ∧ m.Pairwise (· < ·) ∧ (∀ x, x ∈ m ↔ x ∈ l) ∧ m.length ≤ l.length ∧ Mine y ok A c m ∧ Turned ok w y := by
  rcases Nat.eq_zero_or_pos l.length with h0 | hp
  · have hl : l = [] := List.eq_nil_of_length_eq_zero h0
    subst hl
    refine (Any.slices_Compact_int_empty Tryz.compactI A c w).mono ?_
    rintro e y ⟨rfl, rfl⟩
    exact ⟨[], rfl, List.Pairwise.nil, fun _ => Iff.rfl, Nat.le_refl _, h, .inr (Below.refl _ _)⟩
  · obtain ⟨b, cur, hA, hb, hh, hc, hH⟩ := mine_holds h hp
    subst hA
    have hle := h.le
    have hS := Any.slices_Compact_int Tryz.compactI b 0 c (zs l) w hH (by rw [zs_length]; omega) (by rw [zs_length]; exact hle)
    rw [zs_length] at hS
    obtain ⟨m, hcm, h1, h2, h3⟩ := compact_nat l hl
    rw [hcm, zs_length] at hS
    refine hS.mono ?_
    rintro e y ⟨rfl, n, rfl⟩
    rw [← Sort.grow_empty (Sort.putRow _ _ _ _ _)]
    exact ⟨m, rfl, h1, h2, h3, ⟨by omega, h.top, h.no, fun _ => ⟨b, _, rfl, hb, putRow_heap _ _ hh, by rw [putCells_size]; exact hc, get_take fun j hj => putCells_get m [] cur hj (by omega) _⟩⟩, .inl ⟨b, cur, hb, hh, putRow_grown _ _ _ _ _⟩⟩
end Go.Proofs.YtdbhboglccggdaaGreatDoor

set_option maxRecDepth 100000
set_option linter.unusedVariables false
set_option linter.unusedSimpArgs false
namespace Go.Proofs.YtdbhboglccggdaaGreatDoor
open Go.RowKit Go.Shelf
/-- Numbers appended to a slice that is the call's own. -/
theorem wpList_append_ints {w : World} {ops : Array Oper} {rest : List Oper} {o : Oper} {a : Act} {Q : Exit → Act → World → Prop} (hgd : o.guard = none) (s x : Operand)
    (ho : o.op = .call { callee := .builtin .append, args := #[s, x], argTypes := #[24, 24] }) (base : Nat)
    (v : Value) (n : Nat) (ys : List Nat) (hs : a.eval s = v) (hown : w.ownsRow base 3 1 v n (vals .i64 ys)) (A : Option Addr) (xs : List Nat) (c : Nat) (ok : Nat → Prop)
    (hx : a.eval x = .slice A xs.length c) (hb : Row .i64 w ok A xs) (hn : A = none → c = 0) (h63 : n + xs.length ≤ 1000000) (hbase : base ≤ w.heap.size)
    (h : ∀ v' w', Hid (w'.ownsRow base 3 1 v' (n + xs.length) (vals .i64 (ys ++ xs))) → Hid (w.grownBy w' v.ownBlock) → wpList Tryz.prog ops Q rest (a.put o.dst v') w') : wpList Tryz.prog ops Q (o :: rest) a w := by
  obtain ⟨i, hi, hz, hsz, hby⟩ := info_parts info3
  cases A with
  | none =>
    have h0 : xs = [] := by
      cases xs with
      | nil => rfl
      | cons y ys =>
        obtain ⟨b, o, e, _⟩ := hb.at_ (by simp)
        cases e
    subst h0
    have hc := hn rfl
    subst hc
    exact wpList_append_own_none hgd s x 24 ho base 3 i 1 Tryz.underlying24 hi v n (vals .i64 ys) hs hown hx (h v w (show w.ownsRow _ _ _ _ _ _ by simpa using hown) ⟨rfl, rfl, rfl, Nat.le_refl _, fun _ _ _ => rfl⟩)
  | some ad =>
    refine wpList_append_own _ hgd s x 24 ho base 3 i (.int .i64 0) 1 8 Tryz.underlying24 hi hz hsz hby rfl (by decide) v n (vals .i64 ys) hs hown ad xs.length c (vals .i64 xs) hx (by rw [vals_length]; omega) (fun j u hu => ?_) (fun u hu => ?_) (by unfold maxLen; omega) (by omega) hbase ?_
    · have hj : j < xs.length := by
        have := (List.getElem?_eq_some_iff.1 hu).1
        rwa [vals_length] at this
      obtain ⟨b, o, e, _, hc⟩ := hb.at_ (by omega)
      cases e
      rw [Go.WideShapes.add_plain, hc j hj]
      simp only [vals, List.getElem?_map, List.getElem?_eq_getElem hj, Option.map_some] at hu
      rw [← hu]
      simp [List.getD_eq_getElem?_getD, hj]
    · simp only [vals, List.mem_map] at hu
      obtain ⟨y, _, rfl⟩ := hu
      rfl
    · intro v' w' h1 h2 _
      exact h v' w' (by rw [vals_append]; exact h1) h2
theorem Turned.phi {N M : Nat} {G ok : Nat → Prop} {p : Value} {ls : List Pt} {R : Nat} {Φ : World → Prop} (E : Env N G p ls R Φ) (hM : N ≤ M) (ho : ∀ b, ok b → M ≤ b) {x y : World} (h : Turned ok x y) (hf : Φ x) : Φ y := by
  rcases h with ⟨b, cur, hb, hh, hg⟩ | hb
  · exact E.put hM x y b cur (ho b hb) hh hg hf
  · exact E.down hb hf
/-- All that are listed for the first j parts. -/
def catL (ls : List Pt) (R : Nat) (ps : List Nat) (j : Nat) : List Nat := (ps.take j).flatMap fun (k : Nat) => LK ls R (k : Int)
theorem catL_succ (ls : List Pt) (R : Nat) (ps : List Nat) {j : Nat} (hj : j < ps.length) : catL ls R ps (j + 1) = catL ls R ps j ++ LK ls R ((ps.getD j 0 : Nat) : Int) := by
  unfold catL
  rw [take_succ_getD hj, List.flatMap_append]
  simp
theorem catL_len (ls : List Pt) (R : Nat) (ps : List Nat) : ∀ j, j ≤ ps.length → (catL ls R ps j).length ≤ j * R
  | 0, _ => by simp [catL]
  | j + 1, hj => by
    rw [catL_succ ls R ps (by omega), List.length_append, Nat.succ_mul]
    have := catL_len ls R ps j (by omega)
    have := LK_len ls R ((ps.getD j 0 : Nat) : Int)
    omega
theorem catL_mem (ls : List Pt) (R : Nat) (ps : List Nat) (x : Nat) : x ∈ catL ls R ps ps.length ↔ ∃ k, k ∈ ps ∧ x ∈ LK ls R ((k : Nat) : Int) := by
  unfold catL
  rw [List.take_length, List.mem_flatMap]
/-- The peers of a node. -/
def Peer (ls : List Pt) (R : Nat) (node : Int) (x : Nat) : Prop := ((x : Nat) : Int) ≠ node ∧ ∃ k, k ∈ partsI ls R node 8 ∧ x ∈ LK ls R ((k : Nat) : Int)
def PeR (G : Nat → Prop) (Φ : World → Prop) (ls : List Pt) (R : Nat) (node : Int) (w : World) (e : Ending) (y : World) : Prop :=
  ∃ l : List Nat, l.Pairwise (· < ·) ∧ (∀ x, x ∈ l ↔ Peer ls R node x) ∧ l.length ≤ 1000 ∧ LRs G Φ l w e y
set_option maxHeartbeats 8000000 in
theorem peers_env {N : Nat} {G : Nat → Prop} {p : Value} {ls : List Pt} {R : Nat} {Φ : World → Prop} (E : Env N G p ls R Φ) (node : Int) (w : World) (h : Φ w) :
    Calls Tryz.prog 21 #[p, .int .i64 node] w (PeR G Φ ls R node w) := by
  have HL := Lib.hid (parts_own E node w h)
  have HK := Lib.hid (fun (k : Nat) x hx => list_own E (k : Int) x hx)
  have HE := Lib.hid E
  have HG : Hid (∀ b, w.heap.size ≤ b → ¬ G b) := Lib.hid (fun b hb hg => by have := E.old h hg; omega)
  have HNW := Lib.hid (E.nle w h)
  have HP8 := Lib.hid (partsI_len ls R node 8)
  have HR8 := Lib.hid E.r
  obtain ⟨ps, hps⟩ : ∃ ps, ps = partsI ls R node 8 := ⟨_, rfl⟩
  have HPS := Lib.hid hps
  rw [← hps] at HL HP8
  clear E h hps
  go_enter Tryz.func21, Tryz.ntmps21
  go_wp2_with fail
  refine HL.out.mono ?_
  rintro e w1 ⟨B, rfl, hm, ho, hf⟩
  have HM := Lib.hid (hm.weak (Q := fun b => w.heap.size ≤ b ∧ b < w1.heap.size) fun b hb hl => ⟨hb, hl⟩)
  have HO := Lib.hid ho
  have HF := Lib.hid hf
  clear hm ho hf HL
  go_wp2_with fail
  go_loopw [5, 12] (fun v iv x => ∃ i : Nat, i ≤ ps.length ∧ iv = .int .i64 i ∧ Hid (x.ownsRow w1.heap.size 3 1 v (catL ls R ps i).length (vals .i64 (catL ls R ps i))) ∧ Hid (Mine x (fun b => w.heap.size ≤ b ∧ b < w1.heap.size) B ps.length ps) ∧ Hid (Only G w x) ∧ Hid (Φ x) ∧ Hid (w1.heap.size ≤ x.heap.size)) (fun _ iv _ => ps.length - (intOf iv).toNat)
  case atStart => exact ⟨0, by omega, rfl, World.ownsRow_nil _ _ _ _, HM, HO, HF, Lib.hid (Nat.le_refl _)⟩
  case round =>
    clear HM HF
    obtain ⟨i, hi, rfl, HOW, HM, HW, HF, HSZ⟩ := hrel
    by_cases hlt : i < ps.length
    · have hlt' : (i : Int) < (ps.length : Int) := by omega
      have eI : IntKind.i64.wrap ((i : Int) + 1) = (i : Int) + 1 := by have := HP8.out; rw [IntKind.wrap_i64]; omega
      obtain ⟨b, o, hB, _, hcs⟩ := HM.out.row.at_ (by omega)
      subst hB
      have hc1 := hcs i hlt
      obtain ⟨k, hk⟩ : ∃ k, k = ps.getD i 0 := ⟨_, rfl⟩
      have HS := Lib.hid (catL_succ ls R ps hlt)
      have HLN := Lib.hid (catL_len ls R ps i hi)
      have HLL := Lib.hid (LK_len ls R ((k : Nat) : Int))
      have HLK := Lib.hid (HK.out k wr HF.out)
      rw [← hk] at hc1 HS
      obtain ⟨acc, hacc⟩ : ∃ acc, acc = catL ls R ps i := ⟨_, rfl⟩
      obtain ⟨lk, hlk⟩ : ∃ lk, lk = LK ls R ((k : Nat) : Int) := ⟨_, rfl⟩
      rw [← hacc] at HS HLN HOW
      rw [← hlk] at HS HLL HLK
      have HMX : Hid (acc.length ≤ 100 ∧ lk.length ≤ 100) := Lib.hid (by
        have := HLN.out
        have := HLL.out
        have := HR8.out
        have := HP8.out
        have h1 : i * R ≤ 8 * 8 := Nat.mul_le_mul (by omega) (by omega)
        omega)
      clear hcs hk hacc hlk HLN HLL
      go_wp2_with fail
      refine HLK.out.mono ?_
      rintro e w2 ⟨B2, c2, rfl, hm2, ho2, hf2⟩
      have HM2 := Lib.hid hm2
      have HO1 := Lib.hid (own_only HOW.out (by decide) ho2 (fun b hb => HE.out.tag _ b HF.out hb))
      have HW2 := Lib.hid (HW.out.trans ho2)
      have HMP := Lib.hid (HM.out.keep fun b hb hl => ho2.block b hl (HG.out b hb.1))
      have HF2 := Lib.hid hf2
      have HSZ2 := Lib.hid (Nat.le_trans HSZ.out ho2.size)
      clear hm2 ho2 hf2 HLK HM HF hc1 HW HOW
      go_wp2_with (refine wpList_append_ints rfl (.tmp 16) (.tmp 19) rfl w1.heap.size _ acc.length acc rfl HO1.out B2 lk c2 _ rfl HM2.out.row HM2.out.no (by have := HMX.out; omega) HSZ2.out ?_; intro v' w5 hown hgr)
      have HF3 := Lib.hid (HE.out.up _ _ (own_soft HO1.out (by decide) (by decide) (Nat.le_trans HNW.out HO.out.size) hgr.out) HF2.out)
      have HW3 := Lib.hid (HW2.out.of_own HO1.out HO.out.size hgr.out)
      have HM3 := Lib.hid (HMP.out.keep fun b hb hl => hgr.out.block b hl (fun e => by
        have := (HO1.out.lt b e.symm).1
        omega))
      have HO3 : Hid (w5.ownsRow w1.heap.size 3 1 v' (catL ls R ps (i + 1)).length (vals .i64 (catL ls R ps (i + 1)))) := Lib.hid (by
        rw [HS.out, List.length_append]
        exact hown.out)
      have HSZ3 := Lib.hid (Nat.le_trans HSZ2.out hgr.out.size)
      clear hown hgr HMX
      go_roundw
      all_goals clear eI
      case rel => exact ⟨i + 1, by omega, by go_num, HO3, HM3, HW3, HF3, HSZ3⟩
      case measure => simp [intOf]; omega
    · obtain rfl : i = ps.length := by omega
      have HMEM := Lib.hid (catL_mem ls R ps)
      have HLN := Lib.hid (catL_len ls R ps ps.length (Nat.le_refl _))
      obtain ⟨acc, hacc⟩ : ∃ acc, acc = catL ls R ps ps.length := ⟨_, rfl⟩
      rw [← hacc] at HLN HOW HMEM
      have HMX : Hid (acc.length ≤ 100) := Lib.hid (by
        have := HLN.out
        have := HR8.out
        have := HP8.out
        have h1 : ps.length * R ≤ 8 * 8 := Nat.mul_le_mul (by omega) (by omega)
        omega)
      obtain ⟨A, c, rfl, _, _, _⟩ := own_row1 HOW.out
      have HMA := Lib.hid ((own_mine HOW.out).weak (Q := fun b => w1.heap.size ≤ b) fun b hb _ => hb.1)
      have HSO := Lib.hid (sortI_any acc A c wr HMA.out (by have := HMX.out; omega))
      have HM1W := Lib.hid (Nat.le_trans HNW.out HO.out.size)
      clear hacc HM HLN
      go_wp2_with fail
      refine HSO.out.mono ?_
      rintro e w2 ⟨rfl, hm2, ht2⟩
      have hsl : (acc.mergeSort fun x y => decide (x ≤ y)).length = acc.length := List.length_mergeSort acc
      have hss : (acc.mergeSort fun x y => decide (x ≤ y)).Pairwise (· ≤ ·) := by
        have := List.pairwise_mergeSort (le := fun x y : Nat => decide (x ≤ y)) (by intro a b c h1 h2; simp at *; omega) (by intro a b; simp; omega) acc
        exact this.imp (fun h => by simpa using h)
      have hsm : ∀ x, x ∈ (acc.mergeSort fun x y => decide (x ≤ y)) ↔ x ∈ acc := fun x => List.mem_mergeSort
      obtain ⟨so, hso⟩ : ∃ so, so = acc.mergeSort fun x y => decide (x ≤ y) := ⟨_, rfl⟩
      rw [← hso] at hm2 hsl hss hsm
      have HCO := compactI_any so A c w2 hm2 hss (by have := HMX.out; omega)
      rw [hsl] at HCO
      have HCO := Lib.hid HCO
      have HSM := Lib.hid hsm
      have HSL := Lib.hid hsl
      have HW2 := Lib.hid (HW.out.own (((ht2.only G).lax fun k hk => hk.imp id fun h => Nat.le_trans HO.out.size h)))
      have HF2 := Lib.hid (ht2.phi HE.out HM1W.out (fun b hb => hb) HF.out)
      clear hso hsl hss hsm hm2 ht2 HSO
      go_wp2_with fail
      refine HCO.out.mono ?_
      rintro e w3 ⟨m, rfl, hm1, hm2, hm3, hm4, ht3⟩
      have HMM := Lib.hid hm4
      have HML := Lib.hid hm1
      have HMI := Lib.hid hm2
      have HM3 := Lib.hid hm3
      have HW3 := Lib.hid (HW2.out.own (((ht3.only G).lax fun k hk => hk.imp id fun h => Nat.le_trans HO.out.size h)))
      have HF3 := Lib.hid (ht3.phi HE.out HM1W.out (fun b hb => hb) HF2.out)
      clear hm1 hm2 hm3 hm4 ht3 HCO
      go_wp2_with fail
      refine (is_any node w3).mono ?_
      rintro e w4 ⟨rfl, rfl⟩
      have HC := Lib.hid (deleteF_any (HE.out.asks_is (T := w3.heap.size) HM1W.out node) m c A (w3.alloc (.cells #[.int .i64 node] 3)) ((HMM.out.weak fun b hb hl => ⟨hb, hl⟩).grow (below1 _ _)) (fun b hb => HG.out b (Nat.le_trans HO.out.size hb.1)) (by have := HMX.out; have := HM3.out; have := HSL.out; omega) ⟨HE.out.down (below1 _ _) HF3.out, heap_alloc_new _ _⟩)
      have HB4 := Lib.hid (below1 w3 (.cells #[.int .i64 node] 3))
      go_wp2_with fail
      refine HC.out.mono ?_
      rintro e w5 ⟨rfl, hm, ho, hf⟩
      have HM5 : Hid (Mine w5 (fun b => w1.heap.size ≤ b ∧ b < w3.heap.size) A c (without m node)) := Lib.hid hm
      have HO5 := Lib.hid ((HW3.out.trans (Only.of_below HB4.out)).own (ho.lax fun k hk => hk.imp id (fun h => Nat.le_trans HO.out.size h.1)))
      have HF5 := Lib.hid hf.1
      have HQ : Hid ((m.filter fun x => !decide (((x : Nat) : Int) = node)) = without m node) := Lib.hid rfl
      rw [HQ.out]
      clear hm ho hf HC
      go_wp2_with fail
      refine (clipM_any A c _ HM5.out).mono ?_
      rintro e w6 ⟨rfl, rfl⟩
      go_wp2_with fail
      go_ret
      refine ⟨without m node, HML.out.sublist List.filter_sublist, fun x => ?_, ?_, LRs.of (HM5.out.clip.weak fun b hb _ => Nat.le_trans HO.out.size hb.1) HO5.out HF5.out⟩
      · unfold without Peer
        rw [List.mem_filter, HMI.out, HSM.out, HMEM.out, ← HPS.out]
        simp only [Bool.not_eq_true', decide_eq_false_iff_not]
        exact And.comm
      · have h1 := without_len m node
        have h2 := HM3.out
        have h3 := HSL.out
        have h4 := HMX.out
        omega
end Go.Proofs.YtdbhboglccggdaaGreatDoor
