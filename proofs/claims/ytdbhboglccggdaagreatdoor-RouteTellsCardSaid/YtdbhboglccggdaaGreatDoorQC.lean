/- The law RingGrows. Route: what must come of fixed calls. Route: what must come of fixed calls, walked. -/
import Derived.Test.YtdbhboglccggdaaGreatDoorR14
import Derived.Test.YtdbhboglccggdaaGreatDoorQB
import Derived.Test.YtdbhboglccggdaaGreatDoorR18
set_option maxRecDepth 100000
set_option linter.unusedVariables false
set_option linter.unusedSimpArgs false
namespace Go.Proofs.YtdbhboglccggdaaGreatDoor
open Go.RowKit
theorem wpList_load_w {P : Program} {ops : Array Oper} {rest : List Oper} {o : Oper} {a : Act} {w : World} {Q : Exit → Act → World → Prop} (hgd : Region.wanted o (yielded ops a.tmps) = true) (ty : TypeId) (x : Operand) (ho : o.op = .load ty x)
    (b o' : Nat) (hx : a.eval x = .pointer (some ⟨b, o', none⟩)) (A : Array Value) (d : TypeDesc) (hc : rangeA w b o' A)
    (hu : P.underlying ty = some d) (hd : d.isRow = true) (hi : (P.info? ty).map (·.size) = some A.size)
    (h : wpList P ops Q rest (a.put o.dst (.agg A)) w) : wpList P ops Q (o :: rest) a w :=
  wpList_wanted hgd fun _ hK => by
    unfold Oper.wp execOp
    simp only [ho, hx, Instr.loadAt, Instr.sureAddr, Sem.run_bind, Sem.run_pure, Result.andThen_ok, run_loadVar_arr w b o' ty A d hc hu hd hi]
    exact hK _ _ h
theorem cfg_range {x : World} {b : Nat} {N V R : Int} {fr : Nat × Nat} (h : x.heap[b]? = some (.cells (cfg N V R) 23 fr)) : rangeA x b 0 (cfg N V R) := by
  intro j v hj
  rw [Nat.zero_add, cell_of_row _ _ _ _ _ _ h]
  exact hj
end Go.Proofs.YtdbhboglccggdaaGreatDoor

set_option maxRecDepth 100000
set_option linter.unusedVariables false
set_option linter.unusedSimpArgs false
namespace Go.Proofs.YtdbhboglccggdaaGreatDoor
open Go.RowKit Go.Shelf
/-! ### lists of a ring of which all nodes hold all -/
abbrev L3 : List Pt := Ring.pts ptAt 2 3
theorem L3_len (k : Nat) (hk : k < 8) : (LK L3 3 (k : Int)).length = 3 := by
  rw [LK_ok _ _ _ hk]
  exact Ring.listOf_length (by omega) (by omega)
theorem L3_nodup (k : Nat) (hk : k < 8) : (LK L3 3 (k : Int)).Nodup := by
  rw [LK_ok _ _ _ hk]
  exact Ring.listOf_nodup _ _ _
theorem L3_node (k : Nat) (hk : k < 8) : ∀ y, y ∈ LK L3 3 (k : Int) → 1 ≤ y ∧ y ≤ 3 := by
  intro y hy
  rw [LK_ok _ _ _ hk] at hy
  exact Ring.listOf_node hy
theorem three_all {l : List Nat} (h1 : l.length = 3) (h2 : l.Nodup) (h3 : ∀ y, y ∈ l → 1 ≤ y ∧ y ≤ 3) : 1 ∈ l ∧ 2 ∈ l ∧ 3 ∈ l := by
  match l, h1 with
  | [a, b, c], _ =>
    simp only [List.nodup_cons, List.mem_cons, List.mem_nil_iff, or_false, not_or, List.nodup_nil, not_false_eq_true, and_true] at h2
    have ha := h3 a (by simp)
    have hb := h3 b (by simp)
    have hc := h3 c (by simp)
    simp only [List.mem_cons, List.mem_nil_iff, or_false]
    omega
theorem L3_all (k : Nat) (hk : k < 8) : 1 ∈ LK L3 3 (k : Int) ∧ 2 ∈ LK L3 3 (k : Int) ∧ 3 ∈ LK L3 3 (k : Int) := three_all (L3_len k hk) (L3_nodup k hk) (L3_node k hk)
theorem L3_has (k : Nat) (hk : k < 8) (n : Nat) (hn : 1 ≤ n ∧ n ≤ 3) : hasI (LK L3 3 (k : Int)) (n : Int) = true := by
  rw [hasI_nat, decide_eq_true_eq]
  obtain ⟨h1, h2, h3⟩ := L3_all k hk
  rcases (show n = 1 ∨ n = 2 ∨ n = 3 by omega) with rfl | rfl | rfl
  · exact h1
  · exact h2
  · exact h3
theorem L3_parts (n : Nat) (hn : 1 ≤ n ∧ n ≤ 3) : partsI L3 3 (n : Int) 8 = List.range 8 := by
  unfold partsI
  rw [List.filter_eq_self]
  intro k hk
  exact L3_has k (by simpa using hk) n hn
def tA : ByteArray := ⟨#[97]⟩
def tC : ByteArray := ⟨#[65]⟩
def tE : ByteArray := ⟨#[]⟩
theorem rightA : rightK tA = true := by decide +kernel
theorem rightC0 : rightK tC = false := by decide +kernel
theorem rightE : rightK tE = false := by decide +kernel
theorem KA_eq : KL L3 3 tA = LK L3 3 ((partK tA : Nat) : Int) := KL_yes rightA
theorem KA_len : (KL L3 3 tA).length = 3 := by rw [KA_eq]; exact L3_len _ (partK_lt _)
theorem pick2 {l : List Nat} (h : 2 ∈ l) : pickL l [2] = (2, 0) := by
  unfold pickL
  have hf : l.find? (fun (n : Nat) => hasZ [2] (n : Int)) = some 2 := by
    cases hq : l.find? (fun (n : Nat) => hasZ [2] (n : Int)) with
    | none =>
      have := List.find?_eq_none.1 hq 2 h
      simp [hasZ] at this
    | some n =>
      have := List.find?_some hq
      simp only [hasZ, List.any_cons, List.any_nil, Bool.or_false, decide_eq_true_eq] at this
      congr 1
      omega
  rw [hf]
  rfl
theorem pick0 (l : List Nat) : pickL l [] = (0, 15) := by
  unfold pickL
  rw [List.find?_eq_none.2 (fun x _ => by simp [hasZ])]
theorem pickA2 : pickR L3 3 tA [2] = (2, 0) := by
  unfold pickR
  rw [if_pos rightA, if_neg (fun e => by have := KA_len; rw [e] at this; cases this)]
  apply pick2
  rw [KA_eq]
  exact (L3_all _ (partK_lt _)).2.1
theorem pickA0 : pickR L3 3 tA [] = (0, 15) := by
  unfold pickR
  rw [if_pos rightA, if_neg (fun e => by have := KA_len; rw [e] at this; cases this)]
  exact pick0 _
theorem pickE2 : pickR L3 3 tE [2] = (0, 1) := by
  unfold pickR
  rw [if_neg (by rw [rightE]; decide)]
theorem pickN2 : pickR [] 0 tA [2] = (0, 6) := by
  unfold pickR
  rw [if_pos rightA, if_pos (List.eq_nil_of_length_eq_zero (by have := KL_len [] 0 tA; omega))]
theorem hold3 : hasI (KL L3 3 tA) 3 = true := by
  rw [KA_eq]
  exact L3_has _ (partK_lt _) 3 (by omega)
theorem holdC : hasI (KL L3 3 tC) 3 = false := by
  rw [KL_no rightC0]
  rfl
theorem without1 {l : List Nat} (h1 : l.length = 3) (h2 : l.Nodup) (h3 : 1 ∈ l) : (without l 1).length = 2 := by
  unfold without
  match l, h1 with
  | [a, b, c], _ =>
    simp only [List.nodup_cons, List.mem_cons, List.mem_nil_iff, or_false, not_or, List.nodup_nil, not_false_eq_true, and_true] at h2 h3
    have e : ∀ x : Nat, decide (((x : Nat) : Int) = 1) = decide (x = 1) := fun x => by
      by_cases hx : x = 1
      · subst hx; rfl
      · rw [decide_eq_false hx, decide_eq_false (by omega)]
    simp only [e, List.filter_cons, List.filter_nil]
    rcases h3 with rfl | rfl | rfl
    · have h4 : b ≠ 1 := fun e => h2.1.1 e.symm
      have h5 : c ≠ 1 := fun e => h2.1.2 e.symm
      simp [h4, h5]
    · have h4 : a ≠ 1 := fun e => h2.1.1 e
      have h5 : c ≠ 1 := fun e => h2.2 e.symm
      simp [h4, h5]
    · have h4 : a ≠ 1 := fun e => h2.1.2 e
      have h5 : b ≠ 1 := fun e => h2.2 e
      simp [h4, h5]
theorem othersA : (without (KL L3 3 tA) 1).length = 2 := by
  rw [KA_eq]
  exact without1 (L3_len _ (partK_lt _)) (L3_nodup _ (partK_lt _)) (L3_all _ (partK_lt _)).1
theorem sharedA : (sharedL L3 3 1 2).length = 8 := by
  unfold sharedL
  rw [if_neg (by decide), show partsI L3 3 (1 : Int) 8 = List.range 8 from L3_parts 1 (by omega), List.filter_eq_self.2]
  · simp
  · intro k hk
    have := L3_has k (by simpa using hk) 2 (by omega)
    unfold notH
    rw [Bool.not_not]
    exact this
theorem peersA {l : List Nat} (hl : l.Pairwise (· < ·)) (hm : ∀ x, x ∈ l ↔ Peer L3 3 1 x) : l.length = 2 := by
  have h2 : ∀ x, x ∈ l ↔ x = 2 ∨ x = 3 := fun x => by
    rw [hm]
    unfold Peer
    rw [show partsI L3 3 (1 : Int) 8 = List.range 8 from L3_parts 1 (by omega)]
    constructor
    · rintro ⟨hx, k, hk, hy⟩
      have := L3_node k (by simpa using hk) x hy
      omega
    · intro hx
      obtain ⟨_, h2, h3⟩ := L3_all 0 (by omega)
      refine ⟨by omega, 0, by simp, ?_⟩
      rcases hx with rfl | rfl
      · exact h2
      · exact h3
  have e : l = [2, 3] := by
    have hp : l.Perm [2, 3] := by
      rw [List.perm_ext_iff_of_nodup (hl.imp (fun h => Nat.ne_of_lt h)) (by decide)]
      intro x
      rw [h2]
      simp
    exact hp.eq_of_pairwise (le := (· < ·)) (fun a b _ _ h1 h2 => by omega) hl (by decide)
  rw [e]
  rfl
end Go.Proofs.YtdbhboglccggdaaGreatDoor

set_option maxRecDepth 100000
set_option linter.unusedVariables false
set_option linter.unusedSimpArgs false
namespace Go.Proofs.YtdbhboglccggdaaGreatDoor
open Go.RowKit Go.Shelf
/-- While fixed calls are made. -/
def AL (w : World) (g : Nat) (x : World) : Prop := RingAt x g 3 2 3 ∧ Tabs x ∧ w.heap.size ≤ x.heap.size ∧ Below w.heap.size w x
theorem al_env {w : World} {g : Nat} (h2 : 2 ≤ w.heap.size) (hg : w.heap.size ≤ g) : Env w.heap.size (fun b => b = g) (.pointer (some ⟨g, 0, none⟩)) L3 3 (AL w g) :=
  env_ring w.heap.size g 3 2 3 (Below w.heap.size w) h2 (by omega) (by omega) (by omega) (fun x y hs _ h => Below.soft h hs (Nat.le_refl _) h.size) (fun x y _ _ hgr h => h.grown hgr h.size (fun k hk => by injection hk with hk; omega))
theorem al_nil {w : World} {g : Nat} (h2 : 2 ≤ w.heap.size) (hg : w.heap.size ≤ g) : Env w.heap.size (fun _ => False) (.pointer none) [] 0 (fun x => w.heap.size ≤ x.heap.size ∧ (RingAt x g 3 2 3 ∧ Tabs x ∧ Below w.heap.size w x)) :=
  env_nil w.heap.size _ (fun x y hs hn h => ⟨h.1.soft hs, h.2.1.soft hs h2, Below.soft h.2.2 hs (Nat.le_refl _) h.2.2.size⟩)
theorem AL.tabs {w x : World} {g : Nat} (h : AL w g x) : Tabs x := h.2.1
theorem AL.down {w x y : World} {g : Nat} (h2 : 2 ≤ w.heap.size) (hg : w.heap.size ≤ g) (h : AL w g x) (hb : Below x.heap.size x y) : AL w g y := (al_env h2 hg).down hb h
theorem two_row (x : World) (G : Nat → Prop) (hG : ∀ b, G b → b < x.heap.size) : RowZ (x.alloc (.cells #[.int .i64 2] 3)) (fun b => b < (x.alloc (.cells #[.int .i64 2] 3)).heap.size ∧ ¬ G b) (some ⟨x.heap.size, 0, none⟩) [2] :=
  ⟨fun _ => ⟨x.heap.size, 0, rfl, ⟨by rw [World.size_alloc]; omega, fun h => by have := hG _ h; omega⟩, fun j hj => by
    obtain rfl : j = 0 := by simpa using hj
    rw [cell_of_row _ _ _ _ _ _ (heap_alloc_new _ _)]
    rfl⟩⟩
theorem nil_row (x : World) (ok : Nat → Prop) : RowZ x ok none [] := ⟨fun h => by cases h⟩
theorem al_list {w : World} {g : Nat} (h2 : 2 ≤ w.heap.size) (hg : w.heap.size ≤ g) (x : World) (h : AL w g x) : Calls Tryz.prog 13 #[.pointer (some ⟨g, 0, none⟩), .string tA] x fun e y => (∃ B c, e = .returned (.slice B 3 c)) ∧ AL w g y :=
  (rtlist_env (al_env h2 hg) (fun _ h => h.tabs) tA (by decide) x h).mono (by
    rintro e y ⟨B, c, rfl, _, _, hf⟩
    rw [KA_len]
    exact ⟨⟨B, c, rfl⟩, hf⟩)
theorem al_old {w : World} {g : Nat} (x : World) (h : AL w g x) : ∀ b, b = g → b < x.heap.size := fun b hb => hb ▸ h.1.lt
theorem al_pick2 {w : World} {g : Nat} (h2 : 2 ≤ w.heap.size) (hg : w.heap.size ≤ g) (x : World) (h : AL w g x) : Calls Tryz.prog 10 #[.pointer (some ⟨g, 0, none⟩), .string tA, .slice (some ⟨x.heap.size, 0, none⟩) 1 1] (x.alloc (.cells #[.int .i64 2] 3)) fun e y => e = .returned (.tuple #[.int .i64 2, .int .i64 0]) ∧ AL w g y :=
  (pick_env (al_env h2 hg) (fun _ h => h.tabs) tA (by decide) (some ⟨x.heap.size, 0, none⟩) 1 [2] _ (two_row x _ (al_old x h)) (by simp) (h.down h2 hg (below1 _ _))).mono (by
    rintro e y ⟨rfl, _, hf⟩
    rw [pickA2]
    exact ⟨rfl, hf⟩)
theorem al_pick0 {w : World} {g : Nat} (h2 : 2 ≤ w.heap.size) (hg : w.heap.size ≤ g) (x : World) (h : AL w g x) : Calls Tryz.prog 10 #[.pointer (some ⟨g, 0, none⟩), .string tA, .slice none 0 0] x fun e y => e = .returned (.tuple #[.int .i64 0, .int .i64 15]) ∧ AL w g y :=
  (pick_env (al_env h2 hg) (fun _ h => h.tabs) tA (by decide) none 0 [] x (nil_row _ _) (by simp) h).mono (by
    rintro e y ⟨rfl, _, hf⟩
    rw [pickA0]
    exact ⟨rfl, hf⟩)
theorem al_pickE {w : World} {g : Nat} (h2 : 2 ≤ w.heap.size) (hg : w.heap.size ≤ g) (x : World) (h : AL w g x) : Calls Tryz.prog 10 #[.pointer (some ⟨g, 0, none⟩), .string tE, .slice (some ⟨x.heap.size, 0, none⟩) 1 1] (x.alloc (.cells #[.int .i64 2] 3)) fun e y => e = .returned (.tuple #[.int .i64 0, .int .i64 1]) ∧ AL w g y :=
  (pick_env (al_env h2 hg) (fun _ h => h.tabs) tE (by decide) (some ⟨x.heap.size, 0, none⟩) 1 [2] _ (two_row x _ (al_old x h)) (by simp) (h.down h2 hg (below1 _ _))).mono (by
    rintro e y ⟨rfl, _, hf⟩
    rw [pickE2]
    exact ⟨rfl, hf⟩)
theorem al_pickN {w : World} {g : Nat} (h2 : 2 ≤ w.heap.size) (hg : w.heap.size ≤ g) (x : World) (h : AL w g x) : Calls Tryz.prog 10 #[.pointer none, .string tA, .slice (some ⟨x.heap.size, 0, none⟩) 1 1] (x.alloc (.cells #[.int .i64 2] 3)) fun e y => e = .returned (.tuple #[.int .i64 0, .int .i64 6]) ∧ AL w g y := by
  have h' := h.down h2 hg (below1 x (.cells #[.int .i64 2] 3))
  refine (pick_env (al_nil h2 hg) (fun _ h => h.2.2.1) tA (by decide) (some ⟨x.heap.size, 0, none⟩) 1 [2] _ (two_row x _ (fun b h => h.elim)) (by simp) ⟨h'.2.2.1, h'.1, h'.2.1, h'.2.2.2⟩).mono ?_
  rintro e y ⟨rfl, _, hf⟩
  rw [pickN2]
  exact ⟨rfl, hf.2.1, hf.2.2.1, hf.1, hf.2.2.2⟩
theorem al_hold {w : World} {g : Nat} (h2 : 2 ≤ w.heap.size) (hg : w.heap.size ≤ g) (x : World) (h : AL w g x) : Calls Tryz.prog 15 #[.pointer (some ⟨g, 0, none⟩), .int .i64 3, .string tA] x fun e y => e = .returned (.bool true) ∧ AL w g y :=
  (rtholds_env (al_env h2 hg) (fun _ h => h.tabs) 3 tA (by decide) x h).mono (by
    rintro e y ⟨rfl, _, hf⟩
    rw [hold3]
    exact ⟨rfl, hf⟩)
theorem al_holdC {w : World} {g : Nat} (h2 : 2 ≤ w.heap.size) (hg : w.heap.size ≤ g) (x : World) (h : AL w g x) : Calls Tryz.prog 15 #[.pointer (some ⟨g, 0, none⟩), .int .i64 3, .string tC] x fun e y => e = .returned (.bool false) ∧ AL w g y :=
  (rtholds_env (al_env h2 hg) (fun _ h => h.tabs) 3 tC (by decide) x h).mono (by
    rintro e y ⟨rfl, _, hf⟩
    rw [holdC]
    exact ⟨rfl, hf⟩)
theorem al_others {w : World} {g : Nat} (h2 : 2 ≤ w.heap.size) (hg : w.heap.size ≤ g) (x : World) (h : AL w g x) : Calls Tryz.prog 17 #[.pointer (some ⟨g, 0, none⟩), .string tA, .int .i64 1] x fun e y => (∃ B c, e = .returned (.slice B 2 c)) ∧ AL w g y :=
  (rtothers_env (al_env h2 hg) (fun _ h => h.tabs) 1 tA (by decide) x h).mono (by
    rintro e y ⟨B, c, rfl, _, _, hf⟩
    rw [othersA]
    exact ⟨⟨B, c, rfl⟩, hf⟩)
theorem al_shared {w : World} {g : Nat} (h2 : 2 ≤ w.heap.size) (hg : w.heap.size ≤ g) (x : World) (h : AL w g x) : Calls Tryz.prog 19 #[.pointer (some ⟨g, 0, none⟩), .int .i64 1, .int .i64 2] x fun e y => (∃ B c, e = .returned (.slice B 8 c)) ∧ AL w g y :=
  (rtshared_env (al_env h2 hg) 1 2 x h).mono (by
    rintro e y ⟨B, c, rfl, _, _, hf⟩
    rw [sharedA]
    exact ⟨⟨B, c, rfl⟩, hf⟩)
theorem al_peers {w : World} {g : Nat} (h2 : 2 ≤ w.heap.size) (hg : w.heap.size ≤ g) (x : World) (h : AL w g x) : Calls Tryz.prog 21 #[.pointer (some ⟨g, 0, none⟩), .int .i64 1] x fun e y => (∃ B c, e = .returned (.slice B 2 c)) ∧ AL w g y :=
  (peers_env (al_env h2 hg) 1 x h).mono (by
    rintro e y ⟨l, h1, h3, _, B, c, rfl, _, _, hf⟩
    rw [peersA h1 h3]
    exact ⟨⟨B, c, rfl⟩, hf⟩)
theorem al_new (w : World) (ht : Tabs w) : Calls Tryz.prog 7 #[.agg #[.int .i64 3, .int .i64 2, .int .i64 3]] w fun e y => ∃ g, e = .returned (.tuple #[.pointer (some ⟨g, 0, none⟩), .int .i64 0]) ∧ w.heap.size ≤ g ∧ AL w g y :=
  (new_ok 3 2 3 w (by decide) ht).mono (by
    rintro e y ⟨g, rfl, hg, hr, hb⟩
    exact ⟨g, rfl, hg, hr, ht.below hb, hb.size, hb⟩)
set_option maxHeartbeats 8000000 in
theorem alive13_any (w : World) (ht : Tabs w) : Calls Tryz.prog 6 #[] w fun e y => e = .returned (.bool true) ∧ Below w.heap.size w y := by
  have HN := Lib.hid (al_new w ht)
  have H2 := Lib.hid ht.two
  clear ht
  go_enter Tryz.func6, Tryz.ntmps6
  go_wp2_with fail
  refine HN.out.mono ?_
  rintro e y1 ⟨g, rfl, hg, h1⟩
  have HG := Lib.hid hg
  have HA1 := Lib.hid h1
  clear HN hg h1
  go_wp2_with fail
  refine (al_list H2.out HG.out _ HA1.out).mono ?_
  rintro e y2 ⟨⟨B, c, rfl⟩, h1⟩
  have HA2 := Lib.hid h1
  clear h1 HA1
  go_wp2_with fail
  refine (al_pick2 H2.out HG.out _ HA2.out).mono ?_
  rintro e y3 ⟨rfl, h1⟩
  have HA3 := Lib.hid h1
  clear h1 HA2
  go_wp2_with fail
  refine (al_pick0 H2.out HG.out _ HA3.out).mono ?_
  rintro e y4 ⟨rfl, h1⟩
  have HA4 := Lib.hid h1
  clear h1 HA3
  go_wp2_with fail
  refine (al_pickE H2.out HG.out _ HA4.out).mono ?_
  rintro e y5 ⟨rfl, h1⟩
  have HA5 := Lib.hid h1
  clear h1 HA4
  go_wp2_with fail
  refine (al_pickN H2.out HG.out _ HA5.out).mono ?_
  rintro e y6 ⟨rfl, h1⟩
  have HA6 := Lib.hid h1
  clear h1 HA5
  go_wp2_with fail
  refine (al_hold H2.out HG.out _ HA6.out).mono ?_
  rintro e y7 ⟨rfl, h1⟩
  have HA7 := Lib.hid h1
  clear h1 HA6
  go_wp2_with fail
  refine (al_holdC H2.out HG.out _ HA7.out).mono ?_
  rintro e y8 ⟨rfl, h1⟩
  have HA8 := Lib.hid h1
  clear h1 HA7
  go_wp2_with fail
  refine (al_others H2.out HG.out _ HA8.out).mono ?_
  rintro e y9 ⟨⟨B, c, rfl⟩, h1⟩
  have HA9 := Lib.hid h1
  clear h1 HA8
  go_wp2_with fail
  refine (al_shared H2.out HG.out _ HA9.out).mono ?_
  rintro e y10 ⟨⟨B, c, rfl⟩, h1⟩
  have HA10 := Lib.hid h1
  clear h1 HA9
  go_wp2_with fail
  refine (al_peers H2.out HG.out _ HA10.out).mono ?_
  rintro e y11 ⟨⟨B, c, rfl⟩, h1⟩
  have HA11 := Lib.hid h1
  clear h1 HA10
  go_wp2_with fail
  go_ret
  exact ⟨rfl, HA11.out.2.2.2⟩
end Go.Proofs.YtdbhboglccggdaaGreatDoor
