/- The law RoutePicks: what it asks of a ring, and what comes of it. The law RoutePicks. -/
import Derived.Test.YtdbhboglccggdaaGreatDoorQ10
set_option maxRecDepth 100000
set_option linter.unusedVariables false
set_option linter.unusedSimpArgs false
namespace Go.Proofs.YtdbhboglccggdaaGreatDoor
open Go.RowKit Go.Shelf
/-! ### mathematics -/
theorem hasI_mem {l : List Nat} {x : Int} : hasI l x = true ↔ ∃ n, n ∈ l ∧ ((n : Nat) : Int) = x := by
  unfold hasI
  rw [List.any_eq_true]
  constructor
  · rintro ⟨n, h1, h2⟩
    exact ⟨n, h1, of_decide_eq_true h2⟩
  · rintro ⟨n, h1, h2⟩
    exact ⟨n, h1, decide_eq_true h2⟩
/-- Do both hold a part of the first eight, and are they two? -/
def peerB (ls : List Pt) (R : Nat) (a z : Int) : Bool := decide (z ≠ a) && (List.range 8).any fun (k : Nat) => hasI (LK ls R (k : Int)) a && hasI (LK ls R (k : Int)) z
theorem peerB_comm (ls : List Pt) (R : Nat) (a z : Int) : peerB ls R a z = peerB ls R z a := by
  unfold peerB
  congr 1
  · rw [decide_eq_decide]
    exact ⟨fun h => h.symm, fun h => h.symm⟩
  · congr 1
    funext k
    exact Bool.and_comm _ _
theorem peers_has {ls : List Pt} {R : Nat} {a : Int} {l : List Nat} (hm : ∀ x, x ∈ l ↔ Peer ls R a x) (z : Int) : hasI l z = peerB ls R a z := by
  rw [Bool.eq_iff_iff, hasI_mem]
  unfold peerB
  rw [Bool.and_eq_true, decide_eq_true_eq, List.any_eq_true]
  constructor
  · rintro ⟨n, hn, rfl⟩
    obtain ⟨h1, k, h2, h3⟩ := (hm n).1 hn
    obtain ⟨h4, h5⟩ := partsI_mem h2
    exact ⟨h1, k, by simpa using h4, by rw [Bool.and_eq_true]; exact ⟨h5, hasI_mem.2 ⟨n, h3, rfl⟩⟩⟩
  · rintro ⟨h1, k, hk, h2⟩
    rw [Bool.and_eq_true] at h2
    obtain ⟨n, h3, rfl⟩ := hasI_mem.1 h2.2
    refine ⟨n, (hm n).2 ⟨h1, k, ?_, h3⟩, rfl⟩
    unfold partsI
    rw [List.mem_filter]
    exact ⟨hk, h2.1⟩
theorem shared_eq (ls : List Pt) (R : Nat) (a b : Int) : sharedL ls R a b = if a = b then [] else (List.range 8).filter fun (k : Nat) => hasI (LK ls R (k : Int)) a && hasI (LK ls R (k : Int)) b := by
  unfold sharedL
  split
  · rfl
  · unfold partsI notH
    rw [List.filter_filter]
    apply List.filter_congr
    intro k _
    rw [Bool.not_not]
    exact Bool.and_comm _ _
theorem shared_comm (ls : List Pt) (R : Nat) (a b : Int) : sharedL ls R a b = sharedL ls R b a := by
  rw [shared_eq, shared_eq]
  by_cases h : a = b
  · rw [if_pos h, if_pos h.symm]
  · rw [if_neg h, if_neg (fun e => h e.symm)]
    apply List.filter_congr
    intro k _
    exact Bool.and_comm _ _
theorem shared_mem {ls : List Pt} {R : Nat} {a b : Int} {k : Nat} (h : k ∈ sharedL ls R a b) : hasI (LK ls R (k : Int)) a = true ∧ hasI (LK ls R (k : Int)) b = true := by
  rw [shared_eq] at h
  split at h
  · cases h
  · rw [List.mem_filter, Bool.and_eq_true] at h
    exact h.2
theorem shared_len (ls : List Pt) (R : Nat) (a b : Int) : (sharedL ls R a b).length ≤ 8 := by
  rw [shared_eq]
  split
  · exact Nat.zero_le _
  · have := List.length_filter_le (fun (k : Nat) => hasI (LK ls R (k : Int)) a && hasI (LK ls R (k : Int)) b) (List.range 8)
    rwa [List.length_range] at this
theorem without_count {l : List Nat} (h : l.Nodup) (z : Int) : ((without l z).length : Int) = (l.length : Int) - (if hasI l z = true then 1 else 0) := by
  induction l with
  | nil => rfl
  | cons x l ih =>
    rw [List.nodup_cons] at h
    have ih := ih h.2
    have hc : hasI (x :: l) z = (decide (((x : Nat) : Int) = z) || hasI l z) := rfl
    rw [hc]
    unfold without at ih ⊢
    rw [List.filter_cons]
    by_cases hx : ((x : Nat) : Int) = z
    · have hn : hasI l z = false := by
        cases hq : hasI l z with
        | false => rfl
        | true =>
          obtain ⟨n, h1, h2⟩ := hasI_mem.1 hq
          have : n = x := by omega
          exact absurd (this ▸ h1) h.1
      rw [hn, if_neg (by decide)] at ih
      rw [decide_eq_true hx, if_neg (by decide), Bool.true_or, if_pos rfl, List.length_cons]
      omega
    · rw [decide_eq_false hx, if_pos (by decide), Bool.false_or, List.length_cons, List.length_cons]
      omega
/-- What the law finds of who is picked. -/
structure Picked (l : List Nat) (us : List Int) (right : Bool) (r : Int × Int) : Prop where
  skip : ∀ j, j < l.length → (∀ i, i ≤ j → ((l.getD i 0 : Nat) : Int) ≠ r.1) → hasZ us ((l.getD j 0 : Nat) : Int) = false
  ok : r.2 = 0 → hasI l r.1 = true ∧ hasZ us r.1 = true
  code : r.2 = 0 ∨ (r.2 == 0) = false
theorem pickL_picked {l : List Nat} {us : List Int} (hn : ∀ y, y ∈ l → 1 ≤ y) (b : Bool) : Picked l us b (pickL l us) := by
  unfold pickL
  cases hq : l.find? (fun (n : Nat) => hasZ us (n : Int)) with
  | none =>
    have h := List.find?_eq_none.1 hq
    exact ⟨fun j hj _ => by
      have := h _ (getD_mem hj)
      simpa using this, (fun e => by cases e), .inr rfl⟩
  | some n =>
    have hp := List.find?_some hq
    have hm := List.mem_of_find?_eq_some hq
    refine ⟨fun j hj hne => ?_, fun _ => ⟨hasI_mem.2 ⟨n, hm, rfl⟩, hp⟩, .inl rfl⟩
    cases hz : hasZ us ((l.getD j 0 : Nat) : Int) with
    | false => rfl
    | true =>
      exfalso
      obtain ⟨hp2, pr, bs, hl, hall⟩ := List.find?_eq_some_iff_append.1 hq
      have hlen : l.getD pr.length 0 = n := by
        rw [hl, List.getD_eq_getElem?_getD, List.getElem?_append_right (Nat.le_refl _), Nat.sub_self]
        rfl
      rcases Nat.lt_or_ge j pr.length with h1 | h1
      · have h2 : l.getD j 0 ∈ pr := by
          rw [hl, List.getD_eq_getElem?_getD, List.getElem?_append_left h1, List.getElem?_eq_getElem h1]
          exact List.getElem_mem _
        have h3 := hall _ h2
        rw [hz] at h3
        cases h3
      · exact hne pr.length h1 (by rw [hlen])
theorem pickR_picked {ls : List Pt} {R : Nat} {s : ByteArray} {us : List Int} (hn : ∀ y, y ∈ KL ls R s → 1 ≤ y) : Picked (KL ls R s) us (rightK s) (pickR ls R s us) := by
  unfold pickR
  cases hr : rightK s with
  | false =>
    rw [if_neg (by decide), KL_no hr]
    exact ⟨fun j hj => absurd hj (Nat.not_lt_zero _), (fun e => by cases e), .inr rfl⟩
  | true =>
    rw [if_pos rfl]
    by_cases h : KL ls R s = []
    · rw [if_pos h, h]
      exact ⟨fun j hj => absurd hj (Nat.not_lt_zero _), (fun e => by cases e), .inr rfl⟩
    · rw [if_neg h]
      exact pickL_picked hn true
/-! ### what is asked -/
/-- While the law RoutePicks asks: the ring, the key's list, and who is up. -/
structure PQ (w : World) (g N V R : Nat) (B : Option Addr) (l : List Nat) (A : Option Addr) (us : List Int) (x : World) : Prop where
  l : Row .i64 x (fun b => b ≠ g) B l
  u : RowZ x (fun b => b ≠ g) A us
  r : RH w g N V R x
theorem PQ.kept {w : World} {g N V R : Nat} {B : Option Addr} {l : List Nat} {A : Option Addr} {us : List Int} {x y : World} (h : PQ w g N V R B l A us x) (ho : Only (fun b => b = g) x y) (hr : RH w g N V R y) : PQ w g N V R B l A us y :=
  ⟨h.l.kept ho (fun _ h e => h e), h.u.keep (fun b hb hl => ho.block b hl hb), hr⟩
theorem one_any (b : Bool) (w : World) : Calls Tryz.prog 26 #[.bool b] w fun e y => e = .returned (.int .i64 (if b = true then 1 else 0)) ∧ w = y := by
  cases b with
  | true =>
    go_enter Tryz.func26, Tryz.ntmps26
    go_wp2
    go_ret
    exact ⟨rfl, rfl⟩
  | false =>
    go_enter Tryz.func26, Tryz.ntmps26
    go_wp2
    go_ret
    exact ⟨rfl, rfl⟩
end Go.Proofs.YtdbhboglccggdaaGreatDoor

set_option maxRecDepth 100000
set_option linter.unusedVariables false
set_option linter.unusedSimpArgs false
namespace Go.Proofs.YtdbhboglccggdaaGreatDoor
open Go.RowKit Go.Shelf
set_option maxHeartbeats 4000000 in
theorem rpicks_bad (N V R : Int) (s : ByteArray) (A : Option Addr) (us : List Int) (cu : Nat) (a b : Int) (w : World) (ht : Tabs w) (hr : rightC N V R = false) : Calls Tryz.prog 4 #[.agg (cfg N V R), .string s, .slice A us.length cu, .int .i64 a, .int .i64 b] w fun e w' => e = .returned (.bool true) ∧ Below w.heap.size w w' := by
  have HX := Lib.hid (heap_alloc_new w (.cells (cfg N V R) 23))
  have HB := Lib.hid ((Below.refl w.heap.size w).alloc (Nat.le_refl _) (.cells (cfg N V R) 23))
  have HT := Lib.hid ht
  have HS := Lib.hid (cfg_size N V R)
  have HNB := Lib.hid (new_bad N V R (w.alloc (.cells (cfg N V R) 23)) hr)
  clear ht hr
  go_enter Tryz.func4, Tryz.ntmps4
  go_wp2_with (refine wpList_load_w (by go_simp) 23 _ rfl w.heap.size 0 rfl (cfg N V R) _ (cfg_range HX.out) Tryz.underlying23 rfl HS.out ?_)
  refine HNB.out.mono ?_
  rintro e y1 ⟨rfl, hb⟩
  have HYB := Lib.hid (HB.out.trans (hb.mono HB.out.size))
  clear hb HX HB HNB
  go_wp2_with fail
  refine (alive13_any y1 (HT.out.below HYB.out)).mono ?_
  rintro e y3 ⟨rfl, hb⟩
  have HAB := Lib.hid (HYB.out.trans (hb.mono HYB.out.size))
  clear hb HYB
  go_wp2_with fail
  go_ret
  exact ⟨rfl, HAB.out⟩
set_option maxHeartbeats 4000000 in
theorem rpicks_big (N V R : Nat) (s : ByteArray) (A : Option Addr) (us : List Int) (cu : Nat) (a b : Int) (w : World) (ht : Tabs w) (hr : rightC N V R = true) (hbig : 100 < s.size ∨ (¬ 100 < s.size ∧ 30 < us.length)) : Calls Tryz.prog 4 #[.agg (cfg N V R), .string s, .slice A us.length cu, .int .i64 a, .int .i64 b] w fun e w' => e = .returned (.bool true) ∧ Below w.heap.size w w' := by
  have HX := Lib.hid (heap_alloc_new w (.cells (cfg N V R) 23))
  have HB := Lib.hid ((Below.refl w.heap.size w).alloc (Nat.le_refl _) (.cells (cfg N V R) 23))
  have HT := Lib.hid ht
  have HS := Lib.hid (cfg_size N V R)
  have HN1 := Lib.hid (new_ok N V R (w.alloc (.cells (cfg N V R) 23)) hr (ht.below HB.out))
  clear ht hr
  rcases hbig with h1 | ⟨h1, h2⟩
  · have k1 : (100 : Int) < (s.size : Int) := by omega
    go_enter Tryz.func4, Tryz.ntmps4
    go_wp2_with (refine wpList_load_w (by go_simp) 23 _ rfl w.heap.size 0 rfl (cfg N V R) _ (cfg_range HX.out) Tryz.underlying23 rfl HS.out ?_)
    refine HN1.out.mono ?_
    rintro e y1 ⟨g, rfl, _, _, hb⟩
    have HYB := Lib.hid (HB.out.trans (hb.mono HB.out.size))
    clear hb HX HB HN1
    go_wp2_with fail
    refine (alive13_any y1 (HT.out.below HYB.out)).mono ?_
    rintro e y3 ⟨rfl, hb⟩
    have HAB := Lib.hid (HYB.out.trans (hb.mono HYB.out.size))
    clear hb HYB
    go_wp2_with fail
    go_ret
    exact ⟨rfl, HAB.out⟩
  · have k1 : ¬ (100 : Int) < (s.size : Int) := by omega
    have k2 : (30 : Int) < (us.length : Int) := by omega
    go_enter Tryz.func4, Tryz.ntmps4
    go_wp2_with (refine wpList_load_w (by go_simp) 23 _ rfl w.heap.size 0 rfl (cfg N V R) _ (cfg_range HX.out) Tryz.underlying23 rfl HS.out ?_)
    refine HN1.out.mono ?_
    rintro e y1 ⟨g, rfl, _, _, hb⟩
    have HYB := Lib.hid (HB.out.trans (hb.mono HB.out.size))
    clear hb HX HB HN1
    go_wp2_with fail
    refine (alive13_any y1 (HT.out.below HYB.out)).mono ?_
    rintro e y3 ⟨rfl, hb⟩
    have HAB := Lib.hid (HYB.out.trans (hb.mono HYB.out.size))
    clear hb HYB
    go_wp2_with fail
    go_ret
    exact ⟨rfl, HAB.out⟩
/-! ### each call while the law asks -/
abbrev EP (w : World) (g N V R : Nat) : Prop := Env (w.heap.size + 1) (fun b => b = g) (.pointer (some ⟨g, 0, none⟩)) (Ring.pts ptAt V N) R (RH w g N V R)
theorem PQ.hold {w : World} {g N V R : Nat} (E : EP w g N V R) {B : Option Addr} {l : List Nat} {A : Option Addr} {us : List Int} (n : Int) (s : ByteArray) (hs : s.size ≤ maxLen) (x : World) (h : PQ w g N V R B l A us x) :
    Calls Tryz.prog 15 #[.pointer (some ⟨g, 0, none⟩), .int .i64 n, .string s] x fun e y => e = .returned (.bool (hasI (KL (Ring.pts ptAt V N) R s) n)) ∧ PQ w g N V R B l A us y :=
  (rtholds_env E (fun _ h => h.tabs) n s hs x h.r).mono (by
    rintro e y ⟨rfl, ho, hf⟩
    exact ⟨rfl, h.kept ho hf⟩)
theorem PQ.part {w : World} {g N V R : Nat} (E : EP w g N V R) {B : Option Addr} {l : List Nat} {A : Option Addr} {us : List Int} (n k : Int) (x : World) (h : PQ w g N V R B l A us x) :
    Calls Tryz.prog 25 #[.pointer (some ⟨g, 0, none⟩), .int .i64 n, .int .i64 k] x fun e y => e = .returned (.bool (hasI (LK (Ring.pts ptAt V N) R k) n)) ∧ Only (fun b => b = g) x y ∧ PQ w g N V R B l A us y :=
  (holds_env E n k x h.r).mono (by
    rintro e y ⟨rfl, ho, hf⟩
    exact ⟨rfl, ho, h.kept ho hf⟩)
theorem PQ.pick {w : World} {g N V R : Nat} (E : EP w g N V R) {B : Option Addr} {l : List Nat} {A : Option Addr} {us : List Int} (cu : Nat) (hu : us.length ≤ 1000000) (s : ByteArray) (hs : s.size ≤ maxLen) (x : World) (h : PQ w g N V R B l A us x) :
    Calls Tryz.prog 10 #[.pointer (some ⟨g, 0, none⟩), .string s, .slice A us.length cu] x fun e y => e = .returned (.tuple #[.int .i64 (pickR (Ring.pts ptAt V N) R s us).1, .int .i64 (pickR (Ring.pts ptAt V N) R s us).2]) ∧ PQ w g N V R B l A us y :=
  (pick_env E (fun _ h => h.tabs) s hs A cu us x (h.u.weak fun b hb hl => ⟨hl, hb⟩) hu h.r).mono (by
    rintro e y ⟨rfl, ho, hf⟩
    exact ⟨rfl, h.kept ho hf⟩)
theorem PQ.peers {w : World} {g N V R : Nat} (E : EP w g N V R) {B : Option Addr} {l : List Nat} {A : Option Addr} {us : List Int} (a : Int) (x : World) (h : PQ w g N V R B l A us x) :
    Calls Tryz.prog 21 #[.pointer (some ⟨g, 0, none⟩), .int .i64 a] x fun e y => (∃ C c m, e = .returned (.slice C m.length c) ∧ Row .i64 y (fun b => b ≠ g) C m ∧ m.length ≤ 1000 ∧ ∀ z, hasI m z = peerB (Ring.pts ptAt V N) R a z) ∧ PQ w g N V R B l A us y :=
  (peers_env E a x h.r).mono (by
    rintro e y ⟨m, h1, h2, h3, C, c, rfl, hm, ho, hf⟩
    exact ⟨⟨C, c, m, rfl, hm.row.weak fun b hb _ e => by have := h.r.ring.lt; omega, h3, fun z => peers_has h2 z⟩, h.kept ho hf⟩)
theorem PQ.shared {w : World} {g N V R : Nat} (E : EP w g N V R) {B : Option Addr} {l : List Nat} {A : Option Addr} {us : List Int} (a b : Int) (x : World) (h : PQ w g N V R B l A us x) :
    Calls Tryz.prog 19 #[.pointer (some ⟨g, 0, none⟩), .int .i64 a, .int .i64 b] x fun e y => (∃ C c, e = .returned (.slice C (sharedL (Ring.pts ptAt V N) R a b).length c) ∧ Row .i64 y (fun b => b ≠ g) C (sharedL (Ring.pts ptAt V N) R a b)) ∧ Only (fun b => b = g) x y ∧ PQ w g N V R B l A us y :=
  (rtshared_env E a b x h.r).mono (by
    rintro e y ⟨C, c, rfl, hm, ho, hf⟩
    exact ⟨⟨C, c, rfl, hm.row.weak fun b hb _ e => by have := h.r.ring.lt; omega⟩, ho, h.kept ho hf⟩)
theorem PQ.others {w : World} {g N V R : Nat} (E : EP w g N V R) {B : Option Addr} {l : List Nat} {A : Option Addr} {us : List Int} (n : Int) (s : ByteArray) (hs : s.size ≤ maxLen) (x : World) (h : PQ w g N V R B l A us x) :
    Calls Tryz.prog 17 #[.pointer (some ⟨g, 0, none⟩), .string s, .int .i64 n] x fun e y => (∃ C c, e = .returned (.slice C (without (KL (Ring.pts ptAt V N) R s) n).length c)) ∧ PQ w g N V R B l A us y :=
  (rtothers_env E (fun _ h => h.tabs) n s hs x h.r).mono (by
    rintro e y ⟨C, c, rfl, hm, ho, hf⟩
    exact ⟨⟨C, c, rfl⟩, h.kept ho hf⟩)
theorem PQ.down {w : World} {g N V R : Nat} (E : EP w g N V R) {B : Option Addr} {l : List Nat} {A : Option Addr} {us : List Int} {x y : World} (h : PQ w g N V R B l A us x) (hb : Below x.heap.size x y) : PQ w g N V R B l A us y :=
  h.kept (Only.of_below hb) (E.down hb h.r)
theorem PQ.alive {w : World} {g N V R : Nat} (E : EP w g N V R) {B : Option Addr} {l : List Nat} {A : Option Addr} {us : List Int} (x : World) (h : PQ w g N V R B l A us x) :
    Calls Tryz.prog 6 #[] x fun e y => e = .returned (.bool true) ∧ PQ w g N V R B l A us y :=
  (alive13_any x h.r.tabs).mono (by
    rintro e y ⟨rfl, hb⟩
    exact ⟨rfl, h.down E hb⟩)
set_option maxHeartbeats 16000000 in
theorem rpicks_ok (N V R : Nat) (s : ByteArray) (A : Option Addr) (us : List Int) (cu : Nat) (a b : Int) (w : World) (ht : Tabs w) (hr : rightC N V R = true) (hs : s.size ≤ 100) (hu : us.length ≤ 30) (hA : RowZ w (fun b => b < w.heap.size) A us) : Calls Tryz.prog 4 #[.agg (cfg N V R), .string s, .slice A us.length cu, .int .i64 a, .int .i64 b] w fun e w' => e = .returned (.bool true) ∧ Below w.heap.size w w' := by
  have HLIM := Lib.hid (cfg_limits hr)
  have HX := Lib.hid (heap_alloc_new w (.cells (cfg N V R) 23))
  have HB := Lib.hid ((Below.refl w.heap.size w).alloc (Nat.le_refl _) (.cells (cfg N V R) 23))
  have H2 := Lib.hid ht.two
  have HS := Lib.hid (cfg_size N V R)
  have HSZ : Hid (s.size ≤ maxLen) := Lib.hid (by unfold maxLen; omega)
  have HUM : Hid (us.length ≤ 1000000) := Lib.hid (by omega)
  have HU := Lib.hid hA
  have k1 : ¬ (100 : Int) < (s.size : Int) := by omega
  have k2 : ¬ (30 : Int) < (us.length : Int) := by omega
  have HN1 := Lib.hid (new_ok N V R (w.alloc (.cells (cfg N V R) 23)) hr (ht.below HB.out))
  have HTB := Lib.hid (fun x (hx : Below w.heap.size w x) => ht.below hx)
  clear ht hr hs hu hA
  go_enter Tryz.func4, Tryz.ntmps4
  go_wp2_with (refine wpList_load_w (by go_simp) 23 _ rfl w.heap.size 0 rfl (cfg N V R) _ (cfg_range HX.out) Tryz.underlying23 rfl HS.out ?_)
  refine HN1.out.mono ?_
  rintro e y1 ⟨g, rfl, hg, hrg, hb⟩
  have hyb := HB.out.trans (hb.mono HB.out.size)
  rw [World.size_alloc] at hg
  have HG := Lib.hid hg
  have HR1 : Hid (RH w g N V R y1) := Lib.hid ⟨hrg, HTB.out _ hyb, by have := hb.size; simpa using this, hyb, (hb.block w.heap.size (by simp)).trans HX.out⟩
  have HU1 : Hid (RowZ y1 (fun b => b ≠ g) A us) := Lib.hid ((HU.out.keep fun b hb hl => hyb.block b hb).weak fun b hb _ e => by omega)
  have HE : Hid (EP w g N V R) := Lib.hid (env_holds H2.out hg HLIM.out.2.1 HLIM.out.2.2.2.1 (by have := HLIM.out; omega) (N := N) (V := V) (R := R))
  clear hg hrg hb hyb HX HB HN1 HTB HS HU
  have HL := Lib.hid (rtlist_env HE.out (fun _ h => h.tabs) s HSZ.out y1 HR1.out)
  obtain ⟨l, hl⟩ : ∃ l, l = KL (Ring.pts ptAt V N) R s := ⟨_, rfl⟩
  obtain ⟨pr, hpr⟩ : ∃ pr, pr = pickR (Ring.pts ptAt V N) R s us := ⟨_, rfl⟩
  obtain ⟨rk, hrk⟩ : ∃ rk, rk = rightK s := ⟨_, rfl⟩
  have HNODE : Hid (∀ y, y ∈ l → 1 ≤ y) := Lib.hid (fun y hy => by
    rw [hl] at hy
    unfold KL at hy
    split at hy
    · rw [LK_ok _ _ _ (partK_lt s)] at hy
      exact (Ring.listOf_node hy).1
    · cases hy)
  have HND : Hid l.Nodup := Lib.hid (by
    rw [hl]
    unfold KL
    split
    · rw [LK_ok _ _ _ (partK_lt s)]
      exact Ring.listOf_nodup _ _ _
    · exact List.nodup_nil)
  have HLEN : Hid (l.length ≤ 8 ∧ decide ((0 : Int) < (l.length : Int)) = rk) := Lib.hid (by
    refine ⟨?_, ?_⟩
    · have := KL_len (Ring.pts ptAt V N) R s
      have := HLIM.out
      rw [hl]
      omega
    · rw [hl, hrk]
      cases hq : rightK s with
      | true =>
        rw [KL_yes hq, LK_ok _ _ _ (partK_lt s), Ring.listOf_length (by have := HLIM.out; omega) HLIM.out.2.2.2.2.2]
        exact decide_eq_true (by have := HLIM.out; omega)
      | false =>
        rw [KL_no hq]
        rfl)
  have HPK : Hid (Picked l us rk pr) := Lib.hid (by
    rw [hl, hpr, hrk]
    exact pickR_picked (by rw [← hl]; exact HNODE.out))
  have HHO := Lib.hid (fun B (n : Int) x (h : PQ w g N V R B l A us x) => h.hold HE.out n s HSZ.out x)
  have HPI := Lib.hid (fun B x (h : PQ w g N V R B l A us x) => h.pick HE.out cu HUM.out s HSZ.out x)
  have HOT := Lib.hid (fun B (n : Int) x (h : PQ w g N V R B l A us x) => h.others HE.out n s HSZ.out x)
  have HRI := Lib.hid (fun x => right_any s x)
  rw [← hl] at HL HHO HOT
  rw [← hpr] at HPI
  rw [← hrk] at HRI
  clear hl hpr hrk
  obtain ⟨pn, pe⟩ := pr
  go_wp2_with fail
  refine HL.out.mono ?_
  rintro e y2 ⟨B, c, rfl, hm, ho, hf⟩
  have HP2 : Hid (PQ w g N V R B l A us y2) := Lib.hid ⟨hm.row.weak fun b hb _ e => by have := HR1.out.ring.lt; omega, HU1.out.keep (fun b hb hl => ho.block b hl hb), hf⟩
  clear hm ho hf HL HR1 HU1
  go_wp2_with fail
  refine (HPI.out B y2 HP2.out).mono ?_
  rintro e y3 ⟨rfl, hp⟩
  have HP3 := Lib.hid hp
  clear hp HP2
  go_wp2_with fail
  clear k1 k2
  go_loopw [16] (fun iv x => ∃ i : Nat, i ≤ l.length ∧ iv = .int .i64 i ∧ Hid (∀ j, j < i → ((l.getD j 0 : Nat) : Int) ≠ pn) ∧ Hid (PQ w g N V R B l A us x)) (fun iv _ => l.length - (intOf iv).toNat)
  case atStart => exact ⟨0, by omega, rfl, Lib.hid (fun j hj => absurd hj (Nat.not_lt_zero _)), HP3⟩
  case round =>
    clear HP3
    obtain ⟨i, hi, rfl, HNE, HP⟩ := hrel
    have hlr : (decide (0 < l.length) == rk) = true := by rw [← HLEN.out.2]; simp
    by_cases hlt : i < l.length
    · have hlt' : (i : Int) < (l.length : Int) := by omega
      obtain ⟨b1, o1, hB, _, hcs⟩ := HP.out.l.at_ (by omega)
      subst hB
      have hc := hcs i hlt
      obtain ⟨q, hq⟩ : ∃ q, q = l.getD i 0 := ⟨_, rfl⟩
      rw [← hq] at hc
      have HQQ := Lib.hid hq
      clear hcs hq
      by_cases hqn : (q : Int) = pn
      · have hne : ((q : Int) != pn) = false := by rw [bne_eq_false_iff_eq]; exact hqn
        clear hqn
        by_cases hpe : pe = 0
        · subst hpe
          have HOK := Lib.hid (HPK.out.ok rfl)
          have HIN := Lib.hid (in_nat l c _ pn wr HP.out.l (by have := HLEN.out; omega))
          rw [HOK.out.1] at HIN
          have HIU := Lib.hid (inZ_any us cu A pn wr HP.out.u HUM.out)
          rw [HOK.out.2] at HIU
          have HHN := Lib.hid (HHO.out _ pn wr HP.out)
          rw [HOK.out.1] at HHN
          go_wp2_with fail
          refine HIN.out.mono ?_
          rintro e x1 ⟨rfl, rfl⟩
          go_wp2_with fail
          refine HIU.out.mono ?_
          rintro e x2 ⟨rfl, rfl⟩
          go_wp2_with fail
          refine HHN.out.mono ?_
          rintro e x3 ⟨rfl, hp⟩
          have HQX := Lib.hid hp
          clear hp HIN HIU HHN HP
          go_wp2_with fail
          refine (HRI.out _).mono ?_
          rintro e z0 ⟨rfl, rfl⟩
          go_wp2_with fail
          refine ((HQX.out).peers HE.out a).mono ?_
          rintro e z1 ⟨⟨C1, c1, m1, rfl, hm1, hl1, hz1⟩, hp⟩
          have HQ1 := Lib.hid hp
          have HI1 := Lib.hid (in_nat m1 c1 C1 b z1 hm1 (by omega))
          rw [hz1] at HI1
          clear hm1 hl1 hz1 hp HQX
          go_wp2_with fail
          refine HI1.out.mono ?_
          rintro e z1' ⟨rfl, rfl⟩
          clear HI1
          go_wp2_with fail
          refine ((HQ1.out).peers HE.out b).mono ?_
          rintro e z2 ⟨⟨C2, c2, m2, rfl, hm2, hl2, hz2⟩, hp⟩
          have HQ2 := Lib.hid hp
          have HI2 := Lib.hid (in_nat m2 c2 C2 a z2 hm2 (by omega))
          rw [hz2, peerB_comm] at HI2
          obtain ⟨pb, hpb⟩ : ∃ pb, pb = peerB (Ring.pts ptAt V N) R a b := ⟨_, rfl⟩
          rw [← hpb] at HI2 ⊢
          have hbb : (pb != pb) = false := by simp
          clear hm2 hl2 hz2 hp hpb HQ1
          go_wp2_with fail
          refine HI2.out.mono ?_
          rintro e z2' ⟨rfl, rfl⟩
          clear HI2
          go_wp2_with fail
          refine ((HQ2.out).shared HE.out a b).mono ?_
          rintro e z3 ⟨⟨C3, c3, rfl, hm3⟩, ho3, hp⟩
          have HQ3 := Lib.hid hp
          have HC3 := Lib.hid hm3
          clear hm3 ho3 hp HQ2 hbb
          go_wp2_with fail
          refine ((HQ3.out).shared HE.out b a).mono ?_
          rintro e z4 ⟨⟨C4, c4, rfl, hm4⟩, ho4, hp⟩
          have HQ4 := Lib.hid hp
          have HC4 := Lib.hid hm4
          have HC34 := Lib.hid (HC3.out.kept ho4 (fun _ h e => h e))
          rw [shared_comm _ _ b a] at HC4 ⊢
          have HSM := Lib.hid (fun k (hk : k ∈ sharedL (Ring.pts ptAt V N) R a b) => shared_mem hk)
          have HSL := Lib.hid (shared_len (Ring.pts ptAt V N) R a b)
          have HSH := Lib.hid (fun x (h : RH w g N V R x) => rtshared_env HE.out a b x h)
          obtain ⟨sl, hsl⟩ : ∃ sl, sl = sharedL (Ring.pts ptAt V N) R a b := ⟨_, rfl⟩
          rw [← hsl] at HC4 HC34 HSM HSL HSH ⊢
          have HSA := Lib.hid (same_any sl sl c3 c4 C3 C4 z4 HC34.out HC4.out (by have := HSL.out; omega))
          rw [decide_eq_true (rfl : sl = sl)] at HSA
          clear hm4 ho4 hp HQ3 HC3 hsl
          go_wp2_with fail
          refine HSA.out.mono ?_
          rintro e z5 ⟨rfl, hb5⟩
          have HQ5 := Lib.hid (HQ4.out.down HE.out hb5)
          clear hb5 HSA HQ4 HC34 HC4
          go_wp2_with fail
          refine (HSH.out z5 HQ5.out.r).mono ?_
          rintro e z6 ⟨C6, c6, rfl, hm6, ho6, hp⟩
          have HQ6 := Lib.hid (HQ5.out.kept ho6 hp)
          have HC6 : Hid (Row .i64 z6 (fun b => b ≠ g) C6 sl) := Lib.hid (hm6.row.weak fun b hb _ e => by have := HQ5.out.r.ring.lt; omega)
          clear hm6 ho6 hp HQ5
          go_wp2_with fail
          go_loopw [18] (fun iv x => ∃ i : Nat, i ≤ sl.length ∧ iv = .int .i64 i ∧ Hid (Row .i64 x (fun b => b ≠ g) C6 sl) ∧ Hid (PQ w g N V R (some ⟨b1, o1, none⟩) l A us x)) (fun iv _ => sl.length - (intOf iv).toNat)
          case atStart => exact ⟨0, by omega, rfl, HC6, HQ6⟩
          case round =>
            clear HC6 HQ6
            obtain ⟨i2, hi2, rfl, HC6, HQ6⟩ := hrel
            by_cases hlt2 : i2 < sl.length
            · have hlt2' : (i2 : Int) < (sl.length : Int) := by omega
              have eI2 : IntKind.i64.wrap ((i2 : Int) + 1) = (i2 : Int) + 1 := by have := HSL.out; rw [IntKind.wrap_i64]; omega
              obtain ⟨b6, o6, hB6, _, hcs6⟩ := HC6.out.at_ (by omega)
              subst hB6
              have hc6 := hcs6 i2 hlt2
              obtain ⟨q6, hq6⟩ : ∃ q, q = sl.getD i2 0 := ⟨_, rfl⟩
              have hqm6 : q6 ∈ sl := by rw [hq6]; exact getD_mem hlt2
              have HH6 := Lib.hid (HSM.out q6 hqm6)
              have HQQ6 := Lib.hid hq6
              rw [← hq6] at hc6
              clear hcs6 hq6 hqm6
              have HA6 := Lib.hid ((HQ6.out).part HE.out a (q6 : Int))
              rw [HH6.out.1] at HA6
              go_wp2_with fail
              refine HA6.out.mono ?_
              rintro e z7 ⟨rfl, ho7, hp7⟩
              have HQ7 := Lib.hid hp7
              have HC7 := Lib.hid (HC6.out.kept ho7 (fun _ h e => h e))
              clear ho7 hp7 hc6 HA6 HQ6 HC6
              have hc6 := HC7.out.cell b6 o6 rfl i2 hlt2
              rw [← HQQ6.out] at hc6
              have HA7 := Lib.hid ((HQ7.out).part HE.out b (q6 : Int))
              rw [HH6.out.2] at HA7
              go_wp2_with fail
              refine HA7.out.mono ?_
              rintro e z8 ⟨rfl, ho8, hp8⟩
              have HQ8 := Lib.hid hp8
              have HC8 := Lib.hid (HC7.out.kept ho8 (fun _ h e => h e))
              clear ho8 hp8 hc6 HA7 HQ7 HC7
              go_wp2_with fail
              go_roundw
              all_goals clear eI2
              case rel => exact ⟨i2 + 1, by omega, by go_num, HC8, HQ8⟩
              case measure => simp [intOf]; omega
            · obtain rfl : i2 = sl.length := by omega
              go_wp2_with fail
              refine ((HQ6.out).alive HE.out).mono ?_
              rintro e z9 ⟨rfl, hp9⟩
              have HQ9 := Lib.hid hp9
              clear hp9 HQ6
              go_wp2_with fail
              refine (HOT.out _ pn z9 HQ9.out).mono ?_
              rintro e z10 ⟨⟨C10, c10, rfl⟩, hp10⟩
              have HQ10 := Lib.hid hp10
              have HCO := Lib.hid (without_count HND.out pn)
              have HI10 := Lib.hid (in_nat l c _ pn z10 hp10.l (by have := HLEN.out; omega))
              obtain ⟨wl, hwl⟩ : ∃ wl, wl = (without l pn).length := ⟨_, rfl⟩
              obtain ⟨hv, hhv⟩ : ∃ hv, hv = hasI l pn := ⟨_, rfl⟩
              rw [← hwl] at HCO ⊢
              rw [← hhv] at HCO HI10
              clear hp10 HQ9 hwl hhv
              go_wp2_with fail
              refine HI10.out.mono ?_
              rintro e z11 ⟨rfl, rfl⟩
              clear HI10
              go_wp2_with fail
              refine (one_any hv z10).mono ?_
              rintro e z12 ⟨rfl, rfl⟩
              obtain ⟨ov, hov⟩ : ∃ ov : Int, ov = if hv = true then 1 else 0 := ⟨_, rfl⟩
              have hov1 : 0 ≤ ov ∧ ov ≤ 1 := by rw [hov]; split <;> omega
              rw [← hov] at HCO ⊢
              have EW : IntKind.i64.wrap ((l.length : Int) - ov) = (wl : Int) := by
                have h1 := HCO.out
                have h2 := HLEN.out.1
                rw [IntKind.wrap_i64]
                omega
              clear hov hov1
              go_wp2_with fail
              go_ret
              exact ⟨rfl, HQ10.out.r.below⟩
        · have hpe2 : (pe == 0) = false := by rw [beq_eq_false_iff_ne]; exact hpe
          have HQX := Lib.hid HP.out
          clear hpe HP
          go_wp2_with fail
          refine (HRI.out _).mono ?_
          rintro e z0 ⟨rfl, rfl⟩
          go_wp2_with fail
          refine ((HQX.out).peers HE.out a).mono ?_
          rintro e z1 ⟨⟨C1, c1, m1, rfl, hm1, hl1, hz1⟩, hp⟩
          have HQ1 := Lib.hid hp
          have HI1 := Lib.hid (in_nat m1 c1 C1 b z1 hm1 (by omega))
          rw [hz1] at HI1
          clear hm1 hl1 hz1 hp HQX
          go_wp2_with fail
          refine HI1.out.mono ?_
          rintro e z1' ⟨rfl, rfl⟩
          clear HI1
          go_wp2_with fail
          refine ((HQ1.out).peers HE.out b).mono ?_
          rintro e z2 ⟨⟨C2, c2, m2, rfl, hm2, hl2, hz2⟩, hp⟩
          have HQ2 := Lib.hid hp
          have HI2 := Lib.hid (in_nat m2 c2 C2 a z2 hm2 (by omega))
          rw [hz2, peerB_comm] at HI2
          obtain ⟨pb, hpb⟩ : ∃ pb, pb = peerB (Ring.pts ptAt V N) R a b := ⟨_, rfl⟩
          rw [← hpb] at HI2 ⊢
          have hbb : (pb != pb) = false := by simp
          clear hm2 hl2 hz2 hp hpb HQ1
          go_wp2_with fail
          refine HI2.out.mono ?_
          rintro e z2' ⟨rfl, rfl⟩
          clear HI2
          go_wp2_with fail
          refine ((HQ2.out).shared HE.out a b).mono ?_
          rintro e z3 ⟨⟨C3, c3, rfl, hm3⟩, ho3, hp⟩
          have HQ3 := Lib.hid hp
          have HC3 := Lib.hid hm3
          clear hm3 ho3 hp HQ2 hbb
          go_wp2_with fail
          refine ((HQ3.out).shared HE.out b a).mono ?_
          rintro e z4 ⟨⟨C4, c4, rfl, hm4⟩, ho4, hp⟩
          have HQ4 := Lib.hid hp
          have HC4 := Lib.hid hm4
          have HC34 := Lib.hid (HC3.out.kept ho4 (fun _ h e => h e))
          rw [shared_comm _ _ b a] at HC4 ⊢
          have HSM := Lib.hid (fun k (hk : k ∈ sharedL (Ring.pts ptAt V N) R a b) => shared_mem hk)
          have HSL := Lib.hid (shared_len (Ring.pts ptAt V N) R a b)
          have HSH := Lib.hid (fun x (h : RH w g N V R x) => rtshared_env HE.out a b x h)
          obtain ⟨sl, hsl⟩ : ∃ sl, sl = sharedL (Ring.pts ptAt V N) R a b := ⟨_, rfl⟩
          rw [← hsl] at HC4 HC34 HSM HSL HSH ⊢
          have HSA := Lib.hid (same_any sl sl c3 c4 C3 C4 z4 HC34.out HC4.out (by have := HSL.out; omega))
          rw [decide_eq_true (rfl : sl = sl)] at HSA
          clear hm4 ho4 hp HQ3 HC3 hsl
          go_wp2_with fail
          refine HSA.out.mono ?_
          rintro e z5 ⟨rfl, hb5⟩
          have HQ5 := Lib.hid (HQ4.out.down HE.out hb5)
          clear hb5 HSA HQ4 HC34 HC4
          go_wp2_with fail
          refine (HSH.out z5 HQ5.out.r).mono ?_
          rintro e z6 ⟨C6, c6, rfl, hm6, ho6, hp⟩
          have HQ6 := Lib.hid (HQ5.out.kept ho6 hp)
          have HC6 : Hid (Row .i64 z6 (fun b => b ≠ g) C6 sl) := Lib.hid (hm6.row.weak fun b hb _ e => by have := HQ5.out.r.ring.lt; omega)
          clear hm6 ho6 hp HQ5
          go_wp2_with fail
          go_loopw [18] (fun iv x => ∃ i : Nat, i ≤ sl.length ∧ iv = .int .i64 i ∧ Hid (Row .i64 x (fun b => b ≠ g) C6 sl) ∧ Hid (PQ w g N V R (some ⟨b1, o1, none⟩) l A us x)) (fun iv _ => sl.length - (intOf iv).toNat)
          case atStart => exact ⟨0, by omega, rfl, HC6, HQ6⟩
          case round =>
            clear HC6 HQ6
            obtain ⟨i2, hi2, rfl, HC6, HQ6⟩ := hrel
            by_cases hlt2 : i2 < sl.length
            · have hlt2' : (i2 : Int) < (sl.length : Int) := by omega
              have eI2 : IntKind.i64.wrap ((i2 : Int) + 1) = (i2 : Int) + 1 := by have := HSL.out; rw [IntKind.wrap_i64]; omega
              obtain ⟨b6, o6, hB6, _, hcs6⟩ := HC6.out.at_ (by omega)
              subst hB6
              have hc6 := hcs6 i2 hlt2
              obtain ⟨q6, hq6⟩ : ∃ q, q = sl.getD i2 0 := ⟨_, rfl⟩
              have hqm6 : q6 ∈ sl := by rw [hq6]; exact getD_mem hlt2
              have HH6 := Lib.hid (HSM.out q6 hqm6)
              have HQQ6 := Lib.hid hq6
              rw [← hq6] at hc6
              clear hcs6 hq6 hqm6
              have HA6 := Lib.hid ((HQ6.out).part HE.out a (q6 : Int))
              rw [HH6.out.1] at HA6
              go_wp2_with fail
              refine HA6.out.mono ?_
              rintro e z7 ⟨rfl, ho7, hp7⟩
              have HQ7 := Lib.hid hp7
              have HC7 := Lib.hid (HC6.out.kept ho7 (fun _ h e => h e))
              clear ho7 hp7 hc6 HA6 HQ6 HC6
              have hc6 := HC7.out.cell b6 o6 rfl i2 hlt2
              rw [← HQQ6.out] at hc6
              have HA7 := Lib.hid ((HQ7.out).part HE.out b (q6 : Int))
              rw [HH6.out.2] at HA7
              go_wp2_with fail
              refine HA7.out.mono ?_
              rintro e z8 ⟨rfl, ho8, hp8⟩
              have HQ8 := Lib.hid hp8
              have HC8 := Lib.hid (HC7.out.kept ho8 (fun _ h e => h e))
              clear ho8 hp8 hc6 HA7 HQ7 HC7
              go_wp2_with fail
              go_roundw
              all_goals clear eI2
              case rel => exact ⟨i2 + 1, by omega, by go_num, HC8, HQ8⟩
              case measure => simp [intOf]; omega
            · obtain rfl : i2 = sl.length := by omega
              go_wp2_with fail
              refine ((HQ6.out).alive HE.out).mono ?_
              rintro e z9 ⟨rfl, hp9⟩
              have HQ9 := Lib.hid hp9
              clear hp9 HQ6
              go_wp2_with fail
              refine (HOT.out _ pn z9 HQ9.out).mono ?_
              rintro e z10 ⟨⟨C10, c10, rfl⟩, hp10⟩
              have HQ10 := Lib.hid hp10
              have HCO := Lib.hid (without_count HND.out pn)
              have HI10 := Lib.hid (in_nat l c _ pn z10 hp10.l (by have := HLEN.out; omega))
              obtain ⟨wl, hwl⟩ : ∃ wl, wl = (without l pn).length := ⟨_, rfl⟩
              obtain ⟨hv, hhv⟩ : ∃ hv, hv = hasI l pn := ⟨_, rfl⟩
              rw [← hwl] at HCO ⊢
              rw [← hhv] at HCO HI10
              clear hp10 HQ9 hwl hhv
              go_wp2_with fail
              refine HI10.out.mono ?_
              rintro e z11 ⟨rfl, rfl⟩
              clear HI10
              go_wp2_with fail
              refine (one_any hv z10).mono ?_
              rintro e z12 ⟨rfl, rfl⟩
              obtain ⟨ov, hov⟩ : ∃ ov : Int, ov = if hv = true then 1 else 0 := ⟨_, rfl⟩
              have hov1 : 0 ≤ ov ∧ ov ≤ 1 := by rw [hov]; split <;> omega
              rw [← hov] at HCO ⊢
              have EW : IntKind.i64.wrap ((l.length : Int) - ov) = (wl : Int) := by
                have h1 := HCO.out
                have h2 := HLEN.out.1
                rw [IntKind.wrap_i64]
                omega
              clear hov hov1
              go_wp2_with fail
              go_ret
              exact ⟨rfl, HQ10.out.r.below⟩
      · have hne : ((q : Int) != pn) = true := by rw [bne_iff_ne]; exact hqn
        have eI : IntKind.i64.wrap ((i : Int) + 1) = (i : Int) + 1 := by have := HLEN.out.1; rw [IntKind.wrap_i64]; omega
        have HNE2 : Hid (∀ j, j < i + 1 → ((l.getD j 0 : Nat) : Int) ≠ pn) := Lib.hid (fun j hj => by
          by_cases e : j = i
          · subst e
            rw [← HQQ.out]
            exact hqn
          · exact HNE.out j (by omega))
        have hz := HPK.out.skip i hlt (fun j hj => HNE2.out j (by omega))
        rw [← HQQ.out] at hz
        have HIU := Lib.hid (inZ_any us cu A (q : Int) wr HP.out.u HUM.out)
        rw [hz] at HIU
        clear hqn hz hlr
        go_wp2_with fail
        refine HIU.out.mono ?_
        rintro e x2 ⟨rfl, rfl⟩
        go_wp2_with fail
        go_roundw
        all_goals clear eI
        case rel => exact ⟨i + 1, by omega, by go_num, HNE2, HP⟩
        case measure => simp [intOf]; omega
    · obtain rfl : i = l.length := by omega
      by_cases hpe : pe = 0
      · subst hpe
        have HOK := Lib.hid (HPK.out.ok rfl)
        have HIN := Lib.hid (in_nat l c B pn wr HP.out.l (by have := HLEN.out; omega))
        rw [HOK.out.1] at HIN
        have HIU := Lib.hid (inZ_any us cu A pn wr HP.out.u HUM.out)
        rw [HOK.out.2] at HIU
        have HHN := Lib.hid (HHO.out B pn wr HP.out)
        rw [HOK.out.1] at HHN
        go_wp2_with fail
        refine HIN.out.mono ?_
        rintro e x1 ⟨rfl, rfl⟩
        go_wp2_with fail
        refine HIU.out.mono ?_
        rintro e x2 ⟨rfl, rfl⟩
        go_wp2_with fail
        refine HHN.out.mono ?_
        rintro e x3 ⟨rfl, hp⟩
        have HQX := Lib.hid hp
        clear hp HIN HIU HHN HP
        go_wp2_with fail
        refine (HRI.out _).mono ?_
        rintro e z0 ⟨rfl, rfl⟩
        go_wp2_with fail
        refine ((HQX.out).peers HE.out a).mono ?_
        rintro e z1 ⟨⟨C1, c1, m1, rfl, hm1, hl1, hz1⟩, hp⟩
        have HQ1 := Lib.hid hp
        have HI1 := Lib.hid (in_nat m1 c1 C1 b z1 hm1 (by omega))
        rw [hz1] at HI1
        clear hm1 hl1 hz1 hp HQX
        go_wp2_with fail
        refine HI1.out.mono ?_
        rintro e z1' ⟨rfl, rfl⟩
        clear HI1
        go_wp2_with fail
        refine ((HQ1.out).peers HE.out b).mono ?_
        rintro e z2 ⟨⟨C2, c2, m2, rfl, hm2, hl2, hz2⟩, hp⟩
        have HQ2 := Lib.hid hp
        have HI2 := Lib.hid (in_nat m2 c2 C2 a z2 hm2 (by omega))
        rw [hz2, peerB_comm] at HI2
        obtain ⟨pb, hpb⟩ : ∃ pb, pb = peerB (Ring.pts ptAt V N) R a b := ⟨_, rfl⟩
        rw [← hpb] at HI2 ⊢
        have hbb : (pb != pb) = false := by simp
        clear hm2 hl2 hz2 hp hpb HQ1
        go_wp2_with fail
        refine HI2.out.mono ?_
        rintro e z2' ⟨rfl, rfl⟩
        clear HI2
        go_wp2_with fail
        refine ((HQ2.out).shared HE.out a b).mono ?_
        rintro e z3 ⟨⟨C3, c3, rfl, hm3⟩, ho3, hp⟩
        have HQ3 := Lib.hid hp
        have HC3 := Lib.hid hm3
        clear hm3 ho3 hp HQ2 hbb
        go_wp2_with fail
        refine ((HQ3.out).shared HE.out b a).mono ?_
        rintro e z4 ⟨⟨C4, c4, rfl, hm4⟩, ho4, hp⟩
        have HQ4 := Lib.hid hp
        have HC4 := Lib.hid hm4
        have HC34 := Lib.hid (HC3.out.kept ho4 (fun _ h e => h e))
        rw [shared_comm _ _ b a] at HC4 ⊢
        have HSM := Lib.hid (fun k (hk : k ∈ sharedL (Ring.pts ptAt V N) R a b) => shared_mem hk)
        have HSL := Lib.hid (shared_len (Ring.pts ptAt V N) R a b)
        have HSH := Lib.hid (fun x (h : RH w g N V R x) => rtshared_env HE.out a b x h)
        obtain ⟨sl, hsl⟩ : ∃ sl, sl = sharedL (Ring.pts ptAt V N) R a b := ⟨_, rfl⟩
        rw [← hsl] at HC4 HC34 HSM HSL HSH ⊢
        have HSA := Lib.hid (same_any sl sl c3 c4 C3 C4 z4 HC34.out HC4.out (by have := HSL.out; omega))
        rw [decide_eq_true (rfl : sl = sl)] at HSA
        clear hm4 ho4 hp HQ3 HC3 hsl
        go_wp2_with fail
        refine HSA.out.mono ?_
        rintro e z5 ⟨rfl, hb5⟩
        have HQ5 := Lib.hid (HQ4.out.down HE.out hb5)
        clear hb5 HSA HQ4 HC34 HC4
        go_wp2_with fail
        refine (HSH.out z5 HQ5.out.r).mono ?_
        rintro e z6 ⟨C6, c6, rfl, hm6, ho6, hp⟩
        have HQ6 := Lib.hid (HQ5.out.kept ho6 hp)
        have HC6 : Hid (Row .i64 z6 (fun b => b ≠ g) C6 sl) := Lib.hid (hm6.row.weak fun b hb _ e => by have := HQ5.out.r.ring.lt; omega)
        clear hm6 ho6 hp HQ5
        go_wp2_with fail
        go_loopw [18] (fun iv x => ∃ i : Nat, i ≤ sl.length ∧ iv = .int .i64 i ∧ Hid (Row .i64 x (fun b => b ≠ g) C6 sl) ∧ Hid (PQ w g N V R B l A us x)) (fun iv _ => sl.length - (intOf iv).toNat)
        case atStart => exact ⟨0, by omega, rfl, HC6, HQ6⟩
        case round =>
          clear HC6 HQ6
          obtain ⟨i2, hi2, rfl, HC6, HQ6⟩ := hrel
          by_cases hlt2 : i2 < sl.length
          · have hlt2' : (i2 : Int) < (sl.length : Int) := by omega
            have eI2 : IntKind.i64.wrap ((i2 : Int) + 1) = (i2 : Int) + 1 := by have := HSL.out; rw [IntKind.wrap_i64]; omega
            obtain ⟨b6, o6, hB6, _, hcs6⟩ := HC6.out.at_ (by omega)
            subst hB6
            have hc6 := hcs6 i2 hlt2
            obtain ⟨q6, hq6⟩ : ∃ q, q = sl.getD i2 0 := ⟨_, rfl⟩
            have hqm6 : q6 ∈ sl := by rw [hq6]; exact getD_mem hlt2
            have HH6 := Lib.hid (HSM.out q6 hqm6)
            have HQQ6 := Lib.hid hq6
            rw [← hq6] at hc6
            clear hcs6 hq6 hqm6
            have HA6 := Lib.hid ((HQ6.out).part HE.out a (q6 : Int))
            rw [HH6.out.1] at HA6
            go_wp2_with fail
            refine HA6.out.mono ?_
            rintro e z7 ⟨rfl, ho7, hp7⟩
            have HQ7 := Lib.hid hp7
            have HC7 := Lib.hid (HC6.out.kept ho7 (fun _ h e => h e))
            clear ho7 hp7 hc6 HA6 HQ6 HC6
            have hc6 := HC7.out.cell b6 o6 rfl i2 hlt2
            rw [← HQQ6.out] at hc6
            have HA7 := Lib.hid ((HQ7.out).part HE.out b (q6 : Int))
            rw [HH6.out.2] at HA7
            go_wp2_with fail
            refine HA7.out.mono ?_
            rintro e z8 ⟨rfl, ho8, hp8⟩
            have HQ8 := Lib.hid hp8
            have HC8 := Lib.hid (HC7.out.kept ho8 (fun _ h e => h e))
            clear ho8 hp8 hc6 HA7 HQ7 HC7
            go_wp2_with fail
            go_roundw
            all_goals clear eI2
            case rel => exact ⟨i2 + 1, by omega, by go_num, HC8, HQ8⟩
            case measure => simp [intOf]; omega
          · obtain rfl : i2 = sl.length := by omega
            go_wp2_with fail
            refine ((HQ6.out).alive HE.out).mono ?_
            rintro e z9 ⟨rfl, hp9⟩
            have HQ9 := Lib.hid hp9
            clear hp9 HQ6
            go_wp2_with fail
            refine (HOT.out B pn z9 HQ9.out).mono ?_
            rintro e z10 ⟨⟨C10, c10, rfl⟩, hp10⟩
            have HQ10 := Lib.hid hp10
            have HCO := Lib.hid (without_count HND.out pn)
            have HI10 := Lib.hid (in_nat l c B pn z10 hp10.l (by have := HLEN.out; omega))
            obtain ⟨wl, hwl⟩ : ∃ wl, wl = (without l pn).length := ⟨_, rfl⟩
            obtain ⟨hv, hhv⟩ : ∃ hv, hv = hasI l pn := ⟨_, rfl⟩
            rw [← hwl] at HCO ⊢
            rw [← hhv] at HCO HI10
            clear hp10 HQ9 hwl hhv
            go_wp2_with fail
            refine HI10.out.mono ?_
            rintro e z11 ⟨rfl, rfl⟩
            clear HI10
            go_wp2_with fail
            refine (one_any hv z10).mono ?_
            rintro e z12 ⟨rfl, rfl⟩
            obtain ⟨ov, hov⟩ : ∃ ov : Int, ov = if hv = true then 1 else 0 := ⟨_, rfl⟩
            have hov1 : 0 ≤ ov ∧ ov ≤ 1 := by rw [hov]; split <;> omega
            rw [← hov] at HCO ⊢
            have EW : IntKind.i64.wrap ((l.length : Int) - ov) = (wl : Int) := by
              have h1 := HCO.out
              have h2 := HLEN.out.1
              rw [IntKind.wrap_i64]
              omega
            clear hov hov1
            go_wp2_with fail
            go_ret
            exact ⟨rfl, HQ10.out.r.below⟩
      · have hpe2 : (pe == 0) = false := by rw [beq_eq_false_iff_ne]; exact hpe
        have HQX := Lib.hid HP.out
        clear hpe HP
        go_wp2_with fail
        refine (HRI.out _).mono ?_
        rintro e z0 ⟨rfl, rfl⟩
        go_wp2_with fail
        refine ((HQX.out).peers HE.out a).mono ?_
        rintro e z1 ⟨⟨C1, c1, m1, rfl, hm1, hl1, hz1⟩, hp⟩
        have HQ1 := Lib.hid hp
        have HI1 := Lib.hid (in_nat m1 c1 C1 b z1 hm1 (by omega))
        rw [hz1] at HI1
        clear hm1 hl1 hz1 hp HQX
        go_wp2_with fail
        refine HI1.out.mono ?_
        rintro e z1' ⟨rfl, rfl⟩
        clear HI1
        go_wp2_with fail
        refine ((HQ1.out).peers HE.out b).mono ?_
        rintro e z2 ⟨⟨C2, c2, m2, rfl, hm2, hl2, hz2⟩, hp⟩
        have HQ2 := Lib.hid hp
        have HI2 := Lib.hid (in_nat m2 c2 C2 a z2 hm2 (by omega))
        rw [hz2, peerB_comm] at HI2
        obtain ⟨pb, hpb⟩ : ∃ pb, pb = peerB (Ring.pts ptAt V N) R a b := ⟨_, rfl⟩
        rw [← hpb] at HI2 ⊢
        have hbb : (pb != pb) = false := by simp
        clear hm2 hl2 hz2 hp hpb HQ1
        go_wp2_with fail
        refine HI2.out.mono ?_
        rintro e z2' ⟨rfl, rfl⟩
        clear HI2
        go_wp2_with fail
        refine ((HQ2.out).shared HE.out a b).mono ?_
        rintro e z3 ⟨⟨C3, c3, rfl, hm3⟩, ho3, hp⟩
        have HQ3 := Lib.hid hp
        have HC3 := Lib.hid hm3
        clear hm3 ho3 hp HQ2 hbb
        go_wp2_with fail
        refine ((HQ3.out).shared HE.out b a).mono ?_
        rintro e z4 ⟨⟨C4, c4, rfl, hm4⟩, ho4, hp⟩
        have HQ4 := Lib.hid hp
        have HC4 := Lib.hid hm4
        have HC34 := Lib.hid (HC3.out.kept ho4 (fun _ h e => h e))
        rw [shared_comm _ _ b a] at HC4 ⊢
        have HSM := Lib.hid (fun k (hk : k ∈ sharedL (Ring.pts ptAt V N) R a b) => shared_mem hk)
        have HSL := Lib.hid (shared_len (Ring.pts ptAt V N) R a b)
        have HSH := Lib.hid (fun x (h : RH w g N V R x) => rtshared_env HE.out a b x h)
        obtain ⟨sl, hsl⟩ : ∃ sl, sl = sharedL (Ring.pts ptAt V N) R a b := ⟨_, rfl⟩
        rw [← hsl] at HC4 HC34 HSM HSL HSH ⊢
        have HSA := Lib.hid (same_any sl sl c3 c4 C3 C4 z4 HC34.out HC4.out (by have := HSL.out; omega))
        rw [decide_eq_true (rfl : sl = sl)] at HSA
        clear hm4 ho4 hp HQ3 HC3 hsl
        go_wp2_with fail
        refine HSA.out.mono ?_
        rintro e z5 ⟨rfl, hb5⟩
        have HQ5 := Lib.hid (HQ4.out.down HE.out hb5)
        clear hb5 HSA HQ4 HC34 HC4
        go_wp2_with fail
        refine (HSH.out z5 HQ5.out.r).mono ?_
        rintro e z6 ⟨C6, c6, rfl, hm6, ho6, hp⟩
        have HQ6 := Lib.hid (HQ5.out.kept ho6 hp)
        have HC6 : Hid (Row .i64 z6 (fun b => b ≠ g) C6 sl) := Lib.hid (hm6.row.weak fun b hb _ e => by have := HQ5.out.r.ring.lt; omega)
        clear hm6 ho6 hp HQ5
        go_wp2_with fail
        go_loopw [18] (fun iv x => ∃ i : Nat, i ≤ sl.length ∧ iv = .int .i64 i ∧ Hid (Row .i64 x (fun b => b ≠ g) C6 sl) ∧ Hid (PQ w g N V R B l A us x)) (fun iv _ => sl.length - (intOf iv).toNat)
        case atStart => exact ⟨0, by omega, rfl, HC6, HQ6⟩
        case round =>
          clear HC6 HQ6
          obtain ⟨i2, hi2, rfl, HC6, HQ6⟩ := hrel
          by_cases hlt2 : i2 < sl.length
          · have hlt2' : (i2 : Int) < (sl.length : Int) := by omega
            have eI2 : IntKind.i64.wrap ((i2 : Int) + 1) = (i2 : Int) + 1 := by have := HSL.out; rw [IntKind.wrap_i64]; omega
            obtain ⟨b6, o6, hB6, _, hcs6⟩ := HC6.out.at_ (by omega)
            subst hB6
            have hc6 := hcs6 i2 hlt2
            obtain ⟨q6, hq6⟩ : ∃ q, q = sl.getD i2 0 := ⟨_, rfl⟩
            have hqm6 : q6 ∈ sl := by rw [hq6]; exact getD_mem hlt2
            have HH6 := Lib.hid (HSM.out q6 hqm6)
            have HQQ6 := Lib.hid hq6
            rw [← hq6] at hc6
            clear hcs6 hq6 hqm6
            have HA6 := Lib.hid ((HQ6.out).part HE.out a (q6 : Int))
            rw [HH6.out.1] at HA6
            go_wp2_with fail
            refine HA6.out.mono ?_
            rintro e z7 ⟨rfl, ho7, hp7⟩
            have HQ7 := Lib.hid hp7
            have HC7 := Lib.hid (HC6.out.kept ho7 (fun _ h e => h e))
            clear ho7 hp7 hc6 HA6 HQ6 HC6
            have hc6 := HC7.out.cell b6 o6 rfl i2 hlt2
            rw [← HQQ6.out] at hc6
            have HA7 := Lib.hid ((HQ7.out).part HE.out b (q6 : Int))
            rw [HH6.out.2] at HA7
            go_wp2_with fail
            refine HA7.out.mono ?_
            rintro e z8 ⟨rfl, ho8, hp8⟩
            have HQ8 := Lib.hid hp8
            have HC8 := Lib.hid (HC7.out.kept ho8 (fun _ h e => h e))
            clear ho8 hp8 hc6 HA7 HQ7 HC7
            go_wp2_with fail
            go_roundw
            all_goals clear eI2
            case rel => exact ⟨i2 + 1, by omega, by go_num, HC8, HQ8⟩
            case measure => simp [intOf]; omega
          · obtain rfl : i2 = sl.length := by omega
            go_wp2_with fail
            refine ((HQ6.out).alive HE.out).mono ?_
            rintro e z9 ⟨rfl, hp9⟩
            have HQ9 := Lib.hid hp9
            clear hp9 HQ6
            go_wp2_with fail
            refine (HOT.out B pn z9 HQ9.out).mono ?_
            rintro e z10 ⟨⟨C10, c10, rfl⟩, hp10⟩
            have HQ10 := Lib.hid hp10
            have HCO := Lib.hid (without_count HND.out pn)
            have HI10 := Lib.hid (in_nat l c B pn z10 hp10.l (by have := HLEN.out; omega))
            obtain ⟨wl, hwl⟩ : ∃ wl, wl = (without l pn).length := ⟨_, rfl⟩
            obtain ⟨hv, hhv⟩ : ∃ hv, hv = hasI l pn := ⟨_, rfl⟩
            rw [← hwl] at HCO ⊢
            rw [← hhv] at HCO HI10
            clear hp10 HQ9 hwl hhv
            go_wp2_with fail
            refine HI10.out.mono ?_
            rintro e z11 ⟨rfl, rfl⟩
            clear HI10
            go_wp2_with fail
            refine (one_any hv z10).mono ?_
            rintro e z12 ⟨rfl, rfl⟩
            obtain ⟨ov, hov⟩ : ∃ ov : Int, ov = if hv = true then 1 else 0 := ⟨_, rfl⟩
            have hov1 : 0 ≤ ov ∧ ov ≤ 1 := by rw [hov]; split <;> omega
            rw [← hov] at HCO ⊢
            have EW : IntKind.i64.wrap ((l.length : Int) - ov) = (wl : Int) := by
              have h1 := HCO.out
              have h2 := HLEN.out.1
              rw [IntKind.wrap_i64]
              omega
            clear hov hov1
            go_wp2_with fail
            go_ret
            exact ⟨rfl, HQ10.out.r.below⟩
end Go.Proofs.YtdbhboglccggdaaGreatDoor
