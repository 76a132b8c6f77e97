/- The nodes from a point on. -/
import Derived.Test.YtdbhboglccggdaaGreatDoorR4
import Derived.Test.YtdbhboglccggdaaGreatDoorMs
set_option maxRecDepth 100000
set_option linter.unusedVariables false
set_option linter.unusedSimpArgs false
namespace Go.Proofs.YtdbhboglccggdaaGreatDoor
open Go.RowKit
theorem info3 : (Tryz.prog.info? 3).map (fun i => (i.zero, i.size, i.bytes)) = some (some (.int .i64 0), 1, 8) := by kernel_rfl
theorem run_make0 {P : Program} (w : World) (t e : TypeId) (z : Value) (s by_ : Nat) (ht : P.underlying t = some (.slice e)) (hinfo : (P.info? e).map (fun i => (i.zero, i.size, i.bytes)) = some (some z, s, by_)) (n : Nat) (hb : by_ * n ≤ 281474976710656) (hn : n ≤ 1000000000000) :
    (Instr.makeSlice t (.int .i64 0) (.int .i64 (n : Int))).run P w = .ok (.slice (some ⟨w.heap.size, 0, none⟩) 0 n) (w.alloc (.cells (madeCells z.cells (n * s)) e)) := by
  obtain ⟨i, hi, hz, hs, hby⟩ := info_parts hinfo
  have hb' : (i.bytes : Int) * (n : Int) ≤ 281474976710656 := by
    have h3 : ((by_ * n : Nat) : Int) ≤ 281474976710656 := by omega
    rw [hby]
    rwa [Int.natCast_mul] at h3
  have h := run_make (P := P) w t e i z ht hi hz .i64 .i64 (0 : Int) (n : Int) (by omega) (by omega) hb' (by omega)
  rw [Int.toNat_natCast, hs] at h
  exact h
theorem made_own {w : World} {e : TypeId} {s n : Nat} {z : Value} (hn : n ≤ 1000000) (hz : z.cells.size = s) : (w.alloc (.cells (madeCells z.cells (n * s)) e)).ownsRow w.heap.size e s (.slice (some ⟨w.heap.size, 0, none⟩) 0 n) 0 [] :=
  World.ownsRow_made w _ n (Nat.le_refl _) (by unfold maxLen; omega) (size_madeCells _ _)
/-- The nodes after i of the points. -/
def accN (ls : List Pt) (base m i : Nat) : List Nat := (((Ring.turn base ls).map (·.2)).take i).foldl (Ring.stepN m) []
theorem accN_zero (ls : List Pt) (base m : Nat) : accN ls base m 0 = [] := rfl
theorem accN_end (ls : List Pt) (base m : Nat) : accN ls base m ls.length = Ring.listOf ls base m := by
  unfold accN Ring.listOf Ring.upTo
  rw [List.take_of_length_le (by rw [List.length_map, Ring.turn_length]; exact Nat.le_refl _)]
theorem accN_succ (ls : List Pt) (base m i : Nat) (hi : i < ls.length) : accN ls base m (i + 1) = Ring.stepN m (accN ls base m i) ((Ring.turn base ls).getD i (0, 0)).2 := by
  unfold accN
  have hl : i < ((Ring.turn base ls).map (·.2)).length := by rw [List.length_map, Ring.turn_length]; exact hi
  have hl2 : i < (Ring.turn base ls).length := by rw [Ring.turn_length]; exact hi
  rw [List.take_succ_eq_append_getElem hl, List.foldl_append, List.getElem_map, List.getD_eq_getElem?_getD, List.getElem?_eq_getElem hl2]
  rfl
theorem accN_full (ls : List Pt) (base m i : Nat) (h : (accN ls base m i).length = m) : Ring.listOf ls base m = accN ls base m i := by
  unfold Ring.listOf Ring.upTo
  conv => lhs; rw [← List.take_append_drop i ((Ring.turn base ls).map (·.2))]
  rw [List.foldl_append]
  exact Ring.upTo_full h _
theorem accN_le (ls : List Pt) (base m : Nat) : ∀ i, (accN ls base m i).length ≤ i := by
  intro i
  have e : accN ls base m i = Ring.upTo m (((Ring.turn base ls).map (·.2)).take i) := rfl
  have hf : ∀ (l acc : List Nat), (l.foldl (Ring.stepN m) acc).length ≤ acc.length + l.length := by
    intro l
    induction l with
    | nil => intro acc; simp
    | cons x l ih =>
      intro acc
      rw [List.foldl_cons]
      refine Nat.le_trans (ih _) ?_
      unfold Ring.stepN
      split
      · simp
      · split
        · simp
        · simp; omega
  refine Nat.le_trans (hf _ []) ?_
  simp
  omega
/-- What the loop keeps. -/
structure NI (w0 : World) (A : Option Addr) (c : Nat) (ls : List Pt) (base : Nat) (ok : Nat → Prop) (B : Nat) (v : Value) (acc : List Nat) (x : World) : Prop where
  box : SB w0 A c ls base ok x
  own : x.ownsRow B 3 1 v acc.length (vals .i64 acc)
  le : w0.heap.size + 2 ≤ B
  size : B ≤ x.heap.size
theorem NI.row {w0 : World} {A : Option Addr} {c : Nat} {ls : List Pt} {base : Nat} {ok : Nat → Prop} {B : Nat} {v : Value} {acc : List Nat} {x : World} (h : NI w0 A c ls base ok B v acc x) :
    ∃ A' c', v = .slice A' acc.length c' ∧ (A' = none → c' = 0) ∧ acc.length ≤ c' ∧ Row .i64 x (fun b => B ≤ b ∧ b < x.heap.size) A' acc := own_row1 h.own
theorem NI.drew {w0 : World} {A : Option Addr} {c : Nat} {ls : List Pt} {base : Nat} {ok : Nat → Prop} {B : Nat} {v : Value} {acc : List Nat} {x : World} (h : NI w0 A c ls base ok B v acc x) : NI w0 A c ls base ok B v acc x.drew :=
  ⟨h.box.drew, h.own.kept (w' := x.drew) (row := none) ⟨rfl, rfl, rfl, Nat.le_refl _, fun _ _ _ => rfl⟩ (by cases hv : v.ownBlock <;> simp), h.le, h.size⟩
theorem NI.next {w0 : World} {A : Option Addr} {c : Nat} {ls : List Pt} {base : Nat} {ok : Nat → Prop} {B : Nat} {v v' : Value} {acc : List Nat} {q : Nat} {x y : World} (h : NI w0 A c ls base ok B v acc x) (hb : Below B x y) (ho : y.ownsRow B 3 1 v' (acc.length + 1) (vals .i64 acc ++ [.int .i64 ((q : Nat) : Int)])) (hok : ∀ b, ok b → b < x.heap.size → b < B) : NI w0 A c ls base ok B v' (acc ++ [q]) y := by
  have hl := h.le
  refine ⟨⟨?_, ?_, h.box.row.keep fun b hb1 hl1 _ => hb.block b (hok b hb1 hl1), h.box.below.trans (hb.mono (by omega)), Nat.le_trans h.box.le hb.size⟩, ?_, h.le, Nat.le_trans h.size hb.size⟩
  · exact (World.cell?_of_block (w := x) (a := ⟨w0.heap.size, 0, none⟩) (hb.block w0.heap.size (by omega))).trans h.box.p
  · exact (World.cell?_of_block (w := x) (a := ⟨w0.heap.size + 1, 0, none⟩) (hb.block (w0.heap.size + 1) (by omega))).trans h.box.b
  · rw [vals_append, List.length_append]
    exact ho
theorem enters52 : ∀ args w, (callFunc 61 args).run Tryz.prog w = .ok (.enter 61 args) w := enters_of Tryz.func61 (by kernel_rfl) rfl
set_option maxHeartbeats 4000000 in
theorem nodesFrom_own (ls : List Pt) (c : Nat) (A : Option Addr) (base m : Nat) (w : World) (h : PRow w (· < w.heap.size) A ls) (hs : ls.Pairwise fun x y => Ring.le x y = true) (hl : ls.length ≤ 1000) (hm : m ≤ 8) :
    Calls Tryz.prog 47 #[.slice A ls.length c, .int .u64 (base : Int), .int .i64 (m : Int)] w fun e w' => ∃ B c', e = .returned (.slice B (Ring.listOf ls base m).length c') ∧ (Ring.listOf ls base m).length ≤ c' ∧ Mine w' (fun b => w.heap.size ≤ b ∧ b < w'.heap.size) B c' (Ring.listOf ls base m) ∧ Below w.heap.size w w' := by
  have hk := run_make0 (P := Tryz.prog)
  have hsb : SB w A c ls base (· < w.heap.size) ((w.alloc (.cells #[.slice A ls.length c] 69)).alloc (.cells #[.int .u64 (base : Int)] 82)) := by
    have h1 := heap_alloc_new w (.cells #[.slice A ls.length c] 69)
    have h2 := heap_alloc_new (w.alloc (.cells #[.slice A ls.length c] 69)) (.cells #[.int .u64 (base : Int)] 82)
    rw [World.size_alloc] at h2
    have h3 : ((w.alloc (.cells #[.slice A ls.length c] 69)).alloc (.cells #[.int .u64 (base : Int)] 82)).heap[w.heap.size]? = _ := (Below.heap_alloc _ _ _ (by simp)).trans h1
    have hb := ((Below.refl w.heap.size w).alloc (Nat.le_refl _) (.cells #[.slice A ls.length c] 69)).alloc (by simp) (.cells #[.int .u64 (base : Int)] 82)
    exact ⟨by rw [cell_of_row _ _ _ _ _ _ h3]; rfl, by rw [cell_of_row _ _ _ _ _ _ h2]; rfl, h.grow hb, hb, by simp⟩
  have HSB := Lib.hid hsb
  obtain ⟨f, hf⟩ : ∃ f, f = Ring.firstAt base ls := ⟨_, rfl⟩
  have hfl : f ≤ ls.length := by rw [hf]; exact Ring.firstAt_le _ _
  have HC : Hid (Calls Tryz.prog 60 #[.int .i64 ((ls.length : Nat) : Int), .func (.func 61) #[] #[.pointer (some ⟨w.heap.size, 0, none⟩), .pointer (some ⟨w.heap.size + 1, 0, none⟩)]] ((w.alloc (.cells #[.slice A ls.length c] 69)).alloc (.cells #[.int .u64 (base : Int)] 82)) fun e w' => e = .returned (.int .i64 (f : Int)) ∧ SB w A c ls base (· < w.heap.size) w') := Lib.hid (by
    refine (search_any 61 #[.pointer (some ⟨w.heap.size, 0, none⟩), .pointer (some ⟨w.heap.size + 1, 0, none⟩)] ls.length (fun i => decide (base ≤ (ls.getD i (0, 0)).1)) _ enters52 (by omega) (fun i W hi hW => ?_)).mono ?_
    · exact from1_any w A c ls base i hi W (hsb.then_ hW)
    · rintro e w' ⟨r, rfl, hr, h1, h2, hb⟩
      refine ⟨?_, hsb.then_ hb⟩
      have hsp := Ring.firstAt_split base ls hs
      rw [← hf] at hsp
      have : r = f := by
        rcases Nat.lt_trichotomy r f with hlt | heq | hgt
        · rcases h2 with h2 | h2
          · omega
          · rw [hsp r (by omega)] at h2
            have := of_decide_eq_true h2
            omega
        · exact heq
        · rcases h1 with h1 | h1
          · omega
          · rw [hsp (r - 1) (by omega)] at h1
            have := of_decide_eq_false h1
            omega
      rw [this])
  have HT : Hid (∀ i, i < ls.length → (Ring.turn base ls).getD i (0, 0) = ls.getD ((f + i) % ls.length) (0, 0)) := Lib.hid (fun i hi => by rw [hf]; exact Ring.turn_get base ls hs i hi)
  clear hs h hsb hf hk
  have HM := Lib.hid hm
  go_enter Tryz.func47, Tryz.ntmps47
  have hp := HSB.out.p
  go_wp2_with fail
  refine HC.out.mono ?_
  rintro e w1 ⟨rfl, hs1⟩
  have HS1 := Lib.hid hs1
  have hmk := run_make0 (P := Tryz.prog) w1 24 3 (.int .i64 0) 1 8 Tryz.underlying24 info3 m (by omega) (by omega)
  have HO := Lib.hid (made_own (w := w1) (e := 3) (s := 1) (n := m) (z := .int .i64 0) (by omega) rfl)
  have HS2 : Hid (SB w A c ls base (· < w.heap.size) (w1.alloc (.cells (madeCells (Value.int .i64 0).cells (m * 1)) 3))) := Lib.hid (hs1.then_ ((Below.refl _ _).alloc (Nat.le_refl _) _))
  have hz1 := hs1.below.size
  have hz2 := hs1.le
  generalize hW2 : w1.alloc (.cells (madeCells (Value.int .i64 0).cells (m * 1)) 3) = w2 at *
  have hz3 : w1.heap.size ≤ w2.heap.size := by rw [← hW2]; simp
  clear hW2 hs1 hp HC HSB
  have hp2 := HS2.out.p
  go_wp2_with fail
  generalize hB : w1.heap.size = B at *
  have HNI : Hid (NI w A c ls base (· < w.heap.size) B (.slice (some ⟨B, 0, none⟩) 0 m) (accN ls base m 0) w2) := Lib.hid ⟨HS2.out, by rw [accN_zero]; exact HO.out, by omega, by omega⟩
  clear HO HS1 HS2 hp2 hmk hB hz1 hz3
  go_loopw [8, 19] (fun v iv x => ∃ i : Nat, i ≤ ls.length ∧ iv = .int .i64 i ∧ Hid (NI w A c ls base (· < w.heap.size) B v (accN ls base m i) x)) (fun _ iv _ => ls.length - (intOf iv).toNat)
  case atStart => exact ⟨0, by omega, rfl, HNI⟩
  case round =>
    clear HNI
    obtain ⟨i, hi, rfl, HN⟩ := hrel
    by_cases hlt : i < ls.length
    · have hlt' : (i : Int) < (ls.length : Int) := by omega
      obtain ⟨acc, hacc⟩ : ∃ acc, acc = accN ls base m i := ⟨_, rfl⟩
      have HA := Lib.hid hacc
      have HL : Hid (acc.length ≤ 1000) := by
        show _ ≤ _
        have := accN_le ls base m i
        rw [hacc]
        omega
      rw [← hacc] at HN
      obtain ⟨A', c', rfl, hn', hc', hrow⟩ := HN.out.row
      have HROW := Lib.hid hrow
      clear hn' hrow hacc
      by_cases hfull : acc.length = m
      · have he : ((acc.length : Int) == (m : Int)) = true := by rw [beq_iff_eq]; omega
        have HE : Hid (Ring.listOf ls base m = acc) := Lib.hid (by
          have h := accN_full ls base m i (by rw [← HA.out]; exact hfull)
          rw [h, HA.out])
        clear hfull
        go_wp2_with fail
        go_ret
        rw [HE.out]
        exact ⟨A', c', rfl, hc', (own_mine HN.out.own).weak (fun b hb _ => ⟨by have := HN.out.le; omega, hb.2⟩), HN.out.box.below⟩
      · have he : ((acc.length : Int) == (m : Int)) = false := by rw [beq_eq_false_iff_ne]; omega
        have HF := Lib.hid hfull
        obtain ⟨k, hk⟩ : ∃ k, k = (f + i) % ls.length := ⟨_, rfl⟩
        have hkl : k < ls.length := by rw [hk]; exact Nat.mod_lt _ (by omega)
        obtain ⟨b, o, hA1, _, _, hcs⟩ := HN.out.box.row.at_ (by omega)
        subst hA1
        have hc1 := (hcs k hkl).2
        clear hcs
        obtain ⟨q, hq⟩ : ∃ q, q = (ls.getD k (0, 0)).2 := ⟨_, rfl⟩
        rw [← hq] at hc1
        have HQ : Hid (accN ls base m (i + 1) = Ring.stepN m acc q) := Lib.hid (by rw [accN_succ ls base m i hlt, HT.out i hlt, ← hk, ← hq, ← HA.out])
        have e1 : IntKind.i64.wrap ((f : Int) + (i : Int)) = (f : Int) + (i : Int) := IntWalk.i64_in _ (by omega)
        have e3 : ((f : Int) + (i : Int)) % (ls.length : Int) = (k : Int) := by rw [hk, Int.natCast_emod, Int.natCast_add]
        have e2 : ((f : Int) + (i : Int)).tmod (ls.length : Int) = (k : Int) := by rw [Int.tmod_eq_emod_of_nonneg (by omega), e3]
        have hne : ¬ ls = [] := fun e => by rw [e] at hlt; exact absurd hlt (Nat.not_lt_zero _)
        have hkl' : (k : Int) < (ls.length : Int) := by omega
        have hp := HN.out.box.p
        have HN1 : Hid (NI w (some ⟨b, o, none⟩) c ls base (· < w.heap.size) B (.slice A' acc.length c') acc wr.drew) := Lib.hid HN.out.drew
        have HR1 : Hid (Row .i64 wr.drew (fun b => B ≤ b ∧ b < wr.heap.size) A' acc) := Lib.hid HROW.out.drew
        clear hk hq hfull HA HROW HN
        by_cases hmem : q ∈ acc
        · have HH : Hid (hasI acc (q : Int) = true) := Lib.hid (by rw [hasI_nat]; exact decide_eq_true hmem)
          have HN2 : Hid (NI w (some ⟨b, o, none⟩) c ls base (· < w.heap.size) B (.slice A' acc.length c') (accN ls base m (i + 1)) wr.drew) := Lib.hid (by
            rw [HQ.out]
            unfold Ring.stepN
            rw [if_neg HF.out, if_pos hmem]
            exact HN1.out)
          clear hmem
          go_wp2_with fail
          go_region
          go_wp2_with (go_at_call 34; refine (contains_any acc c' A' (q : Int) _ HR1.out (by have := HL.out; omega)).mono ?_; rw [HH.out]; rintro e w3 ⟨rfl, rfl⟩)
          go_roundw
          all_goals clear e1 e2 e3
          case rel => exact ⟨i + 1, by omega, by go_num, HN2⟩
          case measure => simp [intOf]; omega
        · have HH : Hid (hasI acc (q : Int) = false) := Lib.hid (by rw [hasI_nat]; exact decide_eq_false hmem)
          have HQ2 : Hid (accN ls base m (i + 1) = acc ++ [q]) := Lib.hid (by
            rw [HQ.out]
            unfold Ring.stepN
            rw [if_neg HF.out, if_neg hmem])
          clear hmem
          go_wp2_with fail
          go_region
          go_wp2_with (first
            | (go_at_call 34; refine (contains_any acc c' A' (q : Int) _ HR1.out (by have := HL.out; omega)).mono ?_; rw [HH.out]; rintro e w3 ⟨rfl, rfl⟩)
            | (refine wpList_append_one rfl (.tmp 40) (.tmp 42) 24 rfl B 3 (.int .i64 0) 8 Tryz.underlying24 info3 rfl (.slice A' acc.length c') acc.length (vals .i64 acc) rfl HN1.out.own (.int .i64 (q : Int)) 3 rfl rfl (by have := HL.out; unfold maxLen; omega) (by have := HL.out; omega) HN1.out.size ?_; intro v' w5 hown hbel))
          have HN3 : Hid (NI w (some ⟨b, o, none⟩) c ls base (· < w.heap.size) B v' (accN ls base m (i + 1)) w5) := Lib.hid (by
            rw [HQ2.out]
            exact HN1.out.next hbel.out hown.out (fun b hb _ => by have := HN1.out.le; omega))
          clear hown hbel
          go_roundw
          all_goals clear e1 e2 e3
          case rel => exact ⟨i + 1, by omega, by go_num, HN3⟩
          case measure => simp [intOf]; omega
    · obtain rfl : i = ls.length := by omega
      obtain ⟨A', c', rfl, hn', hc', hrow⟩ := HN.out.row
      have hmi := own_mine HN.out.own
      rw [accN_end] at hrow hc' hmi
      have HMI := Lib.hid hmi
      have HROW := Lib.hid hrow
      have HE := Lib.hid (accN_end ls base m)
      clear hn' hrow hmi
      go_wp2_with fail
      go_ret
      rw [HE.out]
      exact ⟨A', c', rfl, hc', HMI.out.weak (fun b hb _ => ⟨by have := HN.out.le; omega, hb.2⟩), HN.out.box.below⟩
theorem nodesFrom_any (ls : List Pt) (c : Nat) (A : Option Addr) (base m : Nat) (w : World) (h : PRow w (· < w.heap.size) A ls) (hs : ls.Pairwise fun x y => Ring.le x y = true) (hl : ls.length ≤ 1000) (hm : m ≤ 8) :
    Calls Tryz.prog 47 #[.slice A ls.length c, .int .u64 (base : Int), .int .i64 (m : Int)] w fun e w' => ∃ B c', e = .returned (.slice B (Ring.listOf ls base m).length c') ∧ (Ring.listOf ls base m).length ≤ c' ∧ Row .i64 w' (fun b => w.heap.size ≤ b ∧ b < w'.heap.size) B (Ring.listOf ls base m) ∧ Below w.heap.size w w' :=
  (nodesFrom_own ls c A base m w h hs hl hm).mono (by
    rintro e w' ⟨B, c', rfl, h1, h2, h3⟩
    exact ⟨B, c', rfl, h1, h2.row, h3⟩)
end Go.Proofs.YtdbhboglccggdaaGreatDoor
