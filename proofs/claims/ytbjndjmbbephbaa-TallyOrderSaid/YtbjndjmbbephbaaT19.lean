/- The law TallyOrder of layer 5, walked. -/
import Derived.Test.YtbjndjmbbephbaaT18
import Derived.Test.YtbjndjmbbephbaaFront
import Derived.Deep.Cut
namespace Go.Proofs.Ytbjndjmbbephbaa
open Go.RowKit
theorem Ints.grow {w x : World} {A : Option Addr} {ls : List Int} (h : Ints w (· < w.heap.size) A ls) (hb : Below w.heap.size w x) : Ints x (· < x.heap.size) A ls := by
  have h1 := h.below hb
  refine ⟨h1.rng, fun hp => ?_⟩
  obtain ⟨b, o, e, h2, h3⟩ := h1.at_ hp
  exact ⟨b, o, e, Nat.lt_of_lt_of_le h2 hb.size, h3⟩
/-- The law's tally. -/
structure TAt (w : World) (b u d : Nat) (x : World) : Prop where
  t : x.heap[b]? = some (.cells #[.int .u64 (u : Int), .int .u64 (d : Int)] 40 (0, 0))
  below : Below w.heap.size w x
theorem TAt.then_ {w x y : World} {b u d : Nat} (hb : Below x.heap.size x y) (I : TAt w b u d x) : TAt w b u d y := ⟨(hb.block _ (lt_of_row I.t)).trans I.t, I.below.trans (hb.mono I.below.size)⟩
theorem pair_range {x : World} {b t : Nat} {u d : Int} (h : x.heap[b]? = some (.cells #[.int .u64 u, .int .u64 d] t (0, 0))) : rangeA x b 0 #[.int .u64 u, .int .u64 d] := fun j v hv => by
  rw [cell_of_row _ _ _ _ _ _ h, Nat.zero_add]; exact hv
theorem exec_eql40 {ev : Operand → Value} {o : Oper} {w : World} (x y : Operand) (ho : o.op = .binOp .eql 40 x y 40) {a b : Nat} (hx : ev x = tallyV a b) (hy : ev y = tallyV a b) : (execOp ev o).run Try.prog w = .ok (.value (.bool true)) w := by
  unfold execOp
  simp only [ho, hx, hy]
  have h : (Op.equalIn 10000 40 (tallyV a b) (tallyV a b)).run Try.prog w = .ok true w := by go_simp
  simp [eqGuard, Sem.run_bind, run_eql_struct, h, Result.andThen]
theorem exec_slice {P : Program} {ev : Operand → Value} {o : Oper} {w : World} {v r : Value} {lo hi : Option Value} (t : TypeId) (x : Operand) (l h m : Option Operand) (ho : o.op = .slice t x l h m) (hx : ev x = v) (hl : l.map ev = lo) (hh : h.map ev = hi) (hm : m = none)
    (hr : (Instr.sliceAt t v lo hi none).run P w = .ok r w) : (execOp ev o).run P w = .ok (.value r) w := by
  subst hm
  unfold execOp
  simp only [ho, hx, hl, hh, Option.map_none, Sem.run_bind, hr, Result.andThen_ok, Sem.run_pure]
/-- A new tally of noughts. -/
def PN1 (w : World) (b7 : Nat) (v : Value) (x : World) : Prop := ∃ b, v = .pointer (some ⟨b, 0, none⟩) ∧ w.heap.size ≤ b ∧ b ≠ b7 ∧ x.heap[b]? = some (.cells #[.int .u64 0, .int .u64 0] 40 (0, 0))
theorem PN1.up {w : World} {b7 : Nat} {v : Value} {x y : World} (h : Below x.heap.size x y) : PN1 w b7 v x → PN1 w b7 v y := fun ⟨b, e, hb, hn, hr⟩ => ⟨b, e, hb, hn, (h.block _ (lt_of_row hr)).trans hr⟩
/-- The law's tally, and all that was at w5. -/
structure T5 (w w5 : World) (b7 u d : Nat) (x : World) : Prop where
  t : x.heap[b7]? = some (.cells #[.int .u64 (u : Int), .int .u64 (d : Int)] 40 (0, 0))
  below : Below w.heap.size w x
  five : Below w5.heap.size w5 x
theorem T5.then_ {w w5 x y : World} {b7 u d : Nat} (hb : Below x.heap.size x y) (I : T5 w w5 b7 u d x) : T5 w w5 b7 u d y := ⟨(hb.block _ (lt_of_row I.t)).trans I.t, I.below.trans (hb.mono I.below.size), I.five.trans (hb.mono I.five.size)⟩
theorem T5.drew {w w5 x : World} {b7 u d : Nat} (I : T5 w w5 b7 u d x) : T5 w w5 b7 u d x.drew := ⟨I.t, ⟨I.below.os, I.below.tape, I.below.output, I.below.size, I.below.block⟩, ⟨I.five.os, I.five.tape, I.five.output, I.five.size, I.five.block⟩⟩
theorem PN1.new {w w5 x : World} {b7 u d : Nat} (I : T5 w w5 b7 u d x) : PN1 w5 b7 (.pointer (some ⟨x.heap.size, 0, none⟩)) (x.alloc (.cells #[.int .u64 0, .int .u64 0] 40)) := ⟨_, rfl, I.five.size, by have := lt_of_row I.t; omega, heap_alloc_new _ _⟩
/-- Two tallies, and all that was at w5. -/
structure TT (w w5 : World) (b7 b10 u d : Nat) (x : World) : Prop where
  t : x.heap[b7]? = some (.cells #[.int .u64 (u : Int), .int .u64 (d : Int)] 40 (0, 0))
  p : x.heap[b10]? = some (.cells #[.int .u64 (u : Int), .int .u64 (d : Int)] 40 (0, 0))
  below : Below w.heap.size w x
  five : Below w5.heap.size w5 x
theorem TT.then_ {w w5 x y : World} {b7 b10 u d : Nat} (hb : Below x.heap.size x y) (I : TT w w5 b7 b10 u d x) : TT w w5 b7 b10 u d y := ⟨(hb.block _ (lt_of_row I.t)).trans I.t, (hb.block _ (lt_of_row I.p)).trans I.p, I.below.trans (hb.mono I.below.size), I.five.trans (hb.mono I.five.size)⟩
theorem TT.drew {w w5 x : World} {b7 b10 u d : Nat} (I : TT w w5 b7 b10 u d x) : TT w w5 b7 b10 u d x.drew := ⟨I.t, I.p, ⟨I.below.os, I.below.tape, I.below.output, I.below.size, I.below.block⟩, ⟨I.five.os, I.five.tape, I.five.output, I.five.size, I.five.block⟩⟩
theorem TAt.drew {w x : World} {b u d : Nat} (I : TAt w b u d x) : TAt w b u d x.drew := ⟨I.t, ⟨I.below.os, I.below.tape, I.below.output, I.below.size, I.below.block⟩⟩

set_option maxRecDepth 100000 in
set_option maxHeartbeats 8000000 in
theorem law_order (ls : List Int) (cp : Nat) (A : Option Addr) (turn cut : Int) (w : World) (hv : Ints w (· < w.heap.size) A ls) (hm : ls.length ≤ 9223372036854775807) (hcp : ls.length ≤ cp) :
    Calls Try.prog 4 #[.slice A ls.length cp, .int .i64 turn, .int .i64 cut] w fun e w' => e = .returned (.bool true) ∧ Below w.heap.size w w' := by
  have HV := Lib.hid hv
  have HM := Lib.hid hm
  have HCP := Lib.hid hcp
  clear hv hm hcp
  by_cases hbad : 100 < ls.length ∨ turn < 0 ∨ (ls.length : Int) ≤ turn ∨ cut < 0 ∨ (ls.length : Int) < cut
  · rcases hbad with h | h | h | h | h
    · have h' : (100 : Int) < (ls.length : Int) := by omega
      clear h
      go_enter Try.func4, Try.ntmps4
      go_wp2_with (go_at_call 10; refine (alive_any _).mono ?_; rintro e w' ⟨rfl, hb⟩; have HB := Lib.hid hb; clear hb)
      all_goals
        go_ret
        exact ⟨rfl, HB.out⟩
    all_goals
      go_enter Try.func4, Try.ntmps4
      go_wp2_with (go_at_call 10; refine (alive_any _).mono ?_; rintro e w' ⟨rfl, hb⟩; have HB := Lib.hid hb; clear hb)
      all_goals
        go_ret
        exact ⟨rfl, HB.out⟩
  · obtain ⟨t, rfl⟩ : ∃ t : Nat, turn = (t : Int) := ⟨turn.toNat, by omega⟩
    obtain ⟨c, rfl⟩ : ∃ c : Nat, cut = (c : Int) := ⟨cut.toNat, by omega⟩
    have hl : ls.length ≤ 100 := by omega
    have ht : t < ls.length := by omega
    have hc : c ≤ ls.length := by omega
    have i1 : ¬ ((100 : Int) < (ls.length : Int)) := by omega
    have i3 : (t : Int) < (ls.length : Int) := by omega
    have i5 : ¬ ((ls.length : Int) < (c : Int)) := by omega
    have eL : IntKind.i64.wrap ((ls.length : Int) - 1) = (ls.length : Int) - 1 := by rw [IntKind.wrap_i64]; omega
    clear hbad
    have HT := Lib.hid ht
    have HC := Lib.hid hc
    have HL := Lib.hid hl
    clear ht hc hl
    go_enter Try.func4, Try.ntmps4
    go_wp2_with fail
    refine (tsum_any ls cp A w HV.out HM.out).mono ?_
    rintro e w1 ⟨rfl, hb⟩
    obtain ⟨u, hu⟩ : ∃ u, u = Tal.ups ls := ⟨_, rfl⟩
    obtain ⟨d, hd⟩ : ∃ d, d = Tal.downs ls := ⟨_, rfl⟩
    rw [← hu, ← hd]
    have HU := Lib.hid hu
    have HD := Lib.hid hd
    have HTA : Hid (TAt w w1.heap.size u d (w1.alloc (.cells #[.int .u64 (u : Int), .int .u64 (d : Int)] 40))) := ⟨heap_alloc_new _ _, hb.alloc hb.size _⟩
    clear hu hd hb
    go_wp2_with fail
    generalize w1.alloc (.cells #[.int .u64 (u : Int), .int .u64 (d : Int)] 40) = w3 at *
    generalize w1.heap.size = b7 at *
    clear i1 i5 eL
    go_loopw [8, 9] (fun v a wx => ∃ k : Nat, k ≤ ls.length ∧ (∃ i : Int, a = .int .i64 i ∧ Hid (i = (ls.length : Int) - 1 - (k : Int))) ∧ Hid (AInv w3 ls t k v wx)) (fun _ a _ => (intOf a + 1).toNat)
    case atStart => exact ⟨0, by omega, ⟨_, rfl, by show _ = _; omega⟩, ⟨World.ownsRow_nil _ _ _ _, Below.refl _ _⟩⟩
    case round =>
      obtain ⟨k, hk, ⟨i, rfl, HI⟩, HA⟩ := hrel
      by_cases hlt : k < ls.length
      · obtain ⟨p, rfl⟩ : ∃ p : Nat, i = (p : Int) := ⟨i.toNat, by have := HI.out; omega⟩
        have HP : Hid (p = ls.length - 1 - k) := by have := HI.out; show _ = _; omega
        obtain ⟨q, hq⟩ : ∃ q, q = (p + t) % ls.length := ⟨_, rfl⟩
        have e1 : IntKind.i64.wrap ((p : Int) + (t : Int)) = (p : Int) + (t : Int) := by have := HP.out; have := HL.out; have := HT.out; rw [IntKind.wrap_i64]; omega
        have hqi : ((p : Int) + (t : Int)) % (ls.length : Int) = (q : Int) := by rw [hq, Int.natCast_emod, Int.natCast_add]
        have e2 : IntKind.i64.wrap ((p : Int) - 1) = (p : Int) - 1 := by have := HP.out; have := HL.out; rw [IntKind.wrap_i64]; omega
        have hqt : ((p : Int) + (t : Int)).tmod (ls.length : Int) = (q : Int) := by rw [Int.tmod_eq_emod_of_nonneg (by omega)]; exact hqi
        have hql : q < ls.length := by rw [hq]; exact Nat.mod_lt _ (by omega)
        have hpos : (0 : Int) < (ls.length : Int) := by omega
        have hne : ¬ ((ls.length : Int) = 0) := by omega
        have HQ : Hid (q = (ls.length - 1 - k + t) % ls.length) := by show _ = _; rw [hq, HP.out]
        have HVx := HV.out.grow (HTA.out.below.trans (HA.out.below.mono HTA.out.below.size))
        obtain ⟨b, o, hA, _, hcell⟩ := HVx.at_ (by omega)
        subst hA
        obtain ⟨x, hx⟩ : ∃ x, x = ls.getD q 0 := ⟨_, rfl⟩
        have c1 : wr.cell? ⟨b, o + q, none⟩ = some (.int .i64 x) := by rw [hx]; exact hcell q hql
        have HX := Lib.hid hx
        have HK : Hid (k ≤ 100) := by have := HL.out; show _ ≤ _; omega
        have S0 := Lib.hid HA.out.below.size
        have HOW := Lib.hid HA.out.own
        have HLT := Lib.hid hlt
        clear hq hx hcell HVx hlt
        go_wp2_with (refine wpList_append_one rfl (.tmp 44) (.tmp 54) 44 rfl w3.heap.size 3 (.int .i64 0) 8 Try.underlying44 info3 rfl _ k _ rfl HOW.out (.int .i64 x) 3 rfl rfl (by have := HK.out; unfold maxLen; omega) (by have := HK.out; omega) S0.out ?_; intro v1 w5 H1 B1)
        clear e1 hqi hqt
        go_roundw
        case rel =>
          refine ⟨k + 1, by have := HLT.out; omega, ⟨_, rfl, ?_⟩, ⟨?_, HA.out.below.trans B1.out⟩⟩
          · show _ = _
            have := HI.out
            have := HLT.out
            clear e2
            omega
          · rw [Tal.back_succ, ints64_append, ← HQ.out, ← HX.out]
            exact H1.out
        case measure => simp [intOf]
      · obtain rfl : k = ls.length := by omega
        have hoth := own_ints HA.out.own (fun z hz => HV.out.rng z ((Tal.back_perm ls HT.out).mem_iff.1 hz))
        obtain ⟨A2, c2, rfl, hI2⟩ := hoth
        have HP2 := Lib.hid (Tal.back_perm ls HT.out)
        obtain ⟨oth, ho⟩ : ∃ oth, oth = Tal.back ls t ls.length := ⟨_, rfl⟩
        rw [← ho] at hI2 HP2 ⊢
        have HOL : Hid (oth.length ≤ 100) := by show _ ≤ _; rw [HP2.out.length_eq]; exact HL.out
        have HS3 : Hid (∀ x, Below wr.heap.size wr x → Calls Try.prog 16 #[.slice A2 oth.length c2] x fun e w' => e = .returned (tallyV u d) ∧ Below x.heap.size x w') := fun x hb => by
          rw [HU.out, HD.out, ← Tal.ups_perm HP2.out, ← Tal.downs_perm HP2.out]
          exact tsum_any oth c2 A2 x (hI2.grow hb) (by have := HOL.out; omega)
        have HS1 : Hid (∀ x, Below w.heap.size w x → Calls Try.prog 16 #[.slice A c cp] x fun e w' => e = .returned (tallyV (Tal.ups (ls.take c)) (Tal.downs (ls.take c))) ∧ Below x.heap.size x w') := fun x hb => by
          have h := tsum_any (ls.take c) cp A x ((HV.out.grow hb).take HC.out) (by have := HL.out; rw [List.length_take]; omega)
          rwa [List.length_take, Nat.min_eq_left HC.out] at h
        have HS2 : Hid (∀ x, Below w.heap.size w x → Calls Try.prog 16 #[.slice (cutA A cp c) (ls.length - c) (cp - c)] x fun e w' => e = .returned (tallyV (Tal.ups (ls.drop c)) (Tal.downs (ls.drop c))) ∧ Below x.heap.size x w') := fun x hb => by
          have h := tsum_any (ls.drop c) (cp - c) (cutA A cp c) x ((HV.out.grow hb).drop HC.out HCP.out) (by have := HL.out; rw [List.length_drop]; omega)
          rwa [List.length_drop] at h
        have E1 : Hid (Tal.add (Tal.ups (ls.take c)) (Tal.ups (ls.drop c)) = u) := by show _ = _; rw [Tal.ups_cut, HU.out]
        have E2 : Hid (Tal.add (Tal.downs (ls.take c)) (Tal.downs (ls.drop c)) = d) := by show _ = _; rw [Tal.downs_cut, HD.out]
        have HUM : Hid (u ≤ 4611686018427387904 ∧ d ≤ 4611686018427387904) := by show _ ∧ _; rw [HU.out, HD.out]; exact ⟨Tal.sum_le _, Tal.sum_le _⟩
        have HCC : Hid (c ≤ cp) := Nat.le_trans HC.out HCP.out
        generalize Tal.ups (ls.take c) = a1 at *
        generalize Tal.downs (ls.take c) = b1 at *
        generalize Tal.ups (ls.drop c) = a2 at *
        generalize Tal.downs (ls.drop c) = b2 at *
        have HT5 : Hid (T5 w wr b7 u d wr) := ⟨(HTA.out.then_ HA.out.below).t, (HTA.out.then_ HA.out.below).below, Below.refl _ _⟩
        have HWW : Hid (w.heap.size ≤ wr.heap.size) := (HTA.out.then_ HA.out.below).below.size
        obtain rfl : i = -1 := by have := HI.out; omega
        clear HI HA ho hI2 hlt HU HD HP2 HTA hk
        go_wp2_with fail
        refine M3.wp_region_front 10 [(9, 10)] (fun _ x y => Below x.heap.size x y) (fun _ x => T5 w wr b7 u d x) (fun x => T5 w wr b7 u d x)
          [(3, .val (tallyV a1 b1) fun _ => True), (7, .val (tallyV a2 b2) fun _ => True), (8, .val (tallyV u d) fun _ => True), (9, .mem (PN1 wr b7))] (by kernel_rfl) (by kernel_rfl) (by kernel_rfl) (by kernel_rfl) (of_decide_eq_true (by kernel_rfl)) ?_ ?_ (fun _ _ _ hb => hb.size) (fun _ _ _ hb h => T5.then_ hb h) (fun _ _ _ _ _ hb h => T5.then_ hb h) ?_ HT5.out.drew (fun _ => HT5.out.drew) ?_
        · intro p hp o ho ev x
          simp only [List.mem_cons, List.mem_nil_iff, or_false] at hp
          subst hp
          have ho' := Option.some.inj ho
          subst ho'
          refine ⟨x.alloc (.cells #[.int .u64 0, .int .u64 0] 40), ?_, by simp⟩
          go_simp
        · intro p hp
          simp only [List.mem_cons, List.mem_nil_iff, or_false] at hp
          subst hp
          simp
        · intro z hz
          simp only [List.mem_cons, List.mem_nil_iff, or_false] at hz
          rcases hz with rfl | rfl | rfl | rfl <;> first
            | exact fun _ _ _ _ _ _ => trivial
            | exact fun j v x y _ hr => PN1.up hr
        iterate 2
          refine M2.mono_pure rfl rfl ?_
          apply Exists.intro
          refine ⟨fun x => ?_, ?_⟩
          · go_simp
            rfl
          apply Exists.intro
          refine ⟨by simp only [Act.put, List.setIfInBounds_toArray, List.set_cons_succ, List.set_cons_zero]; rfl, ?_⟩
        refine M2.mono_pure rfl rfl ?_
        refine ⟨.slice A c cp, fun x => ?_, ?_⟩
        · exact exec_slice 44 (.tmp 56) none (some (.tmp 57)) none rfl rfl rfl rfl rfl (run_sliceAt_to 44 3 Try.underlying44 size3 A ls.length cp c HCC.out x)
        apply Exists.intro
        refine ⟨by simp only [Act.put, List.setIfInBounds_toArray, List.set_cons_succ, List.set_cons_zero]; rfl, ?_⟩
        refine M2.mono_val rfl rfl (fun x hD hF => ?_) ?_
        · go_simp
          refine (HS1.out x hD.below).mono ?_
          rintro e y ⟨rfl, hg⟩
          exact ⟨_, rfl, hg, rfl⟩
        apply Exists.intro
        refine ⟨by simp only [Act.put, List.setIfInBounds_toArray, List.set_cons_succ, List.set_cons_zero]; rfl, ?_⟩
        iterate 2
          refine M2.mono_pure rfl rfl ?_
          apply Exists.intro
          refine ⟨fun x => ?_, ?_⟩
          · go_simp
            rfl
          apply Exists.intro
          refine ⟨by simp only [Act.put, List.setIfInBounds_toArray, List.set_cons_succ, List.set_cons_zero]; rfl, ?_⟩
        refine M2.mono_pure rfl rfl ?_
        refine ⟨.slice (cutA A cp c) (ls.length - c) (cp - c), fun x => ?_, ?_⟩
        · exact exec_slice 44 (.tmp 60) (some (.tmp 61)) none none rfl rfl rfl rfl rfl (run_sliceAt_from 44 3 Try.underlying44 size3 A ls.length cp c HC.out x)
        apply Exists.intro
        refine ⟨by simp only [Act.put, List.setIfInBounds_toArray, List.set_cons_succ, List.set_cons_zero]; rfl, ?_⟩
        refine M2.mono_val rfl rfl (fun x hD hF => ?_) ?_
        · go_simp
          refine (HS2.out x hD.below).mono ?_
          rintro e y ⟨rfl, hg⟩
          exact ⟨_, rfl, hg, rfl⟩
        apply Exists.intro
        refine ⟨by simp only [Act.put, List.setIfInBounds_toArray, List.set_cons_succ, List.set_cons_zero]; rfl, ?_⟩
        refine M2.mono_val rfl rfl (fun x hD hF => ?_) ?_
        · go_simp
          refine (tplus_any a1 b1 a2 b2 x).mono ?_
          rintro e y ⟨rfl, hg⟩
          exact ⟨_, rfl, hg, by rw [E1.out, E2.out]⟩
        apply Exists.intro
        refine ⟨by simp only [Act.put, List.setIfInBounds_toArray, List.set_cons_succ, List.set_cons_zero]; rfl, ?_⟩
        refine M2.mono_mem rfl rfl (fun x hD hF => ?_) (fun v10 => ?_)
        · go_simp
          exact ⟨below1 _ _, PN1.new hD⟩
        apply Exists.intro
        refine ⟨by simp only [Act.put, List.setIfInBounds_toArray, List.set_cons_succ, List.set_cons_zero]; rfl, ?_⟩
        refine M2.mono_nil ?_
        intro w4 hD hF hdist
        obtain ⟨b10, rfl, hb10, hne, z10⟩ : PN1 wr b7 v10 w4 := (hF 9).1
        have s40 : Hid ((Try.prog.info? 40).map (·.size) = some (#[.int .u64 (u : Int), .int .u64 (d : Int)] : Array Value).size) := size40
        have o2 : Hid ((#[.int .u64 (u : Int), .int .u64 (d : Int)] : Array Value).all (·.oneCell') = true) := two_one _ _ rfl rfl
        have z2 : Hid ((#[.int .u64 0, .int .u64 0] : Array Value).size = (#[.int .u64 (u : Int), .int .u64 (d : Int)] : Array Value).size) := rfl
        have HTT : Hid (TT w wr b7 b10 u d (w4.setRow b10 #[.int .u64 (u : Int), .int .u64 (d : Int)])) :=
          ⟨(setRow_other _ _ _ _ (Ne.symm hne)).trans hD.t, setRow_heap _ _ _ _ _ _ z10, below_setRow' hD.below (by have := HWW.out; omega) _, below_setRow' hD.five hb10 _⟩
        refine wpList_store_row rfl 40 _ _ rfl b10 #[.int .u64 (u : Int), .int .u64 (d : Int)] rfl rfl 40 _ z10 s40.out z2.out o2.out ?_
        generalize w4.setRow b10 #[.int .u64 (u : Int), .int .u64 (d : Int)] = w6 at *
        clear hD hF hdist hb10 hne z10 HT5 HS1 HS2 E1 E2
        have HR : Hid (decide (u ≤ 4611686018427387904 ∧ d ≤ 4611686018427387904) = true) := by show _ = _; rw [decide_eq_true_eq]; exact HUM.out
        have HUL : Hid (u < 18446744073709551616) := by have := HUM.out.1; show _ < _; omega
        obtain ⟨vd, hvd⟩ : ∃ vd, vd = u - d := ⟨_, rfl⟩
        have HVD : Hid (u - d = vd) := hvd.symm
        have HLE : Hid ((vd : Int) ≤ (u : Int)) := by show _ ≤ _; omega
        clear hvd
        go_simp
        go_wp2_with fail
        refine M2.wp_region_kinds (fun _ x y => Below x.heap.size x y) (fun _ x => TT w wr b7 b10 u d x) (fun x => TT w wr b7 b10 u d x)
          [(0, .val (.bool true) fun _ => True), (2, .val (tallyV u d) fun _ => True), (3, .val (.bool true) fun _ => True), (7, .val (tallyV u d) fun _ => True), (8, .val (tallyV u d) fun _ => True), (12, .val (tallyV u d) fun _ => True), (13, .val (tallyV u d) fun _ => True), (17, .val (tallyV u d) fun _ => True), (18, .val (.int .u64 (vd : Int)) fun _ => True), (20, .val (.int .u64 (u : Int)) fun _ => True)] (by kernel_rfl) (by kernel_rfl) (fun _ _ _ hb h => TT.then_ hb h) (fun _ _ _ _ _ hb h => TT.then_ hb h) ?_ HTT.out.drew (fun _ => HTT.out.drew) ?_
        · intro z hz
          simp only [List.mem_cons, List.mem_nil_iff, or_false] at hz
          rcases hz with rfl | rfl | rfl | rfl | rfl | rfl | rfl | rfl | rfl | rfl <;> exact fun _ _ _ _ _ _ => trivial
        refine M2.mono_val rfl rfl (fun x hD hF => ?_) ?_
        · go_simp
          refine (alive_any x).mono ?_
          rintro e y ⟨rfl, hg⟩
          exact ⟨_, rfl, hg, rfl⟩
        apply Exists.intro
        refine ⟨by simp only [Act.put, List.setIfInBounds_toArray, List.set_cons_succ, List.set_cons_zero]; rfl, ?_⟩
        iterate 1
          refine M2.mono_pure rfl rfl ?_
          apply Exists.intro
          refine ⟨fun x => ?_, ?_⟩
          · go_simp
            rfl
          apply Exists.intro
          refine ⟨by simp only [Act.put, List.setIfInBounds_toArray, List.set_cons_succ, List.set_cons_zero]; rfl, ?_⟩
        refine M2.mono_val rfl rfl (fun x hD hF => ?_) ?_
        · have hl := run_loadVar_arr (P := Try.prog) x b7 0 40 _ _ (pair_range hD.t) Try.underlying40 rfl (pair_size _ _)
          rw [exec_load 40 (.tmp 7) rfl b7 0 rfl hl]
          exact ⟨Below.refl _ _, rfl, trivial⟩
        apply Exists.intro
        refine ⟨by simp only [Act.put, List.setIfInBounds_toArray, List.set_cons_succ, List.set_cons_zero]; rfl, ?_⟩
        refine M2.mono_val rfl rfl (fun x hD hF => ?_) ?_
        · go_simp
          refine (right_any u d x).mono ?_
          rintro e y ⟨rfl, hg⟩
          exact ⟨_, rfl, hg, by rw [HR.out]⟩
        apply Exists.intro
        refine ⟨by simp only [Act.put, List.setIfInBounds_toArray, List.set_cons_succ, List.set_cons_zero]; rfl, ?_⟩
        iterate 3
          refine M2.mono_pure rfl rfl ?_
          apply Exists.intro
          refine ⟨fun x => ?_, ?_⟩
          · go_simp
            rfl
          apply Exists.intro
          refine ⟨by simp only [Act.put, List.setIfInBounds_toArray, List.set_cons_succ, List.set_cons_zero]; rfl, ?_⟩
        refine M2.mono_val rfl rfl (fun x hD hF => ?_) ?_
        · go_simp
          refine (HS3.out x hD.five).mono ?_
          rintro e y ⟨rfl, hg⟩
          exact ⟨_, rfl, hg, rfl⟩
        apply Exists.intro
        refine ⟨by simp only [Act.put, List.setIfInBounds_toArray, List.set_cons_succ, List.set_cons_zero]; rfl, ?_⟩
        refine M2.mono_val rfl rfl (fun x hD hF => ?_) ?_
        · have hl := run_loadVar_arr (P := Try.prog) x b7 0 40 _ _ (pair_range hD.t) Try.underlying40 rfl (pair_size _ _)
          rw [exec_load 40 (.tmp 7) rfl b7 0 rfl hl]
          exact ⟨Below.refl _ _, rfl, trivial⟩
        apply Exists.intro
        refine ⟨by simp only [Act.put, List.setIfInBounds_toArray, List.set_cons_succ, List.set_cons_zero]; rfl, ?_⟩
        refine M2.mono_pure rfl rfl ?_
        refine ⟨.bool true, fun x => ?_, ?_⟩
        · exact exec_eql40 (.tmp 72) (.tmp 73) rfl rfl rfl
        apply Exists.intro
        refine ⟨by simp only [Act.put, List.setIfInBounds_toArray, List.set_cons_succ, List.set_cons_zero]; rfl, ?_⟩
        iterate 2
          refine M2.mono_pure rfl rfl ?_
          apply Exists.intro
          refine ⟨fun x => ?_, ?_⟩
          · go_simp
            rfl
          apply Exists.intro
          refine ⟨by simp only [Act.put, List.setIfInBounds_toArray, List.set_cons_succ, List.set_cons_zero]; rfl, ?_⟩
        refine M2.mono_val rfl rfl (fun x hD hF => ?_) ?_
        · have hl := run_loadVar_arr (P := Try.prog) x b10 0 40 _ _ (pair_range hD.p) Try.underlying40 rfl (pair_size _ _)
          rw [exec_load 40 (.tmp 10) rfl b10 0 rfl hl]
          exact ⟨Below.refl _ _, rfl, trivial⟩
        apply Exists.intro
        refine ⟨by simp only [Act.put, List.setIfInBounds_toArray, List.set_cons_succ, List.set_cons_zero]; rfl, ?_⟩
        refine M2.mono_val rfl rfl (fun x hD hF => ?_) ?_
        · have hl := run_loadVar_arr (P := Try.prog) x b7 0 40 _ _ (pair_range hD.t) Try.underlying40 rfl (pair_size _ _)
          rw [exec_load 40 (.tmp 7) rfl b7 0 rfl hl]
          exact ⟨Below.refl _ _, rfl, trivial⟩
        apply Exists.intro
        refine ⟨by simp only [Act.put, List.setIfInBounds_toArray, List.set_cons_succ, List.set_cons_zero]; rfl, ?_⟩
        refine M2.mono_pure rfl rfl ?_
        refine ⟨.bool true, fun x => ?_, ?_⟩
        · exact exec_eql40 (.tmp 77) (.tmp 78) rfl rfl rfl
        apply Exists.intro
        refine ⟨by simp only [Act.put, List.setIfInBounds_toArray, List.set_cons_succ, List.set_cons_zero]; rfl, ?_⟩
        iterate 2
          refine M2.mono_pure rfl rfl ?_
          apply Exists.intro
          refine ⟨fun x => ?_, ?_⟩
          · go_simp
            rfl
          apply Exists.intro
          refine ⟨by simp only [Act.put, List.setIfInBounds_toArray, List.set_cons_succ, List.set_cons_zero]; rfl, ?_⟩
        refine M2.mono_val rfl rfl (fun x hD hF => ?_) ?_
        · have hl := run_loadVar_arr (P := Try.prog) x b7 0 40 _ _ (pair_range hD.t) Try.underlying40 rfl (pair_size _ _)
          rw [exec_load 40 (.tmp 7) rfl b7 0 rfl hl]
          exact ⟨Below.refl _ _, rfl, trivial⟩
        apply Exists.intro
        refine ⟨by simp only [Act.put, List.setIfInBounds_toArray, List.set_cons_succ, List.set_cons_zero]; rfl, ?_⟩
        refine M2.mono_val rfl rfl (fun x hD hF => ?_) ?_
        · go_simp
          refine (value_any u d x HUL.out).mono ?_
          rintro e y ⟨rfl, hg⟩
          exact ⟨_, rfl, hg, by rw [HVD.out]⟩
        apply Exists.intro
        refine ⟨by simp only [Act.put, List.setIfInBounds_toArray, List.set_cons_succ, List.set_cons_zero]; rfl, ?_⟩
        iterate 1
          refine M2.mono_pure rfl rfl ?_
          apply Exists.intro
          refine ⟨fun x => ?_, ?_⟩
          · go_simp
            rfl
          apply Exists.intro
          refine ⟨by simp only [Act.put, List.setIfInBounds_toArray, List.set_cons_succ, List.set_cons_zero]; rfl, ?_⟩
        refine M2.mono_val rfl rfl (fun x hD hF => ?_) ?_
        · have hc : x.cell? ⟨b7, 0, none⟩ = some (.int .u64 (u : Int)) := by rw [cell_of_row _ _ _ _ _ _ hD.t]; rfl
          go_simp
          exact ⟨Below.refl _ _, rfl⟩
        apply Exists.intro
        refine ⟨by simp only [Act.put, List.setIfInBounds_toArray, List.set_cons_succ, List.set_cons_zero]; rfl, ?_⟩
        refine M2.mono_pure rfl rfl ?_
        refine ⟨.bool true, fun x => ?_, ?_⟩
        · have h1 := HLE.out
          go_simp
        apply Exists.intro
        refine ⟨by simp only [Act.put, List.setIfInBounds_toArray, List.set_cons_succ, List.set_cons_zero]; rfl, ?_⟩
        iterate 2
          refine M2.mono_pure rfl rfl ?_
          apply Exists.intro
          refine ⟨fun x => ?_, ?_⟩
          · go_simp
            rfl
          apply Exists.intro
          refine ⟨by simp only [Act.put, List.setIfInBounds_toArray, List.set_cons_succ, List.set_cons_zero]; rfl, ?_⟩
        refine M2.mono_nil ?_
        intro x hD hF
        have HB := Lib.hid hD.below
        clear hD hF HTT
        go_simp
        go_wp2
        go_ret
        exact ⟨rfl, HB.out⟩
end Go.Proofs.Ytbjndjmbbephbaa
