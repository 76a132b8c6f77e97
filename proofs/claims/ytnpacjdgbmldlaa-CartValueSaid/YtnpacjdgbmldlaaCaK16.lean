/- The law CartOrders of layer 6, walked. -/
import Derived.Test.YtnpacjdgbmldlaaCaK15
set_option linter.unusedVariables false
set_option linter.unusedSimpArgs false
namespace Go.Proofs.Ytnpacjdgbmldlaa
open Go.RowKit Go.Lib

theorem right_chain {f : Nat → Nat} {ls : List Ent} (h : rightC f ls = true) (i : Nat) : ∀ k, i + 1 + k < ls.length → (ls.getD i e0).less (ls.getD (i + 1 + k) e0) = true
  | 0, hk => by
    unfold rightC at h
    simp only [Bool.and_eq_true] at h
    have h1 := List.all_eq_true.1 h.1.2 (i + 1) (List.mem_range.2 (by omega))
    unfold stepR at h1
    simp only [Bool.and_eq_true, Bool.or_eq_true, decide_eq_true_eq] at h1
    rcases h1.2 with h2 | h2
    · omega
    · exact h2
  | k + 1, hk => by
    have h1 := right_chain h i k (by omega)
    have h2 := right_chain h (i + 1 + k) 0 (by omega)
    rw [Ent.less_iff] at *
    rw [show i + 1 + (k + 1) = i + 1 + k + 1 + 0 by omega]
    omega
theorem right_sorted {f : Nat → Nat} {ls : List Ent} (h : rightC f ls = true) : ls.Pairwise fun x y => y.less x = false := by
  rw [List.pairwise_iff_getElem]
  intro i j hi hj hij
  have h1 := right_chain h i (j - (i + 1)) (by omega)
  rw [show i + 1 + (j - (i + 1)) = j by omega, List.getD_eq_getElem?_getD, List.getD_eq_getElem?_getD, List.getElem?_eq_getElem hi, List.getElem?_eq_getElem hj] at h1
  simp only [Option.getD_some] at h1
  rw [Ent.less_iff] at h1
  rw [Ent.less_no]
  omega
theorem right_ord {f : Nat → Nat} {ls : List Ent} (h : rightC f ls = true) : ordE ls = ls := ordE_fix (right_sorted h)
theorem ordE_ordE (ls : List Ent) : ordE (ordE ls) = ordE ls := ordE_fix (ordE_sorted ls)
theorem sameC_self (f : Nat → Nat) (s : List Ent) : sameC f f s s = true := by
  unfold sameC eqV
  simp
/-- A cart of entries alone. -/
abbrev c0 (v : Value) : Array Value := #[.int .u64 0, .int .u64 0, .int .u64 0, .int .u64 0, .int .u64 0, .int .u64 0, .int .u64 0, .int .u64 0, v]
theorem ents_drop {w : World} {ok : Nat → Prop} {b o t : Nat} {ls : List Ent} (h : Ents w ok (some ⟨b, o, none⟩) ls) (ht : t < ls.length) : Ents w ok (some ⟨b, o + t * 4, none⟩) (ls.drop t) := ⟨fun _ => by
  obtain ⟨b', o', e, hb, hc⟩ := h.at_ (by omega)
  cases e
  refine ⟨b, o + t * 4, rfl, hb, fun j hj => ?_⟩
  rw [List.length_drop] at hj
  have h1 := hc (t + j) (by omega)
  have e : (ls.drop t).getD j e0 = ls.getD (t + j) e0 := by rw [List.getD_eq_getElem?_getD, List.getD_eq_getElem?_getD, List.getElem?_drop]
  rw [e, Nat.add_assoc, ← Nat.add_mul]
  exact h1⟩
theorem ents_take {w : World} {ok : Nat → Prop} {b o : Nat} {ls : List Ent} (h : Ents w ok (some ⟨b, o, none⟩) ls) (t : Nat) : Ents w ok (some ⟨b, o, none⟩) (ls.take t) := ⟨fun hp => by
  rw [List.length_take] at hp
  obtain ⟨b', o', e, hb, hc⟩ := h.at_ (by omega)
  cases e
  refine ⟨b, o, rfl, hb, fun j hj => ?_⟩
  rw [List.length_take] at hj
  have h1 := hc j (by omega)
  have e : (ls.take t).getD j e0 = ls.getD j e0 := by rw [List.getD_eq_getElem?_getD, List.getD_eq_getElem?_getD, List.getElem?_take, if_pos (by omega)]
  rw [e]
  exact h1⟩
/-- A slice of nothing in memory of its own; and what was appended to it. -/
def N0 (K : Nat) (v : Value) (x : World) : Prop := ∃ g, v = .slice (some ⟨g, 0, none⟩) 0 0 ∧ K ≤ g ∧ x.heap[g]? = some (.cells #[] 58 (0, 0))
def N5 (K : Nat) (ys : List Ent) (v : Value) (x : World) : Prop := x.ownsRow K 58 4 v ys.length (ents4 ys)
theorem append_first {x : World} {K b0 b o c : Nat} {ys : List Ent} {ok : Nat → Prop} {ty : TypeId} (h0 : x.heap[b0]? = some (.cells #[] 58 (0, 0))) (hK : K ≤ b0) (hE : Ents x ok (some ⟨b, o, none⟩) ys) (hp : 0 < ys.length) (hm : ys.length ≤ 100000) (hKx : K ≤ x.heap.size) :
    ∃ v' w', (Builtin.append_ #[54, 54] ty #[.slice (some ⟨b0, 0, none⟩) 0 0, .slice (some ⟨b, o, none⟩) ys.length c]).run Try.prog x = .ok v' w' ∧ w'.ownsRow K 58 4 v' ys.length (ents4 ys) ∧ RowKit.Below x.heap.size x w' := by
  obtain ⟨i, hi, hz, hsz, hby⟩ := info_parts info58
  obtain ⟨a, ha, hc⟩ := hE.flat hp
  cases ha
  have hown : x.ownsRow K 58 4 (.slice (some ⟨b0, 0, none⟩) 0 0) 0 [] := ⟨rfl, .inr ⟨b0, 0, #[], rfl, hK, h0, Nat.le_refl _, Nat.zero_le _, rfl, rfl⟩⟩
  have h1 : ∀ u ∈ ents4 ys, u.oneCell' = true := ents4_one'
  obtain ⟨v', w', hr, h2, _, _⟩ := run_append_own (P := Try.prog) x K 54 ty 58 i entZ 4 i.bytes Try.underlying54 hi hz hsz rfl rfl (by decide) _ 0 [] hown ⟨b, o, none⟩ ys.length c (ents4 ys) (ents4_len ys) hc h1 (by unfold maxLen; omega) (by rw [hby]; omega) hKx
  have hr2 := run_append_grow (P := Try.prog) x 54 ty 58 i entZ Try.underlying54 hi hz ⟨b0, 0, none⟩ 0 0 [] (by simp) (fun j v hv => by simp at hv) ⟨b, o, none⟩ ys.length c (ents4 ys) (by rw [hsz]; exact ents4_len ys) hc (by omega) (by omega) (growslice_fits (by omega) (by rw [hby]; omega))
  rw [Nat.zero_add, List.nil_append] at h2
  refine ⟨v', w', hr, h2, ?_⟩
  rw [hr] at hr2
  injection hr2 with _ e2
  rw [e2]
  exact below_from_drew (below1 x.drew _)
theorem wpList_append_ents {w : World} {ops : Array Oper} {rest : List Oper} {op : Oper} {a : Act} {Q : Exit → Act → World → Prop} (hgd : op.guard = none) (s x : Operand) (t : TypeId) (ho : op.op = .call { callee := .builtin .append, args := #[s, x], argTypes := #[54, 54] }) (K : Nat) (v : Value) (xs : List Ent) (hs : a.eval s = v) (hown : w.ownsRow K 58 4 v xs.length (ents4 xs))
    (ys : List Ent) (b o c : Nat) (ok : Nat → Prop) (hx : a.eval x = .slice (some ⟨b, o, none⟩) ys.length c) (hE : Ents w ok (some ⟨b, o, none⟩) ys) (h63 : xs.length + ys.length ≤ maxLen) (hbytes : (xs.length + ys.length) * 32 ≤ 140737488355328) (hK : K ≤ w.heap.size)
    (h : ∀ v' w', Hid (w'.ownsRow K 58 4 v' (xs.length + ys.length) (ents4 xs ++ ents4 ys)) → Hid (RowKit.Below K w w') → wpList Try.prog ops Q rest (a.put op.dst v') w') : wpList Try.prog ops Q (op :: rest) a w := by
  obtain ⟨i, hi, hz, hsz, hby⟩ := info_parts info58
  refine wpList_append_own _ hgd s x 54 ho K 58 i entZ 4 32 Try.underlying54 hi hz hsz hby rfl (by decide) v xs.length (ents4 xs) hs hown ⟨b, o, none⟩ ys.length c (ents4 ys) hx (ents4_len ys) (fun j u hu => ?_) ents4_one' h63 hbytes hK ?_
  · have hj : j < ys.length * 4 := by
      have := (List.getElem?_eq_some_iff.1 hu).1
      rwa [ents4_len] at this
    obtain ⟨a, ha, hc⟩ := hE.flat (by omega)
    cases ha
    exact hc j u hu
  · intro v' w' hown' hgr _
    exact h v' w' hown' ((RowKit.Below.refl K w).grown hgr hK fun k hk => (hown.lt k hk).1)

/-- The cart, and its entries in order in block g. -/
structure OS (w : World) (f : Nat → Nat) (A : Option Addr) (c : Nat) (ls s : List Ent) (g : Nat) (x : World) : Prop where
  c : CartAt x w.heap.size f A ls.length c
  v : Ents x (· < w.heap.size) A ls
  r : x.heap[g]? = some (.cells (ents4 s).toArray 58 (0, 0))
  below : RowKit.Below w.heap.size w x
  hg : w.heap.size < g
theorem OS.then_ {w x y : World} {f : Nat → Nat} {A : Option Addr} {c : Nat} {ls s : List Ent} {g : Nat} (hb : RowKit.Below x.heap.size x y) (h : OS w f A c ls s g x) : OS w f A c ls s g y :=
  ⟨h.c.then_ hb, h.v.below (hb.mono h.below.size), (hb.block _ (lt_of_row h.r)).trans h.r, h.below.trans (hb.mono h.below.size), h.hg⟩
theorem OS.low {w x y : World} {f : Nat → Nat} {A : Option Addr} {c : Nat} {ls s : List Ent} {g : Nat} (h : OS w f A c ls s g x) (hb : RowKit.Below (g + 1) x y) : OS w f A c ls s g y :=
  ⟨h.c.below hb (by have := h.hg; omega), h.v.below (hb.mono (by have := h.hg; omega)), (hb.block _ (by omega)).trans h.r, h.below.trans (hb.mono (by have := h.hg; omega)), h.hg⟩
theorem OS.drew {w x : World} {f : Nat → Nat} {A : Option Addr} {c : Nat} {ls s : List Ent} {g : Nat} (h : OS w f A c ls s g x) : OS w f A c ls s g x.drew := OS.then_ (x := x) (y := x.drew) ⟨rfl, rfl, rfl, Nat.le_refl _, fun _ _ => rfl⟩ h

set_option maxRecDepth 100000 in
set_option maxHeartbeats 16000000 in
theorem law_corders (f : Nat → Nat) (ls : List Ent) (c : Nat) (A : Option Addr) (tz : Int) (w : World) (hv : Ents w (· < w.heap.size) A ls) (hcap : ls.length ≤ c) :
    Calls Try.prog 10 #[cartV f A ls.length c, .int .i64 tz] w fun e w' => e = .returned (.bool true) ∧ RowKit.Below w.heap.size w w' := by
  obtain ⟨w1, hw1⟩ : ∃ w1, w1 = w.alloc (.cells (cartC f A ls.length c) 56) := ⟨_, rfl⟩
  have HX : Hid (CB w f A c ls w1) := Lib.hid (by
    rw [hw1]
    exact ⟨CartAt.new _ _ _ _ _, hv.below (below1 _ _), below1 _ _⟩)
  have HW := Lib.hid hw1
  have HR := Lib.hid HX.out.c.range
  have HG := Lib.hid (cgreat_any f ls.length c A w1)
  have s56 := Lib.hid (cart_size56 f A ls.length c)
  have HCAP := Lib.hid hcap
  clear hv hw1 hcap
  go_enter Try.func10, Try.ntmps10
  by_cases hbig : 60 < ls.length
  · rw [decide_eq_true hbig] at HG
    go_wp2_with (first
      | (rw [← HW.out]; refine wpList_load_arr rfl 56 _ rfl w.heap.size 0 rfl (cartC f A ls.length c) _ HR.out Try.underlying56 rfl s56.out ?_)
      | fail)
    refine HG.out.mono ?_
    rintro e w2 ⟨rfl, hb⟩
    replace HX := Lib.hid (HX.out.then_ hb)
    clear hb HG HR HW
    have HA := Lib.hid (alive6_any w2)
    go_wp2_with fail
    refine HA.out.mono ?_
    rintro e y ⟨rfl, hb⟩
    replace HX := Lib.hid (HX.out.then_ hb)
    clear hb HA
    go_wp2_with fail
    go_ret
    exact ⟨rfl, HX.out.below⟩
  rw [decide_eq_false hbig] at HG
  have HM : Hid (ls.length ≤ 60) := Lib.hid (by omega)
  go_wp2_with (first
    | (rw [← HW.out]; refine wpList_load_arr rfl 56 _ rfl w.heap.size 0 rfl (cartC f A ls.length c) _ HR.out Try.underlying56 rfl s56.out ?_)
    | fail)
  refine HG.out.mono ?_
  rintro e w2 ⟨rfl, hb⟩
  replace HX := Lib.hid (HX.out.then_ hb)
  have c8 := HX.out.c.c8
  have HCO := Lib.hid (corder_any ls c A w2 (HX.out.v.loose fun b hb => Nat.lt_of_lt_of_le hb HX.out.below.size) (by have := HM.out; omega))
  obtain ⟨s, hs⟩ : ∃ s, s = ordE ls := ⟨_, rfl⟩
  have HSL : Hid (s.length = ls.length) := Lib.hid (by rw [hs, ordE_len])
  have HSD := Lib.hid hs
  rw [← hs] at HCO
  clear hb HG HW hs
  go_wp2_with fail
  refine HCO.out.mono ?_
  rintro e w3 ⟨rfl, hr3, hb⟩
  obtain ⟨g, hg⟩ : ∃ g, g = w2.heap.size := ⟨_, rfl⟩
  rw [← hg] at hr3 ⊢
  have HX3 : Hid (OS w f A c ls s g w3) := Lib.hid ⟨HX.out.c.then_ hb, HX.out.v.below (hb.mono HX.out.below.size), hr3, HX.out.below.trans (hb.mono HX.out.below.size), by rw [hg]; exact HX.out.c.lt⟩
  have hco := corder_any s ls.length (some ⟨g, 0, none⟩) w3 (block_ents hr3 (lt_of_row hr3)) (by have := HSL.out; have := HM.out; omega)
  rw [HSL.out, show ordE s = s by rw [HSD.out]; exact ordE_ordE ls] at hco
  have HCO2 := Lib.hid hco
  clear hb hr3 hg hco HCO HX c8 HR
  go_wp2_with fail
  refine HCO2.out.mono ?_
  rintro e w4 ⟨rfl, hr4, hb⟩
  have HX := Lib.hid (HX3.out.then_ hb)
  have hsm := csame_any (fun _ => 0) (fun _ => 0) s s ls.length ls.length (some ⟨w3.heap.size, 0, none⟩) (some ⟨g, 0, none⟩) w4 (block_ents hr4 (lt_of_row hr4)) (block_ents HX.out.r (lt_of_row HX.out.r)) (by have := HSL.out; have := HM.out; omega)
  rw [HSL.out, show sameC (fun _ => 0) (fun _ => 0) s s = true from sameC_self _ _] at hsm
  have HSM : Hid (Calls Try.prog 52 #[.agg (c0 (.slice (some ⟨w3.heap.size, 0, none⟩) ls.length ls.length)), .agg (c0 (.slice (some ⟨g, 0, none⟩) ls.length ls.length))] w4 fun e w' => e = .returned (.bool true) ∧ RowKit.Below w4.heap.size w4 w') := Lib.hid hsm
  clear hb hr4 hsm HCO2 HX3
  go_wp2_with fail
  refine HSM.out.mono ?_
  rintro e w5 ⟨rfl, hb⟩
  replace HX := Lib.hid (HX.out.then_ hb)
  have c8 := HX.out.c.c8
  have HR := Lib.hid HX.out.c.range
  have HRT := Lib.hid (cartRight_any f ls c A w5 (HX.out.v.loose fun b hb => Nat.lt_of_lt_of_le hb HX.out.below.size) (by have := HM.out; omega))
  clear hb HSM
  cases hrt : rightC f ls with
  | false =>
    rw [hrt] at HRT
    clear hrt
    go_wp2_with (first
      | (refine wpList_load_arrW (by go_simp) 56 _ rfl w.heap.size 0 rfl (cartC f A ls.length c) _ HR.out Try.underlying56 rfl s56.out ?_)
      | fail)
    refine HRT.out.mono ?_
    rintro e w6 ⟨rfl, hb⟩
    replace HX := Lib.hid (HX.out.then_ hb)
    clear hb HRT HR c8
    have c8 := HX.out.c.c8
    by_cases h1 : tz < 0
    · have HA := Lib.hid (alive6_any w6)
      go_wp2_with fail
      refine HA.out.mono ?_
      rintro e y ⟨rfl, hb⟩
      replace HX := Lib.hid (HX.out.then_ hb)
      clear hb HA
      go_wp2_with fail
      go_ret
      exact ⟨rfl, HX.out.below⟩
    by_cases h2 : (ls.length : Int) ≤ tz
    · have HA := Lib.hid (alive6_any w6)
      go_wp2_with fail
      refine HA.out.mono ?_
      rintro e y ⟨rfl, hb⟩
      replace HX := Lib.hid (HX.out.then_ hb)
      clear hb HA
      go_wp2_with fail
      go_ret
      exact ⟨rfl, HX.out.below⟩
    obtain ⟨tn, rfl⟩ : ∃ tn : Nat, tz = (tn : Int) := ⟨tz.toNat, by omega⟩
    have HTN : Hid (tn < ls.length) := Lib.hid (by omega)
    obtain ⟨b, o, hA⟩ := HX.out.v.some_ (by have := HTN.out; omega)
    subst hA
    have HSF : Hid (∀ x, (Instr.sliceAt 54 (.slice (some ⟨b, o, none⟩) ls.length c) (some (.int .i64 (tn : Int))) none none).run Try.prog x = .ok (.slice (some ⟨b, o + tn * 4, none⟩) (ls.length - tn) (c - tn)) x) := Lib.hid (fun x => by
      have h := run_sliceAt_from4 (P := Try.prog) 54 58 Try.underlying54 size58k (some ⟨b, o, none⟩) ls.length c tn (Nat.le_of_lt HTN.out) x
      have hne : ¬ c = tn := by have := HTN.out; have := HCAP.out; omega
      unfold cutA4 at h
      rw [if_neg hne, Option.map_some, Addr.add_mid] at h
      exact h)
    have HST : Hid (∀ x, (Instr.sliceAt 54 (.slice (some ⟨b, o, none⟩) ls.length c) none (some (.int .i64 (tn : Int))) none).run Try.prog x = .ok (.slice (some ⟨b, o, none⟩) tn c) x) := Lib.hid (fun x =>
      run_sliceAt_to4 (P := Try.prog) 54 58 Try.underlying54 size58k (some ⟨b, o, none⟩) ls.length c tn (by have := HTN.out; have := HCAP.out; omega) x)
    go_wp2_with fail
    refine WM.wp_region_front 10 [] (fun _ x y => RowKit.Below x.heap.size x y) (fun _ x => OS w f (some ⟨b, o, none⟩) c ls s g x) (fun x => OS w f (some ⟨b, o, none⟩) c ls s g x)
      [(0, .mem (N0 (g + 1))), (2, .val (.slice (some ⟨b, o, none⟩) ls.length c) fun _ => True), (5, .mem (N5 (g + 1) (ls.drop tn))), (7, .val (.slice (some ⟨b, o, none⟩) ls.length c) fun _ => True)] (by kernel_rfl) (by kernel_rfl) (by kernel_rfl) (by kernel_rfl) (of_decide_eq_true (by kernel_rfl)) ?_ ?_ (fun _ _ _ hb => hb.size) (fun _ _ _ hb h => h.then_ hb) (fun _ _ _ _ _ hb h => h.then_ hb) ?_ HX.out.drew (fun _ => HX.out.drew) ?_
    · intro p hp
      cases hp
    · intro p hp
      cases hp
    · intro z hz
      simp only [List.mem_cons, List.mem_nil_iff, or_false] at hz
      rcases hz with rfl | rfl | rfl | rfl
      · exact fun j v x y _ hr ⟨gl, e, h1, h⟩ => ⟨gl, e, h1, (hr.block _ (lt_of_row h)).trans h⟩
      · exact fun _ _ _ _ _ _ => trivial
      · exact fun j v x y _ hr h => own_keep h fun k _ hk => hr.block k hk
      · exact fun _ _ _ _ _ _ => trivial
    refine WM.mono_mem rfl rfl (fun x hD hF => ?_) (fun v51 => ?_)
    · have hg := lt_of_row hD.r
      go_simp
      exact ⟨below1 _ _, _, rfl, hg, heap_alloc_new _ _⟩
    apply Exists.intro
    refine ⟨by simp only [Act.put, List.setIfInBounds_toArray, List.set_cons_succ, List.set_cons_zero]; rfl, ?_⟩
    refine WM.mono_pure rfl rfl ?_
    refine ⟨.pointer (some ⟨w.heap.size, 8, none⟩), fun x => ?_, ?_⟩
    · go_simp
    apply Exists.intro
    refine ⟨by simp only [Act.put, List.setIfInBounds_toArray, List.set_cons_succ, List.set_cons_zero]; rfl, ?_⟩
    refine WM.mono_val rfl rfl (fun x hD hF => ?_) ?_
    · have hc : x.cell? ⟨w.heap.size, 8, none⟩ = some (.slice (some ⟨b, o, none⟩) ls.length c) := hD.c.c8
      go_simp
      exact ⟨RowKit.Below.refl _ _, rfl⟩
    apply Exists.intro
    refine ⟨by simp only [Act.put, List.setIfInBounds_toArray, List.set_cons_succ, List.set_cons_zero]; rfl, ?_⟩
    refine WM.mono_pure rfl rfl ?_
    refine ⟨.int .i64 (tn : Int), fun x => ?_, ?_⟩
    · go_simp
    apply Exists.intro
    refine ⟨by simp only [Act.put, List.setIfInBounds_toArray, List.set_cons_succ, List.set_cons_zero]; rfl, ?_⟩
    refine WM.mono_pure rfl rfl ?_
    refine ⟨.slice (some ⟨b, o + tn * 4, none⟩) (ls.length - tn) (c - tn), fun x => ?_, ?_⟩
    · exact exec_slice 54 (.tmp 53) (some (.tmp 54)) none none rfl rfl rfl rfl rfl (HSF.out x)
    apply Exists.intro
    refine ⟨by simp only [Act.put, List.setIfInBounds_toArray, List.set_cons_succ, List.set_cons_zero]; rfl, ?_⟩
    refine WM.mono_mem rfl rfl (fun x hD hF => ?_) (fun v56 => ?_)
    · obtain ⟨b0, e0', hk0, h0⟩ : N0 (g + 1) v51 x := (hF 0 _ 51 rfl rfl (by decide)).1
      subst e0'
      obtain ⟨v1, w1, r1, r2, r3⟩ := append_first (ys := ls.drop tn) (c := c - tn) (b := b) (o := o + tn * 4) h0 hk0 ((ents_drop hD.v HTN.out).loose fun _ h => h) (by rw [List.length_drop]; have := HTN.out; omega) (by rw [List.length_drop]; have := HM.out; omega) (Nat.lt_of_lt_of_le (Nat.lt_succ_self g) (lt_of_row hD.r))
      rw [List.length_drop] at r1
      rw [exec_append 54 (.tmp 51) (.tmp 55) rfl rfl rfl r1]
      exact ⟨r3, r2⟩
    apply Exists.intro
    refine ⟨by simp only [Act.put, List.setIfInBounds_toArray, List.set_cons_succ, List.set_cons_zero]; rfl, ?_⟩
    refine WM.mono_pure rfl rfl ?_
    refine ⟨.pointer (some ⟨w.heap.size, 8, none⟩), fun x => ?_, ?_⟩
    · go_simp
    apply Exists.intro
    refine ⟨by simp only [Act.put, List.setIfInBounds_toArray, List.set_cons_succ, List.set_cons_zero]; rfl, ?_⟩
    refine WM.mono_val rfl rfl (fun x hD hF => ?_) ?_
    · have hc : x.cell? ⟨w.heap.size, 8, none⟩ = some (.slice (some ⟨b, o, none⟩) ls.length c) := hD.c.c8
      go_simp
      exact ⟨RowKit.Below.refl _ _, rfl⟩
    apply Exists.intro
    refine ⟨by simp only [Act.put, List.setIfInBounds_toArray, List.set_cons_succ, List.set_cons_zero]; rfl, ?_⟩
    refine WM.mono_pure rfl rfl ?_
    refine ⟨.int .i64 (tn : Int), fun x => ?_, ?_⟩
    · go_simp
    apply Exists.intro
    refine ⟨by simp only [Act.put, List.setIfInBounds_toArray, List.set_cons_succ, List.set_cons_zero]; rfl, ?_⟩
    refine WM.mono_pure rfl rfl ?_
    refine ⟨.slice (some ⟨b, o, none⟩) tn c, fun x => ?_, ?_⟩
    · exact exec_slice 54 (.tmp 58) none (some (.tmp 59)) none rfl rfl rfl rfl rfl (HST.out x)
    apply Exists.intro
    refine ⟨by simp only [Act.put, List.setIfInBounds_toArray, List.set_cons_succ, List.set_cons_zero]; rfl, ?_⟩
    refine WM.mono_nil ?_
    intro x hD hF _
    have h7 : x.ownsRow (g + 1) 58 4 v56 (ls.drop tn).length (ents4 (ls.drop tn)) := (hF 5).1
    have htk : (ls.take tn).length = tn := by rw [List.length_take]; have := HTN.out; omega
    have hE := ents_take hD.v tn
    refine wpList_append_ents rfl (.tmp 56) (.tmp 60) 54 rfl (g + 1) v56 (ls.drop tn) rfl h7 (ls.take tn) b o c _ (by rw [htk]; rfl) hE (by rw [List.length_drop, htk]; have := HM.out; unfold maxLen; omega) (by rw [List.length_drop, htk]; have := HM.out; omega) (lt_of_row hD.r) ?_
    intro v6 w6 H6 B6
    have HX6 := Lib.hid (hD.low B6.out)
    clear hD hF h7 htk hE HX
    obtain ⟨A6, c6, e6, hE6, _⟩ := own_ents (ls := ls.drop tn ++ ls.take tn) (by rw [ents4_append]; exact H6.out)
    subst e6
    have HOT : Hid (ordE (ls.drop tn ++ ls.take tn) = s) := Lib.hid (by rw [HSD.out]; exact ordE_same (List.perm_append_comm.trans (by rw [List.take_append_drop])))
    obtain ⟨ot, hot⟩ : ∃ ot, ot = ls.drop tn ++ ls.take tn := ⟨_, rfl⟩
    have HOL : Hid (ot.length ≤ 100000) := Lib.hid (by rw [hot, List.length_append, List.length_drop, List.length_take]; have := HM.out; omega)
    have HSO : Hid (s.length = ot.length) := Lib.hid (by rw [← HOT.out, ordE_len, hot])
    rw [← hot] at hE6 HOT ⊢
    have HE6 := Lib.hid (hE6.loose (p := (· < w6.heap.size)) fun b h => h.2)
    clear hE6 hot H6 B6
    have HA := Lib.hid (alive6_any w6)
    go_simp
    go_wp2_with fail
    refine HA.out.mono ?_
    rintro e y ⟨rfl, hb⟩
    replace HX := Lib.hid (HX6.out.then_ hb)
    have HE7 := Lib.hid (HE6.out.below (B := w6.heap.size) hb)
    have hco := corder_any ot c6 A6 y (HE7.out.loose fun b h => Nat.lt_of_lt_of_le h hb.size) HOL.out
    rw [HOT.out] at hco
    have HCO := Lib.hid hco
    clear hb HA hco HE6 HX6
    go_wp2_with fail
    refine HCO.out.mono ?_
    rintro e z ⟨rfl, hr, hb⟩
    replace HX := Lib.hid (HX.out.then_ hb)
    have hsm := csame_any (fun _ => 0) (fun _ => 0) s s ot.length ls.length (some ⟨y.heap.size, 0, none⟩) (some ⟨g, 0, none⟩) z (block_ents hr (lt_of_row hr)) (block_ents HX.out.r (lt_of_row HX.out.r)) (by have := HSL.out; have := HM.out; omega)
    rw [show sameC (fun _ => 0) (fun _ => 0) s s = true from sameC_self _ _] at hsm
    have HSM : Hid (Calls Try.prog 52 #[.agg (c0 (.slice (some ⟨y.heap.size, 0, none⟩) ot.length ot.length)), .agg (c0 (.slice (some ⟨g, 0, none⟩) ls.length ls.length))] z fun e w' => e = .returned (.bool true) ∧ RowKit.Below z.heap.size z w') := Lib.hid (by
      have h2 := hsm
      rw [show (s.length) = ot.length from HSO.out] at h2
      rw [show ot.length = ls.length from HSO.out.symm.trans HSL.out] at h2 ⊢
      exact h2)
    clear hr hb hsm HCO
    go_wp2_with fail
    refine HSM.out.mono ?_
    rintro e z2 ⟨rfl, hb⟩
    replace HX := Lib.hid (HX.out.then_ hb)
    clear hb HSM
    go_wp2_with fail
    go_ret
    exact ⟨rfl, HX.out.below⟩
  | true =>
    rw [hrt] at HRT
    have HSE : Hid (s = ls) := Lib.hid (by rw [HSD.out, right_ord hrt])
    clear hrt
    go_wp2_with (first
      | (refine wpList_load_arrW (by go_simp) 56 _ rfl w.heap.size 0 rfl (cartC f A ls.length c) _ HR.out Try.underlying56 rfl s56.out ?_)
      | fail)
    refine HRT.out.mono ?_
    rintro e w6 ⟨rfl, hb⟩
    replace HX := Lib.hid (HX.out.then_ hb)
    clear hb HRT HR c8
    have c8 := HX.out.c.c8
    have hsm := csame_any (fun _ => 0) (fun _ => 0) ls ls ls.length c (some ⟨g, 0, none⟩) A w6 (by have h := block_ents (ok := (· < w6.heap.size)) HX.out.r (lt_of_row HX.out.r); rw [HSE.out] at h; exact h) (HX.out.v.loose fun b hb => Nat.lt_of_lt_of_le hb HX.out.below.size) (by have := HM.out; omega)
    rw [show sameC (fun _ => 0) (fun _ => 0) ls ls = true from sameC_self _ _] at hsm
    have HSM : Hid (Calls Try.prog 52 #[.agg (c0 (.slice (some ⟨g, 0, none⟩) ls.length ls.length)), .agg (c0 (.slice A ls.length c))] w6 fun e w' => e = .returned (.bool true) ∧ RowKit.Below w6.heap.size w6 w') := Lib.hid hsm
    clear hsm
    go_wp2_with fail
    refine HSM.out.mono ?_
    rintro e w7 ⟨rfl, hb⟩
    replace HX := Lib.hid (HX.out.then_ hb)
    clear hb HSM c8
    have c8 := HX.out.c.c8
    by_cases h1 : tz < 0
    · have HA := Lib.hid (alive6_any w7)
      go_wp2_with fail
      refine HA.out.mono ?_
      rintro e y ⟨rfl, hb⟩
      replace HX := Lib.hid (HX.out.then_ hb)
      clear hb HA
      go_wp2_with fail
      go_ret
      exact ⟨rfl, HX.out.below⟩
    by_cases h2 : (ls.length : Int) ≤ tz
    · have HA := Lib.hid (alive6_any w7)
      go_wp2_with fail
      refine HA.out.mono ?_
      rintro e y ⟨rfl, hb⟩
      replace HX := Lib.hid (HX.out.then_ hb)
      clear hb HA
      go_wp2_with fail
      go_ret
      exact ⟨rfl, HX.out.below⟩
    obtain ⟨tn, rfl⟩ : ∃ tn : Nat, tz = (tn : Int) := ⟨tz.toNat, by omega⟩
    have HTN : Hid (tn < ls.length) := Lib.hid (by omega)
    obtain ⟨b, o, hA⟩ := HX.out.v.some_ (by have := HTN.out; omega)
    subst hA
    have HSF : Hid (∀ x, (Instr.sliceAt 54 (.slice (some ⟨b, o, none⟩) ls.length c) (some (.int .i64 (tn : Int))) none none).run Try.prog x = .ok (.slice (some ⟨b, o + tn * 4, none⟩) (ls.length - tn) (c - tn)) x) := Lib.hid (fun x => by
      have h := run_sliceAt_from4 (P := Try.prog) 54 58 Try.underlying54 size58k (some ⟨b, o, none⟩) ls.length c tn (Nat.le_of_lt HTN.out) x
      have hne : ¬ c = tn := by have := HTN.out; have := HCAP.out; omega
      unfold cutA4 at h
      rw [if_neg hne, Option.map_some, Addr.add_mid] at h
      exact h)
    have HST : Hid (∀ x, (Instr.sliceAt 54 (.slice (some ⟨b, o, none⟩) ls.length c) none (some (.int .i64 (tn : Int))) none).run Try.prog x = .ok (.slice (some ⟨b, o, none⟩) tn c) x) := Lib.hid (fun x =>
      run_sliceAt_to4 (P := Try.prog) 54 58 Try.underlying54 size58k (some ⟨b, o, none⟩) ls.length c tn (by have := HTN.out; have := HCAP.out; omega) x)
    go_wp2_with fail
    refine WM.wp_region_front 10 [] (fun _ x y => RowKit.Below x.heap.size x y) (fun _ x => OS w f (some ⟨b, o, none⟩) c ls s g x) (fun x => OS w f (some ⟨b, o, none⟩) c ls s g x)
      [(0, .mem (N0 (g + 1))), (2, .val (.slice (some ⟨b, o, none⟩) ls.length c) fun _ => True), (5, .mem (N5 (g + 1) (ls.drop tn))), (7, .val (.slice (some ⟨b, o, none⟩) ls.length c) fun _ => True)] (by kernel_rfl) (by kernel_rfl) (by kernel_rfl) (by kernel_rfl) (of_decide_eq_true (by kernel_rfl)) ?_ ?_ (fun _ _ _ hb => hb.size) (fun _ _ _ hb h => h.then_ hb) (fun _ _ _ _ _ hb h => h.then_ hb) ?_ HX.out.drew (fun _ => HX.out.drew) ?_
    · intro p hp
      cases hp
    · intro p hp
      cases hp
    · intro z hz
      simp only [List.mem_cons, List.mem_nil_iff, or_false] at hz
      rcases hz with rfl | rfl | rfl | rfl
      · exact fun j v x y _ hr ⟨gl, e, h1, h⟩ => ⟨gl, e, h1, (hr.block _ (lt_of_row h)).trans h⟩
      · exact fun _ _ _ _ _ _ => trivial
      · exact fun j v x y _ hr h => own_keep h fun k _ hk => hr.block k hk
      · exact fun _ _ _ _ _ _ => trivial
    refine WM.mono_mem rfl rfl (fun x hD hF => ?_) (fun v51 => ?_)
    · have hg := lt_of_row hD.r
      go_simp
      exact ⟨below1 _ _, _, rfl, hg, heap_alloc_new _ _⟩
    apply Exists.intro
    refine ⟨by simp only [Act.put, List.setIfInBounds_toArray, List.set_cons_succ, List.set_cons_zero]; rfl, ?_⟩
    refine WM.mono_pure rfl rfl ?_
    refine ⟨.pointer (some ⟨w.heap.size, 8, none⟩), fun x => ?_, ?_⟩
    · go_simp
    apply Exists.intro
    refine ⟨by simp only [Act.put, List.setIfInBounds_toArray, List.set_cons_succ, List.set_cons_zero]; rfl, ?_⟩
    refine WM.mono_val rfl rfl (fun x hD hF => ?_) ?_
    · have hc : x.cell? ⟨w.heap.size, 8, none⟩ = some (.slice (some ⟨b, o, none⟩) ls.length c) := hD.c.c8
      go_simp
      exact ⟨RowKit.Below.refl _ _, rfl⟩
    apply Exists.intro
    refine ⟨by simp only [Act.put, List.setIfInBounds_toArray, List.set_cons_succ, List.set_cons_zero]; rfl, ?_⟩
    refine WM.mono_pure rfl rfl ?_
    refine ⟨.int .i64 (tn : Int), fun x => ?_, ?_⟩
    · go_simp
    apply Exists.intro
    refine ⟨by simp only [Act.put, List.setIfInBounds_toArray, List.set_cons_succ, List.set_cons_zero]; rfl, ?_⟩
    refine WM.mono_pure rfl rfl ?_
    refine ⟨.slice (some ⟨b, o + tn * 4, none⟩) (ls.length - tn) (c - tn), fun x => ?_, ?_⟩
    · exact exec_slice 54 (.tmp 53) (some (.tmp 54)) none none rfl rfl rfl rfl rfl (HSF.out x)
    apply Exists.intro
    refine ⟨by simp only [Act.put, List.setIfInBounds_toArray, List.set_cons_succ, List.set_cons_zero]; rfl, ?_⟩
    refine WM.mono_mem rfl rfl (fun x hD hF => ?_) (fun v56 => ?_)
    · obtain ⟨b0, e0', hk0, h0⟩ : N0 (g + 1) v51 x := (hF 0 _ 51 rfl rfl (by decide)).1
      subst e0'
      obtain ⟨v1, w1, r1, r2, r3⟩ := append_first (ys := ls.drop tn) (c := c - tn) (b := b) (o := o + tn * 4) h0 hk0 ((ents_drop hD.v HTN.out).loose fun _ h => h) (by rw [List.length_drop]; have := HTN.out; omega) (by rw [List.length_drop]; have := HM.out; omega) (Nat.lt_of_lt_of_le (Nat.lt_succ_self g) (lt_of_row hD.r))
      rw [List.length_drop] at r1
      rw [exec_append 54 (.tmp 51) (.tmp 55) rfl rfl rfl r1]
      exact ⟨r3, r2⟩
    apply Exists.intro
    refine ⟨by simp only [Act.put, List.setIfInBounds_toArray, List.set_cons_succ, List.set_cons_zero]; rfl, ?_⟩
    refine WM.mono_pure rfl rfl ?_
    refine ⟨.pointer (some ⟨w.heap.size, 8, none⟩), fun x => ?_, ?_⟩
    · go_simp
    apply Exists.intro
    refine ⟨by simp only [Act.put, List.setIfInBounds_toArray, List.set_cons_succ, List.set_cons_zero]; rfl, ?_⟩
    refine WM.mono_val rfl rfl (fun x hD hF => ?_) ?_
    · have hc : x.cell? ⟨w.heap.size, 8, none⟩ = some (.slice (some ⟨b, o, none⟩) ls.length c) := hD.c.c8
      go_simp
      exact ⟨RowKit.Below.refl _ _, rfl⟩
    apply Exists.intro
    refine ⟨by simp only [Act.put, List.setIfInBounds_toArray, List.set_cons_succ, List.set_cons_zero]; rfl, ?_⟩
    refine WM.mono_pure rfl rfl ?_
    refine ⟨.int .i64 (tn : Int), fun x => ?_, ?_⟩
    · go_simp
    apply Exists.intro
    refine ⟨by simp only [Act.put, List.setIfInBounds_toArray, List.set_cons_succ, List.set_cons_zero]; rfl, ?_⟩
    refine WM.mono_pure rfl rfl ?_
    refine ⟨.slice (some ⟨b, o, none⟩) tn c, fun x => ?_, ?_⟩
    · exact exec_slice 54 (.tmp 58) none (some (.tmp 59)) none rfl rfl rfl rfl rfl (HST.out x)
    apply Exists.intro
    refine ⟨by simp only [Act.put, List.setIfInBounds_toArray, List.set_cons_succ, List.set_cons_zero]; rfl, ?_⟩
    refine WM.mono_nil ?_
    intro x hD hF _
    have h7 : x.ownsRow (g + 1) 58 4 v56 (ls.drop tn).length (ents4 (ls.drop tn)) := (hF 5).1
    have htk : (ls.take tn).length = tn := by rw [List.length_take]; have := HTN.out; omega
    have hE := ents_take hD.v tn
    refine wpList_append_ents rfl (.tmp 56) (.tmp 60) 54 rfl (g + 1) v56 (ls.drop tn) rfl h7 (ls.take tn) b o c _ (by rw [htk]; rfl) hE (by rw [List.length_drop, htk]; have := HM.out; unfold maxLen; omega) (by rw [List.length_drop, htk]; have := HM.out; omega) (lt_of_row hD.r) ?_
    intro v6 w6 H6 B6
    have HX6 := Lib.hid (hD.low B6.out)
    clear hD hF h7 htk hE HX
    obtain ⟨A6, c6, e6, hE6, _⟩ := own_ents (ls := ls.drop tn ++ ls.take tn) (by rw [ents4_append]; exact H6.out)
    subst e6
    have HOT : Hid (ordE (ls.drop tn ++ ls.take tn) = s) := Lib.hid (by rw [HSD.out]; exact ordE_same (List.perm_append_comm.trans (by rw [List.take_append_drop])))
    obtain ⟨ot, hot⟩ : ∃ ot, ot = ls.drop tn ++ ls.take tn := ⟨_, rfl⟩
    have HOL : Hid (ot.length ≤ 100000) := Lib.hid (by rw [hot, List.length_append, List.length_drop, List.length_take]; have := HM.out; omega)
    have HSO : Hid (s.length = ot.length) := Lib.hid (by rw [← HOT.out, ordE_len, hot])
    rw [← hot] at hE6 HOT ⊢
    have HE6 := Lib.hid (hE6.loose (p := (· < w6.heap.size)) fun b h => h.2)
    clear hE6 hot H6 B6
    have HA := Lib.hid (alive6_any w6)
    go_simp
    go_wp2_with fail
    refine HA.out.mono ?_
    rintro e y ⟨rfl, hb⟩
    replace HX := Lib.hid (HX6.out.then_ hb)
    have HE7 := Lib.hid (HE6.out.below (B := w6.heap.size) hb)
    have hco := corder_any ot c6 A6 y (HE7.out.loose fun b h => Nat.lt_of_lt_of_le h hb.size) HOL.out
    rw [HOT.out] at hco
    have HCO := Lib.hid hco
    clear hb HA hco HE6 HX6
    go_wp2_with fail
    refine HCO.out.mono ?_
    rintro e z ⟨rfl, hr, hb⟩
    replace HX := Lib.hid (HX.out.then_ hb)
    have hsm := csame_any (fun _ => 0) (fun _ => 0) s s ot.length ls.length (some ⟨y.heap.size, 0, none⟩) (some ⟨g, 0, none⟩) z (block_ents hr (lt_of_row hr)) (block_ents HX.out.r (lt_of_row HX.out.r)) (by have := HSL.out; have := HM.out; omega)
    rw [show sameC (fun _ => 0) (fun _ => 0) s s = true from sameC_self _ _] at hsm
    have HSM : Hid (Calls Try.prog 52 #[.agg (c0 (.slice (some ⟨y.heap.size, 0, none⟩) ot.length ot.length)), .agg (c0 (.slice (some ⟨g, 0, none⟩) ls.length ls.length))] z fun e w' => e = .returned (.bool true) ∧ RowKit.Below z.heap.size z w') := Lib.hid (by
      have h2 := hsm
      rw [show (s.length) = ot.length from HSO.out] at h2
      rw [show ot.length = ls.length from HSO.out.symm.trans HSL.out] at h2 ⊢
      exact h2)
    clear hr hb hsm HCO
    go_wp2_with fail
    refine HSM.out.mono ?_
    rintro e z2 ⟨rfl, hb⟩
    replace HX := Lib.hid (HX.out.then_ hb)
    clear hb HSM
    go_wp2_with fail
    go_ret
    exact ⟨rfl, HX.out.below⟩
end Go.Proofs.Ytnpacjdgbmldlaa
