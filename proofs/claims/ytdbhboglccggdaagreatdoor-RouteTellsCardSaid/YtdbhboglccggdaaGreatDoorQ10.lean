/- The law RouteOthers. -/
import Derived.Test.YtdbhboglccggdaaGreatDoorQC
set_option maxRecDepth 100000
set_option linter.unusedVariables false
set_option linter.unusedSimpArgs false
namespace Go.Proofs.YtdbhboglccggdaaGreatDoor
open Go.RowKit Go.Shelf
theorem cfg_limits {N V R : Nat} (h : rightC N V R = true) : 1 ≤ N ∧ N ≤ 8 ∧ 1 ≤ V ∧ V ≤ 16 ∧ 1 ≤ R ∧ R ≤ N := by
  unfold rightC withinB at h
  simp only [Bool.and_eq_true, decide_eq_true_eq] at h
  omega
theorem rh_alive {w x : World} {g N V R : Nat} (h : RH w g N V R x) (h2 : 2 ≤ w.heap.size) : Calls Tryz.prog 6 #[] x fun e y => e = .returned (.bool true) ∧ RH w g N V R y ∧ Below x.heap.size x y :=
  (alive13_any x h.tabs).mono (by
    rintro e y ⟨rfl, hb⟩
    exact ⟨rfl, h.soft (.of_below hb) h2, hb⟩)
theorem Below.of_RH {w x : World} {g N V R : Nat} (h : RH w g N V R x) : Below w.heap.size w x := h.below
set_option maxHeartbeats 4000000 in
theorem rothers_bad (N V R : Int) (s : ByteArray) (node : Int) (w : World) (ht : Tabs w) (hr : rightC N V R = false) : Calls Tryz.prog 5 #[.agg (cfg N V R), .string s, .int .i64 node] w fun e w' => e = .returned (.bool true) ∧ Below w.heap.size w w' := by
  have HX := Lib.hid (heap_alloc_new w (.cells (cfg N V R) 23))
  have HB := Lib.hid ((Below.refl w.heap.size w).alloc (Nat.le_refl _) (.cells (cfg N V R) 23))
  have HT := Lib.hid ht
  have HS := Lib.hid (cfg_size N V R)
  have HNB := Lib.hid (new_bad N V R (w.alloc (.cells (cfg N V R) 23)) hr)
  clear ht hr
  go_enter Tryz.func5, Tryz.ntmps5
  go_wp2_with (refine wpList_load_w (by go_simp) 23 _ rfl w.heap.size 0 rfl (cfg N V R) _ (cfg_range HX.out) Tryz.underlying23 rfl HS.out ?_)
  refine HNB.out.mono ?_
  rintro e y1 ⟨rfl, hb⟩
  have HYB := Lib.hid (HB.out.trans (hb.mono HB.out.size))
  clear hb HX HB HNB
  go_wp2_with fail
  refine (alive13_any y1 (HT.out.below HYB.out)).mono ?_
  rintro e y3 ⟨rfl, hb⟩
  have HAB := Lib.hid (HYB.out.trans (hb.mono HYB.out.size))
  clear hb HYB
  go_wp2_with fail
  go_ret
  exact ⟨rfl, HAB.out⟩
set_option maxHeartbeats 4000000 in
theorem rothers_key (N V R : Nat) (s : ByteArray) (node : Int) (w : World) (ht : Tabs w) (hr : rightC N V R = true) (hk : rightK s = false) : Calls Tryz.prog 5 #[.agg (cfg N V R), .string s, .int .i64 node] w fun e w' => e = .returned (.bool true) ∧ Below w.heap.size w w' := by
  have HX := Lib.hid (heap_alloc_new w (.cells (cfg N V R) 23))
  have HB := Lib.hid ((Below.refl w.heap.size w).alloc (Nat.le_refl _) (.cells (cfg N V R) 23))
  have HT := Lib.hid ht
  have HS := Lib.hid (cfg_size N V R)
  have HN1 := Lib.hid (new_ok N V R (w.alloc (.cells (cfg N V R) 23)) hr (ht.below HB.out))
  have HKR := Lib.hid (fun x => right_any s x)
  rw [hk] at HKR
  clear ht hr hk
  go_enter Tryz.func5, Tryz.ntmps5
  go_wp2_with (refine wpList_load_w (by go_simp) 23 _ rfl w.heap.size 0 rfl (cfg N V R) _ (cfg_range HX.out) Tryz.underlying23 rfl HS.out ?_)
  refine HN1.out.mono ?_
  rintro e y1 ⟨g, rfl, _, _, hb⟩
  have HYB := Lib.hid (HB.out.trans (hb.mono HB.out.size))
  clear hb HX HB HN1
  go_wp2_with fail
  refine (HKR.out y1).mono ?_
  rintro e y2 ⟨rfl, rfl⟩
  go_wp2_with fail
  refine (alive13_any y1 (HT.out.below HYB.out)).mono ?_
  rintro e y3 ⟨rfl, hb⟩
  have HAB := Lib.hid (HYB.out.trans (hb.mono HYB.out.size))
  clear hb HYB
  go_wp2_with fail
  go_ret
  exact ⟨rfl, HAB.out⟩
theorem without_has {l : List Nat} {node : Int} (x : Int) : hasI (without l node) x = (hasI l x && !decide (x = node)) := by
  unfold without hasI
  rw [Bool.eq_iff_iff, List.any_eq_true, Bool.and_eq_true, List.any_eq_true]
  constructor
  · rintro ⟨y, hy, h⟩
    rw [List.mem_filter] at hy
    have h := of_decide_eq_true h
    subst h
    exact ⟨⟨y, hy.1, by simp⟩, hy.2⟩
  · rintro ⟨⟨y, hy, h⟩, h2⟩
    have h := of_decide_eq_true h
    subst h
    exact ⟨y, List.mem_filter.2 ⟨hy, h2⟩, by simp⟩
set_option maxHeartbeats 16000000 in
theorem rothers_ok (N V R : Nat) (s : ByteArray) (node : Int) (w : World) (ht : Tabs w) (hr : rightC N V R = true) (hk : rightK s = true) (hs : s.size ≤ maxLen) : Calls Tryz.prog 5 #[.agg (cfg N V R), .string s, .int .i64 node] w fun e w' => e = .returned (.bool true) ∧ Below w.heap.size w w' := by
  have HLIM := Lib.hid (cfg_limits hr)
  have HX := Lib.hid (heap_alloc_new w (.cells (cfg N V R) 23))
  have HB := Lib.hid ((Below.refl w.heap.size w).alloc (Nat.le_refl _) (.cells (cfg N V R) 23))
  have H2 := Lib.hid ht.two
  have HS := Lib.hid (cfg_size N V R)
  have HSZ := Lib.hid hs
  have HN1 := Lib.hid (new_ok N V R (w.alloc (.cells (cfg N V R) 23)) hr (ht.below HB.out))
  have HTB := Lib.hid (fun x (hx : Below w.heap.size w x) => ht.below hx)
  have HKR := Lib.hid (fun x => right_any s x)
  rw [hk] at HKR
  obtain ⟨l, hl⟩ : ∃ l, l = KL (Ring.pts ptAt V N) R s := ⟨_, rfl⟩
  have hll : l = LK (Ring.pts ptAt V N) R ((partK s : Nat) : Int) := by rw [hl]; exact KL_yes hk
  have HLK := Lib.hid hll
  have HPL := Lib.hid (partK_lt s)
  have HLEN : Hid (l.length = R) := Lib.hid (by rw [hll, LK_ok _ _ _ (partK_lt s)]; exact Ring.listOf_length (by have := HLIM.out; omega) HLIM.out.2.2.2.2.2)
  obtain ⟨pk, hpk⟩ : ∃ pk, pk = partK s := ⟨_, rfl⟩
  have HPK := Lib.hid (fun x (hx : Tabs x) => part_any s x hx hs)
  rw [← hpk] at HPK HPL HLK
  have HKL := Lib.hid hl
  clear ht hr hk hs hl hll hpk
  go_enter Tryz.func5, Tryz.ntmps5
  go_wp2_with (refine wpList_load_w (by go_simp) 23 _ rfl w.heap.size 0 rfl (cfg N V R) _ (cfg_range HX.out) Tryz.underlying23 rfl HS.out ?_)
  refine HN1.out.mono ?_
  rintro e y1 ⟨g, rfl, hg, hrg, hb⟩
  have hyb := HB.out.trans (hb.mono HB.out.size)
  rw [World.size_alloc] at hg
  have HG := Lib.hid hg
  have HR1 : Hid (RH w g N V R y1) := Lib.hid ⟨hrg, HTB.out _ hyb, by have := hb.size; simpa using this, hyb, (hb.block w.heap.size (by simp)).trans HX.out⟩
  have HE := Lib.hid (env_holds H2.out hg HLIM.out.2.1 HLIM.out.2.2.2.1 (by have := HLIM.out; omega) (N := N) (V := V) (R := R))
  clear hg hrg hb hyb HX HB HN1 HTB HS
  go_wp2_with fail
  refine (HKR.out y1).mono ?_
  rintro e y1' ⟨rfl, rfl⟩
  have HL := Lib.hid (rtlist_env HE.out (fun _ h => h.tabs) s HSZ.out y1 HR1.out)
  have HO := Lib.hid (fun x hx => rtothers_env HE.out (fun _ h => h.tabs) node s HSZ.out x hx)
  have HH := Lib.hid (fun n x hx => rtholds_env HE.out (fun _ h => h.tabs) n s HSZ.out x hx)
  have HLI := Lib.hid (fun x hx => list_env HE.out ((pk : Nat) : Int) x hx)
  rw [← HKL.out] at HL HO HH
  rw [← HLK.out] at HLI
  clear HKR
  go_wp2_with fail
  refine HL.out.mono ?_
  rintro e y2 ⟨B, c, rfl, hm, ho, hf⟩
  have HML : Hid (Row .i64 y2 (fun b => b ≠ g) B l) := Lib.hid (hm.row.weak fun b hb _ e => by have := HR1.out.ring.lt; omega)
  have HR2 := Lib.hid hf
  clear hm ho hf HL HR1
  go_wp2_with fail
  refine (HO.out y2 HR2.out).mono ?_
  rintro e y3 ⟨Bo, co, rfl, hm, ho, hf⟩
  have HMO : Hid (Row .i64 y3 (fun b => b ≠ g) Bo (without l node)) := Lib.hid (hm.row.weak fun b hb _ e => by have := HR2.out.ring.lt; omega)
  have HML3 := Lib.hid (HML.out.kept ho (fun _ h e => h e))
  have HR3 := Lib.hid hf
  have HON := Lib.hid (fun x => without_has (l := l) (node := node) x)
  obtain ⟨o, hoo⟩ : ∃ o, o = without l node := ⟨_, rfl⟩
  have HOL : Hid (o.length ≤ 1000000 ∧ l.length ≤ 1000000) := Lib.hid (by have := without_len l node; have := HLEN.out; have := HLIM.out; rw [hoo]; omega)
  rw [← hoo] at HMO HON ⊢
  clear hm ho hf HO HML HR2 hoo
  go_wp2_with fail
  refine (HPK.out y3 HR3.out.tabs).mono ?_
  rintro e y4 ⟨rfl, hb⟩
  have HR4 := Lib.hid (HE.out.down hb HR3.out)
  have HML4 := Lib.hid (HML3.out.grow hb)
  have HMO4 := Lib.hid (HMO.out.grow hb)
  clear hb HR3 HML3 HMO
  go_wp2_with fail
  refine (HLI.out y4 HR4.out).mono ?_
  rintro e y5 ⟨B5, c5, rfl, hr5, ho, hf⟩
  have HR5 := Lib.hid hf
  have HML5 := Lib.hid (HML4.out.kept ho (fun _ h e => h e))
  have HMO5 := Lib.hid (HMO4.out.kept ho (fun _ h e => h e))
  have HX5 := Lib.hid hr5
  clear hr5 ho hf HR4 HML4 HMO4
  have HSA := Lib.hid (same_any l l c c5 B B5 y5 HML5.out HX5.out HOL.out.2)
  rw [decide_eq_true (rfl : l = l)] at HSA
  go_wp2_with fail
  refine HSA.out.mono ?_
  rintro e y6 ⟨rfl, hb⟩
  have HR6 := Lib.hid (HE.out.down hb HR5.out)
  have HML6 := Lib.hid (HML5.out.grow hb)
  have HMO6 := Lib.hid (HMO5.out.grow hb)
  clear hb HR5 HML5 HMO5 HX5 HSA
  have HI6 := Lib.hid (in_nat o co Bo node y6 HMO6.out HOL.out.1)
  rw [HON.out, decide_eq_true (rfl : node = node), Bool.not_true, Bool.and_false] at HI6
  go_wp2_with fail
  refine HI6.out.mono ?_
  rintro e y6' ⟨rfl, rfl⟩
  clear HI6
  go_wp2_with fail
  refine (HH.out node y6 HR6.out).mono ?_
  rintro e y7 ⟨rfl, ho, hf⟩
  have HR7 := Lib.hid hf
  have HML7 := Lib.hid (HML6.out.kept ho (fun _ h e => h e))
  have HMO7 := Lib.hid (HMO6.out.kept ho (fun _ h e => h e))
  clear ho hf HR6 HML6 HMO6
  have HI7 := Lib.hid (in_nat l c B node y7 HML7.out HOL.out.2)
  obtain ⟨hv, hhv⟩ : ∃ hv, hv = hasI l node := ⟨_, rfl⟩
  rw [← hhv] at HI7 ⊢
  have hbb : (hv != hv) = false := by simp
  clear hhv
  go_wp2_with fail
  refine HI7.out.mono ?_
  rintro e y7' ⟨rfl, rfl⟩
  clear HI7
  go_wp2_with fail
  clear hbb
  go_loopw [11] (fun iv x => ∃ i : Nat, i ≤ l.length ∧ iv = .int .i64 i ∧ Hid (Row .i64 x (fun b => b ≠ g) B l) ∧ Hid (Row .i64 x (fun b => b ≠ g) Bo o) ∧ Hid (RH w g N V R x)) (fun iv _ => l.length - (intOf iv).toNat)
  case atStart => exact ⟨0, by omega, rfl, HML7, HMO7, HR7⟩
  case round =>
    clear HML7 HMO7 HR7
    obtain ⟨i, hi, rfl, HML, HMO, HRR⟩ := hrel
    by_cases hlt : i < l.length
    · have hlt' : (i : Int) < (l.length : Int) := by omega
      have eI : IntKind.i64.wrap ((i : Int) + 1) = (i : Int) + 1 := by have := HLEN.out; have := HLIM.out; rw [IntKind.wrap_i64]; omega
      obtain ⟨b, off, hB, _, hcs⟩ := HML.out.at_ (by omega)
      subst hB
      have hc := hcs i hlt
      obtain ⟨q, hq⟩ : ∃ q, q = l.getD i 0 := ⟨_, rfl⟩
      have hqm : q ∈ l := by rw [hq]; exact getD_mem hlt
      have hql : hasI l (q : Int) = true := by rw [hasI_nat]; exact decide_eq_true hqm
      have HHQ := Lib.hid (HH.out (q : Int) wr HRR.out)
      have HOQ := Lib.hid (HON.out (q : Int))
      have HPA := Lib.hid (fun x hx => parts_env HE.out (q : Int) x hx)
      have HPQ : Hid (hasI (partsI (Ring.pts ptAt V N) R (q : Int) 8) ((pk : Nat) : Int) = true) := Lib.hid (by
        rw [hasI_nat, decide_eq_true_eq]
        unfold partsI
        rw [List.mem_filter, List.mem_range]
        refine ⟨HPL.out, ?_⟩
        rw [← HLK.out]
        exact hql)
      have HQ8 := Lib.hid (partsI_len (Ring.pts ptAt V N) R (q : Int) 8)
      rw [hql] at HHQ HOQ
      rw [← hq] at hc
      obtain ⟨ps, hps⟩ : ∃ ps, ps = partsI (Ring.pts ptAt V N) R (q : Int) 8 := ⟨_, rfl⟩
      rw [← hps] at HPA HPQ HQ8
      have HQQ := Lib.hid hq
      clear hcs hq hqm hql hps
      by_cases hqn : (q : Int) = node
      · have hne : ((q : Int) != node) = false := by rw [bne_eq_false_iff_eq]; exact hqn
        clear hqn HOQ
        go_wp2_with fail
        refine HHQ.out.mono ?_
        rintro e z1 ⟨rfl, ho, hf⟩
        have HR1 := Lib.hid hf
        have HML1 := Lib.hid (HML.out.kept ho (fun _ h e => h e))
        have HMO1 := Lib.hid (HMO.out.kept ho (fun _ h e => h e))
        clear ho hf hc HHQ HML HMO HRR
        have hc := HML1.out.cell b off rfl i hlt
        rw [← HQQ.out] at hc
        go_wp2_with fail
        refine (HPA.out z1 HR1.out).mono ?_
        rintro e z3 ⟨B3, rfl, hr3, ho, hf⟩
        have HR3 := Lib.hid hf
        have HP3 := Lib.hid hr3
        have HML3 := Lib.hid (HML1.out.kept ho (fun _ h e => h e))
        have HMO3 := Lib.hid (HMO1.out.kept ho (fun _ h e => h e))
        clear hr3 ho hf hc HR1 HML1 HMO1
        go_wp2_with fail
        refine (HPK.out z3 HR3.out.tabs).mono ?_
        rintro e z4 ⟨rfl, hb⟩
        have HR4 := Lib.hid (HE.out.down hb HR3.out)
        have HP4 := Lib.hid (HP3.out.grow hb)
        have HML4 := Lib.hid (HML3.out.grow hb)
        have HMO4 := Lib.hid (HMO3.out.grow hb)
        clear hb HR3 HP3 HML3 HMO3
        have HI4 := Lib.hid (in_nat ps ps.length B3 ((pk : Nat) : Int) z4 HP4.out (by have := HQ8.out; omega))
        rw [HPQ.out] at HI4
        go_wp2_with fail
        refine HI4.out.mono ?_
        rintro e z5 ⟨rfl, rfl⟩
        clear HI4 hne
        go_wp2_with fail
        go_roundw
        all_goals clear eI
        case rel => exact ⟨i + 1, by omega, by go_num, HML4, HMO4, HR4⟩
        case measure => simp [intOf]; omega
      · have hne : ((q : Int) != node) = true := by rw [bne_iff_ne]; exact hqn
        rw [decide_eq_false hqn] at HOQ
        clear hqn
        go_wp2_with fail
        refine HHQ.out.mono ?_
        rintro e z1 ⟨rfl, ho, hf⟩
        have HR1 := Lib.hid hf
        have HML1 := Lib.hid (HML.out.kept ho (fun _ h e => h e))
        have HMO1 := Lib.hid (HMO.out.kept ho (fun _ h e => h e))
        clear ho hf hc HHQ HML HMO HRR
        have hc := HML1.out.cell b off rfl i hlt
        rw [← HQQ.out] at hc
        go_wp2_with fail
        have HI2 := Lib.hid (in_nat o co Bo (q : Int) z1 HMO1.out HOL.out.1)
        rw [HOQ.out] at HI2
        refine HI2.out.mono ?_
        rintro e z2 ⟨rfl, rfl⟩
        clear HI2
        go_wp2_with fail
        refine (HPA.out z1 HR1.out).mono ?_
        rintro e z3 ⟨B3, rfl, hr3, ho, hf⟩
        have HR3 := Lib.hid hf
        have HP3 := Lib.hid hr3
        have HML3 := Lib.hid (HML1.out.kept ho (fun _ h e => h e))
        have HMO3 := Lib.hid (HMO1.out.kept ho (fun _ h e => h e))
        clear hr3 ho hf hc HR1 HML1 HMO1
        go_wp2_with fail
        refine (HPK.out z3 HR3.out.tabs).mono ?_
        rintro e z4 ⟨rfl, hb⟩
        have HR4 := Lib.hid (HE.out.down hb HR3.out)
        have HP4 := Lib.hid (HP3.out.grow hb)
        have HML4 := Lib.hid (HML3.out.grow hb)
        have HMO4 := Lib.hid (HMO3.out.grow hb)
        clear hb HR3 HP3 HML3 HMO3
        have HI4 := Lib.hid (in_nat ps ps.length B3 ((pk : Nat) : Int) z4 HP4.out (by have := HQ8.out; omega))
        rw [HPQ.out] at HI4
        go_wp2_with fail
        refine HI4.out.mono ?_
        rintro e z5 ⟨rfl, rfl⟩
        clear HI4 hne
        go_wp2_with fail
        go_roundw
        all_goals clear eI
        case rel => exact ⟨i + 1, by omega, by go_num, HML4, HMO4, HR4⟩
        case measure => simp [intOf]; omega
    · obtain rfl : i = l.length := by omega
      go_wp2_with fail
      refine (rh_alive HRR.out H2.out).mono ?_
      rintro e y9 ⟨rfl, hf, hb⟩
      have HRF := Lib.hid hf
      have hc2 := hf.box2
      have hle : ((l.length : Int) == (R : Int)) = true := by rw [beq_iff_eq, HLEN.out]
      clear hf hb
      go_wp2_with fail
      go_ret
      exact ⟨rfl, HRF.out.below⟩
end Go.Proofs.YtdbhboglccggdaaGreatDoor
