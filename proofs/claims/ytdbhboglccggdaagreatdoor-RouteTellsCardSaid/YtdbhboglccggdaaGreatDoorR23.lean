/- The reference's ring. Then: The reference's list of a part; the reference's right sizes. Then: The law RingTells, where the sizes are wrong. Then: The law RingTells, where the sizes are right. -/
import Derived.Test.YtdbhboglccggdaaGreatDoorR19
import Derived.Test.YtdbhboglccggdaaGreatDoorR18
set_option maxRecDepth 100000
set_option linter.unusedVariables false
set_option linter.unusedSimpArgs false
namespace Go.Proofs.YtdbhboglccggdaaGreatDoor
open Go.RowKit
/-- What the reference keeps: points, and their nodes. -/
structure RG (w : World) (L : List Pt) (A1 A2 : Option Addr) (x : World) : Prop where
  p : Row .u64 x (fun b => w.heap.size ≤ b) A1 (L.map (·.1))
  o : Row .i64 x (fun b => w.heap.size ≤ b) A2 (L.map (·.2))
  below : Below w.heap.size w x
theorem RG.grow {w : World} {L : List Pt} {A1 A2 : Option Addr} {x y : World} (h : RG w L A1 A2 x) (hb : Below x.heap.size x y) : RG w L A1 A2 y := ⟨h.p.grow hb, h.o.grow hb, h.below.trans (hb.mono h.below.size)⟩
theorem refL_step {f : Nat → Nat → Nat} {V d i : Nat} (h : i < V) : Ring.refL f V d (i + 1) = Ring.insP (Ring.refL f V d i) (f d i, d) := by
  unfold Ring.refL
  rw [ofNode_take h, ← List.append_assoc, List.foldl_append]
  rfl
theorem refL_turn {f : Nat → Nat → Nat} {V d : Nat} (h : 1 ≤ d) : Ring.refL f V d V = Ring.refL f V (d + 1) 0 := by
  unfold Ring.refL
  rw [ofNode_all, ← raw_step h, List.take_zero, List.append_nil, Nat.add_sub_cancel]
theorem refL_end {f : Nat → Nat → Nat} {V N : Nat} : Ring.refL f V (N + 1) 0 = Ring.pts f V N := by
  unfold Ring.refL
  rw [List.take_zero, List.append_nil, Nat.add_sub_cancel, Ring.fold_pts]
theorem insP_len (L : List Pt) (p : Pt) : (Ring.insP L p).length = L.length + 1 := by
  rw [(Ring.ins_perm L p).length_eq, List.length_append]
  rfl
theorem refL_len (f : Nat → Nat → Nat) (V d i : Nat) : (Ring.refL f V d i).length ≤ d * V + i := by
  have h : ∀ (l acc : List Pt), (l.foldl Ring.insP acc).length = acc.length + l.length := by
    intro l
    induction l with
    | nil => intro acc; simp
    | cons x l ih =>
      intro acc
      rw [List.foldl_cons, ih, insP_len, List.length_cons]
      omega
  unfold Ring.refL
  rw [h, List.length_append, Ring.raw_length, List.length_take, List.length_nil]
  have : (d - 1) * V ≤ d * V := Nat.mul_le_mul_right _ (by omega)
  omega
/-- What the reference's ring returns. -/
def RRes (L : List Pt) (w : World) (e : Ending) (y : World) : Prop := ∃ A1 c1 A2 c2, e = .returned (.tuple #[.slice A1 L.length c1, .slice A2 L.length c2]) ∧ RG w L A1 A2 y
theorem RRes.of {L : List Pt} {w : World} {A1 A2 : Option Addr} {c1 c2 : Nat} {y : World} (h : RG w L A1 A2 y) : RRes L w (.returned (.tuple #[.slice A1 L.length c1, .slice A2 L.length c2])) y := ⟨A1, c1, A2, c2, rfl, h⟩
set_option maxHeartbeats 16000000 in
theorem rring_any (N V : Nat) (hN : N ≤ 8) (hV : V ≤ 16) (w : World) : Calls Tryz.prog 31 #[.int .i64 (N : Int), .int .i64 (V : Int)] w fun e y => RRes (Ring.pts ptAt V N) w e y := by
  have HN := Lib.hid hN
  have HV := Lib.hid hV
  go_enter Tryz.func31, Tryz.ntmps31
  go_wp2_with fail
  go_loopw [6, 7, 8] (fun pv ov dv x => ∃ (d : Nat) (L : List Pt) (A1 : Option Addr) (c1 : Nat) (A2 : Option Addr) (c2 : Nat), 1 ≤ d ∧ d ≤ N + 1 ∧ dv = .int .i64 d ∧ pv = .slice A1 L.length c1 ∧ ov = .slice A2 L.length c2 ∧ L.length ≤ c1 ∧ L.length ≤ c2 ∧ Hid (L = Ring.refL ptAt V d 0) ∧ Hid (RG w L A1 A2 x)) (fun _ _ dv _ => N + 1 - (intOf dv).toNat)
  case atStart => exact ⟨1, [], none, 0, none, 0, by omega, by omega, rfl, rfl, rfl, by simp, by simp, rfl, ⟨Row.nil _ _ _ _, Row.nil _ _ _ _, Below.refl _ _⟩⟩
  case round =>
    obtain ⟨d, L, A1, c1, A2, c2, hd1, hd, rfl, rfl, rfl, hc1, hc2, HLS, HI⟩ := hrel
    by_cases hlt : d ≤ N
    · have hlt' : (d : Int) ≤ (N : Int) := by omega
      have ED : IntKind.i64.wrap ((d : Int) + 1) = (d : Int) + 1 := IntWalk.i64_in _ (by omega)
      go_wp2_with fail
      go_loopw [6, 7, 9] (fun pv ov iv x => ∃ (i : Nat) (L : List Pt) (A1 : Option Addr) (c1 : Nat) (A2 : Option Addr) (c2 : Nat), i ≤ V ∧ iv = .int .i64 i ∧ pv = .slice A1 L.length c1 ∧ ov = .slice A2 L.length c2 ∧ L.length ≤ c1 ∧ L.length ≤ c2 ∧ Hid (L = Ring.refL ptAt V d i) ∧ Hid (RG w L A1 A2 x)) (fun _ _ iv _ => V - (intOf iv).toNat)
      case atStart => exact ⟨0, L, A1, c1, A2, c2, by omega, rfl, rfl, rfl, hc1, hc2, HLS, HI⟩
      case round =>
        clear HLS HI hc1 hc2
        obtain ⟨i, L, A1, c1, A2, c2, hi, rfl, rfl, rfl, hc1, hc2, HL0, HI⟩ := hrel
        by_cases hlt2 : i < V
        · have hlt2' : (i : Int) < (V : Int) := by omega
          have EI : IntKind.i64.wrap ((i : Int) + 1) = (i : Int) + 1 := IntWalk.i64_in _ (by omega)
          have HCP := Lib.hid (rpointAt_any d i (by omega) (by omega) wr)
          have HL200 : Hid (L.length ≤ 200) := Lib.hid (by
            have h1 := refL_len ptAt V d i
            rw [← HL0.out] at h1
            have h2 : d * V ≤ 8 * 16 := Nat.mul_le_mul (by omega) hV
            omega)
          have hst := refL_step (f := ptAt) (V := V) (d := d) (i := i) hlt2
          rw [← HL0.out] at hst
          obtain ⟨p, hp⟩ : ∃ p, p = ptAt d i := ⟨_, rfl⟩
          rw [← hp] at HCP hst
          have HLS : Hid (Ring.insP L (p, d) = Ring.refL ptAt V d (i + 1)) := Lib.hid hst.symm
          obtain ⟨f1, f2, f3, _, _⟩ := Ring.atP_facts p L
          have hia := Ring.insP_at L p d
          obtain ⟨q, hq⟩ : ∃ q, q = Ring.atP L p := ⟨_, rfl⟩
          rw [← hq] at f1 f2 f3 hia
          obtain ⟨xs, hxs⟩ : ∃ xs, xs = L.map (·.1) := ⟨_, rfl⟩
          obtain ⟨os, hos⟩ : ∃ os, os = L.map (·.2) := ⟨_, rfl⟩
          have hxl : xs.length = L.length := by rw [hxs, List.length_map]
          have hol : os.length = L.length := by rw [hos, List.length_map]
          have hxg : ∀ j, j < L.length → xs.getD j 0 = (L.getD j (0, 0)).1 := fun j hj => by
            rw [hxs, List.getD_eq_getElem?_getD, List.getD_eq_getElem?_getD, List.getElem?_map, List.getElem?_eq_getElem hj]
            rfl
          have HM1 : Hid ((Ring.insP L (p, d)).map (·.1) = xs.take q ++ p :: xs.drop q) := Lib.hid (by rw [hia, hxs, List.map_append, List.map_cons, List.map_take, List.map_drop])
          have HM2 : Hid ((Ring.insP L (p, d)).map (·.2) = os.take q ++ d :: os.drop q) := Lib.hid (by rw [hia, hos, List.map_append, List.map_cons, List.map_take, List.map_drop])
          obtain ⟨n', hn'⟩ : ∃ n, n = L.length + 1 := ⟨_, rfl⟩
          have HIL : Hid ((Ring.insP L (p, d)).length = n') := Lib.hid (by rw [insP_len, hn'])
          have HLEN : Hid ((xs.take q ++ p :: xs.drop q).length = n') := Lib.hid (by rw [List.length_append, List.length_take, List.length_cons, List.length_drop]; omega)
          have HLEN2 : Hid ((os.take q ++ d :: os.drop q).length = n') := Lib.hid (by rw [List.length_append, List.length_take, List.length_cons, List.length_drop]; omega)
          have HPL1 : Hid (q ≤ xs.length) := Lib.hid (by omega)
          have HPL2 : Hid (q ≤ os.length) := Lib.hid (by omega)
          have HCL1 : Hid (xs.length ≤ c1) := Lib.hid (by omega)
          have HCL2 : Hid (os.length ≤ c2) := Lib.hid (by omega)
          have HLN1 : Hid (xs.length ≤ 200) := Lib.hid (by have := HL200.out; omega)
          have HLN2 : Hid (os.length ≤ 200) := Lib.hid (by have := HL200.out; omega)
          have HTK1 : Hid ((xs.take q).length = q) := Lib.hid (by rw [List.length_take]; omega)
          have HTK2 : Hid ((os.take q).length = q) := Lib.hid (by rw [List.length_take]; omega)
          have HF2 : Hid (∀ j, j < q → xs.getD j 0 ≤ p) := Lib.hid (fun j hj => by rw [hxg j (by omega)]; exact f2 j hj)
          have HF3 : Hid (q < xs.length → ¬ xs.getD q 0 ≤ p) := Lib.hid (fun hj => by rw [hxg q (by omega)]; exact f3 (by omega))
          have HI' : Hid (Row .u64 wr (fun b => w.heap.size ≤ b) A1 xs ∧ Row .i64 wr (fun b => w.heap.size ≤ b) A2 os ∧ Below w.heap.size w wr) := Lib.hid ⟨by rw [hxs]; exact HI.out.p, by rw [hos]; exact HI.out.o, HI.out.below⟩
          rw [← hxl]
          have hsl : Value.slice A2 xs.length c2 = Value.slice A2 os.length c2 := by rw [hxl, hol]
          rw [hsl]
          clear hst hxs hos hxg hia f1 f2 f3 hp hq hn' hsl HL0 HI hxl hol hc1 hc2
          go_wp2_with fail
          refine HCP.out.mono ?_
          rintro e w3 ⟨rfl, hb3⟩
          have HI3 : Hid (Row .u64 w3 (fun b => w.heap.size ≤ b) A1 xs ∧ Row .i64 w3 (fun b => w.heap.size ≤ b) A2 os ∧ Below w.heap.size w w3) := Lib.hid ⟨HI'.out.1.grow hb3, HI'.out.2.1.grow hb3, HI'.out.2.2.trans (hb3.mono HI'.out.2.2.size)⟩
          clear hb3 HCP HI'
          go_wp2_with fail
          go_loopw [11] (fun jv x => ∃ j : Nat, j ≤ q ∧ jv = .int .i64 j ∧ Hid (Row .u64 x (fun b => w.heap.size ≤ b) A1 xs ∧ Row .i64 x (fun b => w.heap.size ≤ b) A2 os ∧ Below w.heap.size w x)) (fun jv _ => q - (intOf jv).toNat)
          case atStart => exact ⟨0, Nat.zero_le _, rfl, HI3⟩
          case round =>
            clear HI3
            obtain ⟨j, hj, rfl, HI4⟩ := hrel
            by_cases hjl : j < xs.length
            · have hjl' : (j : Int) < (xs.length : Int) := by omega
              obtain ⟨b, o, hA, hcell⟩ : ∃ b o, A1 = some ⟨b, o, none⟩ ∧ wr.cell? ⟨b, o + j, none⟩ = some (.int .u64 ((xs.getD j 0 : Nat) : Int)) := by
                obtain ⟨b, o, hA, _, hc⟩ := HI4.out.1.at_ (by omega)
                exact ⟨b, o, hA, hc j hjl⟩
              subst hA
              by_cases hjq : j < q
              · have hle : xs.getD j 0 ≤ p := HF2.out j hjq
                obtain ⟨y, hy⟩ : ∃ y, y = xs.getD j 0 := ⟨_, rfl⟩
                rw [← hy] at hcell hle
                clear hy
                have hle' : (y : Int) ≤ (p : Int) := by omega
                have EJ : IntKind.i64.wrap ((j : Int) + 1) = (j : Int) + 1 := IntWalk.i64_in _ (by have := HLN1.out; omega)
                go_wp2_with fail
                go_roundw
                all_goals clear EJ EI ED
                case rel => exact ⟨j + 1, by omega, by go_num, HI4⟩
                case measure => simp [intOf]; omega
              · obtain rfl : q = j := by have := HPL1.out; omega
                have hle : ¬ xs.getD q 0 ≤ p := HF3.out hjl
                obtain ⟨y, hy⟩ : ∃ y, y = xs.getD q 0 := ⟨_, rfl⟩
                rw [← hy] at hcell hle
                clear hy
                have hle' : ¬ (y : Int) ≤ (p : Int) := by omega
                go_wp2_with fail
                have HROW1 : Hid (Row .u64 wr (· < wr.heap.size) (some ⟨b, o, none⟩) xs) := Lib.hid (HI4.out.1.weak fun _ _ h => h)
                have HX := Lib.hid HI4.out.2.2
                have HSZ : Hid (w.heap.size ≤ wr.heap.size) := Lib.hid HI4.out.2.2.size
                have HTB := Lib.hid HI4.out.2.1
                clear HI4
                refine WM.wp_region_front 11 [] (fun j x y => RJ 82 wr.heap.size q j x y) (fun _ x => Row .u64 x (· < wr.heap.size) (some ⟨b, o, none⟩) xs ∧ Below wr.heap.size wr x) (fun x => Row .u64 x (· < wr.heap.size) (some ⟨b, o, none⟩) xs ∧ Below wr.heap.size wr x)
                  [(4, .mem (P4 82 .u64 wr.heap.size q xs)), (6, .mem (P6 82 .u64 p)), (7, .mem (P7 82 .u64 wr.heap.size q xs p))] (by kernel_rfl) (by kernel_rfl) (by kernel_rfl) (by kernel_rfl) (of_decide_eq_true (by kernel_rfl)) ?_ ?_ (fun _ _ _ hb => hb.low.size) (fun _ _ _ hb h => ⟨h.1.below hb.low (fun _ h _ => h), h.2.trans hb.low⟩) (fun _ _ _ _ _ hb h => ⟨h.1.below hb.low (fun _ h _ => h), h.2.trans hb.low⟩) ?_ ⟨HROW1.out.drew, (Below.refl _ _).drew⟩ (fun _ => ⟨HROW1.out.drew, (Below.refl _ _).drew⟩) ?_
                · intro p hp
                  cases hp
                · intro p hp
                  cases hp
                · intro z hz
                  simp only [List.mem_cons, List.mem_nil_iff, or_false] at hz
                  rcases hz with rfl | rfl | rfl
                  · exact fun j v x y _ hr h => ⟨hr.rows _ _ h.1, h.2⟩
                  · exact fun j v x y _ hr ⟨g, e, h⟩ => ⟨g, e, (hr.one g _ h rfl).trans h⟩
                  · exact fun j v x y hne hr h => own_keep1 h fun k _ hk => (hr.all (fun e => hne e.symm)).block k hk
                iterate 3
                  refine WM.mono_pure rfl rfl ?_
                  apply Exists.intro
                  refine ⟨fun x => ?_, ?_⟩
                  · go_simp
                    rfl
                  apply Exists.intro
                  refine ⟨by simp only [Act.put, List.setIfInBounds_toArray, List.set_cons_succ, List.set_cons_zero]; rfl, ?_⟩
                refine WM.mono_pure rfl rfl ?_
                refine ⟨.slice (some ⟨b, o, none⟩) q c1, fun x => ?_, ?_⟩
                · exact exec_slice 31 (.tmp 42) none (some (.tmp 43)) none rfl rfl rfl rfl rfl (run_sliceAt_to 31 82 Tryz.underlying31 size23o (some ⟨b, o, none⟩) xs.length c1 q (by have := HCL1.out; have := HPL1.out; omega) x)
                apply Exists.intro
                refine ⟨by simp only [Act.put, List.setIfInBounds_toArray, List.set_cons_succ, List.set_cons_zero]; rfl, ?_⟩
                refine WM.mono_mem rfl rfl (fun x hD hF => ?_) (fun v45 => ?_)
                · obtain ⟨i, h1, h2, h3, h4⟩ := info_parts info23
                  obtain ⟨v1, w1, r1, r2, r3, r4⟩ := run_append_rowc (P := Tryz.prog) (w := x) (k := .u64) 31 31 82 wr.heap.size i _ Tryz.underlying31 h1 h2 h3 rfl (.slice none 0 0) 0 [] (World.ownsRow_nil _ _ _ _) (xs.take q) (some ⟨b, o, none⟩) c1 (· < wr.heap.size) (hD.1.cut q) (by have := HPL1.out; have := HLN1.out; rw [HTK1.out]; unfold maxLen; omega) (by have := HPL1.out; have := HLN1.out; rw [HTK1.out, h4]; omega) hD.2.size
                  rw [HTK1.out] at r1 r2 r4
                  simp only [Nat.zero_add, List.nil_append] at r2
                  rw [exec_append 31 (.tmp 41) (.tmp 44) rfl rfl rfl r1]
                  exact ⟨RJ.of hD.2.size ((Below.refl _ _).grown r3 (Nat.le_refl _) (fun k hk => by cases hk)), r2, fun e => r4 rfl e⟩
                apply Exists.intro
                refine ⟨by simp only [Act.put, List.setIfInBounds_toArray, List.set_cons_succ, List.set_cons_zero]; rfl, ?_⟩
                iterate 1
                  refine WM.mono_pure rfl rfl ?_
                  apply Exists.intro
                  refine ⟨fun x => ?_, ?_⟩
                  · go_simp
                    rfl
                  apply Exists.intro
                  refine ⟨by simp only [Act.put, List.setIfInBounds_toArray, List.set_cons_succ, List.set_cons_zero]; rfl, ?_⟩
                refine WM.mono_mem rfl rfl (fun x hD hF => ?_) (fun v47 => ?_)
                · go_simp
                  exact ⟨RJ.of hD.2.size ((Below.refl _ _).alloc (Nat.le_refl _) _), _, rfl, heap_alloc_new _ _⟩
                apply Exists.intro
                refine ⟨by simp only [Act.put, List.setIfInBounds_toArray, List.set_cons_succ, List.set_cons_zero]; rfl, ?_⟩
                refine WM.mono_mem rfl rfl (fun x hD hF => ?_) (fun v48 => ?_)
                · have f4 : P4 82 .u64 wr.heap.size q xs v45 x := (hF 4 _ 45 rfl rfl (by decide)).1
                  obtain ⟨g, e6, hg⟩ : P6 82 .u64 p v47 x := (hF 6 _ 47 rfl rfl (by decide)).1
                  subst e6
                  obtain ⟨i, h1, h2, h3, h4⟩ := info_parts info23
                  obtain ⟨v1, w1, r1, r2, r3⟩ := append_kept1 (P := Tryz.prog) (e := 82) 31 31 i _ Tryz.underlying31 h1 h2 h3 rfl v45 _ f4.1 ⟨g, 0, none⟩ 1 (.int .u64 (p : Int)) rfl (one_cells hg) (by have := HPL1.out; have := HLN1.out; unfold maxLen; omega) (by have := HPL1.out; have := HLN1.out; rw [h4]; omega) hD.2.size f4.2
                  rw [exec_append 31 (.tmp 45) (.tmp 47) rfl rfl rfl r1]
                  exact ⟨r3, r2⟩
                apply Exists.intro
                refine ⟨by simp only [Act.put, List.setIfInBounds_toArray, List.set_cons_succ, List.set_cons_zero]; rfl, ?_⟩
                iterate 2
                  refine WM.mono_pure rfl rfl ?_
                  apply Exists.intro
                  refine ⟨fun x => ?_, ?_⟩
                  · go_simp
                    rfl
                  apply Exists.intro
                  refine ⟨by simp only [Act.put, List.setIfInBounds_toArray, List.set_cons_succ, List.set_cons_zero]; rfl, ?_⟩
                refine WM.mono_pure rfl rfl ?_
                refine ⟨.slice (cutA (some ⟨b, o, none⟩) c1 q) (xs.length - q) (c1 - q), fun x => ?_, ?_⟩
                · exact exec_slice 31 (.tmp 49) (some (.tmp 50)) none none rfl rfl rfl rfl rfl (run_sliceAt_from 31 82 Tryz.underlying31 size23o (some ⟨b, o, none⟩) xs.length c1 q HPL1.out x)
                apply Exists.intro
                refine ⟨by simp only [Act.put, List.setIfInBounds_toArray, List.set_cons_succ, List.set_cons_zero]; rfl, ?_⟩
                refine WM.mono_nil ?_
                intro x hD hF _
                have H7 : Hid (P7 82 .u64 wr.heap.size q xs p v48 x) := Lib.hid (hF 7).1
                refine wpList_append_rowc (k := .u64) rfl (.tmp 48) (.tmp 51) 31 rfl wr.heap.size 82 (.int .u64 0) 8 Tryz.underlying31 info23 rfl _ (q + 1) _ rfl H7.out (xs.drop q) (cutA (some ⟨b, o, none⟩) c1 q) (c1 - q) (· < wr.heap.size) (by rw [List.length_drop]; rfl) (hD.1.behind HPL1.out HCL1.out) (by have := HPL1.out; have := HLN1.out; rw [List.length_drop]; unfold maxLen; omega) (by have := HPL1.out; have := HLN1.out; rw [List.length_drop]; omega) hD.2.size ?_
                intro vN1 wN1 H5 B5
                have HBN1 : Hid (Below wr.heap.size wr wN1) := Lib.hid (hD.2.trans B5.out)
                have HON1 : Hid (wN1.ownsRow wr.heap.size 82 1 vN1 (q + 1 + (xs.drop q).length) (vals .u64 (xs.take q ++ p :: xs.drop q))) := Lib.hid (by
                  have h := H5.out
                  rw [List.append_assoc] at h
                  rw [vals_append]
                  exact h)
                clear hD hF H7 H5 B5
                go_simp
                obtain ⟨A5, c5, hv5, _, hc5, hr5⟩ := own_row1 HON1.out
                rw [show (xs.take q ++ p :: xs.drop q).length = n' from HLEN.out] at hv5 hc5
                subst hv5
                have HC5 := Lib.hid hc5
                have HSZ2 : Hid (w.heap.size ≤ wN1.heap.size) := Lib.hid (Nat.le_trans HSZ.out HBN1.out.size)
                have HR5 := Lib.hid hr5
                have HX2 : Hid (Below w.heap.size w wN1) := Lib.hid (HX.out.trans (HBN1.out.mono HX.out.size))
                have HROW2 : Hid (Row .i64 wN1 (· < wN1.heap.size) A2 os) := Lib.hid (HTB.out.grow HBN1.out |>.weak fun _ _ h => h)
                clear hc5 hr5 HON1 HX HTB HROW1
                go_wp2_with fail
                refine WM.wp_region_front 11 [] (fun j x y => RJ 3 wN1.heap.size q j x y) (fun _ x => Row .i64 x (· < wN1.heap.size) A2 os ∧ Below wN1.heap.size wN1 x) (fun x => Row .i64 x (· < wN1.heap.size) A2 os ∧ Below wN1.heap.size wN1 x)
                  [(4, .mem (P4 3 .i64 wN1.heap.size q os)), (6, .mem (P6 3 .i64 d)), (7, .mem (P7 3 .i64 wN1.heap.size q os d))] (by kernel_rfl) (by kernel_rfl) (by kernel_rfl) (by kernel_rfl) (of_decide_eq_true (by kernel_rfl)) ?_ ?_ (fun _ _ _ hb => hb.low.size) (fun _ _ _ hb h => ⟨h.1.below hb.low (fun _ h _ => h), h.2.trans hb.low⟩) (fun _ _ _ _ _ hb h => ⟨h.1.below hb.low (fun _ h _ => h), h.2.trans hb.low⟩) ?_ ⟨HROW2.out.drew, (Below.refl _ _).drew⟩ (fun _ => ⟨HROW2.out.drew, (Below.refl _ _).drew⟩) ?_
                · intro p hp
                  cases hp
                · intro p hp
                  cases hp
                · intro z hz
                  simp only [List.mem_cons, List.mem_nil_iff, or_false] at hz
                  rcases hz with rfl | rfl | rfl
                  · exact fun j v x y _ hr h => ⟨hr.rows _ _ h.1, h.2⟩
                  · exact fun j v x y _ hr ⟨g, e, h⟩ => ⟨g, e, (hr.one g _ h rfl).trans h⟩
                  · exact fun j v x y hne hr h => own_keep1 h fun k _ hk => (hr.all (fun e => hne e.symm)).block k hk
                iterate 3
                  refine WM.mono_pure rfl rfl ?_
                  apply Exists.intro
                  refine ⟨fun x => ?_, ?_⟩
                  · go_simp
                    rfl
                  apply Exists.intro
                  refine ⟨by simp only [Act.put, List.setIfInBounds_toArray, List.set_cons_succ, List.set_cons_zero]; rfl, ?_⟩
                refine WM.mono_pure rfl rfl ?_
                refine ⟨.slice A2 q c2, fun x => ?_, ?_⟩
                · exact exec_slice 24 (.tmp 54) none (some (.tmp 55)) none rfl rfl rfl rfl rfl (run_sliceAt_to 24 3 Tryz.underlying24 size3o A2 os.length c2 q (by have := HCL2.out; have := HPL2.out; omega) x)
                apply Exists.intro
                refine ⟨by simp only [Act.put, List.setIfInBounds_toArray, List.set_cons_succ, List.set_cons_zero]; rfl, ?_⟩
                refine WM.mono_mem rfl rfl (fun x hD hF => ?_) (fun v57 => ?_)
                · obtain ⟨i, h1, h2, h3, h4⟩ := info_parts info3
                  obtain ⟨v1, w1, r1, r2, r3, r4⟩ := run_append_rowc (P := Tryz.prog) (w := x) (k := .i64) 24 24 3 wN1.heap.size i _ Tryz.underlying24 h1 h2 h3 rfl (.slice none 0 0) 0 [] (World.ownsRow_nil _ _ _ _) (os.take q) A2 c2 (· < wN1.heap.size) (hD.1.cut q) (by have := HPL2.out; have := HLN2.out; rw [HTK2.out]; unfold maxLen; omega) (by have := HPL2.out; have := HLN2.out; rw [HTK2.out, h4]; omega) hD.2.size
                  rw [HTK2.out] at r1 r2 r4
                  simp only [Nat.zero_add, List.nil_append] at r2
                  rw [exec_append 24 (.tmp 53) (.tmp 56) rfl rfl rfl r1]
                  exact ⟨RJ.of hD.2.size ((Below.refl _ _).grown r3 (Nat.le_refl _) (fun k hk => by cases hk)), r2, fun e => r4 rfl e⟩
                apply Exists.intro
                refine ⟨by simp only [Act.put, List.setIfInBounds_toArray, List.set_cons_succ, List.set_cons_zero]; rfl, ?_⟩
                iterate 1
                  refine WM.mono_pure rfl rfl ?_
                  apply Exists.intro
                  refine ⟨fun x => ?_, ?_⟩
                  · go_simp
                    rfl
                  apply Exists.intro
                  refine ⟨by simp only [Act.put, List.setIfInBounds_toArray, List.set_cons_succ, List.set_cons_zero]; rfl, ?_⟩
                refine WM.mono_mem rfl rfl (fun x hD hF => ?_) (fun v59 => ?_)
                · go_simp
                  exact ⟨RJ.of hD.2.size ((Below.refl _ _).alloc (Nat.le_refl _) _), _, rfl, heap_alloc_new _ _⟩
                apply Exists.intro
                refine ⟨by simp only [Act.put, List.setIfInBounds_toArray, List.set_cons_succ, List.set_cons_zero]; rfl, ?_⟩
                refine WM.mono_mem rfl rfl (fun x hD hF => ?_) (fun v60 => ?_)
                · have f4 : P4 3 .i64 wN1.heap.size q os v57 x := (hF 4 _ 57 rfl rfl (by decide)).1
                  obtain ⟨g, e6, hg⟩ : P6 3 .i64 d v59 x := (hF 6 _ 59 rfl rfl (by decide)).1
                  subst e6
                  obtain ⟨i, h1, h2, h3, h4⟩ := info_parts info3
                  obtain ⟨v1, w1, r1, r2, r3⟩ := append_kept1 (P := Tryz.prog) (e := 3) 24 24 i _ Tryz.underlying24 h1 h2 h3 rfl v57 _ f4.1 ⟨g, 0, none⟩ 1 (.int .i64 (d : Int)) rfl (one_cells hg) (by have := HPL2.out; have := HLN2.out; unfold maxLen; omega) (by have := HPL2.out; have := HLN2.out; rw [h4]; omega) hD.2.size f4.2
                  rw [exec_append 24 (.tmp 57) (.tmp 59) rfl rfl rfl r1]
                  exact ⟨r3, r2⟩
                apply Exists.intro
                refine ⟨by simp only [Act.put, List.setIfInBounds_toArray, List.set_cons_succ, List.set_cons_zero]; rfl, ?_⟩
                iterate 2
                  refine WM.mono_pure rfl rfl ?_
                  apply Exists.intro
                  refine ⟨fun x => ?_, ?_⟩
                  · go_simp
                    rfl
                  apply Exists.intro
                  refine ⟨by simp only [Act.put, List.setIfInBounds_toArray, List.set_cons_succ, List.set_cons_zero]; rfl, ?_⟩
                refine WM.mono_pure rfl rfl ?_
                refine ⟨.slice (cutA A2 c2 q) (os.length - q) (c2 - q), fun x => ?_, ?_⟩
                · exact exec_slice 24 (.tmp 61) (some (.tmp 62)) none none rfl rfl rfl rfl rfl (run_sliceAt_from 24 3 Tryz.underlying24 size3o A2 os.length c2 q HPL2.out x)
                apply Exists.intro
                refine ⟨by simp only [Act.put, List.setIfInBounds_toArray, List.set_cons_succ, List.set_cons_zero]; rfl, ?_⟩
                refine WM.mono_nil ?_
                intro x hD hF _
                have H7 : Hid (P7 3 .i64 wN1.heap.size q os d v60 x) := Lib.hid (hF 7).1
                refine wpList_append_rowc (k := .i64) rfl (.tmp 60) (.tmp 63) 24 rfl wN1.heap.size 3 (.int .i64 0) 8 Tryz.underlying24 info3 rfl _ (q + 1) _ rfl H7.out (os.drop q) (cutA A2 c2 q) (c2 - q) (· < wN1.heap.size) (by rw [List.length_drop]; rfl) (hD.1.behind HPL2.out HCL2.out) (by have := HPL2.out; have := HLN2.out; rw [List.length_drop]; unfold maxLen; omega) (by have := HPL2.out; have := HLN2.out; rw [List.length_drop]; omega) hD.2.size ?_
                intro vN2 wN2 H5 B5
                have HBN2 : Hid (Below wN1.heap.size wN1 wN2) := Lib.hid (hD.2.trans B5.out)
                have HON2 : Hid (wN2.ownsRow wN1.heap.size 3 1 vN2 (q + 1 + (os.drop q).length) (vals .i64 (os.take q ++ d :: os.drop q))) := Lib.hid (by
                  have h := H5.out
                  rw [List.append_assoc] at h
                  rw [vals_append]
                  exact h)
                clear hD hF H7 H5 B5
                go_simp
                obtain ⟨A6, c6, hv6, _, hc6, hr6⟩ := own_row1 HON2.out
                rw [show (os.take q ++ d :: os.drop q).length = n' from HLEN2.out] at hv6 hc6
                subst hv6
                have HFIN : Hid (RG w (Ring.insP L (p, d)) A5 A6 wN2) := Lib.hid ⟨by rw [HM1.out]; exact (HR5.out.grow (HBN2.out)).weak (fun _ h _ => Nat.le_trans HSZ.out h.1), by rw [HM2.out]; exact hr6.weak (fun _ h _ => Nat.le_trans HSZ2.out h.1), HX2.out.trans (HBN2.out.mono HX2.out.size)⟩
                have HC6 := Lib.hid hc6
                clear hc6 hr6 HON2 HR5 HX2 HROW2
                go_wp2_with fail
                go_roundw
                all_goals clear EI ED
                case rel => exact ⟨i + 1, Ring.insP L (p, d), A5, c5, A6, c6, by omega, by go_num, by rw [HIL.out], by rw [HIL.out], by rw [HIL.out]; exact HC5.out, by rw [HIL.out]; exact HC6.out, HLS.out, HFIN⟩
                case measure => simp [intOf]; omega
            · have hjl' : ¬ (j : Int) < (xs.length : Int) := by omega
              obtain rfl : q = j := by have := HPL1.out; omega
              go_wp2_with fail
              have HROW1 : Hid (Row .u64 wr (· < wr.heap.size) A1 xs) := Lib.hid (HI4.out.1.weak fun _ _ h => h)
              have HX := Lib.hid HI4.out.2.2
              have HSZ : Hid (w.heap.size ≤ wr.heap.size) := Lib.hid HI4.out.2.2.size
              have HTB := Lib.hid HI4.out.2.1
              clear HI4
              refine WM.wp_region_front 11 [] (fun j x y => RJ 82 wr.heap.size q j x y) (fun _ x => Row .u64 x (· < wr.heap.size) A1 xs ∧ Below wr.heap.size wr x) (fun x => Row .u64 x (· < wr.heap.size) A1 xs ∧ Below wr.heap.size wr x)
                [(4, .mem (P4 82 .u64 wr.heap.size q xs)), (6, .mem (P6 82 .u64 p)), (7, .mem (P7 82 .u64 wr.heap.size q xs p))] (by kernel_rfl) (by kernel_rfl) (by kernel_rfl) (by kernel_rfl) (of_decide_eq_true (by kernel_rfl)) ?_ ?_ (fun _ _ _ hb => hb.low.size) (fun _ _ _ hb h => ⟨h.1.below hb.low (fun _ h _ => h), h.2.trans hb.low⟩) (fun _ _ _ _ _ hb h => ⟨h.1.below hb.low (fun _ h _ => h), h.2.trans hb.low⟩) ?_ ⟨HROW1.out.drew, (Below.refl _ _).drew⟩ (fun _ => ⟨HROW1.out.drew, (Below.refl _ _).drew⟩) ?_
              · intro p hp
                cases hp
              · intro p hp
                cases hp
              · intro z hz
                simp only [List.mem_cons, List.mem_nil_iff, or_false] at hz
                rcases hz with rfl | rfl | rfl
                · exact fun j v x y _ hr h => ⟨hr.rows _ _ h.1, h.2⟩
                · exact fun j v x y _ hr ⟨g, e, h⟩ => ⟨g, e, (hr.one g _ h rfl).trans h⟩
                · exact fun j v x y hne hr h => own_keep1 h fun k _ hk => (hr.all (fun e => hne e.symm)).block k hk
              iterate 3
                refine WM.mono_pure rfl rfl ?_
                apply Exists.intro
                refine ⟨fun x => ?_, ?_⟩
                · go_simp
                  rfl
                apply Exists.intro
                refine ⟨by simp only [Act.put, List.setIfInBounds_toArray, List.set_cons_succ, List.set_cons_zero]; rfl, ?_⟩
              refine WM.mono_pure rfl rfl ?_
              refine ⟨.slice A1 q c1, fun x => ?_, ?_⟩
              · exact exec_slice 31 (.tmp 42) none (some (.tmp 43)) none rfl rfl rfl rfl rfl (run_sliceAt_to 31 82 Tryz.underlying31 size23o A1 xs.length c1 q (by have := HCL1.out; have := HPL1.out; omega) x)
              apply Exists.intro
              refine ⟨by simp only [Act.put, List.setIfInBounds_toArray, List.set_cons_succ, List.set_cons_zero]; rfl, ?_⟩
              refine WM.mono_mem rfl rfl (fun x hD hF => ?_) (fun v45 => ?_)
              · obtain ⟨i, h1, h2, h3, h4⟩ := info_parts info23
                obtain ⟨v1, w1, r1, r2, r3, r4⟩ := run_append_rowc (P := Tryz.prog) (w := x) (k := .u64) 31 31 82 wr.heap.size i _ Tryz.underlying31 h1 h2 h3 rfl (.slice none 0 0) 0 [] (World.ownsRow_nil _ _ _ _) (xs.take q) A1 c1 (· < wr.heap.size) (hD.1.cut q) (by have := HPL1.out; have := HLN1.out; rw [HTK1.out]; unfold maxLen; omega) (by have := HPL1.out; have := HLN1.out; rw [HTK1.out, h4]; omega) hD.2.size
                rw [HTK1.out] at r1 r2 r4
                simp only [Nat.zero_add, List.nil_append] at r2
                rw [exec_append 31 (.tmp 41) (.tmp 44) rfl rfl rfl r1]
                exact ⟨RJ.of hD.2.size ((Below.refl _ _).grown r3 (Nat.le_refl _) (fun k hk => by cases hk)), r2, fun e => r4 rfl e⟩
              apply Exists.intro
              refine ⟨by simp only [Act.put, List.setIfInBounds_toArray, List.set_cons_succ, List.set_cons_zero]; rfl, ?_⟩
              iterate 1
                refine WM.mono_pure rfl rfl ?_
                apply Exists.intro
                refine ⟨fun x => ?_, ?_⟩
                · go_simp
                  rfl
                apply Exists.intro
                refine ⟨by simp only [Act.put, List.setIfInBounds_toArray, List.set_cons_succ, List.set_cons_zero]; rfl, ?_⟩
              refine WM.mono_mem rfl rfl (fun x hD hF => ?_) (fun v47 => ?_)
              · go_simp
                exact ⟨RJ.of hD.2.size ((Below.refl _ _).alloc (Nat.le_refl _) _), _, rfl, heap_alloc_new _ _⟩
              apply Exists.intro
              refine ⟨by simp only [Act.put, List.setIfInBounds_toArray, List.set_cons_succ, List.set_cons_zero]; rfl, ?_⟩
              refine WM.mono_mem rfl rfl (fun x hD hF => ?_) (fun v48 => ?_)
              · have f4 : P4 82 .u64 wr.heap.size q xs v45 x := (hF 4 _ 45 rfl rfl (by decide)).1
                obtain ⟨g, e6, hg⟩ : P6 82 .u64 p v47 x := (hF 6 _ 47 rfl rfl (by decide)).1
                subst e6
                obtain ⟨i, h1, h2, h3, h4⟩ := info_parts info23
                obtain ⟨v1, w1, r1, r2, r3⟩ := append_kept1 (P := Tryz.prog) (e := 82) 31 31 i _ Tryz.underlying31 h1 h2 h3 rfl v45 _ f4.1 ⟨g, 0, none⟩ 1 (.int .u64 (p : Int)) rfl (one_cells hg) (by have := HPL1.out; have := HLN1.out; unfold maxLen; omega) (by have := HPL1.out; have := HLN1.out; rw [h4]; omega) hD.2.size f4.2
                rw [exec_append 31 (.tmp 45) (.tmp 47) rfl rfl rfl r1]
                exact ⟨r3, r2⟩
              apply Exists.intro
              refine ⟨by simp only [Act.put, List.setIfInBounds_toArray, List.set_cons_succ, List.set_cons_zero]; rfl, ?_⟩
              iterate 2
                refine WM.mono_pure rfl rfl ?_
                apply Exists.intro
                refine ⟨fun x => ?_, ?_⟩
                · go_simp
                  rfl
                apply Exists.intro
                refine ⟨by simp only [Act.put, List.setIfInBounds_toArray, List.set_cons_succ, List.set_cons_zero]; rfl, ?_⟩
              refine WM.mono_pure rfl rfl ?_
              refine ⟨.slice (cutA A1 c1 q) (xs.length - q) (c1 - q), fun x => ?_, ?_⟩
              · exact exec_slice 31 (.tmp 49) (some (.tmp 50)) none none rfl rfl rfl rfl rfl (run_sliceAt_from 31 82 Tryz.underlying31 size23o A1 xs.length c1 q HPL1.out x)
              apply Exists.intro
              refine ⟨by simp only [Act.put, List.setIfInBounds_toArray, List.set_cons_succ, List.set_cons_zero]; rfl, ?_⟩
              refine WM.mono_nil ?_
              intro x hD hF _
              have H7 : Hid (P7 82 .u64 wr.heap.size q xs p v48 x) := Lib.hid (hF 7).1
              refine wpList_append_rowc (k := .u64) rfl (.tmp 48) (.tmp 51) 31 rfl wr.heap.size 82 (.int .u64 0) 8 Tryz.underlying31 info23 rfl _ (q + 1) _ rfl H7.out (xs.drop q) (cutA A1 c1 q) (c1 - q) (· < wr.heap.size) (by rw [List.length_drop]; rfl) (hD.1.behind HPL1.out HCL1.out) (by have := HPL1.out; have := HLN1.out; rw [List.length_drop]; unfold maxLen; omega) (by have := HPL1.out; have := HLN1.out; rw [List.length_drop]; omega) hD.2.size ?_
              intro vN1 wN1 H5 B5
              have HBN1 : Hid (Below wr.heap.size wr wN1) := Lib.hid (hD.2.trans B5.out)
              have HON1 : Hid (wN1.ownsRow wr.heap.size 82 1 vN1 (q + 1 + (xs.drop q).length) (vals .u64 (xs.take q ++ p :: xs.drop q))) := Lib.hid (by
                have h := H5.out
                rw [List.append_assoc] at h
                rw [vals_append]
                exact h)
              clear hD hF H7 H5 B5
              go_simp
              obtain ⟨A5, c5, hv5, _, hc5, hr5⟩ := own_row1 HON1.out
              rw [show (xs.take q ++ p :: xs.drop q).length = n' from HLEN.out] at hv5 hc5
              subst hv5
              have HC5 := Lib.hid hc5
              have HSZ2 : Hid (w.heap.size ≤ wN1.heap.size) := Lib.hid (Nat.le_trans HSZ.out HBN1.out.size)
              have HR5 := Lib.hid hr5
              have HX2 : Hid (Below w.heap.size w wN1) := Lib.hid (HX.out.trans (HBN1.out.mono HX.out.size))
              have HROW2 : Hid (Row .i64 wN1 (· < wN1.heap.size) A2 os) := Lib.hid (HTB.out.grow HBN1.out |>.weak fun _ _ h => h)
              clear hc5 hr5 HON1 HX HTB HROW1
              go_wp2_with fail
              refine WM.wp_region_front 11 [] (fun j x y => RJ 3 wN1.heap.size q j x y) (fun _ x => Row .i64 x (· < wN1.heap.size) A2 os ∧ Below wN1.heap.size wN1 x) (fun x => Row .i64 x (· < wN1.heap.size) A2 os ∧ Below wN1.heap.size wN1 x)
                [(4, .mem (P4 3 .i64 wN1.heap.size q os)), (6, .mem (P6 3 .i64 d)), (7, .mem (P7 3 .i64 wN1.heap.size q os d))] (by kernel_rfl) (by kernel_rfl) (by kernel_rfl) (by kernel_rfl) (of_decide_eq_true (by kernel_rfl)) ?_ ?_ (fun _ _ _ hb => hb.low.size) (fun _ _ _ hb h => ⟨h.1.below hb.low (fun _ h _ => h), h.2.trans hb.low⟩) (fun _ _ _ _ _ hb h => ⟨h.1.below hb.low (fun _ h _ => h), h.2.trans hb.low⟩) ?_ ⟨HROW2.out.drew, (Below.refl _ _).drew⟩ (fun _ => ⟨HROW2.out.drew, (Below.refl _ _).drew⟩) ?_
              · intro p hp
                cases hp
              · intro p hp
                cases hp
              · intro z hz
                simp only [List.mem_cons, List.mem_nil_iff, or_false] at hz
                rcases hz with rfl | rfl | rfl
                · exact fun j v x y _ hr h => ⟨hr.rows _ _ h.1, h.2⟩
                · exact fun j v x y _ hr ⟨g, e, h⟩ => ⟨g, e, (hr.one g _ h rfl).trans h⟩
                · exact fun j v x y hne hr h => own_keep1 h fun k _ hk => (hr.all (fun e => hne e.symm)).block k hk
              iterate 3
                refine WM.mono_pure rfl rfl ?_
                apply Exists.intro
                refine ⟨fun x => ?_, ?_⟩
                · go_simp
                  rfl
                apply Exists.intro
                refine ⟨by simp only [Act.put, List.setIfInBounds_toArray, List.set_cons_succ, List.set_cons_zero]; rfl, ?_⟩
              refine WM.mono_pure rfl rfl ?_
              refine ⟨.slice A2 q c2, fun x => ?_, ?_⟩
              · exact exec_slice 24 (.tmp 54) none (some (.tmp 55)) none rfl rfl rfl rfl rfl (run_sliceAt_to 24 3 Tryz.underlying24 size3o A2 os.length c2 q (by have := HCL2.out; have := HPL2.out; omega) x)
              apply Exists.intro
              refine ⟨by simp only [Act.put, List.setIfInBounds_toArray, List.set_cons_succ, List.set_cons_zero]; rfl, ?_⟩
              refine WM.mono_mem rfl rfl (fun x hD hF => ?_) (fun v57 => ?_)
              · obtain ⟨i, h1, h2, h3, h4⟩ := info_parts info3
                obtain ⟨v1, w1, r1, r2, r3, r4⟩ := run_append_rowc (P := Tryz.prog) (w := x) (k := .i64) 24 24 3 wN1.heap.size i _ Tryz.underlying24 h1 h2 h3 rfl (.slice none 0 0) 0 [] (World.ownsRow_nil _ _ _ _) (os.take q) A2 c2 (· < wN1.heap.size) (hD.1.cut q) (by have := HPL2.out; have := HLN2.out; rw [HTK2.out]; unfold maxLen; omega) (by have := HPL2.out; have := HLN2.out; rw [HTK2.out, h4]; omega) hD.2.size
                rw [HTK2.out] at r1 r2 r4
                simp only [Nat.zero_add, List.nil_append] at r2
                rw [exec_append 24 (.tmp 53) (.tmp 56) rfl rfl rfl r1]
                exact ⟨RJ.of hD.2.size ((Below.refl _ _).grown r3 (Nat.le_refl _) (fun k hk => by cases hk)), r2, fun e => r4 rfl e⟩
              apply Exists.intro
              refine ⟨by simp only [Act.put, List.setIfInBounds_toArray, List.set_cons_succ, List.set_cons_zero]; rfl, ?_⟩
              iterate 1
                refine WM.mono_pure rfl rfl ?_
                apply Exists.intro
                refine ⟨fun x => ?_, ?_⟩
                · go_simp
                  rfl
                apply Exists.intro
                refine ⟨by simp only [Act.put, List.setIfInBounds_toArray, List.set_cons_succ, List.set_cons_zero]; rfl, ?_⟩
              refine WM.mono_mem rfl rfl (fun x hD hF => ?_) (fun v59 => ?_)
              · go_simp
                exact ⟨RJ.of hD.2.size ((Below.refl _ _).alloc (Nat.le_refl _) _), _, rfl, heap_alloc_new _ _⟩
              apply Exists.intro
              refine ⟨by simp only [Act.put, List.setIfInBounds_toArray, List.set_cons_succ, List.set_cons_zero]; rfl, ?_⟩
              refine WM.mono_mem rfl rfl (fun x hD hF => ?_) (fun v60 => ?_)
              · have f4 : P4 3 .i64 wN1.heap.size q os v57 x := (hF 4 _ 57 rfl rfl (by decide)).1
                obtain ⟨g, e6, hg⟩ : P6 3 .i64 d v59 x := (hF 6 _ 59 rfl rfl (by decide)).1
                subst e6
                obtain ⟨i, h1, h2, h3, h4⟩ := info_parts info3
                obtain ⟨v1, w1, r1, r2, r3⟩ := append_kept1 (P := Tryz.prog) (e := 3) 24 24 i _ Tryz.underlying24 h1 h2 h3 rfl v57 _ f4.1 ⟨g, 0, none⟩ 1 (.int .i64 (d : Int)) rfl (one_cells hg) (by have := HPL2.out; have := HLN2.out; unfold maxLen; omega) (by have := HPL2.out; have := HLN2.out; rw [h4]; omega) hD.2.size f4.2
                rw [exec_append 24 (.tmp 57) (.tmp 59) rfl rfl rfl r1]
                exact ⟨r3, r2⟩
              apply Exists.intro
              refine ⟨by simp only [Act.put, List.setIfInBounds_toArray, List.set_cons_succ, List.set_cons_zero]; rfl, ?_⟩
              iterate 2
                refine WM.mono_pure rfl rfl ?_
                apply Exists.intro
                refine ⟨fun x => ?_, ?_⟩
                · go_simp
                  rfl
                apply Exists.intro
                refine ⟨by simp only [Act.put, List.setIfInBounds_toArray, List.set_cons_succ, List.set_cons_zero]; rfl, ?_⟩
              refine WM.mono_pure rfl rfl ?_
              refine ⟨.slice (cutA A2 c2 q) (os.length - q) (c2 - q), fun x => ?_, ?_⟩
              · exact exec_slice 24 (.tmp 61) (some (.tmp 62)) none none rfl rfl rfl rfl rfl (run_sliceAt_from 24 3 Tryz.underlying24 size3o A2 os.length c2 q HPL2.out x)
              apply Exists.intro
              refine ⟨by simp only [Act.put, List.setIfInBounds_toArray, List.set_cons_succ, List.set_cons_zero]; rfl, ?_⟩
              refine WM.mono_nil ?_
              intro x hD hF _
              have H7 : Hid (P7 3 .i64 wN1.heap.size q os d v60 x) := Lib.hid (hF 7).1
              refine wpList_append_rowc (k := .i64) rfl (.tmp 60) (.tmp 63) 24 rfl wN1.heap.size 3 (.int .i64 0) 8 Tryz.underlying24 info3 rfl _ (q + 1) _ rfl H7.out (os.drop q) (cutA A2 c2 q) (c2 - q) (· < wN1.heap.size) (by rw [List.length_drop]; rfl) (hD.1.behind HPL2.out HCL2.out) (by have := HPL2.out; have := HLN2.out; rw [List.length_drop]; unfold maxLen; omega) (by have := HPL2.out; have := HLN2.out; rw [List.length_drop]; omega) hD.2.size ?_
              intro vN2 wN2 H5 B5
              have HBN2 : Hid (Below wN1.heap.size wN1 wN2) := Lib.hid (hD.2.trans B5.out)
              have HON2 : Hid (wN2.ownsRow wN1.heap.size 3 1 vN2 (q + 1 + (os.drop q).length) (vals .i64 (os.take q ++ d :: os.drop q))) := Lib.hid (by
                have h := H5.out
                rw [List.append_assoc] at h
                rw [vals_append]
                exact h)
              clear hD hF H7 H5 B5
              go_simp
              obtain ⟨A6, c6, hv6, _, hc6, hr6⟩ := own_row1 HON2.out
              rw [show (os.take q ++ d :: os.drop q).length = n' from HLEN2.out] at hv6 hc6
              subst hv6
              have HFIN : Hid (RG w (Ring.insP L (p, d)) A5 A6 wN2) := Lib.hid ⟨by rw [HM1.out]; exact (HR5.out.grow (HBN2.out)).weak (fun _ h _ => Nat.le_trans HSZ.out h.1), by rw [HM2.out]; exact hr6.weak (fun _ h _ => Nat.le_trans HSZ2.out h.1), HX2.out.trans (HBN2.out.mono HX2.out.size)⟩
              have HC6 := Lib.hid hc6
              clear hc6 hr6 HON2 HR5 HX2 HROW2
              go_wp2_with fail
              go_roundw
              all_goals clear EI ED
              case rel => exact ⟨i + 1, Ring.insP L (p, d), A5, c5, A6, c6, by omega, by go_num, by rw [HIL.out], by rw [HIL.out], by rw [HIL.out]; exact HC5.out, by rw [HIL.out]; exact HC6.out, HLS.out, HFIN⟩
              case measure => simp [intOf]; omega
        · obtain rfl : i = V := by omega
          have HL1 : Hid (L = Ring.refL ptAt i (d + 1) 0) := Lib.hid (by rw [HL0.out]; exact refL_turn hd1)
          go_wp2_with fail
          go_roundw
          all_goals clear ED
          case rel => exact ⟨d + 1, L, A1, c1, A2, c2, by omega, by omega, by go_num, rfl, rfl, hc1, hc2, HL1, HI⟩
          case measure => simp [intOf]; omega
    · obtain rfl : d = N + 1 := by omega
      have hlt' : ¬ ((N + 1 : Nat) : Int) ≤ (N : Int) := by omega
      have HE : Hid (L = Ring.pts ptAt V N) := Lib.hid (by rw [HLS.out]; exact refL_end)
      obtain rfl := HE.out
      clear HE HLS
      go_wp2_with fail
      go_ret2
      exact RRes.of (A1 := A1) (c1 := c1) (A2 := A2) (c2 := c2) HI.out
end Go.Proofs.YtdbhboglccggdaaGreatDoor
set_option maxRecDepth 100000
set_option linter.unusedVariables false
set_option linter.unusedSimpArgs false
namespace Go.Proofs.YtdbhboglccggdaaGreatDoor
open Go.RowKit
namespace Ring
theorem step_full {m d : Nat} {acc : List Nat} (h : acc.length = m) : stepN m acc d = acc := by unfold stepN; rw [if_pos h]
theorem step_in {m d : Nat} {acc : List Nat} (h : d ∈ acc) : stepN m acc d = acc := by
  unfold stepN
  rw [if_pos h, ite_self]
theorem step_new {m d : Nat} {acc : List Nat} (h : acc.length ≠ m) (h2 : ¬ d ∈ acc) : stepN m acc d = acc ++ [d] := by unfold stepN; rw [if_neg h, if_neg h2]
theorem step_mem {m d y : Nat} {acc : List Nat} (h : y ∈ acc) : y ∈ stepN m acc d := by
  unfold stepN
  split
  · exact h
  · split
    · exact h
    · exact List.mem_append_left _ h
theorem step_len {m d : Nat} {acc : List Nat} (h : acc.length ≤ m) : (stepN m acc d).length ≤ m := by
  unfold stepN
  split
  · exact h
  · split
    · exact h
    · rw [List.length_append, List.length_singleton]; omega
theorem foldN_mem {m y : Nat} : ∀ (l acc : List Nat), y ∈ acc → y ∈ l.foldl (stepN m) acc
  | [], _, h => h
  | x :: l, acc, h => foldN_mem l _ (step_mem h)
theorem foldN_len {m : Nat} : ∀ (l acc : List Nat), acc.length ≤ m → (l.foldl (stepN m) acc).length ≤ m
  | [], _, h => h
  | x :: l, acc, h => foldN_len l _ (step_len h)
theorem foldN_all {m y : Nat} : ∀ (l acc : List Nat), y ∈ l → y ∈ l.foldl (stepN m) acc ∨ (l.foldl (stepN m) acc).length = m
  | [], _, h => by cases h
  | x :: l, acc, h => by
    rw [List.foldl_cons]
    rcases List.mem_cons.1 h with rfl | h
    · by_cases hf : acc.length = m
      · rw [step_full hf, upTo_full hf]
        exact .inr hf
      · refine .inl (foldN_mem l _ ?_)
        by_cases hi : y ∈ acc
        · exact step_mem hi
        · rw [step_new hf hi]
          exact List.mem_append_right _ (List.mem_singleton.2 rfl)
    · exact foldN_all l _ h
theorem foldN_skip {m base : Nat} : ∀ (M : List Pt) (acc : List Nat), (∀ p ∈ M, base ≤ p.1 → p.2 ∈ acc ∨ acc.length = m) → (M.map (·.2)).foldl (stepN m) acc = ((M.filter fun p => !decide (base ≤ p.1)).map (·.2)).foldl (stepN m) acc
  | [], _, _ => rfl
  | x :: M, acc, h => by
    rw [List.map_cons, List.foldl_cons]
    by_cases hx : base ≤ x.1
    · have e : stepN m acc x.2 = acc := by
        rcases h x List.mem_cons_self hx with h | h
        · exact step_in h
        · exact step_full h
      rw [e, List.filter_cons_of_neg (by simp [hx])]
      exact foldN_skip M acc fun p hp => h p (List.mem_cons_of_mem _ hp)
    · rw [List.filter_cons_of_pos (by simp [hx]), List.map_cons, List.foldl_cons]
      refine foldN_skip M _ fun p hp hb => ?_
      rcases h p (List.mem_cons_of_mem _ hp) hb with h | h
      · exact .inl (step_mem h)
      · exact .inr (by rw [step_full h]; exact h)
def acc0 (base m : Nat) (L : List Pt) (i : Nat) : List Nat := (((L.take i).filter fun p => decide (base ≤ p.1)).map (·.2)).foldl (stepN m) []
def acc1 (base m : Nat) (L : List Pt) (i : Nat) : List Nat := ((L.take i).map (·.2)).foldl (stepN m) (acc0 base m L L.length)
/-- What the reference has gathered in turn t, ahead of the point i. -/
def accL (base m : Nat) (L : List Pt) (t i : Nat) : List Nat := if t = 0 then acc0 base m L i else if t = 1 then acc1 base m L i else acc1 base m L L.length
theorem acc1_end (base m : Nat) (L : List Pt) : acc1 base m L L.length = listOf L base m := by
  unfold acc1 acc0 listOf upTo turn
  rw [List.take_length, List.map_append, List.foldl_append]
  refine foldN_skip L _ fun p hp hb => ?_
  exact foldN_all _ _ (List.mem_map.2 ⟨p, List.mem_filter.2 ⟨hp, decide_eq_true hb⟩, rfl⟩)
theorem accL_start (base m : Nat) (L : List Pt) : accL base m L 0 0 = [] := rfl
theorem accL_end (base m : Nat) (L : List Pt) : accL base m L 2 0 = listOf L base m := acc1_end base m L
theorem accL_turn (base m : Nat) (L : List Pt) (t : Nat) (h : t < 2) : accL base m L t L.length = accL base m L (t + 1) 0 := by
  rcases (by omega : t = 0 ∨ t = 1) with rfl | rfl
  · rfl
  · rfl
theorem take_getD (L : List Pt) (i : Nat) (h : i < L.length) : L.take (i + 1) = L.take i ++ [L.getD i (0, 0)] := by
  rw [← List.take_append_getElem h, List.getD_eq_getElem?_getD, List.getElem?_eq_getElem h]
  rfl
theorem acc0_skip (base m : Nat) (L : List Pt) (i : Nat) (h : i < L.length) (hb : ¬ base ≤ (L.getD i (0, 0)).1) : accL base m L 0 (i + 1) = accL base m L 0 i := by
  show acc0 base m L (i + 1) = acc0 base m L i
  unfold acc0
  rw [take_getD L i h, List.filter_append, List.filter_cons_of_neg (by simpa using hb), List.filter_nil, List.append_nil]
theorem accL_step (base m : Nat) (L : List Pt) (t i : Nat) (ht : t < 2) (h : i < L.length) (hb : t = 0 → base ≤ (L.getD i (0, 0)).1) : accL base m L t (i + 1) = stepN m (accL base m L t i) (L.getD i (0, 0)).2 := by
  rcases (by omega : t = 0 ∨ t = 1) with rfl | rfl
  · show acc0 base m L (i + 1) = stepN m (acc0 base m L i) _
    unfold acc0
    rw [take_getD L i h, List.filter_append, List.filter_cons_of_pos (by simpa using hb rfl), List.filter_nil, List.map_append, List.foldl_append]
    rfl
  · show acc1 base m L (i + 1) = stepN m (acc1 base m L i) _
    unfold acc1
    rw [take_getD L i h, List.map_append, List.foldl_append]
    rfl
theorem accL_len (base m : Nat) (L : List Pt) (t i : Nat) : (accL base m L t i).length ≤ m := by
  have h0 : ∀ j, (acc0 base m L j).length ≤ m := fun j => foldN_len _ _ (Nat.zero_le _)
  have h1 : ∀ j, (acc1 base m L j).length ≤ m := fun j => foldN_len _ _ (h0 _)
  unfold accL
  split
  · exact h0 _
  · split
    · exact h1 _
    · exact h1 _
end Ring
/-- What the reference's list returns. -/
def LRes (ls : List Nat) (w : World) (e : Ending) (y : World) : Prop := ∃ B c, e = .returned (.slice B ls.length c) ∧ Row .i64 y (fun b => w.heap.size ≤ b) B ls ∧ Below w.heap.size w y
theorem LRes.of {ls : List Nat} {w : World} {B : Option Addr} {c : Nat} {y : World} (h : Row .i64 y (fun b => w.heap.size ≤ b) B ls) (hb : Below w.heap.size w y) : LRes ls w (.returned (.slice B ls.length c)) y := ⟨B, c, rfl, h, hb⟩
set_option maxHeartbeats 16000000 in
theorem rlist_any (L : List Pt) (A1 A2 : Option Addr) (c1 c2 m k : Nat) (hm : m ≤ 8) (hL : L.length ≤ 200) (hk : k < 8) (w : World) (h1 : Row .u64 w (fun _ => True) A1 (L.map (·.1))) (h2 : Row .i64 w (fun _ => True) A2 (L.map (·.2))) :
    Calls Tryz.prog 55 #[.slice A1 L.length c1, .slice A2 L.length c2, .int .i64 (m : Int), .int .i64 (k : Int)] w fun e y => LRes (Ring.listOf L (baseK k) m) w e y := by
  have HM := Lib.hid hm
  have HLL := Lib.hid hL
  have HR1 := Lib.hid h1
  have HR2 := Lib.hid h2
  clear h1 h2
  have EW : IntKind.u64.wrap (k : Int) = (k : Int) := by simp [IntKind.wrap, IntKind.bits, IntKind.signed]; omega
  have EM : IntKind.u64.wrap (2305843009213693952 * (k : Int)) = ((baseK k : Nat) : Int) := by
    unfold baseK
    simp [IntKind.wrap, IntKind.bits, IntKind.signed]
    omega
  go_enter Tryz.func55, Tryz.ntmps55
  go_wp2_with fail
  go_loopw [10, 11] (fun v tv x => ∃ (t : Nat) (acc : List Nat), t ≤ 2 ∧ tv = .int .i64 t ∧ Hid (acc = Ring.accL (baseK k) m L t 0) ∧ Hid (x.ownsRow w.heap.size 3 1 v acc.length (vals .i64 acc)) ∧ Hid (Below w.heap.size w x)) (fun _ tv _ => 2 - (intOf tv).toNat)
  case atStart => exact ⟨0, [], by omega, rfl, (Ring.accL_start _ _ _).symm, World.ownsRow_nil _ _ _ _, Below.refl _ _⟩
  case round =>
    clear EW EM
    obtain ⟨t, acc, ht2, rfl, HA, HO, HB⟩ := hrel
    by_cases hlt : t < 2
    · have hlt' : (t : Int) < 2 := by omega
      have ET : IntKind.i64.wrap ((t : Int) + 1) = (t : Int) + 1 := IntWalk.i64_in _ (by omega)
      go_wp2_with fail
      go_loopw [10, 12] (fun v iv x => ∃ (i : Nat) (acc : List Nat), i ≤ L.length ∧ iv = .int .i64 i ∧ Hid (acc = Ring.accL (baseK k) m L t i) ∧ Hid (x.ownsRow w.heap.size 3 1 v acc.length (vals .i64 acc)) ∧ Hid (Below w.heap.size w x)) (fun _ iv _ => L.length - (intOf iv).toNat)
      case atStart => exact ⟨0, acc, by omega, rfl, HA, HO, HB⟩
      case round =>
        clear HA HO HB
        obtain ⟨i, acc, hi, rfl, HA, HO, HB⟩ := hrel
        by_cases hil : i < L.length
        · have hil' : (i : Int) < (L.length : Int) := by omega
          have EI : IntKind.i64.wrap ((i : Int) + 1) = (i : Int) + 1 := IntWalk.i64_in _ (by omega)
          have HAL : Hid (acc.length ≤ m ∧ m ≤ 8) := Lib.hid ⟨by rw [HA.out]; exact Ring.accL_len _ _ _ _ _, HM.out⟩
          obtain ⟨b1, o1, hA1, hc1⟩ : ∃ b o, A1 = some ⟨b, o, none⟩ ∧ wr.cell? ⟨b, o + i, none⟩ = some (.int .u64 (((L.getD i (0, 0)).1 : Nat) : Int)) := by
            obtain ⟨b, o, hA, _, hc⟩ := (HR1.out.below HB.out (fun _ _ h => h)).at_ (by rw [List.length_map]; omega)
            refine ⟨b, o, hA, ?_⟩
            rw [hc i (by rw [List.length_map]; omega), List.getD_eq_getElem?_getD, List.getD_eq_getElem?_getD, List.getElem?_map, List.getElem?_eq_getElem hil]
            rfl
          obtain ⟨b2, o2, hA2, hc2⟩ : ∃ b o, A2 = some ⟨b, o, none⟩ ∧ wr.cell? ⟨b, o + i, none⟩ = some (.int .i64 (((L.getD i (0, 0)).2 : Nat) : Int)) := by
            obtain ⟨b, o, hA, _, hc⟩ := (HR2.out.below HB.out (fun _ _ h => h)).at_ (by rw [List.length_map]; omega)
            refine ⟨b, o, hA, ?_⟩
            rw [hc i (by rw [List.length_map]; omega), List.getD_eq_getElem?_getD, List.getD_eq_getElem?_getD, List.getElem?_map, List.getElem?_eq_getElem hil]
            rfl
          subst hA1 hA2
          have HST0 : Hid ((t = 0 → baseK k ≤ (L.getD i (0, 0)).1) → Ring.stepN m acc (L.getD i (0, 0)).2 = Ring.accL (baseK k) m L t (i + 1)) := Lib.hid (fun h => by rw [HA.out]; exact (Ring.accL_step _ _ _ _ _ hlt hil h).symm)
          have HSK : Hid (t = 0 → ¬ baseK k ≤ (L.getD i (0, 0)).1 → acc = Ring.accL (baseK k) m L t (i + 1)) := Lib.hid (fun h0 h => by rw [HA.out]; subst h0; exact (Ring.acc0_skip _ _ _ _ hil h).symm)
          obtain ⟨p, hp⟩ : ∃ p, p = (L.getD i (0, 0)).1 := ⟨_, rfl⟩
          obtain ⟨d, hd⟩ : ∃ d, d = (L.getD i (0, 0)).2 := ⟨_, rfl⟩
          rw [← hp] at hc1 HST0 HSK
          rw [← hd] at hc2 HST0
          clear hp hd HA
          obtain ⟨A, c, hv, _, hcap, hrow⟩ := own_row1 HO.out
          subst hv
          have HC := Lib.hid (in_any acc c A (d : Int) wr hrow (by have := HAL.out; omega))
          clear hcap hrow
          have hBK : ∃ B, B = baseK k := ⟨_, rfl⟩
          by_cases ht : t = 0
          · have ht' : ((t : Int) == 0) = true := by rw [beq_iff_eq]; omega
            have ht2' : ((0 : Int) == (t : Int)) = true := by rw [beq_iff_eq]; omega
            by_cases hpb : baseK k ≤ p
            · have hpb' : ¬ (p : Int) < (baseK k : Int) := by omega
              have HST := Lib.hid (HST0.out (fun _ => hpb))
              clear HST0 HSK hpb hBK ht
              by_cases hfull : m ≤ acc.length
              · have hfull' : (m : Int) ≤ (acc.length : Int) := by omega
                have HS : Hid (acc = Ring.accL (baseK k) m L t (i + 1)) := Lib.hid (by rw [← HST.out]; exact (Ring.step_full (by have := HAL.out; omega)).symm)
                clear HST HC
                go_wp2_with fail
                go_roundw
                all_goals clear EI ET
                case rel => exact ⟨i + 1, acc, by omega, by go_num, HS, HO, HB⟩
                case measure => simp [intOf]; omega
              · have hfull' : ¬ (m : Int) ≤ (acc.length : Int) := by omega
                cases hin : hasI acc (d : Int) with
                | true =>
                  have HS : Hid (acc = Ring.accL (baseK k) m L t (i + 1)) := Lib.hid (by rw [← HST.out]; rw [hasI_nat, decide_eq_true_eq] at hin; exact (Ring.step_in hin).symm)
                  rw [hin] at HC
                  clear HST hin
                  go_wp2_with fail
                  refine HC.out.mono ?_
                  rintro e w1 ⟨rfl, rfl⟩
                  clear HC
                  go_wp2_with fail
                  go_roundw
                  all_goals clear EI ET
                  case rel => exact ⟨i + 1, acc, by omega, by go_num, HS, HO, HB⟩
                  case measure => simp [intOf]; omega
                | false =>
                  have HS : Hid (acc ++ [d] = Ring.accL (baseK k) m L t (i + 1)) := Lib.hid (by rw [← HST.out]; rw [hasI_nat, decide_eq_false_iff_not] at hin; exact (Ring.step_new (by omega) hin).symm)
                  rw [hin] at HC
                  clear HST hin
                  go_wp2_with fail
                  refine HC.out.mono ?_
                  rintro e w1 ⟨rfl, rfl⟩
                  clear HC
                  go_wp2_with (refine wpList_append_one rfl (.tmp 50) (.tmp 55) 24 rfl w.heap.size 3 (.int .i64 0) 8 Tryz.underlying24 info3 rfl _ acc.length (vals .i64 acc) rfl HO.out (.int .i64 (d : Int)) 3 rfl rfl (by have := HAL.out; unfold maxLen; omega) (by have := HAL.out; omega) HB.out.size ?_; intro v' w5 hown hbel)
                  have HB5 := Lib.hid (HB.out.trans hbel.out)
                  have HO5 : Hid (w5.ownsRow w.heap.size 3 1 v' (acc ++ [d]).length (vals .i64 (acc ++ [d]))) := Lib.hid (by rw [vals_append, List.length_append]; exact hown.out)
                  clear hown hbel HO HB
                  go_roundw
                  all_goals clear EI ET
                  case rel => exact ⟨i + 1, acc ++ [d], by omega, by go_num, HS, HO5, HB5⟩
                  case measure => simp [intOf]; omega
            · have hpb' : (p : Int) < (baseK k : Int) := by omega
              have HS := Lib.hid (HSK.out ht hpb)
              clear HST0 HSK hpb hBK HC ht
              go_wp2_with fail
              go_roundw
              all_goals clear EI ET
              case rel => exact ⟨i + 1, acc, by omega, by go_num, HS, HO, HB⟩
              case measure => simp [intOf]; omega
          · have ht' : ((t : Int) == 0) = false := by rw [beq_eq_false_iff_ne]; omega
            have ht2' : ((0 : Int) == (t : Int)) = false := by rw [beq_eq_false_iff_ne]; omega
            have HST := Lib.hid (HST0.out (fun h => absurd h ht))
            clear HST0 HSK hBK
            by_cases hfull : m ≤ acc.length
            · have hfull' : (m : Int) ≤ (acc.length : Int) := by omega
              have HS : Hid (acc = Ring.accL (baseK k) m L t (i + 1)) := Lib.hid (by rw [← HST.out]; exact (Ring.step_full (by have := HAL.out; omega)).symm)
              clear HST HC
              go_wp2_with fail
              go_roundw
              all_goals clear EI ET
              case rel => exact ⟨i + 1, acc, by omega, by go_num, HS, HO, HB⟩
              case measure => simp [intOf]; omega
            · have hfull' : ¬ (m : Int) ≤ (acc.length : Int) := by omega
              cases hin : hasI acc (d : Int) with
              | true =>
                have HS : Hid (acc = Ring.accL (baseK k) m L t (i + 1)) := Lib.hid (by rw [← HST.out]; rw [hasI_nat, decide_eq_true_eq] at hin; exact (Ring.step_in hin).symm)
                rw [hin] at HC
                clear HST hin
                go_wp2_with fail
                refine HC.out.mono ?_
                rintro e w1 ⟨rfl, rfl⟩
                clear HC
                go_wp2_with fail
                go_roundw
                all_goals clear EI ET
                case rel => exact ⟨i + 1, acc, by omega, by go_num, HS, HO, HB⟩
                case measure => simp [intOf]; omega
              | false =>
                have HS : Hid (acc ++ [d] = Ring.accL (baseK k) m L t (i + 1)) := Lib.hid (by rw [← HST.out]; rw [hasI_nat, decide_eq_false_iff_not] at hin; exact (Ring.step_new (by omega) hin).symm)
                rw [hin] at HC
                clear HST hin
                go_wp2_with fail
                refine HC.out.mono ?_
                rintro e w1 ⟨rfl, rfl⟩
                clear HC
                go_wp2_with (refine wpList_append_one rfl (.tmp 50) (.tmp 55) 24 rfl w.heap.size 3 (.int .i64 0) 8 Tryz.underlying24 info3 rfl _ acc.length (vals .i64 acc) rfl HO.out (.int .i64 (d : Int)) 3 rfl rfl (by have := HAL.out; unfold maxLen; omega) (by have := HAL.out; omega) HB.out.size ?_; intro v' w5 hown hbel)
                have HB5 := Lib.hid (HB.out.trans hbel.out)
                have HO5 : Hid (w5.ownsRow w.heap.size 3 1 v' (acc ++ [d]).length (vals .i64 (acc ++ [d]))) := Lib.hid (by rw [vals_append, List.length_append]; exact hown.out)
                clear hown hbel HO HB
                go_roundw
                all_goals clear EI ET
                case rel => exact ⟨i + 1, acc ++ [d], by omega, by go_num, HS, HO5, HB5⟩
                case measure => simp [intOf]; omega
        · obtain rfl : i = L.length := by omega
          have HA2 : Hid (acc = Ring.accL (baseK k) m L (t + 1) 0) := Lib.hid (by rw [HA.out]; exact Ring.accL_turn _ _ _ _ hlt)
          go_wp2_with fail
          go_roundw
          all_goals clear ET
          case rel => exact ⟨t + 1, acc, by omega, by go_num, HA2, HO, HB⟩
          case measure => simp [intOf]; omega
    · have hlt' : ¬ (t : Int) < 2 := by omega
      have HE : Hid (acc = Ring.listOf L (baseK k) m) := Lib.hid (by rw [HA.out, ← Ring.accL_end]; congr 1; omega)
      obtain rfl := HE.out
      obtain ⟨A, c, hv, _, _, hrow⟩ := own_row1 HO.out
      subst hv
      have HRW := Lib.hid hrow
      clear hrow HE HA
      go_wp2_with fail
      go_ret
      exact LRes.of (HRW.out.weak fun _ h _ => h.1) HB.out
/-! ### Right -/
set_option maxHeartbeats 4000000 in
theorem rright12_any (n v r : Int) (w : World) : Calls Tryz.prog 8 #[.int .i64 n, .int .i64 v, .int .i64 r] w fun e y => e = .returned (.bool (rightC n v r)) ∧ w = y := by
  by_cases h1 : 0 < n
  · by_cases h2 : n < 9
    · by_cases h3 : 0 < v
      · by_cases h4 : v < 17
        · by_cases h5 : 0 < r
          · by_cases h6 : r ≤ n
            · have HE : Hid (rightC n v r = true) := Lib.hid (by unfold rightC withinB; simp only [Bool.and_eq_true, decide_eq_true_eq]; omega)
              go_enter Tryz.func8, Tryz.ntmps8
              go_wp2_with fail
              go_ret
              exact ⟨ret_bool HE.out.symm, rfl⟩
            · have HE : Hid (rightC n v r = false) := Lib.hid (by rw [Bool.eq_false_iff]; unfold rightC withinB; simp only [ne_eq, Bool.and_eq_true, decide_eq_true_eq]; omega)
              go_enter Tryz.func8, Tryz.ntmps8
              go_wp2_with fail
              go_ret
              exact ⟨ret_bool HE.out.symm, rfl⟩
          · have HE : Hid (rightC n v r = false) := Lib.hid (by rw [Bool.eq_false_iff]; unfold rightC withinB; simp only [ne_eq, Bool.and_eq_true, decide_eq_true_eq]; omega)
            go_enter Tryz.func8, Tryz.ntmps8
            go_wp2_with fail
            go_ret
            exact ⟨ret_bool HE.out.symm, rfl⟩
        · have HE : Hid (rightC n v r = false) := Lib.hid (by rw [Bool.eq_false_iff]; unfold rightC withinB; simp only [ne_eq, Bool.and_eq_true, decide_eq_true_eq]; omega)
          go_enter Tryz.func8, Tryz.ntmps8
          go_wp2_with fail
          go_ret
          exact ⟨ret_bool HE.out.symm, rfl⟩
      · have HE : Hid (rightC n v r = false) := Lib.hid (by rw [Bool.eq_false_iff]; unfold rightC withinB; simp only [ne_eq, Bool.and_eq_true, decide_eq_true_eq]; omega)
        go_enter Tryz.func8, Tryz.ntmps8
        go_wp2_with fail
        go_ret
        exact ⟨ret_bool HE.out.symm, rfl⟩
    · have HE : Hid (rightC n v r = false) := Lib.hid (by rw [Bool.eq_false_iff]; unfold rightC withinB; simp only [ne_eq, Bool.and_eq_true, decide_eq_true_eq]; omega)
      go_enter Tryz.func8, Tryz.ntmps8
      go_wp2_with fail
      go_ret
      exact ⟨ret_bool HE.out.symm, rfl⟩
  · have HE : Hid (rightC n v r = false) := Lib.hid (by rw [Bool.eq_false_iff]; unfold rightC withinB; simp only [ne_eq, Bool.and_eq_true, decide_eq_true_eq]; omega)
    go_enter Tryz.func8, Tryz.ntmps8
    go_wp2_with fail
    go_ret
    exact ⟨ret_bool HE.out.symm, rfl⟩
end Go.Proofs.YtdbhboglccggdaaGreatDoor
set_option maxRecDepth 100000
set_option linter.unusedVariables false
set_option linter.unusedSimpArgs false
namespace Go.Proofs.YtdbhboglccggdaaGreatDoor
open Go.RowKit
theorem exec_load_row {P : Program} {ev : Operand → Value} {o : Oper} {w : World} (ty : TypeId) (x : Operand) (ho : o.op = .load ty x) (b o' : Nat) (hx : ev x = .pointer (some ⟨b, o', none⟩)) (A : Array Value) (d : TypeDesc) (hc : rangeA w b o' A)
    (hu : P.underlying ty = some d) (hd : d.isRow = true) (hi : (P.info? ty).map (·.size) = some A.size) : (execOp ev o).run P w = .ok (.value (.agg A)) w := by
  unfold execOp
  simp only [ho, hx, Instr.loadAt, Instr.sureAddr, Sem.run_bind, Sem.run_pure, Result.andThen_ok, run_loadVar_arr w b o' ty A d hc hu hd hi]
/-- The law's copy of the sizes, and what was there. -/
structure BX (w : World) (N V R : Int) (x : World) : Prop where
  tabs : Tabs x
  size : w.heap.size + 1 ≤ x.heap.size
  below : Below w.heap.size w x
  box : x.heap[w.heap.size]? = some (.cells (cfg N V R) 23)
theorem BX.box0 {w x : World} {N V R : Int} (h : BX w N V R x) : x.cell? ⟨w.heap.size, 0, none⟩ = some (.int .i64 N) := by rw [cell_of_row _ _ _ _ _ _ h.box]; rfl
theorem BX.box1 {w x : World} {N V R : Int} (h : BX w N V R x) : x.cell? ⟨w.heap.size, 1, none⟩ = some (.int .i64 V) := by rw [cell_of_row _ _ _ _ _ _ h.box]; rfl
theorem BX.box2 {w x : World} {N V R : Int} (h : BX w N V R x) : x.cell? ⟨w.heap.size, 2, none⟩ = some (.int .i64 R) := by rw [cell_of_row _ _ _ _ _ _ h.box]; rfl
theorem BX.grow {w x y : World} {N V R : Int} (h : BX w N V R x) (hb : Below x.heap.size x y) : BX w N V R y :=
  ⟨h.tabs.below hb, Nat.le_trans h.size hb.size, h.below.trans (hb.mono h.below.size), (hb.block _ (by have := h.size; omega)).trans h.box⟩
theorem BX.drew {w x : World} {N V R : Int} (h : BX w N V R x) : BX w N V R x.drew := h.grow (Below.refl _ _).drew
end Go.Proofs.YtdbhboglccggdaaGreatDoor
set_option maxRecDepth 100000
set_option linter.unusedVariables false
set_option linter.unusedSimpArgs false
namespace Go.Proofs.YtdbhboglccggdaaGreatDoor
open Go.RowKit
theorem RH.box1 {w x : World} {g N V R : Nat} (h : RH w g N V R x) : x.cell? ⟨w.heap.size, 1, none⟩ = some (.int .i64 (V : Int)) := by rw [cell_of_row _ _ _ _ _ _ h.box]; rfl
/-- The ring, and what the reference reckoned. -/
structure RT (w : World) (g N V R : Nat) (A1 A2 : Option Addr) (xs os : List Nat) (x : World) : Prop where
  rh : RH w g N V R x
  p : Row .u64 x (fun b => b ≠ g) A1 xs
  o : Row .i64 x (fun b => b ≠ g) A2 os
theorem RT.kept {w x y : World} {g N V R : Nat} {A1 A2 : Option Addr} {xs os : List Nat} (h : RT w g N V R A1 A2 xs os x) (hk : Only (fun b => b = g) x y) (hr : RH w g N V R y) : RT w g N V R A1 A2 xs os y := ⟨hr, h.p.kept hk (fun _ h e => h e), h.o.kept hk (fun _ h e => h e)⟩
theorem RT.drew {w x : World} {g N V R : Nat} {A1 A2 : Option Addr} {xs os : List Nat} (h : RT w g N V R A1 A2 xs os x) (h2 : 2 ≤ w.heap.size) : RT w g N V R A1 A2 xs os x.drew := ⟨h.rh.drew h2, h.p.drew, h.o.drew⟩
/-- A slice of numbers besides the ring. -/
def PSL (g : Nat) (l : List Nat) (n : Nat) (v : Value) (x : World) : Prop := ∃ B c, v = .slice B n c ∧ Row .i64 x (fun b => b ≠ g) B l
theorem PSL.kept {g n : Nat} {l : List Nat} {v : Value} {x y : World} (h : PSL g l n v x) (hk : Only (fun b => b = g) x y) : PSL g l n v y := by
  obtain ⟨B, c, e, h⟩ := h
  exact ⟨B, c, e, h.kept hk (fun _ h e => h e)⟩
/-- The ring, what the reference reckoned below B, and what is behind B. -/
structure RU (w : World) (g N V R : Nat) (A1 A2 : Option Addr) (xs os : List Nat) (B : Nat) (x : World) : Prop where
  rh : RH w g N V R x
  p : Row .u64 x (fun b => b ≠ g ∧ b < B) A1 xs
  o : Row .i64 x (fun b => b ≠ g ∧ b < B) A2 os
  size : B ≤ x.heap.size
theorem RU.kept {w x y : World} {g N V R B : Nat} {A1 A2 : Option Addr} {xs os : List Nat} (h : RU w g N V R A1 A2 xs os B x) (hk : Only (fun b => b = g) x y) (hr : RH w g N V R y) : RU w g N V R A1 A2 xs os B y := ⟨hr, h.p.kept hk (fun _ h e => h.1 e), h.o.kept hk (fun _ h e => h.1 e), Nat.le_trans h.size hk.size⟩
theorem RU.drew {w x : World} {g N V R B : Nat} {A1 A2 : Option Addr} {xs os : List Nat} (h : RU w g N V R A1 A2 xs os B x) (h2 : 2 ≤ w.heap.size) : RU w g N V R A1 A2 xs os B x.drew := ⟨h.rh.drew h2, h.p.drew, h.o.drew, h.size⟩
theorem RU.tag {w x : World} {g N V R B : Nat} {A1 A2 : Option Addr} {xs os : List Nat} (h : RU w g N V R A1 A2 xs os B x) : ∀ b, b = g → ∃ cs fr, x.heap[b]? = some (.cells cs 71 fr) := fun b hb => by
  subst hb
  exact h.rh.ring.tag
theorem RU.own {w x y : World} {g N V R B n : Nat} {A1 A2 : Option Addr} {xs os : List Nat} {v : Value} {l : List Value} (h : RU w g N V R A1 A2 xs os B x) (h2 : 2 ≤ w.heap.size) (hB : w.heap.size + 1 ≤ B) (ho : x.ownsRow B 3 1 v n l) (hg : x.grownBy y v.ownBlock) : RU w g N V R A1 A2 xs os B y := by
  have hk : ∀ b, b < B → b < x.heap.size → y.heap[b]? = x.heap[b]? := fun b h1 h2 => hg.block b h2 (fun e => by have := (ho.lt b e.symm).1; omega)
  exact ⟨h.rh.soft (own_soft ho (by decide) (by decide) hB hg) h2, h.p.keep (fun b j hb hl => World.cell?_of_block (w := x) (a := ⟨b, j, none⟩) (hk b hb.2 hl)), h.o.keep (fun b j hb hl => World.cell?_of_block (w := x) (a := ⟨b, j, none⟩) (hk b hb.2 hl)), Nat.le_trans h.size hg.size⟩
theorem hasI_step {l : List Nat} {i : Nat} {x : Int} (h : i < l.length) : hasI (l.take (i + 1)) x = (hasI (l.take i) x || decide (((l.getD i 0 : Nat) : Int) = x)) := by
  rw [← List.take_append_getElem h]
  unfold hasI
  rw [List.any_append, List.getD_eq_getElem?_getD, List.getElem?_eq_getElem h]
  simp
end Go.Proofs.YtdbhboglccggdaaGreatDoor
