/- The reference's insert, walked. -/
import Derived.Test.YtnpacjdgbmldlaaI2
namespace Go.Proofs.Ytnpacjdgbmldlaa
open Go.RowKit

theorem exec_slice {P : Program} {ev : Operand → Value} {o : Oper} {w : World} {v r : Value} {lo hi : Option Value} (t : TypeId) (x : Operand) (l h m : Option Operand) (ho : o.op = .slice t x l h m) (hx : ev x = v) (hl : l.map ev = lo) (hh : h.map ev = hi) (hm : m = none)
    (hr : (Instr.sliceAt t v lo hi none).run P w = .ok r w) : (execOp ev o).run P w = .ok (.value r) w := by
  subst hm
  unfold execOp
  simp only [ho, hx, hl, hh, Option.map_none, Sem.run_bind, hr, Result.andThen_ok, Sem.run_pure]
/-- The list, and the dot in its box. -/
structure NI (w : World) (A : Option Addr) (ls : List Dt) (d : Dt) (x : World) : Prop where
  l : Dots x (· < w.heap.size) A ls
  dot : DotAt x w.heap.size 35 d.1 d.2
  below : Below w.heap.size w x
theorem NI.le {w x : World} {A : Option Addr} {ls : List Dt} {d : Dt} (h : NI w A ls d x) : w.heap.size + 1 ≤ x.heap.size := h.dot.lt
theorem NI.low {w x y : World} {A : Option Addr} {ls : List Dt} {d : Dt} (hb : Below (w.heap.size + 1) x y) (h : NI w A ls d x) : NI w A ls d y := ⟨h.l.below (hb.mono (Nat.le_succ _)), (hb.block _ (Nat.lt_succ_self _)).trans h.dot, h.below.trans (hb.mono (Nat.le_succ _))⟩
theorem NI.then_ {w x y : World} {A : Option Addr} {ls : List Dt} {d : Dt} (hb : Below x.heap.size x y) (h : NI w A ls d x) : NI w A ls d y := h.low (hb.mono h.le)
theorem NI.drew {w x : World} {A : Option Addr} {ls : List Dt} {d : Dt} (h : NI w A ls d x) : NI w A ls d x.drew := NI.then_ (x := x) (y := x.drew) ⟨rfl, rfl, rfl, Nat.le_refl _, fun _ _ => rfl⟩ h
theorem NI.now {w x : World} {A : Option Addr} {ls : List Dt} {d : Dt} (h : NI w A ls d x) : Dots x (· < x.heap.size) A ls := h.l.loose fun _ k => Nat.lt_of_lt_of_le k h.below.size
def P4 (B p : Nat) (ls : List Dt) (v : Value) (x : World) : Prop := x.ownsRow B 35 2 v p (dots2 (ls.take p)) ∧ (p = 0 → v = .slice none 0 0)
def P6 (d : Dt) (v : Value) (x : World) : Prop := ∃ g, v = .slice (some ⟨g, 0, none⟩) 1 1 ∧ x.heap[g]? = some (.cells (dotC d) 35 (0, 0))
def P7 (B p : Nat) (ls : List Dt) (d : Dt) (v : Value) (x : World) : Prop := x.ownsRow B 35 2 v (p + 1) (dots2 (ls.take p) ++ dcells d)
theorem dot_cells {x : World} {g : Nat} {d : Dt} (h : x.heap[g]? = some (.cells (dotC d) 35 (0, 0))) : ∀ j u, (dcells d)[j]? = some u → x.cell? ((⟨g, 0, none⟩ : Addr).add j) = some u := fun j u hu => by
  rw [Addr.add_mid, Nat.zero_add, cell_of_row _ _ _ _ _ _ h]
  match j, hu with
  | 0, hu => exact hu
  | 1, hu => exact hu
theorem size35o : (Try.prog.info? 35).map (·.size) = some 2 := by kernel_rfl

set_option maxRecDepth 100000 in
set_option maxHeartbeats 8000000 in
theorem insert_any : InsertIs := by
  intro ls c A d w hv hc hm
  have HI : Hid (NI w A ls d (w.alloc (.cells (dotC d) 35))) := Lib.hid ⟨hv.below (below1 _ _), DotAt.new w 35 d.1 d.2, below1 _ _⟩
  have HC := Lib.hid hc
  have HM := Lib.hid hm
  have HMM : Hid (ls.length ≤ 9223372036854775807) := Lib.hid (by omega)
  clear hv hc hm
  have HR := Lib.hid (rightR_any d.1 d.2 (w.alloc (.cells (dotC d) 35)))
  cases hr : Vec.right d.1 d.2 with
  | false =>
    have HE : Hid (insertF ls d = ls) := Lib.hid (by unfold insertF; rw [if_neg (fun h => by rw [hr] at h; exact Bool.false_ne_true h.1)])
    rw [hr] at HR
    clear hr
    go_enter Try.func76, Try.ntmps76
    have c0 := HI.out.dot.node
    have c1 := HI.out.dot.num
    go_wp2_with fail
    clear c0 c1
    refine HR.out.mono ?_
    rintro e w2 ⟨rfl, hb⟩
    replace HI := Lib.hid (HI.out.then_ hb)
    clear hb HR
    go_wp2
    go_ret
    refine ⟨A, c, ?_, by rw [HE.out]; exact HI.out.now, by rw [HE.out]; exact HC.out, HI.out.below⟩
    rw [HE.out]
    rfl
  | true =>
    rw [hr] at HR
    by_cases hmem : d ∈ ls
    · have HE : Hid (insertF ls d = ls) := Lib.hid (by unfold insertF; rw [if_neg (fun h => h.2 hmem)])
      have HD : Hid (decide (d ∈ ls) = true) := Lib.hid (decide_eq_true hmem)
      clear hr hmem
      go_enter Try.func76, Try.ntmps76
      have c0 := HI.out.dot.node
      have c1 := HI.out.dot.num
      go_wp2_with fail
      clear c0 c1
      refine HR.out.mono ?_
      rintro e w2 ⟨rfl, hb⟩
      replace HI := Lib.hid (HI.out.then_ hb)
      clear hb HR
      have h1 := dhasR_any ls c A d w2 HI.out.now HMM.out
      rw [HD.out] at h1
      have HH := Lib.hid h1
      have c0 := HI.out.dot.node
      have c1 := HI.out.dot.num
      clear h1
      go_wp2_with fail
      clear c0 c1
      refine HH.out.mono ?_
      rintro e w3 ⟨rfl, hb⟩
      replace HI := Lib.hid (HI.out.then_ hb)
      clear hb HH
      go_wp2
      go_ret
      refine ⟨A, c, ?_, by rw [HE.out]; exact HI.out.now, by rw [HE.out]; exact HC.out, HI.out.below⟩
      rw [HE.out]
      rfl
    · have HD : Hid (decide (d ∈ ls) = false) := Lib.hid (decide_eq_false hmem)
      obtain ⟨t1, t2, t3, t4⟩ := tw_facts (fun x => Vec.less x.1 x.2 d.1 d.2) ls
      have t5 := tw_le (fun x => Vec.less x.1 x.2 d.1 d.2) ls
      have HE : Hid (insertF ls d = (ls.takeWhile fun x => Vec.less x.1 x.2 d.1 d.2) ++ d :: ls.dropWhile fun x => Vec.less x.1 x.2 d.1 d.2) := Lib.hid (by unfold insertF; rw [if_pos ⟨hr, hmem⟩])
      obtain ⟨p, hp⟩ : ∃ p, p = (ls.takeWhile fun x => Vec.less x.1 x.2 d.1 d.2).length := ⟨_, rfl⟩
      rw [← hp] at t1 t2 t3 t4 t5
      rw [← t3, ← t4] at HE
      have HDD : Hid (dots2 (ls.take p) ++ dcells d ++ dots2 (ls.drop p) = dots2 (insertF ls d)) := Lib.hid (by rw [HE.out, dots2_append, List.append_assoc]; rfl)
      have T1 := Lib.hid t1
      have T2 := Lib.hid t2
      have HPL := Lib.hid t5
      have HTK : Hid ((ls.take p).length = p) := Lib.hid (by rw [List.length_take]; omega)
      have HPI : Hid (p < 9223372036854775807) := Lib.hid (by have := HM.out; omega)
      clear hr hmem t1 t2 t3 t4 t5 hp HE
      go_enter Try.func76, Try.ntmps76
      have c0 := HI.out.dot.node
      have c1 := HI.out.dot.num
      go_wp2_with fail
      clear c0 c1
      refine HR.out.mono ?_
      rintro e w2 ⟨rfl, hb⟩
      replace HI := Lib.hid (HI.out.then_ hb)
      clear hb HR
      have h1 := dhasR_any ls c A d w2 HI.out.now HMM.out
      rw [HD.out] at h1
      have HH := Lib.hid h1
      have c0 := HI.out.dot.node
      have c1 := HI.out.dot.num
      clear h1
      go_wp2_with fail
      clear c0 c1
      refine HH.out.mono ?_
      rintro e w3 ⟨rfl, hb⟩
      replace HI := Lib.hid (HI.out.then_ hb)
      clear hb HH
      go_wp2
      go_loopw [5] (fun v wr => ∃ i : Nat, i ≤ p ∧ v = .int .i64 i ∧ Hid (NI w A ls d wr)) (fun v _ => p - (intOf v).toNat)
      case atStart => exact ⟨0, by omega, rfl, HI⟩
      case round =>
        clear HI
        obtain ⟨i, hi, rfl, HI⟩ := hrel
        by_cases hlt : i < p
        · obtain ⟨b, o, hA⟩ := HI.out.l.some_ (by have := HPL.out; omega)
          subst hA
          obtain ⟨y, hy⟩ : ∃ y, y = ls.getD i (0, 0) := ⟨_, rfl⟩
          have HY := Lib.hid hy
          have HLS : Hid (Vec.less y.1 y.2 d.1 d.2 = true) := Lib.hid (by rw [hy]; exact T1.out i hlt)
          have HLT : Hid (i < ls.length) := Lib.hid (by have := HPL.out; omega)
          have hli : (i : Int) < (ls.length : Int) := by have := HPL.out; omega
          have eJ : IntKind.i64.wrap ((i : Int) + 1) = (i : Int) + 1 := by have := HPI.out; rw [IntKind.wrap_i64]; omega
          clear hy
          go_wp2_with fail
          refine WM.wp_region_kinds (fun _ x y => Below x.heap.size x y) (fun _ x => NI w (some ⟨b, o, none⟩) ls d x) (fun x => NI w (some ⟨b, o, none⟩) ls d x)
            [(8, .val (dotV y.1 y.2) fun _ => True), (9, .val (dotV d.1 d.2) fun _ => True), (10, .val (.bool true) fun _ => True)] (by kernel_rfl) (by kernel_rfl) (fun _ _ _ hb h => h.then_ hb) (fun _ _ _ _ _ hb h => h.then_ hb) ?_ HI.out.drew (fun _ => HI.out.drew) ?_
          · intro z hz
            simp only [List.mem_cons, List.mem_nil_iff, or_false] at hz
            rcases hz with rfl | rfl | rfl <;> exact fun _ _ _ _ _ _ => trivial
          iterate 3
            refine WM.mono_pure rfl rfl ?_
            apply Exists.intro
            refine ⟨fun x => ?_, ?_⟩
            · go_simp
              rfl
            apply Exists.intro
            refine ⟨by simp only [Act.put, List.setIfInBounds_toArray, List.set_cons_succ, List.set_cons_zero]; rfl, ?_⟩
          refine WM.mono_pure rfl rfl ?_
          refine ⟨.bool true, fun x => ?_, ?_⟩
          · go_simp
          apply Exists.intro
          refine ⟨by simp only [Act.put, List.setIfInBounds_toArray, List.set_cons_succ, List.set_cons_zero]; rfl, ?_⟩
          refine WM.mono_pure rfl rfl ?_
          refine ⟨.bool true, fun x => ?_, ?_⟩
          · go_simp
          apply Exists.intro
          refine ⟨by simp only [Act.put, List.setIfInBounds_toArray, List.set_cons_succ, List.set_cons_zero]; rfl, ?_⟩
          iterate 2
            refine WM.mono_pure rfl rfl ?_
            apply Exists.intro
            refine ⟨fun x => ?_, ?_⟩
            · go_simp
              rfl
            apply Exists.intro
            refine ⟨by simp only [Act.put, List.setIfInBounds_toArray, List.set_cons_succ, List.set_cons_zero]; rfl, ?_⟩
          refine WM.mono_pure rfl rfl ?_
          refine ⟨.pointer (some ⟨b, o + i * 2, none⟩), fun x => ?_, ?_⟩
          · go_simp
          apply Exists.intro
          refine ⟨by simp only [Act.put, List.setIfInBounds_toArray, List.set_cons_succ, List.set_cons_zero]; rfl, ?_⟩
          refine WM.mono_val rfl rfl (fun x hD hF => ?_) ?_
          · have hl := run_loadVar_arr (P := Try.prog) x b (o + i * 2) 35 (dotC y) _ (by rw [HY.out]; exact hD.l.at_j HLT.out) Try.underlying35 rfl size35
            rw [exec_load 35 (.tmp 23) rfl b (o + i * 2) rfl hl]
            exact ⟨Below.refl _ _, rfl, trivial⟩
          apply Exists.intro
          refine ⟨by simp only [Act.put, List.setIfInBounds_toArray, List.set_cons_succ, List.set_cons_zero]; rfl, ?_⟩
          refine WM.mono_val rfl rfl (fun x hD hF => ?_) ?_
          · have hl := run_loadVar_arr (P := Try.prog) x w.heap.size 0 35 (dotC d) _ hD.dot.range Try.underlying35 rfl size35
            rw [exec_load 35 (.tmp 3) rfl w.heap.size 0 rfl hl]
            exact ⟨Below.refl _ _, rfl, trivial⟩
          apply Exists.intro
          refine ⟨by simp only [Act.put, List.setIfInBounds_toArray, List.set_cons_succ, List.set_cons_zero]; rfl, ?_⟩
          refine WM.mono_val rfl rfl (fun x hD hF => ?_) ?_
          · go_simp
            refine (lessR_any y.1 y.2 d.1 d.2 x).mono ?_
            rintro e y ⟨rfl, hg⟩
            exact ⟨_, rfl, hg, by rw [HLS.out]⟩
          apply Exists.intro
          refine ⟨by simp only [Act.put, List.setIfInBounds_toArray, List.set_cons_succ, List.set_cons_zero]; rfl, ?_⟩
          refine WM.mono_pure rfl rfl ?_
          refine ⟨.bool true, fun x => ?_, ?_⟩
          · go_simp
          apply Exists.intro
          refine ⟨by simp only [Act.put, List.setIfInBounds_toArray, List.set_cons_succ, List.set_cons_zero]; rfl, ?_⟩
          refine WM.mono_nil ?_
          intro x hD hF
          have HX := Lib.hid hD
          clear hD hF HI
          go_simp
          go_wp2
          go_roundw
          case rel => exact ⟨i + 1, by omega, by go_num, HX⟩
          case measure => simp [intOf]; omega
        · obtain rfl : p = i := by omega
          by_cases hpl : p < ls.length
          · obtain ⟨b, o, hA⟩ := HI.out.l.some_ (by omega)
            subst hA
            obtain ⟨y, hy⟩ : ∃ y, y = ls.getD p (0, 0) := ⟨_, rfl⟩
            have HY := Lib.hid hy
            have HLS : Hid (Vec.less y.1 y.2 d.1 d.2 = false) := Lib.hid (by rw [hy]; exact T2.out hpl)
            have HLT := Lib.hid hpl
            have hli : (p : Int) < (ls.length : Int) := by omega
            clear hy
            go_wp2_with fail
            refine WM.wp_region_kinds (fun _ x y => Below x.heap.size x y) (fun _ x => NI w (some ⟨b, o, none⟩) ls d x) (fun x => NI w (some ⟨b, o, none⟩) ls d x)
              [(8, .val (dotV y.1 y.2) fun _ => True), (9, .val (dotV d.1 d.2) fun _ => True), (10, .val (.bool false) fun _ => True)] (by kernel_rfl) (by kernel_rfl) (fun _ _ _ hb h => h.then_ hb) (fun _ _ _ _ _ hb h => h.then_ hb) ?_ HI.out.drew (fun _ => HI.out.drew) ?_
            · intro z hz
              simp only [List.mem_cons, List.mem_nil_iff, or_false] at hz
              rcases hz with rfl | rfl | rfl <;> exact fun _ _ _ _ _ _ => trivial
            iterate 3
              refine WM.mono_pure rfl rfl ?_
              apply Exists.intro
              refine ⟨fun x => ?_, ?_⟩
              · go_simp
                rfl
              apply Exists.intro
              refine ⟨by simp only [Act.put, List.setIfInBounds_toArray, List.set_cons_succ, List.set_cons_zero]; rfl, ?_⟩
            refine WM.mono_pure rfl rfl ?_
            refine ⟨.bool true, fun x => ?_, ?_⟩
            · go_simp
            apply Exists.intro
            refine ⟨by simp only [Act.put, List.setIfInBounds_toArray, List.set_cons_succ, List.set_cons_zero]; rfl, ?_⟩
            refine WM.mono_pure rfl rfl ?_
            refine ⟨.bool true, fun x => ?_, ?_⟩
            · go_simp
            apply Exists.intro
            refine ⟨by simp only [Act.put, List.setIfInBounds_toArray, List.set_cons_succ, List.set_cons_zero]; rfl, ?_⟩
            iterate 2
              refine WM.mono_pure rfl rfl ?_
              apply Exists.intro
              refine ⟨fun x => ?_, ?_⟩
              · go_simp
                rfl
              apply Exists.intro
              refine ⟨by simp only [Act.put, List.setIfInBounds_toArray, List.set_cons_succ, List.set_cons_zero]; rfl, ?_⟩
            refine WM.mono_pure rfl rfl ?_
            refine ⟨.pointer (some ⟨b, o + p * 2, none⟩), fun x => ?_, ?_⟩
            · go_simp
            apply Exists.intro
            refine ⟨by simp only [Act.put, List.setIfInBounds_toArray, List.set_cons_succ, List.set_cons_zero]; rfl, ?_⟩
            refine WM.mono_val rfl rfl (fun x hD hF => ?_) ?_
            · have hl := run_loadVar_arr (P := Try.prog) x b (o + p * 2) 35 (dotC y) _ (by rw [HY.out]; exact hD.l.at_j HLT.out) Try.underlying35 rfl size35
              rw [exec_load 35 (.tmp 23) rfl b (o + p * 2) rfl hl]
              exact ⟨Below.refl _ _, rfl, trivial⟩
            apply Exists.intro
            refine ⟨by simp only [Act.put, List.setIfInBounds_toArray, List.set_cons_succ, List.set_cons_zero]; rfl, ?_⟩
            refine WM.mono_val rfl rfl (fun x hD hF => ?_) ?_
            · have hl := run_loadVar_arr (P := Try.prog) x w.heap.size 0 35 (dotC d) _ hD.dot.range Try.underlying35 rfl size35
              rw [exec_load 35 (.tmp 3) rfl w.heap.size 0 rfl hl]
              exact ⟨Below.refl _ _, rfl, trivial⟩
            apply Exists.intro
            refine ⟨by simp only [Act.put, List.setIfInBounds_toArray, List.set_cons_succ, List.set_cons_zero]; rfl, ?_⟩
            refine WM.mono_val rfl rfl (fun x hD hF => ?_) ?_
            · go_simp
              refine (lessR_any y.1 y.2 d.1 d.2 x).mono ?_
              rintro e y ⟨rfl, hg⟩
              exact ⟨_, rfl, hg, by rw [HLS.out]⟩
            apply Exists.intro
            refine ⟨by simp only [Act.put, List.setIfInBounds_toArray, List.set_cons_succ, List.set_cons_zero]; rfl, ?_⟩
            refine WM.mono_pure rfl rfl ?_
            refine ⟨.bool false, fun x => ?_, ?_⟩
            · go_simp
            apply Exists.intro
            refine ⟨by simp only [Act.put, List.setIfInBounds_toArray, List.set_cons_succ, List.set_cons_zero]; rfl, ?_⟩
            refine WM.mono_nil ?_
            intro x hD hF
            have HX := Lib.hid hD
            clear hD hF HI
            go_simp
            go_wp2_with fail
            refine WM.wp_region_front 11 [] (fun j x y => RI (w.heap.size + 1) p j x y) (fun _ x => NI w (some ⟨b, o, none⟩) ls d x) (fun x => NI w (some ⟨b, o, none⟩) ls d x)
              [(4, .mem (P4 (w.heap.size + 1) p ls)), (5, .val (dotV d.1 d.2) fun _ => True), (6, .mem (P6 d)), (7, .mem (P7 (w.heap.size + 1) p ls d))] (by kernel_rfl) (by kernel_rfl) (by kernel_rfl) (by kernel_rfl) (of_decide_eq_true (by kernel_rfl)) ?_ ?_ (fun _ _ _ hb => hb.low.size) (fun _ _ _ hb h => h.low hb.low) (fun _ _ _ _ _ hb h => h.low hb.low) ?_ HX.out.drew (fun _ => HX.out.drew) ?_
            · intro p hp
              cases hp
            · intro p hp
              cases hp
            · intro z hz
              simp only [List.mem_cons, List.mem_nil_iff, or_false] at hz
              rcases hz with rfl | rfl | rfl | rfl
              · exact fun j v x y _ hr h => ⟨hr.rows _ _ h.1, h.2⟩
              · exact fun _ _ _ _ _ _ => trivial
              · exact fun j v x y _ hr ⟨g, e, h⟩ => ⟨g, e, (hr.two g _ h rfl).trans h⟩
              · exact fun j v x y hne hr h => own_keep h fun k _ hk => (hr.all (fun e => hne e.symm)).block k hk
            iterate 3
              refine WM.mono_pure rfl rfl ?_
              apply Exists.intro
              refine ⟨fun x => ?_, ?_⟩
              · go_simp
                rfl
              apply Exists.intro
              refine ⟨by simp only [Act.put, List.setIfInBounds_toArray, List.set_cons_succ, List.set_cons_zero]; rfl, ?_⟩
            refine WM.mono_pure rfl rfl ?_
            refine ⟨.slice (some ⟨b, o, none⟩) p c, fun x => ?_, ?_⟩
            · exact exec_slice 30 (.tmp 31) none (some (.tmp 32)) none rfl rfl rfl rfl rfl (run_sliceAt_to2 30 35 Try.underlying30 size35o (some ⟨b, o, none⟩) ls.length c p (by have := HC.out; have := HPL.out; omega) x)
            apply Exists.intro
            refine ⟨by simp only [Act.put, List.setIfInBounds_toArray, List.set_cons_succ, List.set_cons_zero]; rfl, ?_⟩
            refine WM.mono_mem rfl rfl (fun x hD hF => ?_) (fun v34 => ?_)
            · obtain ⟨i, h1, h2, h3, h4⟩ := info_parts info35
              obtain ⟨v1, w1, r1, r2, r3, r4⟩ := run_append_dotsc (P := Try.prog) (w := x) 30 30 35 (w.heap.size + 1) i _ Try.underlying30 h1 h2 h3 rfl (.slice none 0 0) 0 [] (World.ownsRow_nil _ _ _ _) (ls.take p) (some ⟨b, o, none⟩) c (· < w.heap.size) (hD.l.cut p) (by have := HPL.out; have := HM.out; rw [HTK.out]; unfold maxLen; omega) (by have := HPL.out; have := HM.out; rw [HTK.out, h4]; omega) hD.le
              rw [HTK.out] at r1 r2 r4
              simp only [Nat.zero_add, List.nil_append] at r2
              rw [exec_append 30 (.tmp 30) (.tmp 33) rfl rfl rfl r1]
              exact ⟨RI.of hD.le ((Below.refl _ _).grown r3 (Nat.le_refl _) (fun k hk => by cases hk)), r2, fun e => r4 rfl e⟩
            apply Exists.intro
            refine ⟨by simp only [Act.put, List.setIfInBounds_toArray, List.set_cons_succ, List.set_cons_zero]; rfl, ?_⟩
            refine WM.mono_val rfl rfl (fun x hD hF => ?_) ?_
            · have hl := run_loadVar_arr (P := Try.prog) x w.heap.size 0 35 (dotC d) _ hD.dot.range Try.underlying35 rfl size35
              rw [exec_load 35 (.tmp 3) rfl w.heap.size 0 rfl hl]
              exact ⟨RI.of hD.le (Below.refl _ _), rfl, trivial⟩
            apply Exists.intro
            refine ⟨by simp only [Act.put, List.setIfInBounds_toArray, List.set_cons_succ, List.set_cons_zero]; rfl, ?_⟩
            refine WM.mono_mem rfl rfl (fun x hD hF => ?_) (fun v36 => ?_)
            · go_simp
              exact ⟨RI.of hD.le (below1 _ _), _, rfl, heap_alloc_new _ _⟩
            apply Exists.intro
            refine ⟨by simp only [Act.put, List.setIfInBounds_toArray, List.set_cons_succ, List.set_cons_zero]; rfl, ?_⟩
            refine WM.mono_mem rfl rfl (fun x hD hF => ?_) (fun v37 => ?_)
            · have f4 : P4 (w.heap.size + 1) p ls v34 x := (hF 4 _ 34 rfl rfl (by decide)).1
              obtain ⟨g, e6, hg⟩ : P6 d v36 x := (hF 6 _ 36 rfl rfl (by decide)).1
              subst e6
              obtain ⟨i, h1, h2, h3, h4⟩ := info_parts info35
              obtain ⟨v1, w1, r1, r2, r3⟩ := append_kept (P := Try.prog) 30 30 i _ Try.underlying30 h1 h2 h3 rfl v34 _ f4.1 ⟨g, 0, none⟩ 1 d (dot_cells hg) (by have := HPI.out; have := HPL.out; have := HM.out; unfold maxLen; omega) (by have := HPL.out; have := HM.out; rw [h4]; omega) hD.le f4.2
              rw [exec_append 30 (.tmp 34) (.tmp 36) rfl rfl rfl r1]
              exact ⟨r3, r2⟩
            apply Exists.intro
            refine ⟨by simp only [Act.put, List.setIfInBounds_toArray, List.set_cons_succ, List.set_cons_zero]; rfl, ?_⟩
            iterate 2
              refine WM.mono_pure rfl rfl ?_
              apply Exists.intro
              refine ⟨fun x => ?_, ?_⟩
              · go_simp
                rfl
              apply Exists.intro
              refine ⟨by simp only [Act.put, List.setIfInBounds_toArray, List.set_cons_succ, List.set_cons_zero]; rfl, ?_⟩
            refine WM.mono_pure rfl rfl ?_
            refine ⟨.slice (cutA2 (some ⟨b, o, none⟩) c p) (ls.length - p) (c - p), fun x => ?_, ?_⟩
            · exact exec_slice 30 (.tmp 38) (some (.tmp 39)) none none rfl rfl rfl rfl rfl (run_sliceAt_from2 30 35 Try.underlying30 size35o (some ⟨b, o, none⟩) ls.length c p HPL.out x)
            apply Exists.intro
            refine ⟨by simp only [Act.put, List.setIfInBounds_toArray, List.set_cons_succ, List.set_cons_zero]; rfl, ?_⟩
            refine WM.mono_nil ?_
            intro x hD hF _
            have H7 : Hid (P7 (w.heap.size + 1) p ls d v37 x) := Lib.hid (hF 7).1
            refine wpList_append_dotsc rfl (.tmp 37) (.tmp 40) 30 rfl (w.heap.size + 1) 35 (.agg #[.int .i64 0, .int .u64 0]) 16 Try.underlying30 info35 rfl _ (p + 1) _ rfl H7.out (ls.drop p) (cutA2 (some ⟨b, o, none⟩) c p) (c - p) (· < w.heap.size) (by rw [List.length_drop]; rfl) (hD.l.behind HPL.out HC.out) (by have := HPL.out; have := HM.out; rw [List.length_drop]; unfold maxLen; omega) (by have := HPL.out; have := HM.out; rw [List.length_drop]; omega) hD.le ?_
            intro v5 w5 H5 B5
            rw [HDD.out] at H5
            obtain ⟨A5, c5, rfl, hd5, hl5, _⟩ := own_dots H5.out
            have HB5 : Hid (Below w.heap.size w w5) := Lib.hid (hD.below.trans (B5.out.mono (Nat.le_succ _)))
            have HD5 : Hid (Dots w5 (· < w5.heap.size) A5 (insertF ls d)) := Lib.hid (hd5.loose fun b h => h.2)
            have HL5 := Lib.hid hl5
            clear hD hF hd5 hl5 H7 HX
            go_simp
            go_wp2
            go_ret
            exact ⟨A5, c5, rfl, HD5.out, HL5.out, HB5.out⟩
          · have hli : ¬ (p : Int) < (ls.length : Int) := by omega
            go_wp2_with fail
            refine WM.wp_region_kinds (fun _ x y => Below x.heap.size x y) (fun _ x => NI w A ls d x) (fun x => NI w A ls d x)
              [] (by kernel_rfl) (by kernel_rfl) (fun _ _ _ hb h => h.then_ hb) (fun _ _ _ _ _ hb h => h.then_ hb) ?_ HI.out.drew (fun _ => HI.out.drew) ?_
            · intro z hz
              cases hz
            iterate 3
              refine WM.mono_pure rfl rfl ?_
              apply Exists.intro
              refine ⟨fun x => ?_, ?_⟩
              · go_simp
                rfl
              apply Exists.intro
              refine ⟨by simp only [Act.put, List.setIfInBounds_toArray, List.set_cons_succ, List.set_cons_zero]; rfl, ?_⟩
            refine WM.mono_pure rfl rfl ?_
            refine ⟨.bool false, fun x => ?_, ?_⟩
            · go_simp
            apply Exists.intro
            refine ⟨by simp only [Act.put, List.setIfInBounds_toArray, List.set_cons_succ, List.set_cons_zero]; rfl, ?_⟩
            refine WM.mono_pure rfl rfl ?_
            refine ⟨.bool false, fun x => ?_, ?_⟩
            · go_simp
            apply Exists.intro
            refine ⟨by simp only [Act.put, List.setIfInBounds_toArray, List.set_cons_succ, List.set_cons_zero]; rfl, ?_⟩
            refine WM.mono_skip rfl ?_
            apply Exists.intro
            refine ⟨by simp only [Act.put, List.setIfInBounds_toArray, List.set_cons_succ, List.set_cons_zero]; rfl, ?_⟩
            refine WM.mono_skip rfl ?_
            apply Exists.intro
            refine ⟨by simp only [Act.put, List.setIfInBounds_toArray, List.set_cons_succ, List.set_cons_zero]; rfl, ?_⟩
            refine WM.mono_skip rfl ?_
            apply Exists.intro
            refine ⟨by simp only [Act.put, List.setIfInBounds_toArray, List.set_cons_succ, List.set_cons_zero]; rfl, ?_⟩
            refine WM.mono_skip rfl ?_
            apply Exists.intro
            refine ⟨by simp only [Act.put, List.setIfInBounds_toArray, List.set_cons_succ, List.set_cons_zero]; rfl, ?_⟩
            refine WM.mono_skip rfl ?_
            apply Exists.intro
            refine ⟨by simp only [Act.put, List.setIfInBounds_toArray, List.set_cons_succ, List.set_cons_zero]; rfl, ?_⟩
            refine WM.mono_skip rfl ?_
            apply Exists.intro
            refine ⟨by simp only [Act.put, List.setIfInBounds_toArray, List.set_cons_succ, List.set_cons_zero]; rfl, ?_⟩
            refine WM.mono_pure rfl rfl ?_
            refine ⟨.bool false, fun x => ?_, ?_⟩
            · go_simp
            apply Exists.intro
            refine ⟨by simp only [Act.put, List.setIfInBounds_toArray, List.set_cons_succ, List.set_cons_zero]; rfl, ?_⟩
            refine WM.mono_nil ?_
            intro x hD hF
            have HX := Lib.hid hD
            clear hD hF HI
            go_simp
            go_wp2_with fail
            refine WM.wp_region_front 11 [] (fun j x y => RI (w.heap.size + 1) p j x y) (fun _ x => NI w A ls d x) (fun x => NI w A ls d x)
              [(4, .mem (P4 (w.heap.size + 1) p ls)), (5, .val (dotV d.1 d.2) fun _ => True), (6, .mem (P6 d)), (7, .mem (P7 (w.heap.size + 1) p ls d))] (by kernel_rfl) (by kernel_rfl) (by kernel_rfl) (by kernel_rfl) (of_decide_eq_true (by kernel_rfl)) ?_ ?_ (fun _ _ _ hb => hb.low.size) (fun _ _ _ hb h => h.low hb.low) (fun _ _ _ _ _ hb h => h.low hb.low) ?_ HX.out.drew (fun _ => HX.out.drew) ?_
            · intro p hp
              cases hp
            · intro p hp
              cases hp
            · intro z hz
              simp only [List.mem_cons, List.mem_nil_iff, or_false] at hz
              rcases hz with rfl | rfl | rfl | rfl
              · exact fun j v x y _ hr h => ⟨hr.rows _ _ h.1, h.2⟩
              · exact fun _ _ _ _ _ _ => trivial
              · exact fun j v x y _ hr ⟨g, e, h⟩ => ⟨g, e, (hr.two g _ h rfl).trans h⟩
              · exact fun j v x y hne hr h => own_keep h fun k _ hk => (hr.all (fun e => hne e.symm)).block k hk
            iterate 3
              refine WM.mono_pure rfl rfl ?_
              apply Exists.intro
              refine ⟨fun x => ?_, ?_⟩
              · go_simp
                rfl
              apply Exists.intro
              refine ⟨by simp only [Act.put, List.setIfInBounds_toArray, List.set_cons_succ, List.set_cons_zero]; rfl, ?_⟩
            refine WM.mono_pure rfl rfl ?_
            refine ⟨.slice A p c, fun x => ?_, ?_⟩
            · exact exec_slice 30 (.tmp 31) none (some (.tmp 32)) none rfl rfl rfl rfl rfl (run_sliceAt_to2 30 35 Try.underlying30 size35o A ls.length c p (by have := HC.out; have := HPL.out; omega) x)
            apply Exists.intro
            refine ⟨by simp only [Act.put, List.setIfInBounds_toArray, List.set_cons_succ, List.set_cons_zero]; rfl, ?_⟩
            refine WM.mono_mem rfl rfl (fun x hD hF => ?_) (fun v34 => ?_)
            · obtain ⟨i, h1, h2, h3, h4⟩ := info_parts info35
              obtain ⟨v1, w1, r1, r2, r3, r4⟩ := run_append_dotsc (P := Try.prog) (w := x) 30 30 35 (w.heap.size + 1) i _ Try.underlying30 h1 h2 h3 rfl (.slice none 0 0) 0 [] (World.ownsRow_nil _ _ _ _) (ls.take p) A c (· < w.heap.size) (hD.l.cut p) (by have := HPL.out; have := HM.out; rw [HTK.out]; unfold maxLen; omega) (by have := HPL.out; have := HM.out; rw [HTK.out, h4]; omega) hD.le
              rw [HTK.out] at r1 r2 r4
              simp only [Nat.zero_add, List.nil_append] at r2
              rw [exec_append 30 (.tmp 30) (.tmp 33) rfl rfl rfl r1]
              exact ⟨RI.of hD.le ((Below.refl _ _).grown r3 (Nat.le_refl _) (fun k hk => by cases hk)), r2, fun e => r4 rfl e⟩
            apply Exists.intro
            refine ⟨by simp only [Act.put, List.setIfInBounds_toArray, List.set_cons_succ, List.set_cons_zero]; rfl, ?_⟩
            refine WM.mono_val rfl rfl (fun x hD hF => ?_) ?_
            · have hl := run_loadVar_arr (P := Try.prog) x w.heap.size 0 35 (dotC d) _ hD.dot.range Try.underlying35 rfl size35
              rw [exec_load 35 (.tmp 3) rfl w.heap.size 0 rfl hl]
              exact ⟨RI.of hD.le (Below.refl _ _), rfl, trivial⟩
            apply Exists.intro
            refine ⟨by simp only [Act.put, List.setIfInBounds_toArray, List.set_cons_succ, List.set_cons_zero]; rfl, ?_⟩
            refine WM.mono_mem rfl rfl (fun x hD hF => ?_) (fun v36 => ?_)
            · go_simp
              exact ⟨RI.of hD.le (below1 _ _), _, rfl, heap_alloc_new _ _⟩
            apply Exists.intro
            refine ⟨by simp only [Act.put, List.setIfInBounds_toArray, List.set_cons_succ, List.set_cons_zero]; rfl, ?_⟩
            refine WM.mono_mem rfl rfl (fun x hD hF => ?_) (fun v37 => ?_)
            · have f4 : P4 (w.heap.size + 1) p ls v34 x := (hF 4 _ 34 rfl rfl (by decide)).1
              obtain ⟨g, e6, hg⟩ : P6 d v36 x := (hF 6 _ 36 rfl rfl (by decide)).1
              subst e6
              obtain ⟨i, h1, h2, h3, h4⟩ := info_parts info35
              obtain ⟨v1, w1, r1, r2, r3⟩ := append_kept (P := Try.prog) 30 30 i _ Try.underlying30 h1 h2 h3 rfl v34 _ f4.1 ⟨g, 0, none⟩ 1 d (dot_cells hg) (by have := HPI.out; have := HPL.out; have := HM.out; unfold maxLen; omega) (by have := HPL.out; have := HM.out; rw [h4]; omega) hD.le f4.2
              rw [exec_append 30 (.tmp 34) (.tmp 36) rfl rfl rfl r1]
              exact ⟨r3, r2⟩
            apply Exists.intro
            refine ⟨by simp only [Act.put, List.setIfInBounds_toArray, List.set_cons_succ, List.set_cons_zero]; rfl, ?_⟩
            iterate 2
              refine WM.mono_pure rfl rfl ?_
              apply Exists.intro
              refine ⟨fun x => ?_, ?_⟩
              · go_simp
                rfl
              apply Exists.intro
              refine ⟨by simp only [Act.put, List.setIfInBounds_toArray, List.set_cons_succ, List.set_cons_zero]; rfl, ?_⟩
            refine WM.mono_pure rfl rfl ?_
            refine ⟨.slice (cutA2 A c p) (ls.length - p) (c - p), fun x => ?_, ?_⟩
            · exact exec_slice 30 (.tmp 38) (some (.tmp 39)) none none rfl rfl rfl rfl rfl (run_sliceAt_from2 30 35 Try.underlying30 size35o A ls.length c p HPL.out x)
            apply Exists.intro
            refine ⟨by simp only [Act.put, List.setIfInBounds_toArray, List.set_cons_succ, List.set_cons_zero]; rfl, ?_⟩
            refine WM.mono_nil ?_
            intro x hD hF _
            have H7 : Hid (P7 (w.heap.size + 1) p ls d v37 x) := Lib.hid (hF 7).1
            refine wpList_append_dotsc rfl (.tmp 37) (.tmp 40) 30 rfl (w.heap.size + 1) 35 (.agg #[.int .i64 0, .int .u64 0]) 16 Try.underlying30 info35 rfl _ (p + 1) _ rfl H7.out (ls.drop p) (cutA2 A c p) (c - p) (· < w.heap.size) (by rw [List.length_drop]; rfl) (hD.l.behind HPL.out HC.out) (by have := HPL.out; have := HM.out; rw [List.length_drop]; unfold maxLen; omega) (by have := HPL.out; have := HM.out; rw [List.length_drop]; omega) hD.le ?_
            intro v5 w5 H5 B5
            rw [HDD.out] at H5
            obtain ⟨A5, c5, rfl, hd5, hl5, _⟩ := own_dots H5.out
            have HB5 : Hid (Below w.heap.size w w5) := Lib.hid (hD.below.trans (B5.out.mono (Nat.le_succ _)))
            have HD5 : Hid (Dots w5 (· < w5.heap.size) A5 (insertF ls d)) := Lib.hid (hd5.loose fun b h => h.2)
            have HL5 := Lib.hid hl5
            clear hD hF hd5 hl5 H7 HX
            go_simp
            go_wp2
            go_ret
            exact ⟨A5, c5, rfl, HD5.out, HL5.out, HB5.out⟩
end Go.Proofs.Ytnpacjdgbmldlaa
