/- The law CartValue of layer 6: its mathematics and its loops. -/
import Derived.Test.YtnpacjdgbmldlaaCaK18a
set_option linter.unusedVariables false
set_option linter.unusedSimpArgs false
namespace Go.Proofs.Ytnpacjdgbmldlaa
open Go.RowKit Go.Lib

theorem ofE_ne (l : List Ent) {it jt : Int} (h : jt ≠ it) : ofE (l.filter fun x => decide (x.item ≠ it)) jt = ofE l jt := by
  unfold ofE
  rw [List.filter_filter]
  congr 1
  funext x
  by_cases hx : x.item = jt
  · rw [decide_eq_true hx, decide_eq_true (by rw [hx]; exact h)]
    rfl
  · rw [decide_eq_false hx]
    rfl
theorem parts_len (l : List Ent) (it : Int) : (ofE l it).length + (l.filter fun x => decide (x.item ≠ it)).length = l.length := by
  induction l with
  | nil => rfl
  | cons e l ih =>
    unfold ofE at *
    by_cases h : e.item = it
    · rw [List.filter_cons_of_pos (by simpa using h), List.filter_cons_of_neg (by simpa using h), List.length_cons, List.length_cons]
      omega
    · rw [List.filter_cons_of_neg (by simpa using h), List.filter_cons_of_pos (by simpa using h), List.length_cons, List.length_cons]
      omega
theorem linesF_spec : ∀ (q : Nat) (l : List Ent), l.length ≤ q → l.Pairwise (fun x y => x.item ≤ y.item) →
    (∀ d ∈ linesF q l, d.2 = quantE (ofE l d.1) ∧ 0 < (ofE l d.1).length ∧ ∃ e ∈ l, e.item = d.1) ∧ (linesF q l).Pairwise (fun a b => a.1 < b.1) ∧ ((linesF q l).map fun d => (ofE l d.1).length).sum = l.length ∧ (linesF q l).length ≤ l.length
  | q, [], _, _ => by rw [linesF_nil]; exact ⟨fun d hd => (by cases hd), List.Pairwise.nil, rfl, Nat.le_refl _⟩
  | 0, e :: l, h, _ => by simp at h
  | q + 1, e :: l, h, hs => by
    obtain ⟨r, hr⟩ : ∃ r, r = (e :: l).filter fun x => decide (x.item ≠ e.item) := ⟨_, rfl⟩
    have hpl := parts_len (e :: l) e.item
    rw [← hr] at hpl
    have h0 : 0 < (ofE (e :: l) e.item).length := by
      unfold ofE
      rw [List.filter_cons_of_pos (by simp)]
      simp
    have hsr : r.Pairwise fun x y => x.item ≤ y.item := by rw [hr]; exact hs.sublist List.filter_sublist
    obtain ⟨i1, i2, i3, i4⟩ := linesF_spec q r (by simp only [List.length_cons] at h hpl; omega) hsr
    have hne : ∀ d ∈ linesF q r, d.1 ≠ e.item ∧ e.item ≤ d.1 := fun d hd => by
      obtain ⟨_, _, x, hx, hxd⟩ := i1 d hd
      rw [hr, List.mem_filter, decide_eq_true_eq] at hx
      rw [← hxd]
      refine ⟨hx.2, ?_⟩
      rcases List.mem_cons.1 hx.1 with hxe | hxl
      · rw [hxe]; exact Int.le_refl _
      · exact (List.pairwise_cons.1 hs).1 x hxl
    have hof : ∀ d ∈ linesF q r, ofE r d.1 = ofE (e :: l) d.1 := fun d hd => by rw [hr]; exact ofE_ne _ (hne d hd).1
    have hl : linesF (q + 1) (e :: l) = (e.item, quantE (ofE (e :: l) e.item)) :: linesF q r := by rw [hr]; rfl
    rw [hl]
    refine ⟨fun d hd => ?_, ?_, ?_, ?_⟩
    · rcases List.mem_cons.1 hd with rfl | hd
      · exact ⟨rfl, h0, e, List.mem_cons_self, rfl⟩
      · obtain ⟨j1, j2, x, hx, hxd⟩ := i1 d hd
        rw [hof d hd] at j1 j2
        refine ⟨j1, j2, x, ?_, hxd⟩
        rw [hr] at hx
        exact (List.mem_filter.1 hx).1
    · refine List.pairwise_cons.2 ⟨fun d hd => ?_, i2⟩
      have := hne d hd
      simp only
      omega
    · rw [List.map_cons, List.sum_cons]
      have e1 : ((linesF q r).map fun d => (ofE (e :: l) d.1).length) = (linesF q r).map fun d => (ofE r d.1).length := List.map_congr_left fun d hd => by rw [hof d hd]
      rw [e1, i3]
      exact hpl
    · rw [List.length_cons]
      omega
theorem sum_perm {l l' : List Nat} (h : l.Perm l') : l.sum = l'.sum := by
  induction h with
  | nil => rfl
  | cons x _ ih => rw [List.sum_cons, List.sum_cons, ih]
  | swap x y l => rw [List.sum_cons, List.sum_cons, List.sum_cons, List.sum_cons]; omega
  | trans _ _ h1 h2 => exact h1.trans h2
theorem quant_perm {l l' : List Ent} (h : l.Perm l') : quantE l = quantE l' := by
  unfold quantE Ta.Tal.ups Ta.Tal.downs Ta.Tal.sum
  rw [sum_perm ((h.map (·.qty)).map Ta.Tal.up), sum_perm ((h.map (·.qty)).map Ta.Tal.down)]
theorem of_perm {l l' : List Ent} (h : l.Perm l') (it : Int) : (ofE l it).Perm (ofE l' it) := h.filter _
theorem value_line (ls : List Ent) (d : Dt) (hd : d ∈ valueE ls) : d.2 = quantE (ofE ls d.1) ∧ 0 < (ofE ls d.1).length := by
  obtain ⟨h, _⟩ := linesF_spec (ordE ls).length (ordE ls) (Nat.le_refl _) (ordE_items ls)
  obtain ⟨h1, h2, _⟩ := h d hd
  have hp := of_perm (ordE_perm ls) d.1
  rw [quant_perm hp] at h1
  rw [hp.length_eq] at h2
  exact ⟨h1, h2⟩
theorem value_rise (ls : List Ent) : (valueE ls).Pairwise fun a b => a.1 < b.1 := (linesF_spec (ordE ls).length (ordE ls) (Nat.le_refl _) (ordE_items ls)).2.1
theorem value_sum (ls : List Ent) : ((valueE ls).map fun d => (ofE ls d.1).length).sum = ls.length := by
  have h := (linesF_spec (ordE ls).length (ordE ls) (Nat.le_refl _) (ordE_items ls)).2.2.1
  rw [ordE_len] at h
  rw [← h]
  unfold valueE
  rw [ordE_len]
  congr 1
  exact List.map_congr_left fun d _ => ((of_perm (ordE_perm ls) d.1).length_eq).symm
theorem value_len (ls : List Ent) : (valueE ls).length ≤ ls.length := by
  have h := (linesF_spec (ordE ls).length (ordE ls) (Nat.le_refl _) (ordE_items ls)).2.2.2
  rw [ordE_len] at h
  unfold valueE
  rw [ordE_len]
  exact h
theorem sum_take {α : Type} (g : α → Nat) (l : List α) (i : Nat) : ((l.take i).map g).sum ≤ (l.map g).sum := by
  have h : l.map g = (l.take i).map g ++ (l.drop i).map g := by rw [← List.map_append, List.take_append_drop]
  rw [h, List.sum_append]
  omega
theorem value_turn (ls : List Ent) (t : Nat) : valueE (ls.drop t ++ ls.take t) = valueE ls := by
  unfold valueE
  rw [ordE_same (List.perm_append_comm.trans (by rw [List.take_append_drop]) : (ls.drop t ++ ls.take t).Perm ls)]

/-- The cart and its lines. -/
structure VL (w : World) (f : Nat → Nat) (A : Option Addr) (c : Nat) (ls : List Ent) (A5 : Option Addr) (V : List Dt) (x : World) : Prop where
  c : CartAt x w.heap.size f A ls.length c
  v : Ents x (· < w.heap.size) A ls
  l : Dots x (· < x.heap.size) A5 V
  below : RowKit.Below w.heap.size w x
theorem VL.then_ {w x y : World} {f : Nat → Nat} {A : Option Addr} {c : Nat} {ls : List Ent} {A5 : Option Addr} {V : List Dt} (hb : RowKit.Below x.heap.size x y) (h : VL w f A c ls A5 V x) : VL w f A c ls A5 V y :=
  ⟨h.c.then_ hb, h.v.below (hb.mono h.below.size), h.l.grow hb, h.below.trans (hb.mono h.below.size)⟩
theorem VL.drew {w x : World} {f : Nat → Nat} {A : Option Addr} {c : Nat} {ls : List Ent} {A5 : Option Addr} {V : List Dt} (h : VL w f A c ls A5 V x) : VL w f A c ls A5 V x.drew := VL.then_ (x := x) (y := x.drew) ⟨rfl, rfl, rfl, Nat.le_refl _, fun _ _ => rfl⟩ h
theorem neq23_same (a : Int) {ev : Operand → Value} {o : Oper} {w : World} (x y : Operand) (ho : o.op = .binOp .neq 23 x y 23) (hx : ev x = .int .u64 a) (hy : ev y = .int .u64 a) : (execOp ev o).run Try.prog w = .ok (.value (.bool false)) w := by
  have h : (a != a) = false := by simp
  unfold execOp
  simp only [ho, hx, hy]
  go_simp
theorem geq3 (a b : Int) {q : Bool} (hq : decide (b ≤ a) = q) {ev : Operand → Value} {o : Oper} {w : World} (x y : Operand) (ho : o.op = .binOp .geq 3 x y 3) (hx : ev x = .int .i64 a) (hy : ev y = .int .i64 b) : (execOp ev o).run Try.prog w = .ok (.value (.bool q)) w := by
  subst hq
  unfold execOp
  simp only [ho, hx, hy]
  go_simp
theorem add3 (a b : Int) {q : Int} (hq : IntKind.i64.wrap (a + b) = q) {ev : Operand → Value} {o : Oper} {w : World} (x y : Operand) (ho : o.op = .binOp .add 3 x y 3) (hx : ev x = .int .i64 a) (hy : ev y = .int .i64 b) : (execOp ev o).run Try.prog w = .ok (.value (.int .i64 q)) w := by
  subst hq
  unfold execOp
  simp only [ho, hx, hy]
  go_simp

/-- The cart and its lines, below K. -/
structure VK (w : World) (f : Nat → Nat) (A : Option Addr) (c : Nat) (ls : List Ent) (A5 : Option Addr) (V : List Dt) (K : Nat) (x : World) : Prop where
  c : CartAt x w.heap.size f A ls.length c
  v : Ents x (· < w.heap.size) A ls
  l : Dots x (· < K) A5 V
  below : RowKit.Below w.heap.size w x
  hK : K ≤ x.heap.size
  hw : w.heap.size < K
theorem VK.low {w x y : World} {f : Nat → Nat} {A : Option Addr} {c : Nat} {ls : List Ent} {A5 : Option Addr} {V : List Dt} {K : Nat} (h : VK w f A c ls A5 V K x) (hb : RowKit.Below K x y) : VK w f A c ls A5 V K y :=
  ⟨h.c.below hb h.hw, h.v.below (hb.mono (Nat.le_of_lt h.hw)), h.l.below hb, h.below.trans (hb.mono (Nat.le_of_lt h.hw)), Nat.le_trans h.hK hb.size, h.hw⟩
theorem VK.drew {w x : World} {f : Nat → Nat} {A : Option Addr} {c : Nat} {ls : List Ent} {A5 : Option Addr} {V : List Dt} {K : Nat} (h : VK w f A c ls A5 V K x) : VK w f A c ls A5 V K x.drew := h.low (x := x) (y := x.drew) ⟨rfl, rfl, rfl, Nat.le_refl _, fun _ _ => rfl⟩
def N5p (K p : Nat) (ys : List Ent) (v : Value) (x : World) : Prop := x.ownsRow K 58 4 v p (ents4 ys)
def N10 (K n : Nat) (ot : List Ent) (v : Value) (x : World) : Prop := ∃ A c, v = .slice A n c ∧ x.ownsRow K 58 4 (.slice A n c) n (ents4 ot)
def N11 (K n : Nat) (ot : List Ent) (v : Value) (x : World) : Prop := ∃ A c, v = .agg (c0 (.slice A n c)) ∧ x.ownsRow K 58 4 (.slice A n c) n (ents4 ot)
abbrev z9c : Array Value := #[.int .u64 0, .int .u64 0, .int .u64 0, .int .u64 0, .int .u64 0, .int .u64 0, .int .u64 0, .int .u64 0, .slice none 0 0]
def P12 (K : Nat) (v : Value) (x : World) : Prop := ∃ g, v = .pointer (some ⟨g, 0, none⟩) ∧ K ≤ g ∧ x.heap[g]? = some (.cells z9c 56 (0, 0))
/-- Beside them the other cart, in block bo. -/
structure VO (w : World) (f : Nat → Nat) (A : Option Addr) (c : Nat) (ls : List Ent) (A5 : Option Addr) (V : List Dt) (K bo : Nat) (cs : Array Value) (v : Value) (n : Nat) (ot : List Ent) (x : World) : Prop where
  k : VK w f A c ls A5 V K x
  o : x.heap[bo]? = some (.cells cs 56 (0, 0))
  own : x.ownsRow K 58 4 v n (ents4 ot)
section
variable {w x y : World} {f : Nat → Nat} {A : Option Addr} {c1 : Nat} {ls : List Ent} {A5 : Option Addr} {V : List Dt} {K bo : Nat} {cs : Array Value} {v : Value} {n : Nat} {ot : List Ent}
theorem VO.then_ (h : VO w f A c1 ls A5 V K bo cs v n ot x) (hb : RowKit.Below x.heap.size x y) : VO w f A c1 ls A5 V K bo cs v n ot y :=
  ⟨h.k.low (hb.mono h.k.hK), (hb.block _ (lt_of_row h.o)).trans h.o, own_keep h.own fun k _ hk => hb.block k hk⟩
theorem VO.c (h : VO w f A c1 ls A5 V K bo cs v n ot x) : CartAt x w.heap.size f A ls.length c1 := h.k.c
theorem VO.l (h : VO w f A c1 ls A5 V K bo cs v n ot x) : Dots x (· < K) A5 V := h.k.l
theorem VO.below (h : VO w f A c1 ls A5 V K bo cs v n ot x) : RowKit.Below w.heap.size w x := h.k.below
theorem VO.hK (h : VO w f A c1 ls A5 V K bo cs v n ot x) : K ≤ x.heap.size := h.k.hK
theorem VO.range (h : VO w f A c1 ls A5 V K bo cs v n ot x) : rangeA x bo 0 cs := fun j u hu => by rw [Nat.zero_add, cell_of_row _ _ _ _ _ _ h.o]; exact hu
theorem VO.ents {A6 : Option Addr} {c6 : Nat} (h : VO w f A c1 ls A5 V K bo cs (.slice A6 n c6) n ot x) : Ents x (· < x.heap.size) A6 ot := by
  obtain ⟨A', c', e, hE, _⟩ := own_ents h.own
  injection e with e1 _ _
  subst e1
  exact hE.loose fun b h => h.2
theorem VK.stored (h : VK w f A c1 ls A5 V K x) (hbo : K ≤ bo) (ho : x.heap[bo]? = some (.cells z9c 56 (0, 0))) (hown : x.ownsRow K 58 4 v n (ents4 ot)) : VO w f A c1 ls A5 V K bo cs v n ot (x.setRow bo cs) := by
  have hb : RowKit.Below K x (x.setRow bo cs) := below_setRow' (RowKit.Below.refl _ _) hbo _
  refine ⟨h.low hb, setRow_heap _ _ _ _ _ _ ho, hown.kept (row := some bo) ⟨rfl, rfl, rfl, by simp, fun k _ hne => setRow_other _ _ _ _ (fun e => hne (by rw [e]))⟩ (.inr fun e => ?_)⟩
  obtain ⟨cur, hc⟩ := own_tag hown e
  rw [ho] at hc
  injection hc with hc
  injection hc with _ hc
  exact absurd hc (by decide)
end

set_option maxRecDepth 100000 in
set_option maxHeartbeats 32000000 in
theorem law_cvalue (f : Nat → Nat) (ls : List Ent) (c : Nat) (A : Option Addr) (tz : Int) (w : World) (hv : Ents w (· < w.heap.size) A ls) (hcap : ls.length ≤ c) (hok : ∀ e ∈ ls, EntOk e) :
    Calls Try.prog 9 #[cartV f A ls.length c, .int .i64 tz] w fun e w' => e = .returned (.bool true) ∧ RowKit.Below w.heap.size w w' := by
  obtain ⟨w1, hw1⟩ : ∃ w1, w1 = w.alloc (.cells (cartC f A ls.length c) 56) := ⟨_, rfl⟩
  have HX : Hid (CB w f A c ls w1) := Lib.hid (by
    rw [hw1]
    exact ⟨CartAt.new _ _ _ _ _, hv.below (below1 _ _), below1 _ _⟩)
  have HW := Lib.hid hw1
  have HR := Lib.hid HX.out.c.range
  have HG := Lib.hid (cgreat_any f ls.length c A w1)
  have s56 := Lib.hid (cart_size56 f A ls.length c)
  have HCAP := Lib.hid hcap
  have HQO : Hid (QtyOk ls) := Lib.hid (fun e he => (hok e he).2.1)
  clear hv hw1 hcap hok
  go_enter Try.func9, Try.ntmps9
  by_cases hbig : 60 < ls.length
  · rw [decide_eq_true hbig] at HG
    go_wp2_with (first
      | (rw [← HW.out]; refine wpList_load_arr rfl 56 _ rfl w.heap.size 0 rfl (cartC f A ls.length c) _ HR.out Try.underlying56 rfl s56.out ?_)
      | fail)
    refine HG.out.mono ?_
    rintro e w2 ⟨rfl, hb⟩
    replace HX := Lib.hid (HX.out.then_ hb)
    clear hb HG HR HW
    have HA := Lib.hid (alive6_any w2)
    go_wp2_with fail
    refine HA.out.mono ?_
    rintro e y ⟨rfl, hb⟩
    replace HX := Lib.hid (HX.out.then_ hb)
    clear hb HA
    go_wp2_with fail
    go_ret
    exact ⟨rfl, HX.out.below⟩
  rw [decide_eq_false hbig] at HG
  have HM60 : Hid (ls.length ≤ 60) := Lib.hid (by omega)
  have HM : Hid (ls.length ≤ 100000) := Lib.hid (by omega)
  clear hbig
  go_wp2_with (first
    | (rw [← HW.out]; refine wpList_load_arr rfl 56 _ rfl w.heap.size 0 rfl (cartC f A ls.length c) _ HR.out Try.underlying56 rfl s56.out ?_)
    | fail)
  refine HG.out.mono ?_
  rintro e w2 ⟨rfl, hb⟩
  replace HX := Lib.hid (HX.out.then_ hb)
  replace HR := Lib.hid HX.out.c.range
  have HVA := Lib.hid (value_any f ls c A w2 (HX.out.v.loose fun b hb => Nat.lt_of_lt_of_le hb HX.out.below.size) HM.out HQO.out)
  obtain ⟨V, hV⟩ : ∃ V, V = valueE ls := ⟨_, rfl⟩
  rw [← hV] at HVA
  have HVE := Lib.hid hV
  clear hb HG HW hV
  go_wp2_with (first
    | (refine wpList_load_arr rfl 56 _ rfl w.heap.size 0 rfl (cartC f A ls.length c) _ HR.out Try.underlying56 rfl s56.out ?_)
    | fail)
  refine HVA.out.mono ?_
  rintro e w3 ⟨v5, rfl, ho5, hb⟩
  obtain ⟨A5, c5, e5, hd5, _⟩ := own_dots ho5
  subst e5
  have HX3 : Hid (VL w f A c ls A5 V w3) := Lib.hid ⟨HX.out.c.then_ hb, HX.out.v.below (hb.mono HX.out.below.size), hd5.loose fun b h => h.2, HX.out.below.trans (hb.mono HX.out.below.size)⟩
  obtain ⟨m, hm⟩ : ∃ m, m = V.length := ⟨_, rfl⟩
  have HML : Hid (m = V.length) := Lib.hid hm
  have HMM : Hid (m ≤ 60) := Lib.hid (by rw [hm, HVE.out]; exact Nat.le_trans (value_len ls) HM60.out)
  rw [← hm]
  clear ho5 hd5 hb HVA HX HR hm
  go_wp2_with fail
  go_loopw [6] (fun u wr => ∃ i : Nat, i ≤ m ∧ u = .int .i64 (i : Int) ∧ Hid (VL w f A c ls A5 V wr)) (fun u _ => m - (intOf u).toNat)
  case atStart => exact ⟨0, Nat.zero_le _, rfl, HX3⟩
  case round =>
    clear HX3
    obtain ⟨i, hi, rfl, HX⟩ := hrel
    by_cases hlt : i < m
    · obtain ⟨b5, o5, hA5⟩ := HX.out.l.some_ (by have := HML.out; omega)
      subst hA5
      have HLT : Hid (i < V.length) := Lib.hid (by have := HML.out; omega)
      obtain ⟨it, hit⟩ : ∃ it, it = (V.getD i (0, 0)).1 := ⟨_, rfl⟩
      obtain ⟨q, hq⟩ : ∃ q, q = quantE (ofE ls it) := ⟨_, rfl⟩
      have HI := Lib.hid hit
      have HQ := Lib.hid hq
      have hvl := value_line ls (V.getD i (0, 0)) (by rw [← HVE.out, List.getD_eq_getElem?_getD, List.getElem?_eq_getElem HLT.out]; exact List.getElem_mem _)
      rw [← hit] at hvl
      have HIS : Hid (decide (0 < (ofE ls it).length) = true) := Lib.hid (decide_eq_true hvl.2)
      have HQL : Hid (q = (V.getD i (0, 0)).2) := Lib.hid (by rw [hq, hvl.1])
      have eJ : IntKind.i64.wrap ((i : Int) + 1) = (i : Int) + 1 := by have := HMM.out; rw [IntKind.wrap_i64]; omega
      have hii : (i : Int) < (m : Int) := by omega
      clear hit hq hvl
      go_wp2_with fail
      refine WM.wp_region_kinds (fun _ x y => RowKit.Below x.heap.size x y) (fun _ x => VL w f A c ls (some ⟨b5, o5, none⟩) V x) (fun x => VL w f A c ls (some ⟨b5, o5, none⟩) V x)
        [(0, .val (cartV f A ls.length c) fun _ => True), (5, .val (.int .i64 it) fun _ => True), (6, .val (.tuple #[.int .u64 (q : Int), .bool true]) fun _ => True)] (by kernel_rfl) (by kernel_rfl) (fun _ _ _ hb h => h.then_ hb) (fun _ _ _ _ _ hb h => h.then_ hb) ?_ HX.out.drew (fun _ => HX.out.drew) ?_
      · intro z hz
        simp only [List.mem_cons, List.mem_nil_iff, or_false] at hz
        rcases hz with rfl | rfl | rfl <;> first | exact fun _ _ _ _ _ _ => trivial | exact fun _ _ _ _ _ _ h => h
      refine WM.mono_val rfl rfl (fun x hD hF => ?_) ?_
      · have hl := run_loadVar_arr (P := Try.prog) x w.heap.size 0 56 (cartC f A ls.length c) _ hD.c.range Try.underlying56 rfl (cart_size56 _ _ _ _)
        rw [exec_load 56 (.tmp 2) rfl w.heap.size 0 rfl hl]
        exact ⟨RowKit.Below.refl _ _, rfl, trivial⟩
      apply Exists.intro
      refine ⟨by simp only [Act.put, List.setIfInBounds_toArray, List.set_cons_succ, List.set_cons_zero]; rfl, ?_⟩
      refine WM.mono_pure rfl rfl ?_
      refine ⟨.slice (some ⟨b5, o5, none⟩) m c5, fun x => ?_, ?_⟩
      · go_simp
      apply Exists.intro
      refine ⟨by simp only [Act.put, List.setIfInBounds_toArray, List.set_cons_succ, List.set_cons_zero]; rfl, ?_⟩
      refine WM.mono_pure rfl rfl ?_
      refine ⟨.int .i64 (i : Int), fun x => ?_, ?_⟩
      · go_simp
      apply Exists.intro
      refine ⟨by simp only [Act.put, List.setIfInBounds_toArray, List.set_cons_succ, List.set_cons_zero]; rfl, ?_⟩
      refine WM.mono_pure rfl rfl ?_
      refine ⟨.pointer (some ⟨b5, o5 + i * 2, none⟩), fun x => ?_, ?_⟩
      · go_simp
      apply Exists.intro
      refine ⟨by simp only [Act.put, List.setIfInBounds_toArray, List.set_cons_succ, List.set_cons_zero]; rfl, ?_⟩
      refine WM.mono_pure rfl rfl ?_
      refine ⟨.pointer (some ⟨b5, o5 + i * 2, none⟩), fun x => ?_, ?_⟩
      · go_simp
      apply Exists.intro
      refine ⟨by simp only [Act.put, List.setIfInBounds_toArray, List.set_cons_succ, List.set_cons_zero]; rfl, ?_⟩
      refine WM.mono_val rfl rfl (fun x hD hF => ?_) ?_
      · have hc := (hD.l.cells (j := i) HLT.out).1
        rw [← HI.out] at hc
        go_simp
        exact ⟨RowKit.Below.refl _ _, rfl⟩
      apply Exists.intro
      refine ⟨by simp only [Act.put, List.setIfInBounds_toArray, List.set_cons_succ, List.set_cons_zero]; rfl, ?_⟩
      refine WM.mono_val rfl rfl (fun x hD hF => ?_) ?_
      · have h1 := cget_any f ls c A it x (hD.v.loose fun b hb => Nat.lt_of_lt_of_le hb hD.below.size) HM.out HQO.out
        rw [← HQ.out, HIS.out] at h1
        go_simp
        refine h1.mono ?_
        rintro e y ⟨rfl, hb⟩
        exact ⟨_, rfl, hb, rfl⟩
      apply Exists.intro
      refine ⟨by simp only [Act.put, List.setIfInBounds_toArray, List.set_cons_succ, List.set_cons_zero]; rfl, ?_⟩
      refine WM.mono_pure rfl rfl ?_
      refine ⟨.tuple #[.int .u64 (q : Int), .bool true], fun x => ?_, ?_⟩
      · go_simp
      apply Exists.intro
      refine ⟨by simp only [Act.put, List.setIfInBounds_toArray, List.set_cons_succ, List.set_cons_zero]; rfl, ?_⟩
      refine WM.mono_pure rfl rfl ?_
      refine ⟨.int .u64 (q : Int), fun x => ?_, ?_⟩
      · go_simp
      apply Exists.intro
      refine ⟨by simp only [Act.put, List.setIfInBounds_toArray, List.set_cons_succ, List.set_cons_zero]; rfl, ?_⟩
      refine WM.mono_pure rfl rfl ?_
      refine ⟨.bool true, fun x => ?_, ?_⟩
      · go_simp
      apply Exists.intro
      refine ⟨by simp only [Act.put, List.setIfInBounds_toArray, List.set_cons_succ, List.set_cons_zero]; rfl, ?_⟩
      refine WM.mono_pure rfl rfl ?_
      refine ⟨.int .u64 (q : Int), fun x => ?_, ?_⟩
      · go_simp
      apply Exists.intro
      refine ⟨by simp only [Act.put, List.setIfInBounds_toArray, List.set_cons_succ, List.set_cons_zero]; rfl, ?_⟩
      refine WM.mono_pure rfl rfl ?_
      refine ⟨.bool true, fun x => ?_, ?_⟩
      · go_simp
      apply Exists.intro
      refine ⟨by simp only [Act.put, List.setIfInBounds_toArray, List.set_cons_succ, List.set_cons_zero]; rfl, ?_⟩
      refine WM.mono_nil ?_
      intro x hD hF
      replace HX := Lib.hid hD
      clear hD hF
      go_simp
      go_wp2_with fail
      by_cases hi0 : i = 0
      · have HG : Hid (decide ((0 : Int) < (i : Int)) = false) := Lib.hid (decide_eq_false (by omega))
        clear hi0
        refine WM.wp_region_kinds (fun _ x y => RowKit.Below x.heap.size x y) (fun _ x => VL w f A c ls (some ⟨b5, o5, none⟩) V x) (fun x => VL w f A c ls (some ⟨b5, o5, none⟩) V x)
          [(8, .val (.int .u64 (q : Int)) fun _ => True)] (by kernel_rfl) (by kernel_rfl) (fun _ _ _ hb h => h.then_ hb) (fun _ _ _ _ _ hb h => h.then_ hb) ?_ HX.out.drew (fun _ => HX.out.drew) ?_
        · intro z hz
          simp only [List.mem_cons, List.mem_nil_iff, or_false] at hz
          subst hz
          exact fun _ _ _ _ _ _ => trivial
        refine WM.mono_pure rfl rfl ?_
        refine ⟨.bool true, fun x => ?_, ?_⟩
        · go_simp
        apply Exists.intro
        refine ⟨by simp only [Act.put, List.setIfInBounds_toArray, List.set_cons_succ, List.set_cons_zero]; rfl, ?_⟩
        refine WM.mono_pure rfl rfl ?_
        refine ⟨.bool false, fun x => ?_, ?_⟩
        · go_simp
        apply Exists.intro
        refine ⟨by simp only [Act.put, List.setIfInBounds_toArray, List.set_cons_succ, List.set_cons_zero]; rfl, ?_⟩
        refine WM.mono_pure rfl rfl ?_
        refine ⟨.bool false, fun x => ?_, ?_⟩
        · go_simp
        apply Exists.intro
        refine ⟨by simp only [Act.put, List.setIfInBounds_toArray, List.set_cons_succ, List.set_cons_zero]; rfl, ?_⟩
        refine WM.mono_pure rfl rfl ?_
        refine ⟨.int .u64 (q : Int), fun x => ?_, ?_⟩
        · go_simp
        apply Exists.intro
        refine ⟨by simp only [Act.put, List.setIfInBounds_toArray, List.set_cons_succ, List.set_cons_zero]; rfl, ?_⟩
        refine WM.mono_pure rfl rfl ?_
        refine ⟨.slice (some ⟨b5, o5, none⟩) m c5, fun x => ?_, ?_⟩
        · go_simp
        apply Exists.intro
        refine ⟨by simp only [Act.put, List.setIfInBounds_toArray, List.set_cons_succ, List.set_cons_zero]; rfl, ?_⟩
        refine WM.mono_pure rfl rfl ?_
        refine ⟨.int .i64 (i : Int), fun x => ?_, ?_⟩
        · go_simp
        apply Exists.intro
        refine ⟨by simp only [Act.put, List.setIfInBounds_toArray, List.set_cons_succ, List.set_cons_zero]; rfl, ?_⟩
        refine WM.mono_pure rfl rfl ?_
        refine ⟨.pointer (some ⟨b5, o5 + i * 2, none⟩), fun x => ?_, ?_⟩
        · go_simp
        apply Exists.intro
        refine ⟨by simp only [Act.put, List.setIfInBounds_toArray, List.set_cons_succ, List.set_cons_zero]; rfl, ?_⟩
        refine WM.mono_pure rfl rfl ?_
        refine ⟨.pointer (some ⟨b5, o5 + i * 2 + 1, none⟩), fun x => ?_, ?_⟩
        · go_simp
        apply Exists.intro
        refine ⟨by simp only [Act.put, List.setIfInBounds_toArray, List.set_cons_succ, List.set_cons_zero]; rfl, ?_⟩
        refine WM.mono_val rfl rfl (fun x hD hF => ?_) ?_
        · have hc := (hD.l.cells (j := i) HLT.out).2
          rw [← HQL.out] at hc
          go_simp
          exact ⟨RowKit.Below.refl _ _, rfl⟩
        apply Exists.intro
        refine ⟨by simp only [Act.put, List.setIfInBounds_toArray, List.set_cons_succ, List.set_cons_zero]; rfl, ?_⟩
        refine WM.mono_pure rfl rfl ?_
        refine ⟨.bool false, fun x => ?_, ?_⟩
        · exact neq23_same (q : Int) (.tmp 36) (.tmp 41) rfl rfl rfl
        apply Exists.intro
        refine ⟨by simp only [Act.put, List.setIfInBounds_toArray, List.set_cons_succ, List.set_cons_zero]; rfl, ?_⟩
        refine WM.mono_pure rfl rfl ?_
        refine ⟨.bool false, fun x => ?_, ?_⟩
        · go_simp
        apply Exists.intro
        refine ⟨by simp only [Act.put, List.setIfInBounds_toArray, List.set_cons_succ, List.set_cons_zero]; rfl, ?_⟩
        refine WM.mono_pure rfl rfl ?_
        refine ⟨.bool false, fun x => ?_, ?_⟩
        · go_simp
        apply Exists.intro
        refine ⟨by simp only [Act.put, List.setIfInBounds_toArray, List.set_cons_succ, List.set_cons_zero]; rfl, ?_⟩
        refine WM.mono_pure rfl rfl ?_
        refine ⟨.int .i64 (i : Int), fun x => ?_, ?_⟩
        · go_simp
        apply Exists.intro
        refine ⟨by simp only [Act.put, List.setIfInBounds_toArray, List.set_cons_succ, List.set_cons_zero]; rfl, ?_⟩
        refine WM.mono_pure rfl rfl ?_
        refine ⟨.bool false, fun x => ?_, ?_⟩
        · exact gtr3 (i : Int) 0 HG.out (.tmp 45) (.const (.int .i64 0)) rfl rfl rfl
        apply Exists.intro
        refine ⟨by simp only [Act.put, List.setIfInBounds_toArray, List.set_cons_succ, List.set_cons_zero]; rfl, ?_⟩
        refine WM.mono_pure rfl rfl ?_
        refine ⟨.bool false, fun x => ?_, ?_⟩
        · go_simp
        apply Exists.intro
        refine ⟨by simp only [Act.put, List.setIfInBounds_toArray, List.set_cons_succ, List.set_cons_zero]; rfl, ?_⟩
        refine WM.mono_skip rfl ?_
        apply Exists.intro
        refine ⟨by simp only [Act.put, List.setIfInBounds_toArray, List.set_cons_succ, List.set_cons_zero]; rfl, ?_⟩
        refine WM.mono_skip rfl ?_
        apply Exists.intro
        refine ⟨by simp only [Act.put, List.setIfInBounds_toArray, List.set_cons_succ, List.set_cons_zero]; rfl, ?_⟩
        refine WM.mono_skip rfl ?_
        apply Exists.intro
        refine ⟨by simp only [Act.put, List.setIfInBounds_toArray, List.set_cons_succ, List.set_cons_zero]; rfl, ?_⟩
        refine WM.mono_skip rfl ?_
        apply Exists.intro
        refine ⟨by simp only [Act.put, List.setIfInBounds_toArray, List.set_cons_succ, List.set_cons_zero]; rfl, ?_⟩
        refine WM.mono_skip rfl ?_
        apply Exists.intro
        refine ⟨by simp only [Act.put, List.setIfInBounds_toArray, List.set_cons_succ, List.set_cons_zero]; rfl, ?_⟩
        refine WM.mono_skip rfl ?_
        apply Exists.intro
        refine ⟨by simp only [Act.put, List.setIfInBounds_toArray, List.set_cons_succ, List.set_cons_zero]; rfl, ?_⟩
        refine WM.mono_skip rfl ?_
        apply Exists.intro
        refine ⟨by simp only [Act.put, List.setIfInBounds_toArray, List.set_cons_succ, List.set_cons_zero]; rfl, ?_⟩
        refine WM.mono_skip rfl ?_
        apply Exists.intro
        refine ⟨by simp only [Act.put, List.setIfInBounds_toArray, List.set_cons_succ, List.set_cons_zero]; rfl, ?_⟩
        refine WM.mono_skip rfl ?_
        apply Exists.intro
        refine ⟨by simp only [Act.put, List.setIfInBounds_toArray, List.set_cons_succ, List.set_cons_zero]; rfl, ?_⟩
        refine WM.mono_skip rfl ?_
        apply Exists.intro
        refine ⟨by simp only [Act.put, List.setIfInBounds_toArray, List.set_cons_succ, List.set_cons_zero]; rfl, ?_⟩
        refine WM.mono_skip rfl ?_
        apply Exists.intro
        refine ⟨by simp only [Act.put, List.setIfInBounds_toArray, List.set_cons_succ, List.set_cons_zero]; rfl, ?_⟩
        refine WM.mono_skip rfl ?_
        apply Exists.intro
        refine ⟨by simp only [Act.put, List.setIfInBounds_toArray, List.set_cons_succ, List.set_cons_zero]; rfl, ?_⟩
        refine WM.mono_pure rfl rfl ?_
        refine ⟨.bool false, fun x => ?_, ?_⟩
        · go_simp
        apply Exists.intro
        refine ⟨by simp only [Act.put, List.setIfInBounds_toArray, List.set_cons_succ, List.set_cons_zero]; rfl, ?_⟩
        refine WM.mono_pure rfl rfl ?_
        refine ⟨.bool false, fun x => ?_, ?_⟩
        · go_simp
        apply Exists.intro
        refine ⟨by simp only [Act.put, List.setIfInBounds_toArray, List.set_cons_succ, List.set_cons_zero]; rfl, ?_⟩
        refine WM.mono_nil ?_
        intro x hD hF
        replace HX := Lib.hid hD
        clear hD hF
        go_simp
        go_wp2
        go_roundw
        all_goals clear eJ
        case rel => exact ⟨i + 1, by omega, by go_num, HX⟩
        case measure => simp [intOf]; omega
      · have HG : Hid (decide ((0 : Int) < (i : Int)) = true) := Lib.hid (decide_eq_true (by omega))
        obtain ⟨p, hp⟩ : ∃ p, p = i - 1 := ⟨_, rfl⟩
        obtain ⟨jt, hjt⟩ : ∃ jt, jt = (V.getD p (0, 0)).1 := ⟨_, rfl⟩
        have HIp := Lib.hid hjt
        have HS : Hid (IntKind.i64.wrap ((i : Int) - 1) = (p : Int)) := Lib.hid (by have := HMM.out; rw [IntKind.wrap_i64]; omega)
        have HLP : Hid (p < V.length) := Lib.hid (by have := HLT.out; omega)
        have hpi : (p : Int) < (m : Int) := by omega
        have HGE : Hid (decide (it ≤ jt) = false) := Lib.hid (by
          have h := value_rise ls
          rw [← HVE.out] at h
          have h1 := List.pairwise_iff_getElem.1 h p i HLP.out HLT.out (by omega)
          rw [decide_eq_false_iff_not, HI.out, HIp.out, List.getD_eq_getElem?_getD, List.getD_eq_getElem?_getD, List.getElem?_eq_getElem HLP.out, List.getElem?_eq_getElem HLT.out]
          simp only [Option.getD_some]
          omega)
        clear hi0 hp hjt
        refine WM.wp_region_kinds (fun _ x y => RowKit.Below x.heap.size x y) (fun _ x => VL w f A c ls (some ⟨b5, o5, none⟩) V x) (fun x => VL w f A c ls (some ⟨b5, o5, none⟩) V x)
          [(8, .val (.int .u64 (q : Int)) fun _ => True), (20, .val (.int .i64 jt) fun _ => True), (25, .val (.int .i64 it) fun _ => True)] (by kernel_rfl) (by kernel_rfl) (fun _ _ _ hb h => h.then_ hb) (fun _ _ _ _ _ hb h => h.then_ hb) ?_ HX.out.drew (fun _ => HX.out.drew) ?_
        · intro z hz
          simp only [List.mem_cons, List.mem_nil_iff, or_false] at hz
          rcases hz with rfl | rfl | rfl <;> first | exact fun _ _ _ _ _ _ => trivial | exact fun _ _ _ _ _ _ h => h
        refine WM.mono_pure rfl rfl ?_
        refine ⟨.bool true, fun x => ?_, ?_⟩
        · go_simp
        apply Exists.intro
        refine ⟨by simp only [Act.put, List.setIfInBounds_toArray, List.set_cons_succ, List.set_cons_zero]; rfl, ?_⟩
        refine WM.mono_pure rfl rfl ?_
        refine ⟨.bool false, fun x => ?_, ?_⟩
        · go_simp
        apply Exists.intro
        refine ⟨by simp only [Act.put, List.setIfInBounds_toArray, List.set_cons_succ, List.set_cons_zero]; rfl, ?_⟩
        refine WM.mono_pure rfl rfl ?_
        refine ⟨.bool false, fun x => ?_, ?_⟩
        · go_simp
        apply Exists.intro
        refine ⟨by simp only [Act.put, List.setIfInBounds_toArray, List.set_cons_succ, List.set_cons_zero]; rfl, ?_⟩
        refine WM.mono_pure rfl rfl ?_
        refine ⟨.int .u64 (q : Int), fun x => ?_, ?_⟩
        · go_simp
        apply Exists.intro
        refine ⟨by simp only [Act.put, List.setIfInBounds_toArray, List.set_cons_succ, List.set_cons_zero]; rfl, ?_⟩
        refine WM.mono_pure rfl rfl ?_
        refine ⟨.slice (some ⟨b5, o5, none⟩) m c5, fun x => ?_, ?_⟩
        · go_simp
        apply Exists.intro
        refine ⟨by simp only [Act.put, List.setIfInBounds_toArray, List.set_cons_succ, List.set_cons_zero]; rfl, ?_⟩
        refine WM.mono_pure rfl rfl ?_
        refine ⟨.int .i64 (i : Int), fun x => ?_, ?_⟩
        · go_simp
        apply Exists.intro
        refine ⟨by simp only [Act.put, List.setIfInBounds_toArray, List.set_cons_succ, List.set_cons_zero]; rfl, ?_⟩
        refine WM.mono_pure rfl rfl ?_
        refine ⟨.pointer (some ⟨b5, o5 + i * 2, none⟩), fun x => ?_, ?_⟩
        · go_simp
        apply Exists.intro
        refine ⟨by simp only [Act.put, List.setIfInBounds_toArray, List.set_cons_succ, List.set_cons_zero]; rfl, ?_⟩
        refine WM.mono_pure rfl rfl ?_
        refine ⟨.pointer (some ⟨b5, o5 + i * 2 + 1, none⟩), fun x => ?_, ?_⟩
        · go_simp
        apply Exists.intro
        refine ⟨by simp only [Act.put, List.setIfInBounds_toArray, List.set_cons_succ, List.set_cons_zero]; rfl, ?_⟩
        refine WM.mono_val rfl rfl (fun x hD hF => ?_) ?_
        · have hc := (hD.l.cells (j := i) HLT.out).2
          rw [← HQL.out] at hc
          go_simp
          exact ⟨RowKit.Below.refl _ _, rfl⟩
        apply Exists.intro
        refine ⟨by simp only [Act.put, List.setIfInBounds_toArray, List.set_cons_succ, List.set_cons_zero]; rfl, ?_⟩
        refine WM.mono_pure rfl rfl ?_
        refine ⟨.bool false, fun x => ?_, ?_⟩
        · exact neq23_same (q : Int) (.tmp 36) (.tmp 41) rfl rfl rfl
        apply Exists.intro
        refine ⟨by simp only [Act.put, List.setIfInBounds_toArray, List.set_cons_succ, List.set_cons_zero]; rfl, ?_⟩
        refine WM.mono_pure rfl rfl ?_
        refine ⟨.bool false, fun x => ?_, ?_⟩
        · go_simp
        apply Exists.intro
        refine ⟨by simp only [Act.put, List.setIfInBounds_toArray, List.set_cons_succ, List.set_cons_zero]; rfl, ?_⟩
        refine WM.mono_pure rfl rfl ?_
        refine ⟨.bool false, fun x => ?_, ?_⟩
        · go_simp
        apply Exists.intro
        refine ⟨by simp only [Act.put, List.setIfInBounds_toArray, List.set_cons_succ, List.set_cons_zero]; rfl, ?_⟩
        refine WM.mono_pure rfl rfl ?_
        refine ⟨.int .i64 (i : Int), fun x => ?_, ?_⟩
        · go_simp
        apply Exists.intro
        refine ⟨by simp only [Act.put, List.setIfInBounds_toArray, List.set_cons_succ, List.set_cons_zero]; rfl, ?_⟩
        refine WM.mono_pure rfl rfl ?_
        refine ⟨.bool true, fun x => ?_, ?_⟩
        · exact gtr3 (i : Int) 0 HG.out (.tmp 45) (.const (.int .i64 0)) rfl rfl rfl
        apply Exists.intro
        refine ⟨by simp only [Act.put, List.setIfInBounds_toArray, List.set_cons_succ, List.set_cons_zero]; rfl, ?_⟩
        refine WM.mono_pure rfl rfl ?_
        refine ⟨.bool true, fun x => ?_, ?_⟩
        · go_simp
        apply Exists.intro
        refine ⟨by simp only [Act.put, List.setIfInBounds_toArray, List.set_cons_succ, List.set_cons_zero]; rfl, ?_⟩
        refine WM.mono_pure rfl rfl ?_
        refine ⟨.slice (some ⟨b5, o5, none⟩) m c5, fun x => ?_, ?_⟩
        · go_simp
        apply Exists.intro
        refine ⟨by simp only [Act.put, List.setIfInBounds_toArray, List.set_cons_succ, List.set_cons_zero]; rfl, ?_⟩
        refine WM.mono_pure rfl rfl ?_
        refine ⟨.int .i64 (i : Int), fun x => ?_, ?_⟩
        · go_simp
        apply Exists.intro
        refine ⟨by simp only [Act.put, List.setIfInBounds_toArray, List.set_cons_succ, List.set_cons_zero]; rfl, ?_⟩
        refine WM.mono_pure rfl rfl ?_
        refine ⟨.int .i64 (p : Int), fun x => ?_, ?_⟩
        · exact sub3 (i : Int) 1 HS.out (.tmp 49) (.const (.int .i64 1)) rfl rfl rfl
        apply Exists.intro
        refine ⟨by simp only [Act.put, List.setIfInBounds_toArray, List.set_cons_succ, List.set_cons_zero]; rfl, ?_⟩
        refine WM.mono_pure rfl rfl ?_
        refine ⟨.pointer (some ⟨b5, o5 + p * 2, none⟩), fun x => ?_, ?_⟩
        · go_simp
        apply Exists.intro
        refine ⟨by simp only [Act.put, List.setIfInBounds_toArray, List.set_cons_succ, List.set_cons_zero]; rfl, ?_⟩
        refine WM.mono_pure rfl rfl ?_
        refine ⟨.pointer (some ⟨b5, o5 + p * 2, none⟩), fun x => ?_, ?_⟩
        · go_simp
        apply Exists.intro
        refine ⟨by simp only [Act.put, List.setIfInBounds_toArray, List.set_cons_succ, List.set_cons_zero]; rfl, ?_⟩
        refine WM.mono_val rfl rfl (fun x hD hF => ?_) ?_
        · have hc := (hD.l.cells (j := p) HLP.out).1
          rw [← HIp.out] at hc
          go_simp
          exact ⟨RowKit.Below.refl _ _, rfl⟩
        apply Exists.intro
        refine ⟨by simp only [Act.put, List.setIfInBounds_toArray, List.set_cons_succ, List.set_cons_zero]; rfl, ?_⟩
        refine WM.mono_pure rfl rfl ?_
        refine ⟨.slice (some ⟨b5, o5, none⟩) m c5, fun x => ?_, ?_⟩
        · go_simp
        apply Exists.intro
        refine ⟨by simp only [Act.put, List.setIfInBounds_toArray, List.set_cons_succ, List.set_cons_zero]; rfl, ?_⟩
        refine WM.mono_pure rfl rfl ?_
        refine ⟨.int .i64 (i : Int), fun x => ?_, ?_⟩
        · go_simp
        apply Exists.intro
        refine ⟨by simp only [Act.put, List.setIfInBounds_toArray, List.set_cons_succ, List.set_cons_zero]; rfl, ?_⟩
        refine WM.mono_pure rfl rfl ?_
        refine ⟨.pointer (some ⟨b5, o5 + i * 2, none⟩), fun x => ?_, ?_⟩
        · go_simp
        apply Exists.intro
        refine ⟨by simp only [Act.put, List.setIfInBounds_toArray, List.set_cons_succ, List.set_cons_zero]; rfl, ?_⟩
        refine WM.mono_pure rfl rfl ?_
        refine ⟨.pointer (some ⟨b5, o5 + i * 2, none⟩), fun x => ?_, ?_⟩
        · go_simp
        apply Exists.intro
        refine ⟨by simp only [Act.put, List.setIfInBounds_toArray, List.set_cons_succ, List.set_cons_zero]; rfl, ?_⟩
        refine WM.mono_val rfl rfl (fun x hD hF => ?_) ?_
        · have hc := (hD.l.cells (j := i) HLT.out).1
          rw [← HI.out] at hc
          go_simp
          exact ⟨RowKit.Below.refl _ _, rfl⟩
        apply Exists.intro
        refine ⟨by simp only [Act.put, List.setIfInBounds_toArray, List.set_cons_succ, List.set_cons_zero]; rfl, ?_⟩
        refine WM.mono_pure rfl rfl ?_
        refine ⟨.bool false, fun x => ?_, ?_⟩
        · exact geq3 jt it HGE.out (.tmp 53) (.tmp 58) rfl rfl rfl
        apply Exists.intro
        refine ⟨by simp only [Act.put, List.setIfInBounds_toArray, List.set_cons_succ, List.set_cons_zero]; rfl, ?_⟩
        refine WM.mono_pure rfl rfl ?_
        refine ⟨.bool false, fun x => ?_, ?_⟩
        · go_simp
        apply Exists.intro
        refine ⟨by simp only [Act.put, List.setIfInBounds_toArray, List.set_cons_succ, List.set_cons_zero]; rfl, ?_⟩
        refine WM.mono_pure rfl rfl ?_
        refine ⟨.bool false, fun x => ?_, ?_⟩
        · go_simp
        apply Exists.intro
        refine ⟨by simp only [Act.put, List.setIfInBounds_toArray, List.set_cons_succ, List.set_cons_zero]; rfl, ?_⟩
        refine WM.mono_nil ?_
        intro x hD hF
        replace HX := Lib.hid hD
        clear hD hF
        go_simp
        go_wp2
        go_roundw
        all_goals clear eJ
        case rel => exact ⟨i + 1, by omega, by go_num, HX⟩
        case measure => simp [intOf]; omega
    · obtain rfl : m = i := by omega
      clear hi
      go_wp2_with fail
      clear hlt
      go_loopw [9, 10] (fun uk ui wr => ∃ k i : Nat, i ≤ m ∧ ui = .int .i64 (i : Int) ∧ uk = .int .i64 (k : Int) ∧ Hid (k = ((V.take i).map fun d => (ofE ls d.1).length).sum) ∧ k ≤ ls.length ∧ Hid (VL w f A c ls A5 V wr)) (fun _ ui _ => m - (intOf ui).toNat)
      case atStart => exact ⟨0, 0, Nat.zero_le _, rfl, rfl, Lib.hid (by simp), Nat.zero_le _, HX⟩
      case round =>
        clear HX
        obtain ⟨k, i, hi, rfl, rfl, HK, hkl, HX⟩ := hrel
        by_cases hlt : i < m
        · obtain ⟨b5, o5, hA5⟩ := HX.out.l.some_ (by have := HML.out; omega)
          subst hA5
          have HLT : Hid (i < V.length) := Lib.hid (by have := HML.out; omega)
          obtain ⟨it, hit⟩ : ∃ it, it = (V.getD i (0, 0)).1 := ⟨_, rfl⟩
          obtain ⟨r, hr⟩ : ∃ r, r = (ofE ls it).length := ⟨_, rfl⟩
          have HI := Lib.hid hit
          have HRR := Lib.hid hr
          have HK2 : Hid (k + r = ((V.take (i + 1)).map fun d => (ofE ls d.1).length).sum) := Lib.hid (by
            rw [List.take_add_one, List.getElem?_eq_getElem HLT.out, Option.toList_some, List.map_append, List.sum_append, ← HK.out, hr, hit, List.getD_eq_getElem?_getD, List.getElem?_eq_getElem HLT.out]
            simp)
          have hkr : k + r ≤ ls.length := by
            rw [HK2.out, ← value_sum ls, ← HVE.out]
            exact sum_take _ V (i + 1)
          have HAD : Hid (IntKind.i64.wrap ((k : Int) + (r : Int)) = ((k + r : Nat) : Int)) := Lib.hid (by have := HM60.out; rw [IntKind.wrap_i64]; omega)
          have eJ : IntKind.i64.wrap ((i : Int) + 1) = (i : Int) + 1 := by have := HMM.out; rw [IntKind.wrap_i64]; omega
          have hii : (i : Int) < (m : Int) := by omega
          have HKR := Lib.hid hkr
          clear hit hr HK hkr
          go_wp2_with fail
          refine WM.wp_region_kinds (fun _ x y => RowKit.Below x.heap.size x y) (fun _ x => VL w f A c ls (some ⟨b5, o5, none⟩) V x) (fun x => VL w f A c ls (some ⟨b5, o5, none⟩) V x)
            [(1, .val (cartV f A ls.length c) fun _ => True), (6, .val (.int .i64 it) fun _ => True), (7, .mem (SlA r)), (8, .val (.int .i64 (r : Int)) fun _ => True)] (by kernel_rfl) (by kernel_rfl) (fun _ _ _ hb h => h.then_ hb) (fun _ _ _ _ _ hb h => h.then_ hb) ?_ HX.out.drew (fun _ => HX.out.drew) ?_
          · intro z hz
            simp only [List.mem_cons, List.mem_nil_iff, or_false] at hz
            rcases hz with rfl | rfl | rfl | rfl <;> first | exact fun _ _ _ _ _ _ => trivial | exact fun _ _ _ _ _ _ h => h
          refine WM.mono_pure rfl rfl ?_
          refine ⟨.int .i64 (k : Int), fun x => ?_, ?_⟩
          · go_simp
          apply Exists.intro
          refine ⟨by simp only [Act.put, List.setIfInBounds_toArray, List.set_cons_succ, List.set_cons_zero]; rfl, ?_⟩
          refine WM.mono_val rfl rfl (fun x hD hF => ?_) ?_
          · have hl := run_loadVar_arr (P := Try.prog) x w.heap.size 0 56 (cartC f A ls.length c) _ hD.c.range Try.underlying56 rfl (cart_size56 _ _ _ _)
            rw [exec_load 56 (.tmp 2) rfl w.heap.size 0 rfl hl]
            exact ⟨RowKit.Below.refl _ _, rfl, trivial⟩
          apply Exists.intro
          refine ⟨by simp only [Act.put, List.setIfInBounds_toArray, List.set_cons_succ, List.set_cons_zero]; rfl, ?_⟩
          refine WM.mono_pure rfl rfl ?_
          refine ⟨.slice (some ⟨b5, o5, none⟩) m c5, fun x => ?_, ?_⟩
          · go_simp
          apply Exists.intro
          refine ⟨by simp only [Act.put, List.setIfInBounds_toArray, List.set_cons_succ, List.set_cons_zero]; rfl, ?_⟩
          refine WM.mono_pure rfl rfl ?_
          refine ⟨.int .i64 (i : Int), fun x => ?_, ?_⟩
          · go_simp
          apply Exists.intro
          refine ⟨by simp only [Act.put, List.setIfInBounds_toArray, List.set_cons_succ, List.set_cons_zero]; rfl, ?_⟩
          refine WM.mono_pure rfl rfl ?_
          refine ⟨.pointer (some ⟨b5, o5 + i * 2, none⟩), fun x => ?_, ?_⟩
          · go_simp
          apply Exists.intro
          refine ⟨by simp only [Act.put, List.setIfInBounds_toArray, List.set_cons_succ, List.set_cons_zero]; rfl, ?_⟩
          refine WM.mono_pure rfl rfl ?_
          refine ⟨.pointer (some ⟨b5, o5 + i * 2, none⟩), fun x => ?_, ?_⟩
          · go_simp
          apply Exists.intro
          refine ⟨by simp only [Act.put, List.setIfInBounds_toArray, List.set_cons_succ, List.set_cons_zero]; rfl, ?_⟩
          refine WM.mono_val rfl rfl (fun x hD hF => ?_) ?_
          · have hc := (hD.l.cells (j := i) HLT.out).1
            rw [← HI.out] at hc
            go_simp
            exact ⟨RowKit.Below.refl _ _, rfl⟩
          apply Exists.intro
          refine ⟨by simp only [Act.put, List.setIfInBounds_toArray, List.set_cons_succ, List.set_cons_zero]; rfl, ?_⟩
          refine WM.mono_mem rfl rfl (fun x hD hF => ?_) (fun v75 => ?_)
          · have h1 := cof_any f ls c A it x (hD.v.loose fun b hb => Nat.lt_of_lt_of_le hb hD.below.size) HM.out
            go_simp
            refine h1.mono ?_
            rintro e y ⟨v, rfl, ho, hb⟩
            obtain ⟨A9, c9, e9, _⟩ := own_ents ho
            rw [← HRR.out] at e9
            exact ⟨_, rfl, hb, A9, c9, e9⟩
          apply Exists.intro
          refine ⟨by simp only [Act.put, List.setIfInBounds_toArray, List.set_cons_succ, List.set_cons_zero]; rfl, ?_⟩
          refine WM.mono_val rfl rfl (fun x hD hF => ?_) ?_
          · obtain ⟨A9, c9, e1⟩ := (hF 7 _ 75 rfl rfl (by decide)).1
            subst e1
            go_simp
            exact ⟨RowKit.Below.refl _ _, rfl⟩
          apply Exists.intro
          refine ⟨by simp only [Act.put, List.setIfInBounds_toArray, List.set_cons_succ, List.set_cons_zero]; rfl, ?_⟩
          refine WM.mono_pure rfl rfl ?_
          refine ⟨.int .i64 ((k + r : Nat) : Int), fun x => ?_, ?_⟩
          · exact add3 (k : Int) (r : Int) HAD.out (.tmp 68) (.tmp 76) rfl rfl rfl
          apply Exists.intro
          refine ⟨by simp only [Act.put, List.setIfInBounds_toArray, List.set_cons_succ, List.set_cons_zero]; rfl, ?_⟩
          refine WM.mono_pure rfl rfl ?_
          refine ⟨.int .i64 ((k + r : Nat) : Int), fun x => ?_, ?_⟩
          · go_simp
          apply Exists.intro
          refine ⟨by simp only [Act.put, List.setIfInBounds_toArray, List.set_cons_succ, List.set_cons_zero]; rfl, ?_⟩
          refine WM.mono_nil ?_
          intro x hD hF
          replace HX := Lib.hid hD
          clear hD hF
          go_simp
          go_wp2
          go_roundw
          all_goals clear eJ
          case rel => exact ⟨k + r, i + 1, by omega, by go_num, rfl, HK2, HKR.out, HX⟩
          case measure => simp [intOf]; omega
        · obtain rfl : m = i := by omega
          have HKN : Hid (k = ls.length) := Lib.hid (by rw [HK.out, HML.out, List.take_length, HVE.out, value_sum])
          clear HK hkl hi
          have hkn := HKN.out
          subst hkn
          clear HKN
          have c8 := HX.out.c.c8
          by_cases h1 : tz < 0
          · have HA := Lib.hid (alive6_any wr)
            go_wp2_with fail
            refine HA.out.mono ?_
            rintro e y ⟨rfl, hb⟩
            replace HX := Lib.hid (HX.out.then_ hb)
            clear c8
            have c8 := HX.out.c.c8
            clear hb HA
            go_wp2_with fail
            go_ret
            exact ⟨rfl, HX.out.below⟩
          by_cases h2 : (ls.length : Int) ≤ tz
          · have HA := Lib.hid (alive6_any wr)
            go_wp2_with fail
            refine HA.out.mono ?_
            rintro e y ⟨rfl, hb⟩
            replace HX := Lib.hid (HX.out.then_ hb)
            clear c8
            have c8 := HX.out.c.c8
            clear hb HA
            go_wp2_with fail
            go_ret
            exact ⟨rfl, HX.out.below⟩
          obtain ⟨tn, rfl⟩ : ∃ tn : Nat, tz = (tn : Int) := ⟨tz.toNat, by omega⟩
          have HTN : Hid (tn < ls.length) := Lib.hid (by omega)
          obtain ⟨b, o, hA⟩ := HX.out.v.some_ (by have := HTN.out; omega)
          subst hA
          have HSF : Hid (∀ x, (Instr.sliceAt 54 (.slice (some ⟨b, o, none⟩) ls.length c) (some (.int .i64 (tn : Int))) none none).run Try.prog x = .ok (.slice (some ⟨b, o + tn * 4, none⟩) (ls.length - tn) (c - tn)) x) := Lib.hid (fun x => by
            have h := run_sliceAt_from4 (P := Try.prog) 54 58 Try.underlying54 size58k (some ⟨b, o, none⟩) ls.length c tn (Nat.le_of_lt HTN.out) x
            have hne : ¬ c = tn := by have := HTN.out; have := HCAP.out; omega
            unfold cutA4 at h
            rw [if_neg hne, Option.map_some, Addr.add_mid] at h
            exact h)
          have HST : Hid (∀ x, (Instr.sliceAt 54 (.slice (some ⟨b, o, none⟩) ls.length c) none (some (.int .i64 (tn : Int))) none).run Try.prog x = .ok (.slice (some ⟨b, o, none⟩) tn c) x) := Lib.hid (fun x =>
            run_sliceAt_to4 (P := Try.prog) 54 58 Try.underlying54 size58k (some ⟨b, o, none⟩) ls.length c tn (by have := HTN.out; have := HCAP.out; omega) x)
          have HTK : Hid ((ls.take tn).length = tn) := Lib.hid (by rw [List.length_take]; have := HTN.out; omega)
          obtain ⟨ot, hot⟩ : ∃ ot, ot = ls.drop tn ++ ls.take tn := ⟨_, rfl⟩
          have HOT := Lib.hid hot
          have HOL : Hid (ot.length = ls.length) := Lib.hid (by rw [hot, List.length_append, List.length_drop, HTK.out]; have := HTN.out; omega)
          have HQOT : Hid (QtyOk ot) := Lib.hid (HQO.out.sub fun e he => by
            rw [hot] at he
            rcases List.mem_append.1 he with h | h
            · exact List.mem_of_mem_drop h
            · exact List.mem_of_mem_take h)
          obtain ⟨K, hK⟩ : ∃ K, K = wr.heap.size := ⟨_, rfl⟩
          have HXK : Hid (VK w f (some ⟨b, o, none⟩) c ls A5 V K wr) := Lib.hid ⟨HX.out.c, HX.out.v, by rw [hK]; exact HX.out.l, HX.out.below, Nat.le_of_eq hK, by rw [hK]; exact HX.out.c.lt⟩
          clear hot hK HX
          go_wp2_with fail
          refine WM.wp_region_front 13 [] (fun j x y => RA K (ls.length - tn) ls.length (ents4 ot) j x y) (fun _ x => VK w f (some ⟨b, o, none⟩) c ls A5 V K x) (fun x => VK w f (some ⟨b, o, none⟩) c ls A5 V K x)
            [(0, .mem (N0 K)), (2, .val (.slice (some ⟨b, o, none⟩) ls.length c) fun _ => True), (5, .mem (N5p K (ls.length - tn) (ls.drop tn))), (7, .val (.slice (some ⟨b, o, none⟩) ls.length c) fun _ => True), (10, .mem (N10 K ls.length ot)), (11, .mem (N11 K ls.length ot)), (12, .mem (P12 K))] (by kernel_rfl) (by kernel_rfl) (by kernel_rfl) (by kernel_rfl) (of_decide_eq_true (by kernel_rfl)) ?_ ?_ (fun _ _ _ hb => hb.low.size) (fun _ _ _ hb h => h.low hb.low) (fun _ _ _ _ _ hb h => h.low hb.low) ?_ HXK.out.drew (fun _ => HXK.out.drew) ?_
          · intro p hp
            cases hp
          · intro p hp
            cases hp
          · intro z hz
            simp only [List.mem_cons, List.mem_nil_iff, or_false] at hz
            rcases hz with rfl | rfl | rfl | rfl | rfl | rfl | rfl
            · exact fun j v x y _ hr ⟨gl, e, h1, h⟩ => ⟨gl, e, h1, hr.zero _ h⟩
            · exact fun _ _ _ _ _ _ => trivial
            · exact fun j v x y _ hr h => hr.rows _ _ h
            · exact fun _ _ _ _ _ _ => trivial
            · exact fun j v x y _ hr ⟨A6, c6, e, h⟩ => ⟨A6, c6, e, hr.rows2 _ h⟩
            · exact fun j v x y _ hr ⟨A6, c6, e, h⟩ => ⟨A6, c6, e, hr.rows2 _ h⟩
            · exact fun j v x y _ hr ⟨gl, e, h1, h⟩ => ⟨gl, e, h1, hr.tag _ _ _ _ h (by decide)⟩
          refine WM.mono_mem rfl rfl (fun x hD hF => ?_) (fun v95 => ?_)
          · have hg := hD.hK
            go_simp
            exact ⟨RA.of hg (below1 _ _), _, rfl, hg, heap_alloc_new _ _⟩
          apply Exists.intro
          refine ⟨by simp only [Act.put, List.setIfInBounds_toArray, List.set_cons_succ, List.set_cons_zero]; rfl, ?_⟩
          refine WM.mono_pure rfl rfl ?_
          refine ⟨.pointer (some ⟨w.heap.size, 8, none⟩), fun x => ?_, ?_⟩
          · go_simp
          apply Exists.intro
          refine ⟨by simp only [Act.put, List.setIfInBounds_toArray, List.set_cons_succ, List.set_cons_zero]; rfl, ?_⟩
          refine WM.mono_val rfl rfl (fun x hD hF => ?_) ?_
          · have hc : x.cell? ⟨w.heap.size, 8, none⟩ = some (.slice (some ⟨b, o, none⟩) ls.length c) := hD.c.c8
            go_simp
            exact ⟨RA.of hD.hK (RowKit.Below.refl _ _), rfl⟩
          apply Exists.intro
          refine ⟨by simp only [Act.put, List.setIfInBounds_toArray, List.set_cons_succ, List.set_cons_zero]; rfl, ?_⟩
          refine WM.mono_pure rfl rfl ?_
          refine ⟨.int .i64 (tn : Int), fun x => ?_, ?_⟩
          · go_simp
          apply Exists.intro
          refine ⟨by simp only [Act.put, List.setIfInBounds_toArray, List.set_cons_succ, List.set_cons_zero]; rfl, ?_⟩
          refine WM.mono_pure rfl rfl ?_
          refine ⟨.slice (some ⟨b, o + tn * 4, none⟩) (ls.length - tn) (c - tn), fun x => ?_, ?_⟩
          · exact exec_slice 54 (.tmp 97) (some (.tmp 98)) none none rfl rfl rfl rfl rfl (HSF.out x)
          apply Exists.intro
          refine ⟨by simp only [Act.put, List.setIfInBounds_toArray, List.set_cons_succ, List.set_cons_zero]; rfl, ?_⟩
          refine WM.mono_mem rfl rfl (fun x hD hF => ?_) (fun v100 => ?_)
          · obtain ⟨b0, e0x, hk0, h0⟩ : N0 K v95 x := (hF 0 _ 95 rfl rfl (by decide)).1
            subst e0x
            obtain ⟨v1, w1, r1, r2, r3⟩ := append_first (ys := ls.drop tn) (c := c - tn) (b := b) (o := o + tn * 4) h0 hk0 ((ents_drop hD.v HTN.out).loose fun _ h => h) (by rw [List.length_drop]; have := HTN.out; omega) (by rw [List.length_drop]; have := HM.out; omega) hD.hK
            rw [List.length_drop] at r1 r2
            rw [exec_append 54 (.tmp 95) (.tmp 99) rfl rfl rfl r1]
            exact ⟨RA.of hD.hK r3, r2⟩
          apply Exists.intro
          refine ⟨by simp only [Act.put, List.setIfInBounds_toArray, List.set_cons_succ, List.set_cons_zero]; rfl, ?_⟩
          refine WM.mono_pure rfl rfl ?_
          refine ⟨.pointer (some ⟨w.heap.size, 8, none⟩), fun x => ?_, ?_⟩
          · go_simp
          apply Exists.intro
          refine ⟨by simp only [Act.put, List.setIfInBounds_toArray, List.set_cons_succ, List.set_cons_zero]; rfl, ?_⟩
          refine WM.mono_val rfl rfl (fun x hD hF => ?_) ?_
          · have hc : x.cell? ⟨w.heap.size, 8, none⟩ = some (.slice (some ⟨b, o, none⟩) ls.length c) := hD.c.c8
            go_simp
            exact ⟨RA.of hD.hK (RowKit.Below.refl _ _), rfl⟩
          apply Exists.intro
          refine ⟨by simp only [Act.put, List.setIfInBounds_toArray, List.set_cons_succ, List.set_cons_zero]; rfl, ?_⟩
          refine WM.mono_pure rfl rfl ?_
          refine ⟨.int .i64 (tn : Int), fun x => ?_, ?_⟩
          · go_simp
          apply Exists.intro
          refine ⟨by simp only [Act.put, List.setIfInBounds_toArray, List.set_cons_succ, List.set_cons_zero]; rfl, ?_⟩
          refine WM.mono_pure rfl rfl ?_
          refine ⟨.slice (some ⟨b, o, none⟩) tn c, fun x => ?_, ?_⟩
          · exact exec_slice 54 (.tmp 102) none (some (.tmp 103)) none rfl rfl rfl rfl rfl (HST.out x)
          apply Exists.intro
          refine ⟨by simp only [Act.put, List.setIfInBounds_toArray, List.set_cons_succ, List.set_cons_zero]; rfl, ?_⟩
          refine WM.mono_mem rfl rfl (fun x hD hF => ?_) (fun v105 => ?_)
          · have f5 : N5p K (ls.length - tn) (ls.drop tn) v100 x := (hF 5 _ 100 rfl rfl (by decide)).1
            obtain ⟨v1, w1, r1, r2, r3⟩ := append_keptE (xs := ls.drop tn) (ys := ls.take tn) (c := c) (b := b) (o := o) (by have := HTN.out; omega) f5 (ents_take hD.v tn) (by rw [HTK.out]; have := HM60.out; have := HTN.out; omega) hD.hK
            rw [HTK.out] at r1 r2 r3
            rw [show ls.length - tn + tn = ls.length from Nat.sub_add_cancel (Nat.le_of_lt HTN.out), ← ents4_append, ← HOT.out] at r2 r3
            rw [exec_append 54 (.tmp 100) (.tmp 104) rfl rfl rfl r1]
            obtain ⟨A6, c6, e6, _⟩ := own_ents r2
            rw [HOL.out] at e6
            exact ⟨r3, A6, c6, e6, by rw [← e6]; exact r2⟩
          apply Exists.intro
          refine ⟨by simp only [Act.put, List.setIfInBounds_toArray, List.set_cons_succ, List.set_cons_zero]; rfl, ?_⟩
          refine WM.mono_mem rfl rfl (fun x hD hF => ?_) (fun v106 => ?_)
          · obtain ⟨A6, c6, e6, h6⟩ : N10 K ls.length ot v105 x := (hF 10 _ 105 rfl rfl (by decide)).1
            subst e6
            have hg := hD.hK
            go_simp
            exact ⟨RA.of hg (RowKit.Below.refl _ _), A6, c6, rfl, h6⟩
          apply Exists.intro
          refine ⟨by simp only [Act.put, List.setIfInBounds_toArray, List.set_cons_succ, List.set_cons_zero]; rfl, ?_⟩
          refine WM.mono_mem rfl rfl (fun x hD hF => ?_) (fun v11 => ?_)
          · have hg := hD.hK
            go_simp
            exact ⟨RA.of hg (below1 _ _), _, rfl, hg, heap_alloc_new _ _⟩
          apply Exists.intro
          refine ⟨by simp only [Act.put, List.setIfInBounds_toArray, List.set_cons_succ, List.set_cons_zero]; rfl, ?_⟩
          refine WM.mono_nil ?_
          intro x hD hF _
          obtain ⟨A6, c6, e6, h6⟩ : N11 K ls.length ot v106 x := (hF 11).1
          obtain ⟨bo, e11, hbo, h11⟩ : P12 K v11 x := (hF 12).1
          subst e6 e11
          have HN := Lib.hid h11
          have t56 : Hid ((Try.prog.info? 56).map (·.size) = some (c0 (.slice A6 ls.length c6)).size) := Lib.hid (by kernel_rfl)
          have t9 : Hid (z9c.size = (c0 (.slice A6 ls.length c6)).size) := Lib.hid rfl
          have o9 : Hid ((c0 (.slice A6 ls.length c6)).all (·.oneCell') = true) := Lib.hid (by simp [Value.oneCell'])
          have HXS := Lib.hid (hD.stored hbo h11 h6 (cs := c0 (.slice A6 ls.length c6)))
          clear hD hF h6 h11 hbo HXK
          go_simp
          refine wpList_store_row rfl 56 _ _ rfl bo (c0 (.slice A6 ls.length c6)) rfl rfl 56 _ HN.out t56.out t9.out o9.out ?_
          generalize x.setRow bo (c0 (.slice A6 ls.length c6)) = x at *
          have HA := Lib.hid (alive6_any x)
          go_simp
          go_wp2_with fail
          refine HA.out.mono ?_
          rintro e y ⟨rfl, hb⟩
          have HX2 := Lib.hid (HXS.out.then_ hb)
          have c8 := HX2.out.c.c8
          have HRO := Lib.hid HX2.out.range
          have hva := value_any (fun _ => 0) ot c6 A6 y (HX2.out.ents) (by rw [HOL.out]; exact HM.out) HQOT.out
          rw [HOL.out, show valueE ot = V by rw [HOT.out, HVE.out]; exact value_turn ls tn] at hva
          have HVA : Hid (Calls Try.prog 48 #[.agg (c0 (.slice A6 ls.length c6))] y fun e w' => (∃ A c, e = .returned (.slice A m c) ∧ Dots w' (· < w'.heap.size) A V) ∧ RowKit.Below y.heap.size y w') := Lib.hid (by
            refine hva.mono ?_
            rintro e y ⟨v, rfl, ho, hb⟩
            obtain ⟨A9, c9, e9, hd, _⟩ := own_dots ho
            exact ⟨⟨A9, c9, by rw [e9, HML.out], hd.loose fun b h => h.2⟩, hb⟩)
          clear hb HA hva HXS HN
          go_wp2_with (first
            | (refine wpList_load_arrW (by go_simp) 56 _ rfl bo 0 rfl (c0 (.slice A6 ls.length c6)) _ HRO.out Try.underlying56 rfl t56.out ?_)
            | fail)
          refine HVA.out.mono ?_
          rintro e z ⟨⟨A9, c9, rfl, hd9⟩, hb⟩
          have hsv := samevalue_any V V c9 c5 A9 A5 z hd9 (HX2.out.l.below (hb.mono HX2.out.hK)) (by have := HMM.out; have := HML.out; omega)
          rw [← HML.out, decide_eq_true rfl] at hsv
          have HSV := Lib.hid hsv
          have HB3 := Lib.hid (HX2.out.below.trans (hb.mono HX2.out.below.size))
          clear hb hsv hd9 HVA
          go_wp2_with fail
          refine HSV.out.mono ?_
          rintro e z2 ⟨rfl, hb⟩
          have HB4 := Lib.hid (HB3.out.trans (hb.mono HB3.out.size))
          clear hb
          go_wp2_with fail
          go_ret
          exact ⟨rfl, HB4.out⟩
end Go.Proofs.Ytnpacjdgbmldlaa
