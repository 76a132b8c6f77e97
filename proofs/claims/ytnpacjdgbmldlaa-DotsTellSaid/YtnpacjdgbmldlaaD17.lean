/- What is yielded, sorted, each once. -/
import Derived.Test.YtnpacjdgbmldlaaD16
import Derived.Test.YtnpacjdgbmldlaaRg
import Derived.Maps.AppendAt
namespace Go.Proofs.Ytnpacjdgbmldlaa
open Go.RowKit Go.Shelf Go.Lib Go.Sort
attribute [local go_sem] Oper.semAt_some

theorem grownBy_sortWorldK (w : World) (g o n : Nat) (d : Array Dt) (os : Array Obj) : w.grownBy (sortWorldK dcells 2 w g o n d os) (some g) := by
  unfold sortWorldK
  refine ⟨rfl, rfl, rfl, ?_, fun k hk hne => ?_⟩
  · rw [size_grow, size_putRowK]
    exact Nat.le_add_right _ _
  · rw [heap_grow_old _ _ (by rw [size_putRowK]; exact hk)]
    unfold putRowK putRow mapBlock
    simp only [Array.getElem?_modify]
    rw [if_neg (fun e => hne (by rw [e]))]
    rfl
theorem rowD_holds {w : World} {g : Nat} {d : Array Dt} (h : RowD w g d) : HoldsK dcells 2 w g 0 d := by
  intro j hj
  rw [size_flatK] at hj
  rw [get_flatK _ _ _ _ hj, Nat.zero_add]
  rcases (show j % 2 = 0 ∨ j % 2 = 1 by omega) with e | e
  · have h1 := h.node (j / 2) (by omega)
    rw [show j / 2 * 2 = j by omega] at h1
    rw [e]
    exact h1
  · have h1 := h.num (j / 2) (by omega)
    rw [show j / 2 * 2 + 1 = j by omega] at h1
    rw [e]
    exact h1
theorem holds_rowD {w : World} {g : Nat} {d : Array Dt} (h : HoldsK dcells 2 w g 0 d) : RowD w g d := by
  constructor
  · intro j hj
    have h1 := h (j * 2) (by rw [size_flatK]; omega)
    rw [get_flatK _ _ _ _ (by omega), Nat.zero_add, show j * 2 / 2 = j by omega, show j * 2 % 2 = 0 by omega] at h1
    exact h1
  · intro j hj
    have h1 := h (j * 2 + 1) (by rw [size_flatK]; omega)
    rw [get_flatK _ _ _ _ (by omega), Nat.zero_add, show (j * 2 + 1) / 2 = j by omega, show (j * 2 + 1) % 2 = 1 by omega] at h1
    exact h1
theorem own_row {w : World} {base : Nat} {v : Value} {zs : List Dt} (h : w.ownsRow base 25 2 v zs.length (dots2 zs)) (hne : zs ≠ []) : ∃ g cap, v = .slice (some ⟨g, 0, none⟩) zs.length cap ∧ base ≤ g ∧ g < w.heap.size ∧ RowD w g zs.toArray ∧ zs.length ≤ cap := by
  rcases h.2 with ⟨_, h0⟩ | ⟨g, cap, cur, hv, hg, hr, hle, hcs, _, ht⟩
  · exact absurd (List.length_eq_zero_iff.1 h0) hne
  · refine ⟨g, cap, hv, hg, lt_of_row hr, ?_, hle⟩
    have h2 : ∀ k, k < zs.length * 2 → cur[k]? = (dots2 zs)[k]? := fun k hk => by
      have h3 : (cur.toList.take (zs.length * 2))[k]? = (dots2 zs)[k]? := by rw [ht]
      rw [List.getElem?_take, if_pos hk] at h3
      rw [← Array.getElem?_toList, h3]
    have hf : ∀ x, w.frozen? ⟨g, x, none⟩ = false := fun x => by simp [World.frozen?, hr]
    have hgd : ∀ j, j < zs.length → zs.toArray[j]! = zs.getD j (0, 0) := fun j hj => by
      rw [getElem!_pos zs.toArray j (by simpa using hj), List.getD_eq_getElem?_getD, List.getElem?_eq_getElem hj]
      rfl
    constructor
    · intro j hj
      have hj' : j < zs.length := by simpa using hj
      refine ⟨?_, hf _⟩
      rw [cell_of_row _ _ _ _ _ _ hr, h2 _ (by omega), (dots2_get zs j hj').1, hgd j hj']
    · intro j hj
      have hj' : j < zs.length := by simpa using hj
      refine ⟨?_, hf _⟩
      rw [cell_of_row _ _ _ _ _ _ hr, h2 _ (by omega), (dots2_get zs j hj').2, hgd j hj']
theorem RowD.kept {w w' : World} {g : Nat} {d : Array Dt} (h : RowD w g d) (e : w'.heap[g]? = w.heap[g]?) : RowD w' g d := by
  have hc : ∀ x, w'.cell? ⟨g, x, none⟩ = w.cell? ⟨g, x, none⟩ := fun x => by simp only [World.cell?, e]
  have hf : ∀ x, w'.frozen? ⟨g, x, none⟩ = w.frozen? ⟨g, x, none⟩ := fun x => by simp only [World.frozen?, e]
  exact ⟨fun j hj => by rw [hc, hf]; exact h.node j hj, fun j hj => by rw [hc, hf]; exact h.num j hj⟩
theorem below_putObj {B : Nat} {w : World} {D : Nat} (hD : B ≤ D) (o : Obj) : Below B w (w.putObj D o) :=
  ⟨rfl, rfl, rfl, by simp, fun k hk => World.putObj_heap_other (by omega)⟩
theorem rowD_dots {w : World} {g : Nat} {ls : List Dt} (h : RowD w g ls.toArray) {ok : Nat → Prop} (hg : ok g) : Dots w ok (some ⟨g, 0, none⟩) ls := ⟨fun hp => by
  refine ⟨g, 0, rfl, hg, fun j hj i v hi => ?_⟩
  have hgd : ls.toArray[j]! = ls.getD j (0, 0) := by
    rw [getElem!_pos ls.toArray j (by simpa using hj), List.getD_eq_getElem?_getD, List.getElem?_eq_getElem hj]
    rfl
  have hi2 : i < 2 := by
    have := (Array.getElem?_eq_some_iff.1 hi).1
    simpa using this
  rw [Nat.zero_add]
  rcases (show i = 0 ∨ i = 1 by omega) with rfl | rfl
  · rw [Nat.add_zero, (h.node j (by simpa using hj)).1, hgd]; exact hi
  · rw [(h.num j (by simpa using hj)).1, hgd]; exact hi⟩
theorem dotAt_own {β : Type} (B : Nat) (t : TypeId) (n : β → Int) (k : β → Nat) : Own (fun s W => DotAt W B t (n s) (k s)) := fun s X Y row hs hg hrow => by
  refine (hg.block B hs.lt (fun e' => ?_)).trans hs
  obtain ⟨o, ho, hc⟩ := hrow B e'.symm
  rw [show X.heap[B]? = _ from hs] at ho
  cases ho
  cases hc
/-- 'append' of one dot: what is handed back is the old block, or a new one. -/
theorem append_fresh {P : Program} {w : World} {base t e n bytes : Nat} {z v : Value} {ys : List Value} (ht : P.underlying t = some (.slice e)) (hinfo : (P.info? e).map (fun i => (i.zero, i.size, i.bytes)) = some (some z, 2, bytes)) (hzs : z.cells.size = 2)
    (hown : w.ownsRow base e 2 v n ys) (ad : Addr) (c : Nat) (news : List Value) (ty : TypeId) (hl : news.length = 1 * 2)
    (hnews : ∀ j u, news[j]? = some u → w.cell? (ad.add j) = some u) (h1 : ∀ u ∈ news, u.oneCell' = true) (h63 : n + 1 ≤ 10000000) (hby : bytes ≤ 1000) (hbase : base ≤ w.heap.size) :
    ∃ v' w', (Builtin.append_ #[t, t] ty #[v, .slice (some ad) 1 c]).run P w = .ok v' w' ∧ w'.ownsRow base e 2 v' (n + 1) (ys ++ news) ∧ w.grownBy w' v.ownBlock ∧ SameOrNew w.heap.size v.ownBlock v'.ownBlock := by
  obtain ⟨i, hi, hz, hsz, hbs⟩ := info_parts hinfo
  have hm : n + 1 ≤ maxLen := by unfold maxLen; omega
  have hb : (n + 1) * bytes ≤ 140737488355328 := Nat.le_trans (Nat.mul_le_mul h63 hby) (by omega)
  obtain ⟨v', w', hr, h2, h3, _⟩ := run_append_own (P := P) w base t ty e i z 2 bytes ht hi hz hsz hbs hzs (by decide) v n ys hown ad 1 c news hl hnews h1 hm hb hbase
  refine ⟨v', w', hr, h2, h3, ?_⟩
  have again : w.ownsRow w.heap.size e 2 v n ys → SameOrNew w.heap.size v.ownBlock v'.ownBlock := fun ho => by
    obtain ⟨u, x, hr', h2', _, _⟩ := run_append_own (P := P) w w.heap.size t ty e i z 2 bytes ht hi hz hsz hbs hzs (by decide) v n ys ho ad 1 c news hl hnews h1 hm hb (Nat.le_refl _)
    rw [hr] at hr'
    injection hr' with e1 e2
    subst e1 e2
    exact .inr fun k hk => (h2'.lt k hk).1
  rcases hown.2 with ⟨rfl, rfl⟩ | ⟨g, cap, cur, rfl, hbg, hg, hnc, hcm, hcs, htake⟩
  · exact again ⟨hown.1, .inl ⟨rfl, rfl⟩⟩
  · by_cases hroom : n + 1 ≤ cap
    · have hr' := run_append_room (P := P) w t ty e i ht hi g n cap cur hg ad 1 c news (by rw [hsz]; exact hl) hnews h1 hroom (by rw [hl, hcs, hsz, ← Nat.add_mul]; exact Nat.mul_le_mul_right _ hroom)
      rw [hr] at hr'
      injection hr' with e1 e2
      subst e1
      exact .inl rfl
    · have holds : ∀ j u, ys[j]? = some u → w.cell? ((⟨g, 0, none⟩ : Addr).add j) = some u := hown.cells (g := g) rfl
      have hr' := run_append_grow (P := P) w t ty e i z ht hi hz ⟨g, 0, none⟩ n cap ys (by rw [hsz]; exact hown.1) holds ad 1 c news (by rw [hsz]; exact hl) hnews (by omega) (by unfold maxLen at hm; omega) (growslice_fits (by omega) (by rw [hbs]; omega))
      rw [hr] at hr'
      injection hr' with e1 e2
      subst e1
      exact .inr fun k hk => by
        have : w.heap.size = k := by simpa [Value.ownBlock] using hk
        omega
theorem wpListIn_append_dot {F : Fence} {n0 : Nat} {P : Program} {w : World} {ops : Array Oper} {rest : List Oper} {o : Oper} {a : Act} {Q : Exit → Act → World → Prop} (hgd : o.guard = none) (s x : Operand) (t : TypeId)
    (ho : o.op = .call { callee := .builtin .append, args := #[s, x], argTypes := #[t, t] }) (base : Nat) (e : TypeId) (z : Value) (bytes : Nat) (ht : P.underlying t = some (.slice e))
    (hinfo : (P.info? e).map (fun i => (i.zero, i.size, i.bytes)) = some (some z, 2, bytes)) (hzs : z.cells.size = 2)
    (v : Value) (n : Nat) (xs : List Value) (hs : a.eval s = v) (hown : w.ownsRow base e 2 v n xs) (d : Dt) (te : TypeId)
    (hx : a.eval x = .slice (some ⟨w.heap.size, 0, none⟩) 1 1) (h63 : n + 1 ≤ 10000000) (hby : bytes ≤ 1000) (hbase : base ≤ w.heap.size)
    (h : ∀ v' w', Hid (w'.ownsRow base e 2 v' (n + 1) (xs ++ dcells d)) → Hid ((w.alloc (.cells (dotC d) te)).grownBy w' v.ownBlock) → Hid (SameOrNew (w.heap.size + 1) v.ownBlock v'.ownBlock) → wpListIn F n0 P ops Q rest (a.put o.dst v') w') : wpListIn F n0 P ops Q (o :: rest) a (w.alloc (.cells (dotC d) te)) := by
  obtain ⟨v', w', hrun, h1, h2, h3⟩ := append_fresh (P := P) (w := w.alloc (.cells (dotC d) te)) ht hinfo hzs (hown.alloc _) ⟨w.heap.size, 0, none⟩ 1 (dcells d) o.type rfl (fun j u hu => by
    rw [Addr.add_mid, Nat.zero_add, cell_of_row _ _ _ _ _ _ (heap_alloc_new _ _)]
    match j, hu with
    | 0, hu => exact hu
    | 1, hu => exact hu) (fun y hy => by
    simp only [dcells, List.mem_cons, List.mem_nil_iff, or_false] at hy
    rcases hy with rfl | rfl <;> rfl) h63 hby (by rw [World.size_alloc]; omega)
  rw [World.size_alloc] at h3
  refine wpListIn_plain hgd fun K hK => ?_
  unfold Oper.wpIn
  refine ⟨?_, ?_⟩
  · simp [Oper.about, ho, resolve, Target.leads, Sem.run_pure]
  · rw [Oper.semAt_plain F _ _ (by rw [ho]; intro c hc'; cases hc')]
    simp [execOp, ho, resolve, invoke, builtin, hs, hx, hrun, Result.andThen]
    exact hK _ _ (h v' w' h1 h2 h3)

set_option maxRecDepth 100000 in
set_option maxHeartbeats 400000 in
theorem compact_none (p : Option Addr) (cap : Nat) (w : World) : Calls Try.prog 131 #[.slice p 0 cap] w fun e w' => e = .returned (.slice p 0 cap) ∧ w' = w := by
  go_enter Try.func131, Try.ntmps131
  go_wp2
  go_ret
  exact ⟨rfl, rfl⟩

/-- The block that the slice in box B owns. -/
def boxOwn (B : Nat) (X : World) : Option Nat := (X.cell? ⟨B, 0, none⟩).bind Value.ownBlock
theorem boxOwn_eq {B : Nat} {X Y : World} (h : Y.heap[B]? = X.heap[B]?) : boxOwn B Y = boxOwn B X := by
  unfold boxOwn
  rw [World.cell?_of_block (w := X) (a := ⟨B, 0, none⟩) h]
/-- What a caller that collects in box B keeps: what lies below B, and whatever cells are neither the box nor what the slice in it owns. -/
structure KeepB (B N : Nat) (X Y : World) : Prop where
  below : Below B X Y
  own : ∀ k, boxOwn B Y = some k → boxOwn B X = some k ∨ X.heap.size ≤ k
  kept : ∀ k o, X.heap[k]? = some o → o.isCells = true → k ≠ B → boxOwn B X ≠ some k → Y.heap[k]? = some o
  others : ∀ k o, N ≤ k → X.heap[k]? = some o → o.isCells = false → Y.heap[k]? = some o
theorem KeepB.trans {B N : Nat} {X Y Z : World} (h : KeepB B N X Y) (k : KeepB B N Y Z) : KeepB B N X Z where
  others j o hj hx ho := k.others j o hj (h.others j o hj hx ho) ho
  below := h.below.trans k.below
  own j hj := by
    rcases k.own j hj with h1 | h1
    · exact h.own j h1
    · exact .inr (Nat.le_trans h.below.size h1)
  kept j o hj ho hB hne := k.kept j o (h.kept j o hj ho hB hne) ho hB fun e => by
    rcases h.own j e with h1 | h1
    · exact hne h1
    · have := lt_of_row hj
      omega
theorem KeepB.putObj {B N : Nat} (W : World) (l : Nat) (o o' : Obj) (hl : B < l) (hN : l < N) (ho : W.heap[l]? = some o) (hc : o.isCells = false) : KeepB B N W (W.putObj l o') where
  others k x hk hx _ := (World.putObj_heap_other (by omega)).trans hx
  below := ⟨rfl, rfl, rfl, by simp, fun k hk => World.putObj_heap_other (by omega)⟩
  own k hk := by
    rw [boxOwn_eq (World.putObj_heap_other (by omega))] at hk
    exact .inl hk
  kept k x hx hxc _ _ := by
    rw [World.putObj_heap_other (fun e => by rw [← e, hx] at ho; injection ho with ho; rw [ho, hc] at hxc; cases hxc)]
    exact hx
theorem KeepB.grow {B N : Nat} {X Y : World} (h : Below X.heap.size X Y) (hB : B < X.heap.size) : KeepB B N X Y where
  others k x _ hx _ := (h.block k (lt_of_row hx)).trans hx
  below := h.mono (by omega)
  own k hk := by
    rw [boxOwn_eq (h.block B hB)] at hk
    exact .inl hk
  kept k x hx _ _ _ := (h.block k (lt_of_row hx)).trans hx

/-- A function value that yields zs, dot by dot, to whatever collects them in box n₀. -/
def Yields (gf : Nat) (lb : Array Value) (zs : List Dt) (n₀ : Nat) (w : World) : Prop := Gives Try.prog gf lb (fun x : Dt => #[dotV x.1 x.2]) (KeepB n₀) (fun W => n₀ < W.heap.size ∧ ∀ k, boxOwn n₀ W = some k → k < W.heap.size) zs w
/-- .. and the program enters it when it is called. -/
def Enters (gf : Nat) : Prop := ∀ args w, (callFunc gf args).run Try.prog w = .ok (.enter gf args) w
def sortD (zs : List Dt) : List Dt := Lib.compact (zs.mergeSort fun x y => !(ltOf cmpD) y x)

set_option maxRecDepth 100000 in
set_option maxHeartbeats 4000000 in
theorem sorted_any (gf : Nat) (lb : Array Value) (zs : List Dt) (w : World) (hE : Enters gf) (hS : Yields gf lb zs w.heap.size w) (hm : zs.length ≤ 1000000) :
    Calls Try.prog 111 #[.func (.func gf) #[] lb] w fun e w' => ∃ A c, e = .returned (.slice A (sortD zs).length c) ∧ Dots w' (fun b => w.heap.size ≤ b ∧ b < w'.heap.size) A (sortD zs) ∧ (sortD zs).length ≤ c ∧ Below w.heap.size w w' := by
  refine (callsIn_wide (n := 9)).1 ?_
  have HS := Lib.hid hS
  have HM := Lib.hid hm
  have HE := Lib.hid hE
  clear hS hm hE
  refine callsIn_of_wp_marks Try.func111 rfl trivial ?_ rfl
  simp only [Try.ntmps111, List.size_toArray, List.length_cons, List.length_nil, Nat.reduceAdd, Nat.reduceSub, Array.replicate_succ, Array.replicate_zero, List.push_toArray, List.append_toArray, List.nil_append, List.cons_append]
  gi_wp2
  have bO := Boxed.new w 22 (.slice none 0 0)
  obtain ⟨W0, hW0⟩ : ∃ W0, w.alloc (.cells #[.slice none 0 0] 22) = W0 := ⟨_, rfl⟩
  rw [hW0] at bO ⊢
  have hsz : W0.heap.size = w.heap.size + 1 := by rw [← hW0]; simp
  have hB0 : Below w.heap.size w W0 := by rw [← hW0]; exact below1 _ _
  clear hW0
  have s25 : ∀ d, Hid ((Try.prog.info? 25).map (·.size) = some (dotC d).size) := fun d => Lib.hid (dot_size25 d)
  refine wpIn_range_gives (n := 9) (by decide) (gf := gf) (lb := lb) rfl HE.out HS.out (fun W hW => ⟨by have := hW.size; omega, fun k hk => by
      rw [boxOwn_eq (hW.block w.heap.size (by omega))] at hk
      unfold boxOwn at hk
      rw [bO.cell] at hk
      simp [Value.ownBlock] at hk⟩) KeepB.trans (fun W l o o' hl hl2 ho hc => KeepB.putObj W l o o' (by omega) hl2 ho hc) hB0 (fun _ => rfl)
    (fun pre W => (∃ v, Boxed W w.heap.size 22 v ∧ W.ownsRow w.heap.size 25 2 v pre.length (dots2 pre) ∧ True) ∧ Below w.heap.size w W)
    (OwnFrom.and (Own.from (holdsRow_own w.heap.size w.heap.size 22 25 2 (fun pre => pre.length) (fun pre => dots2 pre) (fun _ _ => True)) _) (ownFrom_below (Nat.le_refl _) (by omega)))
    ⟨⟨_, bO, World.ownsRow_nil _ _ _ _, trivial⟩, hB0⟩
    (fun x a' W => ∃ Bx, w.heap.size < Bx ∧ DotAt W Bx 25 x.1 x.2 ∧ a' = { tmps := #[.func (.func gf) #[] lb, undef, .slice none 0 0, .pointer (some ⟨w.heap.size, 0, none⟩), .pointer (some ⟨Bx, 0, none⟩), .func (.func gf) #[] lb, .agg (dotC x), undef, undef, undef, undef, undef, undef, undef, undef], defers := [] })
    (fun x a' _ X Y row hs hg hr => by obtain ⟨Bx, h1, h2, h3⟩ := hs; exact ⟨Bx, h1, dotAt_own Bx 25 (fun (_ : Unit) => x.1) (fun _ => x.2) () X Y row h2 hg (fun r e => (hr r e).2), h3⟩)
    ?assign ?body ?done
  case assign =>
    rintro l pre x W K ⟨⟨v, bv, hv, _⟩, hB1⟩ hK
    gi_wp2_with (first
      | (refine wpListIn_store_row rfl 25 _ _ rfl W.heap.size (dotC x) rfl rfl 25 _ (heap_alloc_new _ _) (s25 x).out rfl rfl ?_; rw [World.setRow_alloc_new])
      | fail)
    exact hK _ _ ((KeepsOthers.alloc _ _).from _) (KeepB.grow (below1 W _) bv.lt) ⟨⟨v, bv.alloc _, hv.alloc _, trivial⟩, hB1.alloc hB1.size _⟩ ⟨W.heap.size, bv.lt, DotAt.new W 25 x.1 x.2, rfl⟩
  case body =>
    rintro l pre x a' W ⟨⟨v, bv, hv, _⟩, hB1⟩ ⟨Bx, hBx, bX, rfl⟩ hlt
    have hc := bv.cell
    have HV := Lib.hid hv
    have HBX := Lib.hid bX
    have HB1 := Lib.hid hB1
    have HBV := Lib.hid bv
    have HLT : Hid (pre.length < zs.length) := Lib.hid (by have := hlt.length_le; simp at this; omega)
    clear hv bX hB1 bv hlt
    gi_wp2_with (first
      | (refine wpListIn_load_arr rfl 25 _ rfl Bx 0 rfl (dotC x) _ HBX.out.range Try.underlying25 rfl (s25 x).out ?_)
      | (refine wpListIn_append_dot rfl (.tmp 7) (.tmp 9) 22 rfl w.heap.size 25 (.agg #[.int .i64 0, .int .u64 0]) 16 Try.underlying22 info25 rfl _ pre.length _ rfl HV.out x 25 rfl (by have := HLT.out; have := HM.out; omega) (by omega) HB1.out.size ?_; intro v1 w3 H1 G1 S1; obtain ⟨g', cap', rfl⟩ := ownsRow_succ H1.out; obtain ⟨hv1, hv2, hr2, hk2, hb2⟩ := HBV.out.appended (by decide) HV.out HB1.out.size (Nat.le_refl _) H1.out G1.out; have hc1 := hv1.cell; have hf1 := hv1.frozen)
      | fail)
    have hx1 : boxOwn w.heap.size W = v.ownBlock := by unfold boxOwn; rw [HBV.out.cell]; rfl
    have hx2 : boxOwn w.heap.size (w3.setCell ⟨w.heap.size, 0, none⟩ (.slice (some ⟨g', 0, none⟩) (pre.length + 1) cap')) = (Value.slice (some ⟨g', 0, none⟩) (pre.length + 1) cap').ownBlock := by unfold boxOwn; rw [hv2.cell]; rfl
    have hkb : KeepB w.heap.size (W0.heap.size + 2) W (w3.setCell ⟨w.heap.size, 0, none⟩ (.slice (some ⟨g', 0, none⟩) (pre.length + 1) cap')) := by
      refine ⟨hb2, fun k hk => ?_, fun k o hk ho hne hno => ?_, fun k o _ hk ho => hk2.same k o hk ho⟩
      · rw [hx2] at hk
        rw [hx1]
        rcases S1.out with h | h
        · exact .inl (h ▸ hk)
        · exact .inr (by have := h k hk; omega)
      · rw [hx1] at hno
        have h1 := G1.out.block k (by rw [World.size_alloc]; have := lt_of_row hk; omega) (fun e => hno e.symm)
        rw [Below.heap_setCell _ _ _ k (fun e => hne e), h1, Below.heap_alloc _ _ _ (lt_of_row hk)]
        exact hk
    refine ⟨hk2.from _, hkb, ⟨_, hv2, ?_, trivial⟩, HB1.out.trans hb2⟩
    rw [List.length_append, List.length_singleton, dots2_append, dots2_one]
    exact hr2
  case done =>
    rintro D W hD ⟨⟨v, hv, hrow, _⟩, hB⟩ hK
    obtain ⟨ys, hys⟩ : ∃ ys, ys = zs := ⟨_, rfl⟩
    subst hys
    have hc := hv.cell
    have HV := Lib.hid hv
    have HROW := Lib.hid hrow
    have HB := Lib.hid hB
    have HK := Lib.hid hK
    clear hv hB hK HS
    by_cases hnil : ys = []
    · subst hnil
      have hv0 : v = .slice none 0 0 ∨ ∃ g cap, v = .slice (some ⟨g, 0, none⟩) 0 cap := by
        rcases hrow.2 with ⟨h, _⟩ | ⟨g, cap, _, h, _⟩
        · exact .inl h
        · exact .inr ⟨g, cap, h⟩
      obtain ⟨p, cap, rfl⟩ : ∃ p cap, v = .slice p 0 cap := by
        rcases hv0 with h | ⟨g, cap, h⟩
        · exact ⟨_, _, h⟩
        · exact ⟨_, _, h⟩
      have HD := Lib.hid hD
      clear hrow hv0 hD
      have HC := Lib.hid (sortFunc_none p cap (.func (.func 130) #[] #[]) W)
      gi_wp2_with fail
      refine ⟨trivial, (callsIn_wide.2 HC.out).mono ?_⟩
      rintro e w2 ⟨rfl, rfl⟩
      have HC2 := Lib.hid (compact_none p cap w2)
      gi_wp2_with fail
      refine ⟨trivial, (callsIn_wide.2 HC2.out).mono ?_⟩
      rintro e w3 ⟨rfl, rfl⟩
      gi_wp2_with fail
      refine ⟨by simp, .inl ⟨_, _, rfl, run_takeDeferred HK.out, ?_⟩⟩
      have hs0 : sortD [] = [] := by simp [sortD, Lib.compact, Lib.compactUpTo]
      refine ⟨_, results_tmp rfl _ _ _, p, cap, by rw [hs0]; rfl, ?_, by rw [hs0]; simp, HB.out.trans (below_putObj (by have := HD.out; omega) _)⟩
      rw [hs0]
      exact ⟨fun hp => by simp at hp⟩
    · obtain ⟨g, cap, rfl, hg1, hg2, hR, hcap⟩ := own_row hrow hnil
      have hDg : D ≠ g := fun e => by
        subst e
        have h := (hR.node 0 (by simpa using List.length_pos_iff.2 hnil)).1
        simp [World.cell?, HK.out] at h
      have hBg : w.heap.size ≠ g := fun e => HV.out.not_row (by decide) hrow (by rw [e]; rfl)
      have HDG := Lib.hid hDg
      have HBG := Lib.hid hBg
      have HD := Lib.hid hD
      clear hDg hBg hD
      have HR := Lib.hid hR
      have HCAP := Lib.hid hcap
      have HG1 := Lib.hid hg1
      have HG2 := Lib.hid hg2
      clear hrow hR hcap hg1 hg2
      have HC := Lib.hid (sortFunc_any g 0 cap ys.toArray W (rowD_holds HR.out) HG2.out (by have := HM.out; simp; omega))
      have hsz : ys.toArray.size = ys.length := by simp
      rw [hsz] at HC
      gi_wp2_with fail
      refine ⟨trivial, (callsIn_wide.2 HC.out).mono ?_⟩
      rintro e w2 ⟨rfl, n, os, hw2⟩
      obtain ⟨so, hso⟩ : ∃ so, so = ys.mergeSort fun x y => !(ltOf cmpD) y x := ⟨_, rfl⟩
      have hw3 : w2 = sortWorldK dcells 2 W g 0 n so.toArray os := by rw [hw2, hso]
      have hsl : so.length = ys.length := by rw [hso]; exact List.length_mergeSort _
      have G2 : Hid (W.grownBy w2 (some g)) := Lib.hid (by rw [hw3]; exact grownBy_sortWorldK _ _ _ _ _ _)
      have R2 : Hid (RowD w2 g so.toArray) := Lib.hid (by rw [hw3]; exact holds_rowD (holdsK_sortWorldK_c dcells 2 W g 0 ys.toArray so.toArray n os (rowD_holds HR.out) HG2.out (by simpa using hsl)))
      have bV2 : Boxed w2 w.heap.size 22 (.slice (some ⟨g, 0, none⟩) ys.length cap) := HV.out.kept G2.out (fun e => HBG.out (by injection e))
      have hc2 := bV2.cell
      have K2 : Hid (w2.heap[D]? = some (.deferred (some []))) := Lib.hid ((G2.out.block D (lt_of_row HK.out) (fun e => HDG.out (by injection e))).trans HK.out)
      have HC2 := Lib.hid (compact_any g cap so.toArray w2 R2.out (by have := HM.out; simp; omega) (by have := HCAP.out; simp; omega))
      have hsz2 : so.toArray.size = ys.length := by simpa using hsl
      rw [hsz2] at HC2
      have HSD : Hid (sortD ys = compactUpTo so.toArray ys.length) := Lib.hid (by unfold sortD Lib.compact; rw [← hso, hsl])
      have HB2 : Hid (Below w.heap.size w w2) := Lib.hid (below_only HB.out G2.out HB.out.size HG1.out)
      clear hw2 hw3 bV2 hc HC hsl hso hsz2 hsz
      gi_wp2_with fail
      refine ⟨trivial, (callsIn_wide.2 HC2.out).mono ?_⟩
      rintro e w3 ⟨rfl, hR3, hG3⟩
      have R3 := Lib.hid hR3
      have G3 := Lib.hid hG3
      have K3 : w3.heap[D]? = some (.deferred (some [])) := (G3.out.block D (lt_of_row K2.out) (fun e => HDG.out (by injection e))).trans K2.out
      rw [← HSD.out]
      rw [← HSD.out] at R3
      clear hR3 hG3
      have HK3 := Lib.hid K3
      clear K3 hc2
      gi_wp2_with fail
      refine ⟨by simp, .inl ⟨_, _, rfl, run_takeDeferred HK3.out, ?_⟩⟩
      have HB3 : Below w.heap.size w w3 := below_only HB2.out G3.out HB2.out.size HG1.out
      have hgl : g < w3.heap.size := Nat.lt_of_lt_of_le HG2.out (Nat.le_trans G2.out.size G3.out.size)
      refine ⟨_, results_tmp rfl _ _ _, some ⟨g, 0, none⟩, cap, rfl, ?_, ?_, HB3.trans (below_putObj (by have := HD.out; omega) _)⟩
      · exact rowD_dots (R3.out.kept (World.putObj_heap_other (fun e => HDG.out e.symm))) ⟨HG1.out, by simpa using hgl⟩
      · refine Nat.le_trans ?_ HCAP.out
        rw [HSD.out]
        unfold compactUpTo
        rw [List.length_map]
        refine Nat.le_trans (List.length_filter_le _ _) ?_
        simp
end Go.Proofs.Ytnpacjdgbmldlaa
