/- Appending rows of numbers, and what stays of the rows that were; the reference's order. -/
import Derived.Test.YtdbhboglccggdaaGreatDoorR13
import Derived.Test.YtdbhboglccggdaaGreatDoorFront
set_option maxRecDepth 100000
set_option linter.unusedVariables false
set_option linter.unusedSimpArgs false
namespace Go.Proofs.YtdbhboglccggdaaGreatDoor
open Go.RowKit
theorem own_keep1 {a b : World} {base s : Nat} {e : TypeId} {v : Value} {n : Nat} {l : List Value} (h : a.ownsRow base e s v n l) (hk : ∀ k, base ≤ k → k < a.heap.size → b.heap[k]? = a.heap[k]?) : b.ownsRow base e s v n l := by
  refine ⟨h.1, ?_⟩
  rcases h.2 with h0 | ⟨g, cap, cur, hv, hb, hg, hr⟩
  · exact .inl h0
  · exact .inr ⟨g, cap, cur, hv, hb, (hk g hb (Array.getElem?_eq_some_iff.1 hg).1).trans hg, hr⟩
/-- Rows of p numbers stay, and blocks of one cell stay. -/
structure RJ (e : TypeId) (B p j : Nat) (x y : World) : Prop where
  low : Below B x y
  all : j ≠ 7 → Below x.heap.size x y
  rows : ∀ (v : Value) (xs : List Value), x.ownsRow B e 1 v p xs → y.ownsRow B e 1 v p xs
  one : ∀ (k : Nat) (cs : Array Value), x.heap[k]? = some (Obj.cells cs e (0, 0)) → cs.size = 1 → y.heap[k]? = x.heap[k]?
theorem RJ.of {e : TypeId} {B p j : Nat} {x y : World} (hB : B ≤ x.heap.size) (h : Below x.heap.size x y) : RJ e B p j x y :=
  ⟨h.mono hB, fun _ => h, fun _ _ ho => own_keep1 ho fun k _ hk => h.block k hk, fun k _ hk _ => h.block k (Array.getElem?_eq_some_iff.1 hk).1⟩
theorem append_kept1 {P : Program} {x : World} {e : TypeId} {B p : Nat} (t ty : TypeId) (i : TypeInfo) (z : Value) (ht : P.underlying t = some (.slice e)) (hi : P.info? e = some i) (hz : i.zero = some z) (hsize : i.size = 1) (hzs : z.cells.size = 1)
    (v : Value) (xs : List Value) (hown : x.ownsRow B e 1 v p xs) (ad : Addr) (c : Nat) (u : Value) (hu : u.oneCell' = true) (hnews : ∀ j w, [u][j]? = some w → x.cell? (ad.add j) = some w)
    (h63 : p + 1 ≤ maxLen) (hbytes : (p + 1) * i.bytes ≤ 140737488355328) (hB : B ≤ x.heap.size) (hp : p = 0 → v = .slice none 0 0) :
    ∃ v' w', (Builtin.append_ #[t, t] ty #[v, .slice (some ad) 1 c]).run P x = .ok v' w' ∧ w'.ownsRow B e 1 v' (p + 1) (xs ++ [u]) ∧ RJ e B p 7 x w' := by
  have h1 : ∀ y ∈ [u], y.oneCell' = true := fun y hy => by
    simp only [List.mem_singleton] at hy
    subst hy
    exact hu
  obtain ⟨v', w', hr, h2, h3, _⟩ := run_append_own (P := P) x B t ty e i z 1 i.bytes ht hi hz hsize rfl hzs (by decide) v p xs hown ad 1 c [u] rfl hnews h1 h63 hbytes hB
  have hlow : Below B x w' := (Below.refl B x).grown h3 hB fun k hk => (hown.lt k hk).1
  refine ⟨v', w', hr, h2, ?_⟩
  have fresh : (∀ k, k < x.heap.size → w'.heap[k]? = x.heap[k]?) → RJ e B p 7 x w' := fun h => ⟨hlow, fun e => absurd rfl e, fun _ _ ho => own_keep1 ho fun k _ hk => h k hk, fun k _ hk _ => h k (Array.getElem?_eq_some_iff.1 hk).1⟩
  have hown' := hown
  rcases hown.2 with ⟨rfl, _⟩ | ⟨g, cap, cur, rfl, hbg, hg, hnc, hcm, hcs, htake⟩
  · exact fresh fun k hk => h3.block k hk (by simp [Value.ownBlock])
  · by_cases hroom : p + 1 ≤ cap
    · have hfit : p * i.size + [u].length ≤ cur.size := by rw [hsize, hcs]; simp only [List.length_cons, List.length_nil]; omega
      have hr2 := run_append_room (P := P) x t ty e i ht hi g p cap cur hg ad 1 c [u] (by rw [hsize]; rfl) hnews h1 hroom hfit
      rw [hr] at hr2
      injection hr2 with e1 e2
      have hne : ∀ k, k ≠ g → w'.heap[k]? = x.heap[k]? := fun k hk => by rw [e2]; exact setRow_other _ _ _ _ hk
      have hat : w'.heap[g]? = some (.cells (cur.toList.take (p * i.size) ++ [u] ++ cur.toList.drop (p * i.size + [u].length)).toArray e (0, 0)) := by rw [e2]; exact setRow_heap _ _ _ _ _ _ hg
      refine ⟨hlow, fun e => absurd rfl e, fun v2 xs2 ho => ?_, fun k cs hk h2 => ?_⟩
      · refine ⟨ho.1, ?_⟩
        rcases ho.2 with hn | ⟨g2, cap2, cur2, e', hb2, hg2, hn2, hm2, hc2, ht2⟩
        · exact .inl hn
        · by_cases eg : g2 = g
          · subst eg
            rw [hg] at hg2
            injection hg2 with hg2
            injection hg2 with hg2
            subst hg2
            refine .inr ⟨g2, cap2, _, e', hb2, hat, hn2, hm2, ?_, ?_⟩
            · simp only [List.size_toArray, List.length_append, List.length_take, List.length_drop, Array.length_toList]
              rw [← hc2]
              simp only [List.length_cons, List.length_nil] at hfit ⊢
              omega
            · simp only [List.append_assoc]
              rw [hsize, List.take_append_of_le_length (by rw [List.length_take, Array.length_toList]; omega), List.take_take, Nat.min_self]
              exact ht2
          · exact .inr ⟨g2, cap2, cur2, e', hb2, (hne g2 eg).trans hg2, hn2, hm2, hc2, ht2⟩
      · refine hne k fun e => ?_
        subst e
        rw [hg] at hk
        injection hk with hk
        injection hk with hk
        subst hk
        have hp0 : p ≠ 0 := fun e => by have := hp e; cases this
        omega
    · have holds : ∀ j u, xs[j]? = some u → x.cell? ((⟨g, 0, none⟩ : Addr).add j) = some u := hown'.cells (g := g) rfl
      have hr2 := run_append_grow (P := P) x t ty e i z ht hi hz ⟨g, 0, none⟩ p cap xs (by rw [hsize]; exact hown'.1) holds ad 1 c [u] (by rw [hsize]; rfl) hnews (by omega) (by unfold maxLen at h63; omega) (growslice_fits (by omega) hbytes)
      rw [hr] at hr2
      injection hr2 with e1 e2
      exact fresh fun k hk => by rw [e2]; exact heap_alloc_old x.drew _ hk
theorem run_append_nonec {P : Program} {w : World} (base : Nat) (t ty e : TypeId) (i : TypeInfo) (size : Nat) (ht : P.underlying t = some (.slice e)) (hi : P.info? e = some i) (v : Value) (n : Nat) (xs : List Value) (hown : w.ownsRow base e size v n xs) (c : Nat) :
    (Builtin.append_ #[t, t] ty #[v, .slice none 0 c]).run P w = .ok v w := by
  rcases hown.2 with ⟨rfl, _⟩ | ⟨g, cap, cur, rfl, hbg, hg, hnc, hcm, hcs, htake⟩
  · simp [Builtin.append_, run_underlying ht, sizeOf, typeInfo, hi, Builtin.lenOf, Builtin.firstCells, loadCells, loadCellsFrom]
  · simp [Builtin.append_, run_underlying ht, sizeOf, typeInfo, hi, Builtin.lenOf, Builtin.firstCells, loadCells, loadCellsFrom, hnc, storeCells]
theorem vals_get (k : IntKind) (ls : List Nat) (j : Nat) (hj : j < ls.length) : (vals k ls)[j]? = some (.int k ((ls.getD j 0 : Nat) : Int)) := by
  rw [vals, List.getElem?_map, List.getD_eq_getElem?_getD, List.getElem?_eq_getElem hj]
  rfl
theorem run_append_rowc {P : Program} {w : World} {k : IntKind} (t ty e : TypeId) (base : Nat) (i : TypeInfo) (z : Value) (ht : P.underlying t = some (.slice e)) (hi : P.info? e = some i) (hz : i.zero = some z) (hsz : i.size = 1) (hzs : z.cells.size = 1)
    (v : Value) (n : Nat) (xs : List Value) (hown : w.ownsRow base e 1 v n xs) (ys : List Nat) (A : Option Addr) (c : Nat) (ok : Nat → Prop) (hD : Row k w ok A ys) (h63 : n + ys.length ≤ maxLen) (hbytes : (n + ys.length) * i.bytes ≤ 140737488355328) (hbase : base ≤ w.heap.size) :
    ∃ v' w', (Builtin.append_ #[t, t] ty #[v, .slice A ys.length c]).run P w = .ok v' w' ∧ w'.ownsRow base e 1 v' (n + ys.length) (xs ++ vals k ys) ∧ w.grownBy w' v.ownBlock ∧ (v = .slice none 0 0 → ys.length = 0 → v' = .slice none 0 0) := by
  cases A with
  | none =>
    have h0 : ys = [] := by
      cases ys with
      | nil => rfl
      | cons d l =>
        obtain ⟨_, _, e, _⟩ := hD.at_ (by simp)
        cases e
    subst h0
    exact ⟨v, w, run_append_nonec base t ty e i 1 ht hi v n xs hown c, by simpa [vals] using hown, ⟨rfl, rfl, rfl, Nat.le_refl _, fun _ _ _ => rfl⟩, fun h _ => h⟩
  | some ad =>
    obtain ⟨v', w', h1, h2, h3, h4⟩ := run_append_own (P := P) w base t ty e i z 1 i.bytes ht hi hz hsz rfl hzs (by decide) v n xs hown ad ys.length c (vals k ys) (by rw [vals_length]; omega) (fun j u hu => by
      have hj : j < ys.length := by
        have := (List.getElem?_eq_some_iff.1 hu).1
        rwa [vals_length] at this
      obtain ⟨b, o', e, _, h2⟩ := hD.at_ (by omega)
      cases e
      rw [vals_get k ys j hj] at hu
      rw [Go.WideShapes.add_plain, h2 j hj]
      exact hu) (fun y hy => by
      unfold vals at hy
      obtain ⟨d, _, rfl⟩ := List.mem_map.1 hy
      rfl) h63 hbytes hbase
    exact ⟨v', w', h1, h2, h3, fun a b => h4.2 ⟨a, b⟩⟩
theorem exec_append {P : Program} {ev : Operand → Value} {o : Oper} {w w' : World} {v u v' : Value} (t : TypeId) (s x : Operand) (ho : o.op = .call { callee := .builtin .append, args := #[s, x], argTypes := #[t, t] }) (hs : ev s = v) (hx : ev x = u)
    (hr : (Builtin.append_ #[t, t] o.type #[v, u]).run P w = .ok v' w') : (execOp ev o).run P w = .ok (.value v') w' := by
  unfold execOp
  simp only [ho, resolve, invoke, builtin, Sem.run_bind, Sem.run_pure, Result.andThen_ok, List.map_toArray, List.map_cons, List.map_nil, hs, hx, hr]
theorem wpList_append_rowc {P : Program} {w : World} {k : IntKind} {ops : Array Oper} {rest : List Oper} {o : Oper} {a : Act} {Q : Exit → Act → World → Prop} (hgd : o.guard = none) (s x : Operand) (t : TypeId)
    (ho : o.op = .call { callee := .builtin .append, args := #[s, x], argTypes := #[t, t] }) (base : Nat) (e : TypeId) (z : Value) (bytes : Nat) (ht : P.underlying t = some (.slice e))
    (hinfo : (P.info? e).map (fun i => (i.zero, i.size, i.bytes)) = some (some z, 1, bytes)) (hzs : z.cells.size = 1)
    (v : Value) (n : Nat) (xs : List Value) (hs : a.eval s = v) (hown : w.ownsRow base e 1 v n xs) (ys : List Nat) (A : Option Addr) (c : Nat) (ok : Nat → Prop)
    (hx : a.eval x = .slice A ys.length c) (hD : Row k w ok A ys) (h63 : n + ys.length ≤ maxLen) (hbytes : (n + ys.length) * bytes ≤ 140737488355328) (hbase : base ≤ w.heap.size)
    (h : ∀ v' w', Hid (w'.ownsRow base e 1 v' (n + ys.length) (xs ++ vals k ys)) → Hid (Below base w w') → wpList P ops Q rest (a.put o.dst v') w') : wpList P ops Q (o :: rest) a w := by
  obtain ⟨i, hi, hz, hsz, hby⟩ := info_parts hinfo
  subst hby
  obtain ⟨v', w', h1, h2, h3, _⟩ := run_append_rowc t o.type e base i z ht hi hz hsz hzs v n xs hown ys A c ok hD h63 hbytes hbase
  refine wpList_plain hgd fun K hK => ?_
  unfold Oper.wp
  rw [exec_append t s x ho hs hx h1]
  exact hK _ _ (h v' w' h2 ((Below.refl base w).grown h3 hbase fun k hk => (hown.lt k hk).1))
theorem exec_slice {P : Program} {ev : Operand → Value} {o : Oper} {w : World} {v r : Value} {lo hi : Option Value} (t : TypeId) (x : Operand) (l h m : Option Operand) (ho : o.op = .slice t x l h m) (hx : ev x = v) (hl : l.map ev = lo) (hh : h.map ev = hi) (hm : m = none)
    (hr : (Instr.sliceAt t v lo hi none).run P w = .ok r w) : (execOp ev o).run P w = .ok (.value r) w := by
  subst hm
  unfold execOp
  simp only [ho, hx, hl, hh, Option.map_none, Sem.run_bind, hr, Result.andThen_ok, Sem.run_pure]
theorem Row.cut {k : IntKind} {w : World} {A : Option Addr} {ls : List Nat} {o : Nat → Prop} (h : Row k w o A ls) (p : Nat) : Row k w o A (ls.take p) := ⟨fun hp => by
  rw [List.length_take] at hp
  obtain ⟨b, off, rfl, hb, hc⟩ := h.at_ (by omega)
  refine ⟨b, off, rfl, hb, fun j hj => ?_⟩
  rw [List.length_take] at hj
  rw [hc j (by omega)]
  simp [List.getD_eq_getElem?_getD, List.getElem?_take, show j < p by omega]⟩
theorem Row.behind {k : IntKind} {w : World} {A : Option Addr} {ls : List Nat} {o : Nat → Prop} (h : Row k w o A ls) {p c : Nat} (hk : p ≤ ls.length) (hc : ls.length ≤ c) : Row k w o (cutA A c p) (ls.drop p) := ⟨fun hp => by
  rw [List.length_drop] at hp
  obtain ⟨b, off, rfl, hb, hcell⟩ := h.at_ (by omega)
  refine ⟨b, off + p, ?_, hb, fun j hj => ?_⟩
  · rw [cutA, if_neg (by omega)]
    simp only [Option.map_some, Addr.add_mid]
  · rw [List.length_drop] at hj
    have h1 := hcell (p + j) (by omega)
    rw [show off + p + j = off + (p + j) by omega, h1]
    simp [List.getD_eq_getElem?_getD]⟩
def P4 (e : TypeId) (k : IntKind) (B p : Nat) (ls : List Nat) (v : Value) (x : World) : Prop := x.ownsRow B e 1 v p (vals k (ls.take p)) ∧ (p = 0 → v = .slice none 0 0)
def P6 (e : TypeId) (k : IntKind) (d : Nat) (v : Value) (x : World) : Prop := ∃ g, v = .slice (some ⟨g, 0, none⟩) 1 1 ∧ x.heap[g]? = some (.cells #[.int k (d : Int)] e (0, 0))
def P7 (e : TypeId) (k : IntKind) (B p : Nat) (ls : List Nat) (d : Nat) (v : Value) (x : World) : Prop := x.ownsRow B e 1 v (p + 1) (vals k (ls.take p) ++ [.int k (d : Int)])
theorem one_cells {x : World} {g : Nat} {u : Value} {e : TypeId} (h : x.heap[g]? = some (.cells #[u] e (0, 0))) : ∀ j v, [u][j]? = some v → x.cell? ((⟨g, 0, none⟩ : Addr).add j) = some v := fun j v hv => by
  rw [Go.WideShapes.add_plain, Nat.zero_add, cell_of_row _ _ _ _ _ _ h]
  match j, hv with
  | 0, hv => exact hv
theorem info23 : (Tryz.prog.info? 82).map (fun i => (i.zero, i.size, i.bytes)) = some (some (.int .u64 0), 1, 8) := by kernel_rfl
theorem size3o : (Tryz.prog.info? 3).map (·.size) = some 1 := by kernel_rfl
theorem size23o : (Tryz.prog.info? 82).map (·.size) = some 1 := by kernel_rfl
namespace Ring
/-- A point, put in as the reference does: behind all that are not above it. -/
def insP (L : List Pt) (p : Pt) : List Pt := L.takeWhile (fun x => decide (x.1 ≤ p.1)) ++ p :: L.dropWhile (fun x => decide (x.1 ≤ p.1))
theorem ins_sorted {L : List Pt} {p : Pt} (hs : L.Pairwise fun x y => le x y = true) (hn : ∀ a, a ∈ L → a.2 ≤ p.2) : (insP L p).Pairwise fun x y => le x y = true := by
  unfold insP
  have hT : ∀ a, a ∈ L.takeWhile (fun x => decide (x.1 ≤ p.1)) → le a p = true := fun a ha => by
    have h1 := List.all_eq_true.1 (List.all_takeWhile (p := fun x : Pt => decide (x.1 ≤ p.1)) (l := L)) a ha
    have h2 := hn a (List.takeWhile_sublist _ |>.subset ha)
    simp only [decide_eq_true_eq] at h1
    simp only [le, decide_eq_true_eq]
    omega
  have hD : ∀ a, a ∈ L.dropWhile (fun x => decide (x.1 ≤ p.1)) → le p a = true := by
    have hsd : (L.dropWhile (fun x => decide (x.1 ≤ p.1))).Pairwise fun x y => le x y = true := hs.sublist (List.dropWhile_sublist _)
    cases hd : L.dropWhile (fun x => decide (x.1 ≤ p.1)) with
    | nil => intro a ha; cases ha
    | cons y D =>
      have hy : ¬ (y.1 ≤ p.1) := by
        have := List.head?_dropWhile_not (fun x : Pt => decide (x.1 ≤ p.1)) L
        rw [hd] at this
        simpa using this
      rw [hd, List.pairwise_cons] at hsd
      intro a ha
      rcases List.mem_cons.1 ha with rfl | ha
      · simp only [le, decide_eq_true_eq]; omega
      · have := hsd.1 a ha
        simp only [le, decide_eq_true_eq] at this ⊢
        omega
  rw [List.pairwise_append, List.pairwise_cons]
  refine ⟨hs.sublist (List.takeWhile_sublist _), ⟨hD, hs.sublist (List.dropWhile_sublist _)⟩, fun a ha b hb => ?_⟩
  rcases List.mem_cons.1 hb with rfl | hb
  · exact hT a ha
  · exact le_trans' a p b (hT a ha) (hD b hb)
theorem ins_perm (L : List Pt) (p : Pt) : (insP L p).Perm (L ++ [p]) := by
  unfold insP
  refine List.perm_middle.trans ?_
  rw [List.takeWhile_append_dropWhile]
  exact (List.perm_append_singleton p L).symm
theorem fold_ins : ∀ (l acc : List Pt), acc.Pairwise (fun x y => le x y = true) → (∀ a, a ∈ acc → ∀ b, b ∈ l → a.2 ≤ b.2) → l.Pairwise (fun x y => x.2 ≤ y.2) → (l.foldl insP acc).Pairwise (fun x y => le x y = true) ∧ (l.foldl insP acc).Perm (acc ++ l)
  | [], acc, h, _, _ => ⟨h, by rw [List.append_nil]; exact List.Perm.refl _⟩
  | p :: l, acc, h, hn, hp => by
    rw [List.pairwise_cons] at hp
    have h1 := ins_sorted h (fun a ha => hn a ha p List.mem_cons_self)
    have h2 := ins_perm acc p
    obtain ⟨r1, r2⟩ := fold_ins l (insP acc p) h1 (fun a ha b hb => by
      rcases List.mem_append.1 (h2.mem_iff.1 ha) with ha | ha
      · exact hn a ha b (List.mem_cons_of_mem _ hb)
      · simp only [List.mem_singleton] at ha
        subst ha
        exact hp.1 b hb) hp.2
    refine ⟨r1, r2.trans ?_⟩
    rw [show acc ++ p :: l = (acc ++ [p]) ++ l by simp]
    exact h2.append_right l
theorem raw_rise (f : Nat → Nat → Nat) (V : Nat) : ∀ N, (raw f V N).Pairwise (fun x y => x.2 ≤ y.2)
  | 0 => List.Pairwise.nil
  | N + 1 => by
    unfold raw
    rw [List.pairwise_append]
    refine ⟨raw_rise f V N, ?_, fun a ha b hb => ?_⟩
    · unfold ofNode
      rw [List.pairwise_map]
      exact List.pairwise_of_forall fun _ _ => Nat.le_refl _
    · have h1 := raw_node ha
      simp only [ofNode, List.mem_map] at hb
      obtain ⟨i, _, rfl⟩ := hb
      dsimp only
      omega
theorem fold_pts (f : Nat → Nat → Nat) (V N : Nat) : (raw f V N).foldl insP [] = pts f V N := by
  obtain ⟨h1, h2⟩ := fold_ins (raw f V N) [] List.Pairwise.nil (fun _ h => by cases h) (raw_rise f V N)
  rw [List.nil_append] at h2
  exact sorted_unique h1 (sorted_sort _) (h2.trans (List.mergeSort_perm _ _).symm)
def atP (L : List Pt) (p : Nat) : Nat := (L.takeWhile fun x => decide (x.1 ≤ p)).length
theorem atP_facts (p : Nat) : ∀ L : List Pt, atP L p ≤ L.length ∧ (∀ i, i < atP L p → (L.getD i (0, 0)).1 ≤ p) ∧ (atP L p < L.length → ¬ (L.getD (atP L p) (0, 0)).1 ≤ p) ∧ L.take (atP L p) = L.takeWhile (fun x => decide (x.1 ≤ p)) ∧ L.drop (atP L p) = L.dropWhile (fun x => decide (x.1 ≤ p))
  | [] => by simp [atP]
  | x :: L => by
    obtain ⟨h1, h2, h3, h4, h5⟩ := atP_facts p L
    by_cases hx : x.1 ≤ p
    · have e : atP (x :: L) p = atP L p + 1 := by
        unfold atP
        rw [List.takeWhile_cons_of_pos (by simpa using hx), List.length_cons]
      rw [e, List.takeWhile_cons_of_pos (by simpa using hx), List.dropWhile_cons_of_pos (by simpa using hx)]
      refine ⟨by simp only [List.length_cons]; omega, fun i hi => ?_, fun h => ?_, ?_, ?_⟩
      · cases i with
        | zero => exact hx
        | succ i => exact h2 i (by omega)
      · exact h3 (by simpa using h)
      · rw [List.take_succ_cons, h4]
      · rw [List.drop_succ_cons, h5]
    · have e : atP (x :: L) p = 0 := by
        unfold atP
        rw [List.takeWhile_cons_of_neg (by simpa using hx)]
        rfl
      rw [e, List.takeWhile_cons_of_neg (by simpa using hx), List.dropWhile_cons_of_neg (by simpa using hx)]
      exact ⟨Nat.zero_le _, fun i hi => absurd hi (Nat.not_lt_zero _), fun _ => hx, rfl, rfl⟩
theorem insP_at (L : List Pt) (p d : Nat) : insP L (p, d) = L.take (atP L p) ++ (p, d) :: L.drop (atP L p) := by
  obtain ⟨_, _, _, h4, h5⟩ := atP_facts p L
  rw [h4, h5]
  rfl
/-- The points that the reference has in order behind i of the node d. -/
def refL (f : Nat → Nat → Nat) (V d i : Nat) : List Pt := (raw f V (d - 1) ++ (ofNode f V d).take i).foldl insP []
theorem refL_zero (f : Nat → Nat → Nat) (V : Nat) : refL f V 1 0 = [] := rfl
end Ring
end Go.Proofs.YtdbhboglccggdaaGreatDoor
