/- Texts of one kind, joined: S12, K4, K5, K8, K11, K12, K9, K10, K7, K6, K13, K14, OpenC. -/
import Derived.Deep.MidRow
import Derived.Test.YtnpacjdgbmldlaaCaB1
import Derived.Test.YtnpacjdgbmldlaaCaC2
import Derived.Test.YtnpacjdgbmldlaaCaU1
set_option linter.unusedVariables false
set_option linter.unusedSimpArgs false
/- sort.Slice of a row of entries by cart.Order's less: the row holds mergeSort of what it held. -/
namespace Go.Proofs.Ytnpacjdgbmldlaa
open Go.RowKit Go.Lib Go.Sort Go.Shelf

instance : Inhabited Ent := ⟨e0⟩
theorem getE (d : Array Ent) (i : Nat) (h : i < d.size) : d[i]! = d.toList.getD i e0 := by
  rw [getElem!_pos d i h, List.getD_eq_getElem?_getD, List.getElem?_eq_getElem (by simpa using h)]
  simp
theorem Ent.less_iff (a b : Ent) : a.less b = true ↔ (a.item < b.item ∨ a.item = b.item ∧ (a.node < b.node ∨ a.node = b.node ∧ (a.n < b.n ∨ a.n = b.n ∧ a.qty < b.qty))) := by
  unfold Ent.less Ent.same
  by_cases h1 : a.item = b.item
  · rw [if_pos h1]
    by_cases h2 : a.node = b.node ∧ a.n = b.n
    · rw [if_pos (decide_eq_true h2), decide_eq_true_eq]
      omega
    · rw [if_neg (by simpa using h2)]
      simp only [Vec.less, decide_eq_true_eq]
      omega
  · rw [if_neg h1, decide_eq_true_eq]
    omega
theorem Ent.less_no (a b : Ent) : a.less b = false ↔ ¬ (a.item < b.item ∨ a.item = b.item ∧ (a.node < b.node ∨ a.node = b.node ∧ (a.n < b.n ∨ a.n = b.n ∧ a.qty < b.qty))) := by
  rw [Bool.eq_false_iff, ne_eq, Ent.less_iff]
theorem swo_ent : SWO Ent.less where
  irrefl x := by rw [Ent.less_no]; omega
  trans x y z h1 h2 := by rw [Ent.less_iff] at *; omega
  ntrans x y z h1 h2 := by rw [Ent.less_no] at *; omega
theorem total_ent (x y : Ent) (h : x.less y = false) (k : y.less x = false) : x = y := by
  rw [Ent.less_no] at h k
  cases x; cases y
  simp only [Ent.mk.injEq] at *
  omega

def ovr : List Value → Nat → List Value → List Value
  | cs, _, [] => cs
  | cs, o, v :: vs => ovr (cs.set o v) (o + 1) vs
theorem setCells_row (g : Nat) (ty : TypeId) : ∀ (vs : List Value) (o : Nat) (cs : List Value) (x : World), x.heap[g]? = some (.cells cs.toArray ty (0, 0)) → (x.setCells g o vs).heap[g]? = some (.cells (ovr cs o vs).toArray ty (0, 0))
  | [], _, _, _, h => h
  | v :: vs, o, cs, x, h => by
    have h1 : (x.setCell ⟨g, o, none⟩ v).heap[g]? = some (.cells (cs.set o v).toArray ty (0, 0)) := by
      rw [setCell_eq_setRow x g o cs.toArray ty (0, 0) v h, setRow_heap x g cs.toArray _ ty (0, 0) h, List.setIfInBounds_toArray]
    exact setCells_row g ty vs (o + 1) (cs.set o v) _ h1
theorem ovr_ents : ∀ (ls : List Ent) (i : Nat) (e : Ent), i < ls.length → ovr (ents4 ls) (i * 4) (entL e) = ents4 (ls.set i e)
  | [], _, _, h => by cases h
  | x :: ls, 0, e, _ => by
    rw [ents4_cons, List.set_cons_zero, ents4_cons]
    rfl
  | x :: ls, i + 1, e, h => by
    have ih := ovr_ents ls i e (by simpa using h)
    rw [List.set_cons_succ, ents4_cons, ents4_cons, ← ih]
    rw [show (i + 1) * 4 = i * 4 + 4 by omega]
    simp [ovr, entL]
theorem ents_holds {x : World} {g : Nat} {d : Array Ent} (h : x.heap[g]? = some (.cells (ents4 d.toList).toArray 58 (0, 0))) : HoldsK entL 4 x g 0 d := by
  intro j hj
  rw [size_flatK] at hj
  rw [get_flatK _ _ _ _ hj, Nat.zero_add]
  have hj4 : j / 4 < d.toList.length := by rw [Array.length_toList]; omega
  refine ⟨?_, by simp [World.frozen?, h]⟩
  rw [cell_of_row _ _ _ _ _ _ h, List.getElem?_toArray]
  have h1 := ents4_get d.toList (j / 4) (j % 4) hj4 (by omega)
  rw [show j / 4 * 4 + j % 4 = j by omega] at h1
  rw [h1, getE d (j / 4) (by omega)]
  have h3 : j % 4 < 4 := by omega
  rcases (show j % 4 = 0 ∨ j % 4 = 1 ∨ j % 4 = 2 ∨ j % 4 = 3 by omega) with e | e | e | e <;> rw [e] <;> rfl
theorem swp_toList (d : Array Ent) (i j : Nat) : (swp d i j).toList = (d.toList.set i d[j]!).set j d[i]! := by simp [swp]
theorem ob_swap {B g : Nat} {d : Array Ent} {x : World} (hBg : B ≠ g) (h : OB B g d.toList x) {i j : Nat} (hi : i < d.size) (hj : j < d.size) :
    OB B g (swp d i j).toList ((x.setCells g (0 + i * 4) (entL d[j]!)).setCells g (0 + j * 4) (entL d[i]!)) := by
  have hb : x.grownBy ((x.setCells g (0 + i * 4) (entL d[j]!)).setCells g (0 + j * 4) (entL d[i]!)) (some g) :=
    only_setCells (only_setCells ⟨rfl, rfl, rfl, Nat.le_refl _, fun _ _ _ => rfl⟩ _ _) _ _
  constructor
  · rw [hb.block B (lt_of_row h.box) (fun e => by injection e with e; exact hBg e), h.box]
    simp [swp]
  · have h1 := setCells_row g 58 (entL d[j]!) (i * 4) _ _ h.row
    rw [ovr_ents _ _ _ (by simpa using hi)] at h1
    have h2 := setCells_row g 58 (entL d[i]!) (j * 4) _ _ h1
    rw [ovr_ents _ _ _ (by simpa using hj)] at h2
    rw [Nat.zero_add, Nat.zero_add, swp_toList]
    exact h2

noncomputable def svT : TypeInfo := (Try.prog.info? 54).get (by kernel_rfl)
noncomputable def svE : TypeInfo := (Try.prog.info? 58).get (by kernel_rfl)
theorem svK (n : Nat) (h2 : 2 ≤ n) : Lib.swapperK n svE 25 = 9 := by
  have a : svE.hasPointers = false := by kernel_rfl
  have b : svE.bytes = 32 := by kernel_rfl
  have c : (n == 0) = false := by simp; omega
  have d : (n == 1) = false := by simp; omega
  simp [Lib.swapperK, a, b, c, d]
theorem svK0 : Lib.swapperK 0 svE 25 = 1 := by kernel_rfl
theorem svK1 : Lib.swapperK 1 svE 25 = 2 := by kernel_rfl
def RO (B g n : Nat) (d : Array Ent) (x : World) : Prop := d.size = n ∧ OB B g d.toList x
theorem swapper9 : ∀ args W, (callFunc 142 args).run Try.prog W = ((Extern.ReflectliteSwapper.swap false args).run Try.prog W).andThen fun v w' => .ok (.value v) w' :=
  fun args W => run_callFunc_extern Try.func142 (by kernel_rfl) (by kernel_rfl) (by kernel_rfl) (e := Extern.ReflectliteSwapper.swap false) (by kernel_rfl) args W
theorem env_order (B g n : Nat) (hBg : B ≠ g) (hn : n < 4611686018427387904) : SEnv Ent.less 92 #[.pointer (some ⟨B, 0, none⟩)] 142 #[.slice (some ⟨g, 0, none⟩) n n, typeHandle Try.prog 58] g n (max B g + 1) (RO B g n) where
  eg := enters_of Try.func92 (by kernel_rfl) rfl
  size d x h := h.1
  rowN := by omega
  base d x h := by
    have h1 := lt_of_row h.2.box
    have h2 := lt_of_row h.2.row
    omega
  keep d x y hb h := ⟨h.1, (hb.block _ (by omega)).trans h.2.box, (hb.block _ (by omega)).trans h.2.row⟩
  less d x h i j hi hj := by
    have hs := h.1
    rw [getE d i (by omega), getE d j (by omega)]
    exact order1_any d.toList B g i j x h.2 (by rw [Array.length_toList]; omega) (by rw [Array.length_toList]; omega)
  swap d x h i j hi hj := by
    have hs := h.1
    have hw := swapSwapsK_of_literal (P := Try.prog) false 142 swapper9 58 svE (by kernel_rfl) entL 4 (fun _ => rfl) (by kernel_rfl) (fun _ => by kernel_rfl)
      (fun x v hv => by simp [entL] at hv; rcases hv with rfl | rfl | rfl | rfl <;> rfl) g 0 n n x d (ents_holds h.2.row) hs i j hi hj
    exact ⟨_, hw, ⟨by rw [size_swp]; exact hs, ob_swap hBg h.2 (by omega) (by omega)⟩, only_setCells (only_setCells ⟨rfl, rfl, rfl, Nat.le_refl _, fun _ _ _ => rfl⟩ _ _) _ _⟩
  small := hn

/-- Entries in order. -/
def ordE (ls : List Ent) : List Ent := ls.mergeSort fun x y => !(y.less x)
theorem ordE_len (ls : List Ent) : (ordE ls).length = ls.length := by unfold ordE; exact List.length_mergeSort _
theorem slice_ents (ls : List Ent) (B g : Nat) (w : World) (h : OB B g ls w) (hBg : B ≠ g) (hn : ls.length < 4611686018427387904) :
    Calls Try.prog 91 #[.iface 54 (.slice (some ⟨g, 0, none⟩) ls.length ls.length), .func (.func 92) #[] #[.pointer (some ⟨B, 0, none⟩)]] w fun e w' => e = .returned (.tuple #[]) ∧ OB B g (ordE ls) w' ∧ w.grownBy w' (some g) := by
  rcases Nat.lt_or_ge ls.length 2 with h2 | h2
  · have ho : ordE ls = ls := by
      match ls, h2 with
      | [], _ => simp [ordE]
      | [x], _ => simp [ordE]
    rw [ho]
    have ht : Calls Try.prog 91 #[.iface 54 (.slice (some ⟨g, 0, none⟩) ls.length ls.length), .func (.func 92) #[] #[.pointer (some ⟨B, 0, none⟩)]] w fun e w' => e = .returned (.tuple #[]) ∧ ∃ os, w' = grow w os := by
      rcases (show ls.length = 0 ∨ ls.length = 1 by omega) with e | e <;> rw [e]
      · exact Any.sort_Slice_tiny (P := Try.prog) (ρ := Try.sv6_ren) Try.sv6 54 58 svT svE (by kernel_rfl) (by kernel_rfl) (by kernel_rfl) (by kernel_rfl) 25 (fun _ => by kernel_rfl) (some ⟨g, 0, none⟩) 0 0 (by omega) 134 (by rw [svK0]; kernel_rfl) (.func 92) #[] _ w
      · exact Any.sort_Slice_tiny (P := Try.prog) (ρ := Try.sv6_ren) Try.sv6 54 58 svT svE (by kernel_rfl) (by kernel_rfl) (by kernel_rfl) (by kernel_rfl) 25 (fun _ => by kernel_rfl) (some ⟨g, 0, none⟩) 1 1 (by omega) 135 (by rw [svK1]; kernel_rfl) (.func 92) #[] _ w
    refine ht.mono ?_
    rintro e w' ⟨rfl, os, rfl⟩
    have hk : ∀ k, k < w.heap.size → (grow w os).heap[k]? = w.heap[k]? := fun k hk => heap_grow_old _ _ hk
    exact ⟨rfl, ⟨(hk _ (lt_of_row h.box)).trans h.box, (hk _ (lt_of_row h.row)).trans h.row⟩, rfl, rfl, rfl, by rw [size_grow]; exact Nat.le_add_right _ _, fun k h1 _ => hk k h1⟩
  · have E := env_order B g ls.length hBg hn
    have hW : sliceWorld Try.prog Try.sv6_ren 54 (some ⟨g, 0, none⟩) ls.length ls.length w = (w.alloc (.cells #[.slice (some ⟨g, 0, none⟩) ls.length ls.length] 54)).alloc (.cells #[.pointer (some ⟨Try.prog.globals.size, 54, none⟩), .pointer (some ⟨w.heap.size, 0, none⟩), .int .u64 151] (Try.sv6_ren.t 35)) := rfl
    have hb := below2 w (.cells #[.slice (some ⟨g, 0, none⟩) ls.length ls.length] 54) (.cells #[.pointer (some ⟨Try.prog.globals.size, 54, none⟩), .pointer (some ⟨w.heap.size, 0, none⟩), .int .u64 151] (Try.sv6_ren.t 35))
    rw [← hW] at hb
    have hR : RO B g ls.length ls.toArray (sliceWorld Try.prog Try.sv6_ren 54 (some ⟨g, 0, none⟩) ls.length ls.length w) := ⟨by simp, h.then_ hb⟩
    have hlim : Lib.bitLen ls.length < 4611686018427387904 := Nat.lt_of_le_of_lt (Lib.bitLen_le ls.length 62 (by omega) (by omega)) (by omega)
    have hp := pdq_any E swo_ent (ls.length + 1) 0 ls.length (Lib.bitLen ls.length) ls.toArray _ (by omega) hR (Nat.zero_le _) (Nat.le_refl _) hlim (Or.inl rfl)
    have hs := pdq_sorts Ent.less swo_ent ls.toArray 0 ls.length (Lib.bitLen ls.length) true true (Nat.zero_le _) (by simp) (Or.inl rfl)
    have hsz : ls.toArray.size = ls.length := by simp
    have hu := sorted_unique_holds swo_ent total_ent ls.toArray _ (by rw [hsz]; exact hs.1) (by rw [hsz]; exact hs.2)
    have HU := Lib.hid hu
    have hB : sliceBound Try.prog 58 svE 25 (some ⟨g, 0, none⟩) ls.length ls.length = #[.slice (some ⟨g, 0, none⟩) ls.length ls.length, typeHandle Try.prog 58] := by
      unfold sliceBound; rw [if_neg (swapperK_gt _ _ _ h2)]
    refine Any.sort_Slice_of_pdq (P := Try.prog) (ρ := Try.sv6_ren) Try.sv6 54 58 svT svE (by kernel_rfl) (by kernel_rfl) (by kernel_rfl) (by kernel_rfl) 25 (fun _ => by kernel_rfl) (some ⟨g, 0, none⟩) ls.length ls.length hn 142 (by rw [svK _ h2]; kernel_rfl) (.func 92) #[] _ w (fun w' => OB B g (ordE ls) w' ∧ w.grownBy w' (some g)) ?_
    rw [hB]
    refine hp.mono ?_
    rintro e w' ⟨rfl, hO, hg⟩
    have h2 := hO.2
    rw [HU.out] at h2
    exact ⟨rfl, h2, only_then (below_then (r := g) ⟨rfl, rfl, rfl, Nat.le_refl _, fun _ _ _ => rfl⟩ hb) hg⟩
end Go.Proofs.Ytnpacjdgbmldlaa

/- A cart's cells; entries of the call's own; cart.Of. -/
namespace Go.Proofs.Ytnpacjdgbmldlaa
open Go.RowKit

/-- A cart's nine cells. -/
def cartC (f : Nat → Nat) (A : Option Addr) (n c : Nat) : Array Value := (arrOf .u64 8 f).push (.slice A n c)
abbrev cartV (f : Nat → Nat) (A : Option Addr) (n c : Nat) : Value := .agg (cartC f A n c)
theorem cartC_size (f : Nat → Nat) (A : Option Addr) (n c : Nat) : (cartC f A n c).size = 9 := by simp [cartC, arrOf_size]
theorem cart_size56 (f : Nat → Nat) (A : Option Addr) (n c : Nat) : (Try.prog.info? 56).map (·.size) = some (cartC f A n c).size := by
  have h : (Try.prog.info? 56).map (·.size) = some 9 := by kernel_rfl
  rw [h, cartC_size]
theorem cartC_one (f : Nat → Nat) (A : Option Addr) (n c : Nat) : (cartC f A n c).all (·.oneCell') = true := by
  have h := arrOf_one .u64 8 f
  unfold cartC
  rw [Array.all_push, h]
  rfl
def CartAt (x : World) (b : Nat) (f : Nat → Nat) (A : Option Addr) (n c : Nat) : Prop := x.heap[b]? = some (.cells (cartC f A n c) 56 (0, 0))
section
variable {x y : World} {b : Nat} {f : Nat → Nat} {A : Option Addr} {n c : Nat}
theorem CartAt.new (w : World) (f : Nat → Nat) (A : Option Addr) (n c : Nat) : CartAt (w.alloc (.cells (cartC f A n c) 56)) w.heap.size f A n c := heap_alloc_new _ _
theorem CartAt.lt (h : CartAt x b f A n c) : b < x.heap.size := lt_of_row h
theorem CartAt.below {B : Nat} (h : CartAt x b f A n c) (hb : Below B x y) (hB : b < B) : CartAt y b f A n c := (hb.block _ hB).trans h
theorem CartAt.then_ (h : CartAt x b f A n c) (hb : Below x.heap.size x y) : CartAt y b f A n c := (hb.block _ h.lt).trans h
theorem CartAt.c8 (h : CartAt x b f A n c) : x.cell? ⟨b, 8, none⟩ = some (.slice A n c) := by
  rw [cell_of_row _ _ _ _ _ _ h]
  unfold cartC
  rw [Array.getElem?_push, arrOf_size]
  rfl
theorem CartAt.range (h : CartAt x b f A n c) : rangeA x b 0 (cartC f A n c) := fun j v hv => by rw [Nat.zero_add, cell_of_row _ _ _ _ _ _ h]; exact hv
theorem CartAt.vec (h : CartAt x b f A n c) : rangeA x b 0 (arrOf .u64 8 f) := fun j v hv => by
  have hj : j < 8 := by
    have := (Array.getElem?_eq_some_iff.1 hv).1
    rwa [arrOf_size] at this
  rw [Nat.zero_add, cell_of_row _ _ _ _ _ _ h]
  unfold cartC
  rw [Array.getElem?_push, arrOf_size, if_neg (by omega)]
  exact hv
end
theorem size27f (f : Nat → Nat) : (Try.prog.info? 27).map (·.size) = some (arrOf .u64 8 f).size := by
  have h : (Try.prog.info? 27).map (·.size) = some 8 := by kernel_rfl
  rw [h, arrOf_size]

theorem ents4_one (e : Ent) : ents4 [e] = entL e := by simp [ents4]
theorem own_ents {w : World} {base t : Nat} {v : Value} {n : Nat} {ls : List Ent} (h : w.ownsRow base t 4 v n (ents4 ls)) : ∃ A c, v = .slice A ls.length c ∧ Ents w (fun b => base ≤ b ∧ b < w.heap.size) A ls ∧ ls.length ≤ c ∧ (A = none → c = 0) := by
  have hl := h.1
  rw [ents4_len] at hl
  have hn : n = ls.length := by omega
  subst hn
  rcases h.2 with ⟨hv, h0⟩ | ⟨g, cap, cur, hv, hg, hr, hle, _, _, ht⟩
  · exact ⟨none, 0, by rw [hv, h0], ⟨fun hp => by omega⟩, by omega, fun _ => rfl⟩
  · refine ⟨some ⟨g, 0, none⟩, cap, hv, ⟨fun hp => ⟨g, 0, rfl, ⟨hg, lt_of_row hr⟩, fun j hj i v hi => ?_⟩⟩, hle, fun e => by cases e⟩
    have hi4 : i < 4 := by
      have := (Array.getElem?_eq_some_iff.1 hi).1
      simpa [entC] using this
    rw [Nat.zero_add, cell_of_row _ _ _ _ _ _ hr]
    have h2 : ∀ k, k < ls.length * 4 → cur[k]? = (ents4 ls)[k]? := fun k hk => by
      have h3 : (cur.toList.take (ls.length * 4))[k]? = (ents4 ls)[k]? := by rw [ht]
      rw [List.getElem?_take, if_pos hk] at h3
      rw [← Array.getElem?_toList, h3]
    rw [h2 _ (by omega), ents4_get ls j i hj hi4]
    exact hi
theorem wpList_append_ent {P : Program} {w : World} {ops : Array Oper} {rest : List Oper} {o : Oper} {a : Act} {Q : Exit → Act → World → Prop} (hgd : o.guard = none) (s x : Operand) (t : TypeId)
    (ho : o.op = .call { callee := .builtin .append, args := #[s, x], argTypes := #[t, t] }) (base : Nat) (e : TypeId) (z : Value) (bytes : Nat) (ht : P.underlying t = some (.slice e))
    (hinfo : (P.info? e).map (fun i => (i.zero, i.size, i.bytes)) = some (some z, 4, bytes)) (hzs : z.cells.size = 4)
    (v : Value) (n : Nat) (xs : List Value) (hs : a.eval s = v) (hown : w.ownsRow base e 4 v n xs) (d : Ent) (te : TypeId)
    (hx : a.eval x = .slice (some ⟨w.heap.size, 0, none⟩) 1 1) (h63 : n + 1 ≤ maxLen) (hbytes : (n + 1) * bytes ≤ 140737488355328) (hbase : base ≤ w.heap.size)
    (h : ∀ v' w', Hid (w'.ownsRow base e 4 v' (n + 1) (xs ++ entL d)) → Hid (Below base w w') → wpList P ops Q rest (a.put o.dst v') w') : wpList P ops Q (o :: rest) a (w.alloc (.cells (entC d) te)) := by
  obtain ⟨i, hi, hz, hsz, hby⟩ := info_parts hinfo
  refine wpList_append_own _ hgd s x t ho base e i z 4 bytes ht hi hz hsz hby hzs (by decide) v n xs hs (hown.alloc _) ⟨w.heap.size, 0, none⟩ 1 1 (entL d) hx rfl (fun j u hu => ?_) (fun y hy => ?_) h63 hbytes (by rw [World.size_alloc]; omega) ?_
  · rw [Addr.add_mid, Nat.zero_add, cell_of_row _ _ _ _ _ _ (heap_alloc_new _ _)]
    match j, hu with
    | 0, hu => exact hu
    | 1, hu => exact hu
    | 2, hu => exact hu
    | 3, hu => exact hu
  · simp only [entL, List.mem_cons, List.mem_nil_iff, or_false] at hy
    rcases hy with rfl | rfl | rfl | rfl <;> rfl
  · intro v' w' hown' hg _
    refine h v' w' hown' ((Below.alloc (Below.refl base w) hbase _).grown hg (by rw [World.size_alloc]; omega) fun k hk => ?_)
    exact ((hown.alloc (.cells (entC d) te)).lt k hk).1
abbrev entZ : Value := .agg #[.int .i64 0, .int .i64 0, .int .u64 0, .int .i64 0]
theorem info58 : (Try.prog.info? 58).map (fun i => (i.zero, i.size, i.bytes)) = some (some entZ, 4, 32) := by kernel_rfl

/-- The entries of an item. -/
def ofE (ls : List Ent) (it : Int) : List Ent := ls.filter fun e => decide (e.item = it)
theorem ofE_len (ls : List Ent) (it : Int) : (ofE ls it).length ≤ ls.length := List.length_filter_le _ _
theorem ofE_take (ls : List Ent) (it : Int) {j : Nat} (h : j < ls.length) : ofE (ls.take (j + 1)) it = ofE (ls.take j) it ++ (if (ls.getD j e0).item = it then [ls.getD j e0] else []) := by
  rw [List.take_add_one, List.getElem?_eq_getElem h, ofE, List.filter_append, List.getD_eq_getElem?_getD, List.getElem?_eq_getElem h]
  simp only [Option.toList_some, Option.getD_some, ofE]
  by_cases hi : ls[j].item = it <;> simp [hi]

set_option maxRecDepth 100000 in
set_option maxHeartbeats 4000000 in
theorem cof_any (f : Nat → Nat) (ls : List Ent) (c : Nat) (A : Option Addr) (it : Int) (w : World) (hv : Ents w (· < w.heap.size) A ls) (hm : ls.length ≤ 100000) :
    Calls Try.prog 49 #[cartV f A ls.length c, .int .i64 it] w fun e w' => ∃ v, e = .returned v ∧ w'.ownsRow w.heap.size 58 4 v (ofE ls it).length (ents4 (ofE ls it)) ∧ Below w.heap.size w w' := by
  have HV := Lib.hid hv
  have HM := Lib.hid hm
  have c8 := (CartAt.new w f A ls.length c).c8
  have HB0 := Lib.hid (below1 w (.cells (cartC f A ls.length c) 56))
  clear hv hm
  go_enter Try.func49, Try.ntmps49
  go_wp2
  clear c8
  go_loopw [5, 11] (fun u v wr => ∃ j m : Nat, j ≤ ls.length ∧ v = .int .i64 j ∧ m ≤ j ∧ Hid (m = (ofE (ls.take j) it).length) ∧ Hid (wr.ownsRow w.heap.size 58 4 u m (ents4 (ofE (ls.take j) it))) ∧ Hid (Ents wr (· < w.heap.size) A ls) ∧ Hid (Below w.heap.size w wr)) (fun _ v _ => ls.length - (intOf v).toNat)
  case atStart => exact ⟨0, 0, by omega, rfl, Nat.le_refl _, Lib.hid (by simp [ofE]), World.ownsRow_nil _ _ _ _, HV.out.below HB0.out, HB0⟩
  case round =>
    clear HV HB0
    obtain ⟨j, m, hj, rfl, hmj, HN, HO, HV, HB⟩ := hrel
    by_cases hlt : j < ls.length
    · obtain ⟨b, o, hA⟩ := HV.out.some_ (by omega)
      subst hA
      obtain ⟨d, hd⟩ : ∃ d, d = ls.getD j e0 := ⟨_, rfl⟩
      have hr : Hid (rangeA wr b (o + j * 4) (entC d)) := Lib.hid (by rw [hd]; exact HV.out.at_j hlt)
      have s58 := Lib.hid (ent_size58 d)
      have o4 := Lib.hid (ent_one d)
      have hN := Lib.hid (heap_alloc_new wr (.cells #[.int .i64 0, .int .i64 0, .int .u64 0, .int .i64 0] 58))
      have z4 : Hid ((#[.int .i64 0, .int .i64 0, .int .u64 0, .int .i64 0] : Array Value).size = (entC d).size) := rfl
      have HT : Hid (ofE (ls.take (j + 1)) it = ofE (ls.take j) it ++ (if d.item = it then [d] else [])) := Lib.hid (by rw [hd]; exact ofE_take ls it hlt)
      have eJ : IntKind.i64.wrap ((j : Int) + 1) = (j : Int) + 1 := by have := HM.out; rw [IntKind.wrap_i64]; omega
      obtain ⟨W2, hW2⟩ : ∃ W2, W2 = wr.alloc (.cells (entC d) 58) := ⟨_, rfl⟩
      have HW2 := Lib.hid hW2
      have hE : EntAt W2 wr.heap.size d := by rw [hW2]; exact heap_alloc_new _ _
      have HE := Lib.hid hE
      have ci : W2.cell? ⟨wr.heap.size, 0, none⟩ = some (.int .i64 d.item) := hE.cell rfl
      have hb1 : Below wr.heap.size wr W2 := by rw [hW2]; exact below1 wr (.cells (entC d) 58)
      have HO2 := Lib.hid (own_keep HO.out fun k _ hk => hb1.block k hk)
      have HV2 := Lib.hid (HV.out.below (hb1.mono HB.out.size))
      have HB2 := Lib.hid (HB.out.trans (hb1.mono HB.out.size))
      have S0 := Lib.hid HB2.out.size
      clear hd hE hb1 HO HV HB hW2
      by_cases hit : d.item = it
      · have HT2 : Hid (ofE (ls.take (j + 1)) it = ofE (ls.take j) it ++ [d]) := Lib.hid (by rw [HT.out, if_pos hit])
        have hie : (d.item == it) = true := by simp [hit]
        have hsz : (entC d).size = 4 := rfl
        clear HT
        go_wp2_with (first
          | (refine wpList_load_arr rfl 58 _ rfl b (o + j * 4) rfl (entC d) _ hr.out Try.underlying58 rfl s58.out ?_)
          | (refine wpList_store_row rfl 58 _ _ rfl wr.heap.size (entC d) rfl rfl 58 _ hN.out s58.out z4.out o4.out ?_; rw [World.setRow_alloc_new, ← HW2.out])
          | (refine wpList_load_arr rfl 58 _ rfl wr.heap.size 0 rfl (entC d) _ HE.out.range Try.underlying58 rfl s58.out ?_)
          | (refine wpList_append_ent rfl (.tmp 19) (.tmp 21) 54 rfl w.heap.size 58 entZ 32 Try.underlying54 info58 rfl _ m _ rfl HO2.out d 58 rfl (by have := HM.out; unfold maxLen; omega) (by have := HM.out; omega) S0.out ?_; intro v1 w3 H1 B1))
        go_roundw
        all_goals clear eJ
        case rel =>
          refine ⟨j + 1, m + 1, by omega, by go_num, by omega, ?_, ?_, Lib.hid (HV2.out.below B1.out), Lib.hid (HB2.out.trans B1.out)⟩
          · exact Lib.hid (by rw [HT2.out, List.length_append, ← HN.out]; rfl)
          · exact Lib.hid (by rw [HT2.out, ents4_append, ents4_one]; exact H1.out)
        case measure => simp [intOf]; omega
      · have HT2 : Hid (ofE (ls.take (j + 1)) it = ofE (ls.take j) it) := Lib.hid (by rw [HT.out, if_neg hit, List.append_nil])
        have hie : (d.item == it) = false := by simp [hit]
        clear HT
        go_wp2_with (first
          | (refine wpList_load_arr rfl 58 _ rfl b (o + j * 4) rfl (entC d) _ hr.out Try.underlying58 rfl s58.out ?_)
          | (refine wpList_store_row rfl 58 _ _ rfl wr.heap.size (entC d) rfl rfl 58 _ hN.out s58.out z4.out o4.out ?_; rw [World.setRow_alloc_new, ← HW2.out]))
        go_roundw
        all_goals clear eJ
        case rel =>
          refine ⟨j + 1, m, by omega, by go_num, by omega, ?_, ?_, HV2, HB2⟩
          · exact Lib.hid (by rw [HT2.out]; exact HN.out)
          · exact Lib.hid (by rw [HT2.out]; exact HO2.out)
        case measure => simp [intOf]; omega
    · obtain rfl : j = ls.length := by omega
      rw [List.take_length] at HO HN
      go_wp2
      go_ret
      exact ⟨_, rfl, by rw [← HN.out]; exact HO.out, HB.out⟩
end Go.Proofs.Ytnpacjdgbmldlaa

/- cart.quantity and cart.Get. -/
namespace Go.Proofs.Ytnpacjdgbmldlaa
open Go.RowKit Go.Lib

/-- Quantities that an int can have. -/
def QtyOk (ls : List Ent) : Prop := ∀ e ∈ ls, -9223372036854775808 ≤ e.qty ∧ e.qty ≤ 9223372036854775807
theorem QtyOk.sub {ls ms : List Ent} (h : QtyOk ls) (hs : ∀ e ∈ ms, e ∈ ls) : QtyOk ms := fun e he => h e (hs e he)
theorem QtyOk.of (ls : List Ent) (it : Int) (h : QtyOk ls) : QtyOk (ofE ls it) := h.sub fun e he => (List.mem_filter.1 he).1
def quantE (ls : List Ent) : Nat := Ta.Tal.ups (ls.map (·.qty)) - Ta.Tal.downs (ls.map (·.qty))
/-- The first j quantities in block g. -/
structure QR (x : World) (g : Nat) (ls : List Ent) (j : Nat) : Prop where
  row : ∃ cur : Array Value, x.heap[g]? = some (.cells cur 3 (0, 0)) ∧ cur.size = ls.length ∧ ∀ i, i < j → cur[i]? = some (.int .i64 (ls.getD i e0).qty)
theorem QR.then_ {x y : World} {g : Nat} {ls : List Ent} {j : Nat} (hb : RowKit.Below x.heap.size x y) (h : QR x g ls j) : QR y g ls j := by
  obtain ⟨cur, h1, h2, h3⟩ := h.row
  exact ⟨cur, (hb.block _ (lt_of_row h1)).trans h1, h2, h3⟩
theorem QR.cell {x : World} {g : Nat} {ls : List Ent} {j i : Nat} (h : QR x g ls j) (hi : i < ls.length) : ∃ v, x.cell? ⟨g, i, none⟩ = some v := by
  obtain ⟨cur, h1, h2, _⟩ := h.row
  exact ⟨cur[i], by rw [cell_of_row _ _ _ _ _ _ h1, Array.getElem?_eq_getElem (by omega)]⟩
theorem QR.fr {x : World} {g : Nat} {ls : List Ent} {j i : Nat} (h : QR x g ls j) : x.frozen? ⟨g, i, none⟩ = false := by
  obtain ⟨cur, h1, _⟩ := h.row
  simp [World.frozen?, h1]
theorem QR.put {x : World} {g : Nat} {ls : List Ent} {j : Nat} (h : QR x g ls j) (hj : j < ls.length) : QR (x.setCell ⟨g, j, none⟩ (.int .i64 (ls.getD j e0).qty)) g ls (j + 1) := by
  obtain ⟨cur, h1, h2, h3⟩ := h.row
  refine ⟨cur.setIfInBounds j (.int .i64 (ls.getD j e0).qty), ?_, by simp [h2], fun i hi => ?_⟩
  · rw [setCell_eq_setRow x g j cur 3 (0, 0) _ h1, setRow_heap x g cur _ 3 (0, 0) h1]
  · rw [Array.getElem?_setIfInBounds]
    by_cases e : j = i
    · subst e
      rw [if_pos rfl, if_pos (by omega)]
    · rw [if_neg e]
      exact h3 i (by omega)
theorem QR.ints {x : World} {g : Nat} {ls : List Ent} (hq : QtyOk ls) (h : QR x g ls ls.length) : Ta.Ints x (· < x.heap.size) (some ⟨g, 0, none⟩) (ls.map (·.qty)) := by
  obtain ⟨cur, h1, h2, h3⟩ := h.row
  refine ⟨fun z hz => ?_, fun _ => ⟨g, 0, rfl, lt_of_row h1, fun j hj => ?_⟩⟩
  · obtain ⟨e, he, rfl⟩ := List.mem_map.1 hz
    exact hq e he
  · have hj' : j < ls.length := by simpa using hj
    rw [Nat.zero_add, cell_of_row _ _ _ _ _ _ h1, h3 j hj', List.getD_eq_getElem?_getD, List.getD_eq_getElem?_getD, List.getElem?_map, List.getElem?_eq_getElem hj']
    rfl
theorem below_setN {N c o : Nat} (h : N ≤ c) {x : World} (v : Value) : RowKit.Below N x (x.setCell ⟨c, o, none⟩ v) :=
  ⟨rfl, rfl, rfl, by simp [World.setCell], fun k hk => Below.heap_setCell x ⟨c, o, none⟩ v k (by intro e; simp only at e; omega)⟩

set_option maxRecDepth 100000 in
set_option maxHeartbeats 4000000 in
theorem quantity_any (ls : List Ent) (c : Nat) (A : Option Addr) (w : World) (hv : Ents w (· < w.heap.size) A ls) (hm : ls.length ≤ 100000) (hq : QtyOk ls) :
    Calls Try.prog 82 #[.slice A ls.length c] w fun e w' => e = .returned (.int .u64 ((quantE ls : Nat) : Int)) ∧ RowKit.Below w.heap.size w w' := by
  have HV := Lib.hid hv
  have HM := Lib.hid hm
  have HQ := Lib.hid hq
  have hmk := run_make_new (P := Try.prog) w 150 3 (.int .i64 0) 1 8 Try.underlying150 (by kernel_rfl) ls.length (by omega) (by omega)
  obtain ⟨Z, hZ⟩ : ∃ Z, Z = madeCells (Value.int .i64 0).cells (ls.length * 1) := ⟨_, rfl⟩
  have hZs : Z.size = ls.length := by rw [hZ, size_madeCells]; omega
  rw [← hZ] at hmk
  have HR0 : Hid (QR (w.alloc (.cells Z 3)) w.heap.size ls 0) := Lib.hid ⟨Z, heap_alloc_new _ _, hZs, fun i hi => by omega⟩
  have HB0 := Lib.hid (below1 w (.cells Z 3))
  clear hv hm hq hZ hZs
  go_enter Try.func82, Try.ntmps82
  go_wp2
  clear hmk
  go_loopw [11] (fun v wr => ∃ j : Nat, j ≤ ls.length ∧ v = .int .i64 j ∧ Hid (QR wr w.heap.size ls j) ∧ Hid (Ents wr (· < w.heap.size) A ls) ∧ Hid (RowKit.Below w.heap.size w wr)) (fun v _ => ls.length - (intOf v).toNat)
  case atStart => exact ⟨0, by omega, rfl, HR0, HV.out.below HB0.out, HB0⟩
  case round =>
    clear HV HB0 HR0
    obtain ⟨j, hj, rfl, HR, HV, HB⟩ := hrel
    by_cases hlt : j < ls.length
    · obtain ⟨b, o, hA⟩ := HV.out.some_ (by omega)
      subst hA
      obtain ⟨d, hd⟩ : ∃ d, d = ls.getD j e0 := ⟨_, rfl⟩
      have hr : Hid (rangeA wr b (o + j * 4) (entC d)) := Lib.hid (by rw [hd]; exact HV.out.at_j hlt)
      have s58 := Lib.hid (ent_size58 d)
      have o4 := Lib.hid (ent_one d)
      have hN := Lib.hid (heap_alloc_new wr (.cells #[.int .i64 0, .int .i64 0, .int .u64 0, .int .i64 0] 58))
      have z4 : Hid ((#[.int .i64 0, .int .i64 0, .int .u64 0, .int .i64 0] : Array Value).size = (entC d).size) := rfl
      have eJ : IntKind.i64.wrap ((j : Int) + 1) = (j : Int) + 1 := by have := HM.out; rw [IntKind.wrap_i64]; omega
      obtain ⟨W2, hW2⟩ : ∃ W2, W2 = wr.alloc (.cells (entC d) 58) := ⟨_, rfl⟩
      have HW2 := Lib.hid hW2
      have hE : EntAt W2 wr.heap.size d := by rw [hW2]; exact heap_alloc_new _ _
      have c3 : W2.cell? ⟨wr.heap.size, 3, none⟩ = some (.int .i64 d.qty) := hE.cell rfl
      have hb1 : RowKit.Below wr.heap.size wr W2 := by rw [hW2]; exact below1 wr (.cells (entC d) 58)
      have HR2 := Lib.hid (HR.out.then_ hb1)
      obtain ⟨u, hu⟩ := HR2.out.cell hlt
      have hf := HR2.out.fr (i := j)
      have HR3 := HR2.out.put hlt
      rw [← hd] at HR3
      have hb3 : RowKit.Below w.heap.size W2 (W2.setCell ⟨w.heap.size, j, none⟩ (.int .i64 d.qty)) := below_setN (Nat.le_refl _) _
      have HR3 := Lib.hid HR3
      have HV3 := Lib.hid ((HV.out.below (hb1.mono HB.out.size)).below hb3)
      have HB3 := Lib.hid ((HB.out.trans (hb1.mono HB.out.size)).trans hb3)
      clear hd hE hb1 HR HV HB hW2 hb3 HR2
      go_wp2_with (first
        | (refine wpList_load_arr rfl 58 _ rfl b (o + j * 4) rfl (entC d) _ hr.out Try.underlying58 rfl s58.out ?_)
        | (refine wpList_store_row rfl 58 _ _ rfl wr.heap.size (entC d) rfl rfl 58 _ hN.out s58.out z4.out o4.out ?_; rw [World.setRow_alloc_new, ← HW2.out]))
      go_roundw
      all_goals clear eJ
      case rel => exact ⟨j + 1, by omega, by go_num, HR3, HV3, HB3⟩
      case measure => simp [intOf]; omega
    · obtain rfl : j = ls.length := by omega
      have hi := HR.out.ints HQ.out
      have hs := Ta.tsum_any (ls.map (·.qty)) ls.length (some ⟨w.heap.size, 0, none⟩) wr hi (by have := HM.out; rw [List.length_map]; omega)
      rw [List.length_map] at hs
      have HS := Lib.hid hs
      obtain ⟨U, hU⟩ : ∃ U, U = Ta.Tal.ups (ls.map (·.qty)) := ⟨_, rfl⟩
      obtain ⟨D, hD⟩ : ∃ D, D = Ta.Tal.downs (ls.map (·.qty)) := ⟨_, rfl⟩
      have hUl : U < 18446744073709551616 := by rw [hU]; exact Nat.lt_of_le_of_lt (Ta.Tal.sum_le _) (by omega)
      rw [← hU, ← hD] at HS
      have HX : Hid (quantE ls = U - D) := Lib.hid (by rw [hU, hD]; rfl)
      have HVL := Lib.hid fun W => Ta.value_any U D W hUl
      clear hi hs hU hD
      go_wp2_with fail
      refine HS.out.mono ?_
      rintro e w2 ⟨rfl, hb⟩
      have HB2 := Lib.hid (HB.out.trans (hb.mono HB.out.size))
      clear hb
      go_wp2_with fail
      refine (HVL.out w2).mono ?_
      rintro e w3 ⟨rfl, hb⟩
      have HB3 := Lib.hid (HB2.out.trans (hb.mono HB2.out.size))
      clear hb
      go_wp2_with fail
      go_ret
      refine ⟨?_, HB3.out⟩
      rw [HX.out]
      rfl

set_option maxRecDepth 100000 in
set_option maxHeartbeats 4000000 in
theorem cget_any (f : Nat → Nat) (ls : List Ent) (c : Nat) (A : Option Addr) (it : Int) (w : World) (hv : Ents w (· < w.heap.size) A ls) (hm : ls.length ≤ 100000) (hq : QtyOk ls) :
    Calls Try.prog 43 #[cartV f A ls.length c, .int .i64 it] w fun e w' => e = .returned (.tuple #[.int .u64 ((quantE (ofE ls it) : Nat) : Int), .bool (decide (0 < (ofE ls it).length))]) ∧ RowKit.Below w.heap.size w w' := by
  have HM := Lib.hid hm
  have HQ := Lib.hid hq
  have hb0 := below1 w (.cells (cartC f A ls.length c) 56)
  have HB0 := Lib.hid hb0
  have hCr := (CartAt.new w f A ls.length c).range
  have HCR := Lib.hid hCr
  have s56 := Lib.hid (cart_size56 f A ls.length c)
  have HC := Lib.hid (cof_any f ls c A it _ ((hv.below hb0).loose fun b hb => Nat.lt_of_lt_of_le hb hb0.size) hm)
  clear hv hm hq hb0 hCr
  go_enter Try.func43, Try.ntmps43
  go_wp2_with (refine wpList_load_arr rfl 56 _ rfl w.heap.size 0 rfl (cartC f A ls.length c) _ HCR.out Try.underlying56 rfl s56.out ?_)
  refine HC.out.mono ?_
  rintro e w1 ⟨v, rfl, ho, hb⟩
  obtain ⟨A', c', rfl, hE, _, _⟩ := own_ents ho
  have hq1 := quantity_any (ofE ls it) c' A' w1 (hE.loose fun b hb => hb.2) (Nat.le_trans (ofE_len ls it) HM.out) (QtyOk.of ls it HQ.out)
  have HB1 := Lib.hid (HB0.out.trans (hb.mono HB0.out.size))
  obtain ⟨m, hm⟩ : ∃ m, m = (ofE ls it).length := ⟨_, rfl⟩
  rw [← hm] at hq1
  rw [← hm]
  have HQ1 := Lib.hid hq1
  have HMM := Lib.hid hm
  clear ho hE hb HC hm hq1
  go_wp2_with fail
  refine HQ1.out.mono ?_
  rintro e w2 ⟨rfl, hb⟩
  have HB2 := Lib.hid (HB1.out.trans (hb.mono HB1.out.size))
  clear hb HQ1
  go_wp2_with fail
  go_ret2
  refine ⟨?_, HB2.out⟩
  rw [← HMM.out]
  congr 4
end Go.Proofs.Ytnpacjdgbmldlaa

/- cart.Order. -/
namespace Go.Proofs.Ytnpacjdgbmldlaa
open Go.RowKit Go.Shelf Go.Lib Go.Sort

theorem run_copy_row {P : Program} (x : World) (g : Nat) (dT sT ty elem : TypeId) (s n cap c' : Nat) (A : Option Addr) (Z : Array Value) (e : TypeId) (cs : List Value) (hu : P.underlying dT = some (.slice elem)) (hs : (P.info? elem).map (·.size) = some s)
    (hg : x.heap[g]? = some (.cells Z e (0, 0))) (hZ : Z.size = n * s) (hcs : cs.length = n * s) (hsrc : 0 < n → ∃ a, A = some a ∧ ∀ j v, cs[j]? = some v → x.cell? (a.add j) = some v) (h1 : ∀ v ∈ cs, v.oneCell' = true) :
    (Builtin.copy_ #[dT, sT] ty #[.slice (some ⟨g, 0, none⟩) n cap, .slice A n c']).run P x = .ok (goInt n) (x.setRow g cs.toArray) := by
  cases hq : P.info? elem with
  | none => simp [hq] at hs
  | some i =>
    have hi : i.size = s := by simpa [hq] using hs
    have hst := run_storeCells_at P g 0 e cs 0 Z x hg (by rw [hcs, hZ]; omega) h1
    have hst2 : (storeCells ⟨g, 0, none⟩ cs 0).run P x = .ok () (x.setRow g cs.toArray) := by
      rw [hst]
      congr 3
      simp [hcs, hZ]
    rcases Nat.eq_zero_or_pos n with h0 | hp
    · have hz : cs = [] := List.length_eq_zero_iff.1 (by rw [hcs, h0]; omega)
      subst hz
      subst h0
      cases A with
      | none => simp [Builtin.copy_, run_underlying hu, Builtin.lenOf, Builtin.firstCells, sizeOf, typeInfo, hq, hi, hst2]
      | some a =>
        have hl := run_loadCells_list (P := P) x a [] (fun j v hv => by simp at hv)
        simp only [List.length_nil] at hl
        simp [Builtin.copy_, run_underlying hu, Builtin.lenOf, Builtin.firstCells, sizeOf, typeInfo, hq, hi, hl, hst2]
    · obtain ⟨a, rfl, hc⟩ := hsrc hp
      have hl := run_loadCells_list (P := P) x a cs (fun j v hv => hc j v hv)
      rw [hcs] at hl
      simp [Builtin.copy_, run_underlying hu, Builtin.lenOf, Builtin.firstCells, sizeOf, typeInfo, hq, hi, hl, hst2]
theorem ents4_one' {ls : List Ent} : ∀ v ∈ ents4 ls, v.oneCell' = true := fun v hv => by
  unfold ents4 at hv
  obtain ⟨d, _, hv⟩ := List.mem_flatMap.1 hv
  simp only [entL, List.mem_cons, List.mem_nil_iff, or_false] at hv
  rcases hv with rfl | rfl | rfl | rfl <;> rfl
theorem Ents.flat {w : World} {ok : Nat → Prop} {A : Option Addr} {ls : List Ent} (h : Ents w ok A ls) (hp : 0 < ls.length) : ∃ a, A = some a ∧ ∀ j v, (ents4 ls)[j]? = some v → w.cell? (a.add j) = some v := by
  obtain ⟨b, o, rfl, _, hc⟩ := h.at_ hp
  refine ⟨_, rfl, fun j u hu => ?_⟩
  have hj : j < ls.length * 4 := by
    have := (List.getElem?_eq_some_iff.1 hu).1
    rwa [ents4_len] at this
  have h3 := hc (j / 4) (by omega)
  have hd := ents4_get ls (j / 4) (j % 4) (by omega) (by omega)
  rw [show j / 4 * 4 + j % 4 = j by omega, hu] at hd
  have h4 := h3 (j % 4) u hd.symm
  rw [Addr.add_mid]
  rwa [Nat.add_assoc, show j / 4 * 4 + j % 4 = j by omega] at h4

set_option maxRecDepth 100000 in
set_option maxHeartbeats 2000000 in
theorem corder_any (ls : List Ent) (c : Nat) (A : Option Addr) (w : World) (hv : Ents w (· < w.heap.size) A ls) (hm : ls.length ≤ 100000) :
    Calls Try.prog 51 #[.slice A ls.length c] w fun e w' => e = .returned (.slice (some ⟨w.heap.size, 0, none⟩) ls.length ls.length) ∧ w'.heap[w.heap.size]? = some (.cells (ents4 (ordE ls)).toArray 58 (0, 0)) ∧ RowKit.Below w.heap.size w w' := by
  have hmk := run_make_new (P := Try.prog) w 54 58 entZ 4 32 Try.underlying54 info58 ls.length (by omega) (by omega)
  obtain ⟨Z, hZ⟩ : ∃ Z, Z = madeCells entZ.cells (ls.length * 4) := ⟨_, rfl⟩
  have hZs : Z.size = ls.length * 4 := by rw [hZ, size_madeCells]
  rw [← hZ] at hmk
  obtain ⟨x, hx⟩ : ∃ x, x = (w.alloc (.cells Z 58)).alloc (.cells #[.slice (some ⟨w.heap.size, 0, none⟩) ls.length ls.length] 54) := ⟨_, rfl⟩
  have hb2 : RowKit.Below w.heap.size w x := by rw [hx]; exact below2 _ _ _
  have hr : x.heap[w.heap.size]? = some (.cells Z 58 (0, 0)) := by
    rw [hx]
    exact ((below1 (w.alloc (.cells Z 58)) _).block _ (by simp)).trans (heap_alloc_new _ _)
  have hbx : x.heap[w.heap.size + 1]? = some (.cells #[.slice (some ⟨w.heap.size, 0, none⟩) ls.length ls.length] 54 (0, 0)) := by
    have h := heap_alloc_new (w.alloc (.cells Z 58)) (.cells #[.slice (some ⟨w.heap.size, 0, none⟩) ls.length ls.length] 54)
    rw [World.size_alloc] at h
    rw [hx]
    exact h
  have hcp : ∀ ty, (Builtin.copy_ #[54, 54] ty #[.slice (some ⟨w.heap.size, 0, none⟩) ls.length ls.length, .slice A ls.length c]).run Try.prog x = .ok (goInt ls.length) (x.setRow w.heap.size (ents4 ls).toArray) := fun ty =>
    run_copy_row x w.heap.size 54 54 ty 58 4 ls.length ls.length c A Z 58 (ents4 ls) Try.underlying54 (by kernel_rfl) hr hZs (ents4_len _) (fun hp => (hv.below hb2).flat hp) ents4_one'
  obtain ⟨y, hy⟩ : ∃ y, y = x.setRow w.heap.size (ents4 ls).toArray := ⟨_, rfl⟩
  have hO : OB (w.heap.size + 1) w.heap.size ls y := by
    rw [hy]
    exact ⟨(setRow_other _ _ _ _ (by omega)).trans hbx, setRow_heap _ _ _ _ _ _ hr⟩
  have hby : RowKit.Below w.heap.size w y := by rw [hy]; exact below_setRow' hb2 (Nat.le_refl _) _
  have HS := Lib.hid (slice_ents ls (w.heap.size + 1) w.heap.size y hO (by omega) (by omega))
  have cx : x.cell? ⟨w.heap.size + 1, 0, none⟩ = some (.slice (some ⟨w.heap.size, 0, none⟩) ls.length ls.length) := by rw [cell_of_row _ _ _ _ _ _ hbx]; rfl
  have cy : y.cell? ⟨w.heap.size + 1, 0, none⟩ = some (.slice (some ⟨w.heap.size, 0, none⟩) ls.length ls.length) := by rw [cell_of_row _ _ _ _ _ _ hO.box]; rfl
  rw [← hy] at hcp
  have HX := Lib.hid hx
  have HBY := Lib.hid hby
  clear hv hm hZ hZs hx hb2 hr hbx hy hO hby
  go_enter Try.func51, Try.ntmps51
  go_wp2_with fail
  rw [← HX.out, hcp]
  simp only [Result.andThen]
  rw [Oper.upon_value]
  go_wp2_with fail
  refine HS.out.mono ?_
  rintro e z ⟨rfl, hoz, hgz⟩
  have cz : z.cell? ⟨w.heap.size + 1, 0, none⟩ = some (.slice (some ⟨w.heap.size, 0, none⟩) ls.length ls.length) := by
    rw [cell_of_row _ _ _ _ _ _ hoz.box, ordE_len]
    rfl
  have HO := Lib.hid hoz.row
  have HBZ := Lib.hid (below_only HBY.out hgz HBY.out.size (Nat.le_refl _))
  clear hoz hgz cx cy
  go_wp2_with fail
  go_ret
  exact ⟨rfl, HO.out, HBZ.out⟩
end Go.Proofs.Ytnpacjdgbmldlaa

/- cart.Value: its closure, the lines that it makes, an append of a line. -/
namespace Go.Proofs.Ytnpacjdgbmldlaa
open Go.RowKit Go.Lib

/-! ### What is in order -/
theorem ordE_perm (ls : List Ent) : (ordE ls).Perm ls := List.mergeSort_perm _ _
theorem ordE_mem (ls : List Ent) (e : Ent) : e ∈ ordE ls ↔ e ∈ ls := (ordE_perm ls).mem_iff
theorem ordE_sorted (ls : List Ent) : (ordE ls).Pairwise fun x y => y.less x = false := by
  have h := List.pairwise_mergeSort (le := fun x y : Ent => !(y.less x)) (fun a b c h1 h2 => by
    simp only [Bool.not_eq_true'] at *
    rw [Ent.less_no] at *
    omega) (fun a b => by
    simp only [Bool.or_eq_true, Bool.not_eq_true', Ent.less_no]
    omega) ls
  exact h.imp fun h => by simpa using h
theorem ordE_items (ls : List Ent) : (ordE ls).Pairwise fun x y => x.item ≤ y.item := (ordE_sorted ls).imp fun h => by
  rw [Ent.less_no] at h
  omega
def linesF : Nat → List Ent → List Dt
  | _, [] => []
  | 0, _ :: _ => []
  | q + 1, e :: l => (e.item, quantE (ofE (e :: l) e.item)) :: linesF q ((e :: l).filter fun x => decide (x.item ≠ e.item))
def valueE (ls : List Ent) : List Dt := linesF (ordE ls).length (ordE ls)
theorem linesF_nil (q : Nat) : linesF q [] = [] := by cases q <;> rfl
/-- Where the entries of the first one's item end. -/
theorem cut_item {l : List Ent} {it : Int} {r : Nat} (hs : l.Pairwise fun x y => x.item ≤ y.item) (h1 : 1 ≤ r) (h2 : r ≤ l.length) (h0 : (l.getD 0 e0).item = it) (ha : (l.getD (r - 1) e0).item ≤ it) (hb : r = l.length ∨ it < (l.getD r e0).item) :
    l.take r = ofE l it ∧ l.drop r = l.filter fun x => decide (x.item ≠ it) := by
  have g0 : ∀ i, i < l.length → it ≤ (l.getD i e0).item := fun i hi => by
    rcases Nat.eq_zero_or_pos i with e | e
    · rw [e, h0]; exact Int.le_refl _
    · have h := List.pairwise_iff_getElem.1 hs 0 i (by omega) hi e
      rw [List.getD_eq_getElem?_getD, List.getElem?_eq_getElem hi, ← h0, List.getD_eq_getElem?_getD, List.getElem?_eq_getElem (by omega)]
      exact h
  have g1 : ∀ i, i < r → (l.getD i e0).item = it := fun i hi => by
    have h3 := g0 i (by omega)
    rcases Nat.lt_or_ge i (r - 1) with e | e
    · have h := List.pairwise_iff_getElem.1 hs i (r - 1) (by omega) (by omega) e
      rw [List.getD_eq_getElem?_getD, List.getElem?_eq_getElem (by omega)] at h3 ha
      rw [List.getD_eq_getElem?_getD, List.getElem?_eq_getElem (by omega)]
      simp only [Option.getD_some] at *
      omega
    · obtain rfl : i = r - 1 := by omega
      omega
  have g2 : ∀ i, r ≤ i → i < l.length → it < (l.getD i e0).item := fun i hi hl => by
    rcases hb with e | e
    · omega
    · rcases Nat.eq_or_lt_of_le hi with q | q
      · rw [← q]; exact e
      · have h := List.pairwise_iff_getElem.1 hs r i (by omega) hl q
        rw [List.getD_eq_getElem?_getD, List.getElem?_eq_getElem (by omega)] at e
        rw [List.getD_eq_getElem?_getD, List.getElem?_eq_getElem hl]
        simp only [Option.getD_some] at *
        omega
  have t1 : ∀ x ∈ l.take r, x.item = it := fun x hx => by
    obtain ⟨i, hi, rfl⟩ := List.getElem_of_mem hx
    rw [List.length_take] at hi
    have h := g1 i (by omega)
    rw [List.getD_eq_getElem?_getD, List.getElem?_eq_getElem (by omega)] at h
    rw [List.getElem_take]
    exact h
  have t2 : ∀ x ∈ l.drop r, x.item ≠ it := fun x hx => by
    obtain ⟨i, hi, rfl⟩ := List.getElem_of_mem hx
    rw [List.length_drop] at hi
    have h := g2 (r + i) (by omega) (by omega)
    rw [List.getD_eq_getElem?_getD, List.getElem?_eq_getElem (by omega)] at h
    rw [List.getElem_drop]
    simp only [Option.getD_some] at h
    omega
  constructor
  · have h : ofE l it = ofE (l.take r ++ l.drop r) it := by rw [List.take_append_drop]
    rw [h, ofE, List.filter_append, List.filter_eq_self.2 (fun x hx => decide_eq_true (t1 x hx)), List.filter_eq_nil_iff.2 (fun x hx => by simp [t2 x hx]), List.append_nil]
  · have h : l.filter (fun x => decide (x.item ≠ it)) = (l.take r ++ l.drop r).filter fun x => decide (x.item ≠ it) := by rw [List.take_append_drop]
    rw [h, List.filter_append, List.filter_eq_nil_iff.2 (fun x hx => by simp [t1 x hx]), List.filter_eq_self.2 (fun x hx => decide_eq_true (t2 x hx)), List.nil_append]
theorem linesF_step {l : List Ent} {q : Nat} (hp : 0 < l.length) : linesF (q + 1) l = ((l.getD 0 e0).item, quantE (ofE l (l.getD 0 e0).item)) :: linesF q (l.filter fun x => decide (x.item ≠ (l.getD 0 e0).item)) := by
  cases l with
  | nil => simp at hp
  | cons e l => rfl

/-! ### Its closure -/
set_option maxRecDepth 100000 in
set_option maxHeartbeats 2000000 in
theorem value1_any (B1 B2 b o n c i : Nat) (it v : Int) (w : World) (c1 : w.cell? ⟨B1, 0, none⟩ = some (.slice (some ⟨b, o, none⟩) n c)) (c2 : w.cell? ⟨B2, 0, none⟩ = some (.int .i64 it)) (hi : i < n) (c3 : w.cell? ⟨b, o + i * 4, none⟩ = some (.int .i64 v)) :
    Calls Try.prog 89 #[.int .i64 (i : Int), .pointer (some ⟨B1, 0, none⟩), .pointer (some ⟨B2, 0, none⟩)] w fun e w' => e = .returned (.bool (decide (it < v))) ∧ RowKit.Below w.heap.size w w' := by
  have hii : (i : Int) < (n : Int) := by omega
  have HB : Hid (RowKit.Below w.heap.size w w.drew) := Lib.hid ⟨rfl, rfl, rfl, Nat.le_refl _, fun _ _ => rfl⟩
  by_cases hlt : it < v
  · have HD : Hid (decide (it < v) = true) := Lib.hid (decide_eq_true hlt)
    go_enter Try.func89, Try.ntmps89
    go_wp2_with fail
    go_region
    go_wp2
    go_ret
    first | exact ⟨rfl, HB.out⟩ | exact ⟨ret_bool HD.out.symm, HB.out⟩
  · have HD : Hid (decide (it < v) = false) := Lib.hid (decide_eq_false hlt)
    go_enter Try.func89, Try.ntmps89
    go_wp2_with fail
    go_region
    go_wp2
    go_ret
    first | exact ⟨rfl, HB.out⟩ | exact ⟨ret_bool HD.out.symm, HB.out⟩

/-! ### Pieces of a slice of entries; an append of a line -/
def cutA4 (A : Option Addr) (cap k : Nat) : Option Addr := if cap = k then A else A.map (·.add (k * 4))
theorem run_sliceAt_from4 {P : Program} (t e : TypeId) (hu : P.underlying t = some (.slice e)) (hs : (P.info? e).map (·.size) = some 4) (A : Option Addr) (n c k : Nat) (hk : k ≤ n) (w : World) :
    (Instr.sliceAt t (.slice A n c) (some (.int .i64 (k : Int))) none none).run P w = .ok (.slice (cutA4 A c k) (n - k) (c - k)) w := by
  have h : (Instr.slice t (.slice A n c) (some (.int .i64 (k : Int))) none none).run P w = .ok (.slice (cutA4 A c k) (n - k) (c - k)) w := by
    cases hq : P.info? e with
    | none => simp [hq] at hs
    | some i =>
      have hi : i.size = 4 := by simpa [hq] using hs
      simp [Instr.slice, Instr.sliceBounds, Instr.sliceBound, asIntOf, Sem.run_bind, run_underlying hu w, sizeOf, typeInfo, hq, hi, hk, cutA4, Result.andThen]
  simp only [Instr.sliceAt, Sem.run_bind, run_underlying hu w, Result.andThen, h]
theorem run_sliceAt_to4 {P : Program} (t e : TypeId) (hu : P.underlying t = some (.slice e)) (hs : (P.info? e).map (·.size) = some 4) (A : Option Addr) (n c k : Nat) (hk : k ≤ c) (w : World) :
    (Instr.sliceAt t (.slice A n c) none (some (.int .i64 (k : Int))) none).run P w = .ok (.slice A k c) w := by
  have h : (Instr.slice t (.slice A n c) none (some (.int .i64 (k : Int))) none).run P w = .ok (.slice A k c) w := by
    cases hq : P.info? e with
    | none => simp [hq] at hs
    | some i =>
      have hi : i.size = 4 := by simpa [hq] using hs
      have ha : A.map (fun a : Addr => a.add 0) = A := by cases A <;> simp [Addr.add]
      simp [Instr.slice, Instr.sliceBounds, Instr.sliceBound, asIntOf, Sem.run_bind, run_underlying hu w, sizeOf, typeInfo, hq, hi, hk, Result.andThen, ha]
  simp only [Instr.sliceAt, Sem.run_bind, run_underlying hu w, Result.andThen, h]
/-- All blocks of other types stay. -/
def KeepT (t : TypeId) (x y : World) : Prop := ∀ (k : Nat) (cs : Array Value) (u : TypeId) (fr : Nat × Nat), x.heap[k]? = some (.cells cs u fr) → u ≠ t → y.heap[k]? = some (.cells cs u fr)
theorem KeepT.of {t : TypeId} {x y : World} (h : RowKit.Below x.heap.size x y) : KeepT t x y := fun k _ _ _ hk _ => (h.block k (lt_of_row hk)).trans hk
theorem own_tag {w : World} {base : Nat} {e : TypeId} {size : Nat} {v : Value} {n : Nat} {xs : List Value} (h : w.ownsRow base e size v n xs) {k : Nat} (hk : v.ownBlock = some k) : ∃ cur, w.heap[k]? = some (.cells cur e (0, 0)) := by
  rcases h.2 with ⟨h0, _⟩ | ⟨g, cap, cur, hv, hg, hr, _⟩
  · rw [h0] at hk
    simp [Value.ownBlock] at hk
  · rw [hv] at hk
    simp only [Value.ownBlock, Option.some.injEq] at hk
    exact ⟨cur, by rw [← hk]; exact hr⟩
theorem wpList_append_line {P : Program} {w : World} {ops : Array Oper} {rest : List Oper} {o : Oper} {a : Act} {Q : Exit → Act → World → Prop} (hgd : o.guard = none) (s x : Operand) (t : TypeId)
    (ho : o.op = .call { callee := .builtin .append, args := #[s, x], argTypes := #[t, t] }) (base : Nat) (e : TypeId) (z : Value) (bytes : Nat) (ht : P.underlying t = some (.slice e))
    (hinfo : (P.info? e).map (fun i => (i.zero, i.size, i.bytes)) = some (some z, 2, bytes)) (hzs : z.cells.size = 2)
    (v : Value) (n : Nat) (xs : List Value) (hs : a.eval s = v) (hown : w.ownsRow base e 2 v n xs) (d : Dt) (g c : Nat) (te : TypeId)
    (hx : a.eval x = .slice (some ⟨g, 0, none⟩) 1 c) (hg : w.heap[g]? = some (.cells (dotC d) te (0, 0))) (h63 : n + 1 ≤ maxLen) (hbytes : (n + 1) * bytes ≤ 140737488355328) (hbase : base ≤ w.heap.size)
    (h : ∀ v' w', Hid (w'.ownsRow base e 2 v' (n + 1) (xs ++ dcells d)) → Hid (RowKit.Below base w w') → Hid (KeepT e w w') → wpList P ops Q rest (a.put o.dst v') w') : wpList P ops Q (o :: rest) a w := by
  obtain ⟨i, hi, hz, hsz, hby⟩ := info_parts hinfo
  refine wpList_append_own _ hgd s x t ho base e i z 2 bytes ht hi hz hsz hby hzs (by decide) v n xs hs hown ⟨g, 0, none⟩ 1 c (dcells d) hx rfl (fun j u hu => ?_) (fun y hy => ?_) h63 hbytes hbase ?_
  · rw [Addr.add_mid, Nat.zero_add, cell_of_row _ _ _ _ _ _ hg]
    match j, hu with
    | 0, hu => exact hu
    | 1, hu => exact hu
  · simp only [dcells, List.mem_cons, List.mem_nil_iff, or_false] at hy
    rcases hy with rfl | rfl <;> rfl
  · intro v' w' hown' hgr _
    refine h v' w' hown' ((RowKit.Below.refl base w).grown hgr hbase fun k hk => (hown.lt k hk).1) ?_
    refine Lib.hid fun k cs u fr hk hne => ?_
    refine (hgr.block k (lt_of_row hk) (fun e2 => ?_)).trans hk
    obtain ⟨cur, hc⟩ := own_tag hown e2.symm
    rw [hk] at hc
    injection hc with hc
    injection hc with _ hc
    exact hne hc
end Go.Proofs.Ytnpacjdgbmldlaa

/- cart.Value. -/
namespace Go.Proofs.Ytnpacjdgbmldlaa
open Go.RowKit Go.Lib

/-- The entries in order, in block g, and what is left of them, in block B1. -/
structure VR (w : World) (g B1 : Nat) (Ak : Option Addr) (m : Nat) (s : List Ent) (x : World) : Prop where
  row : x.heap[g]? = some (.cells (ents4 s).toArray 58 (0, 0))
  rest : x.heap[B1]? = some (.cells #[.slice Ak m m] 54 (0, 0))
  below : RowKit.Below w.heap.size w x
  le : w.heap.size ≤ g
  lb : w.heap.size ≤ B1
theorem VR.then_ {w x y : World} {g B1 m : Nat} {Ak : Option Addr} {s : List Ent} (hb : RowKit.Below x.heap.size x y) (h : VR w g B1 Ak m s x) : VR w g B1 Ak m s y :=
  ⟨(hb.block _ (lt_of_row h.row)).trans h.row, (hb.block _ (lt_of_row h.rest)).trans h.rest, h.below.trans (hb.mono h.below.size), h.le, h.lb⟩
theorem VR.app {w x y : World} {g B1 m : Nat} {Ak : Option Addr} {s : List Ent} (h : VR w g B1 Ak m s x) (hb : RowKit.Below w.heap.size x y) (hk : KeepT 68 x y) : VR w g B1 Ak m s y :=
  ⟨hk _ _ _ _ h.row (by decide), hk _ _ _ _ h.rest (by decide), h.below.trans hb, h.le, h.lb⟩
structure VX (w : World) (g B1 m k : Nat) (s : List Ent) (bi : Nat) (it : Int) (u : Value) (acc : List Dt) (x : World) : Prop where
  v : VR w g B1 (some ⟨g, k * 4, none⟩) m s x
  item : x.heap[bi]? = some (.cells #[.int .i64 it] 3 (0, 0))
  own : x.ownsRow w.heap.size 68 2 u acc.length (dots2 acc)
theorem VX.then_ {w x y : World} {g B1 m k bi : Nat} {it : Int} {u : Value} {acc : List Dt} {s : List Ent} (hb : RowKit.Below x.heap.size x y) (h : VX w g B1 m k s bi it u acc x) : VX w g B1 m k s bi it u acc y :=
  ⟨h.v.then_ hb, (hb.block _ (lt_of_row h.item)).trans h.item, own_keep h.own fun k _ hk => hb.block k hk⟩
theorem VX.drew {w x : World} {g B1 m k bi : Nat} {it : Int} {u : Value} {acc : List Dt} {s : List Ent} (h : VX w g B1 m k s bi it u acc x) : VX w g B1 m k s bi it u acc x.drew := VX.then_ (x := x) (y := x.drew) ⟨rfl, rfl, rfl, Nat.le_refl _, fun _ _ => rfl⟩ h
/-- A line in a block of its own. -/
def LB (it : Int) (q : Nat) (v : Value) (x : World) : Prop := ∃ g, v = .slice (some ⟨g, 0, none⟩) 1 1 ∧ x.heap[g]? = some (.cells (dotC (it, q)) 68 (0, 0))
theorem size58k : (Try.prog.info? 58).map (·.size) = some 4 := by kernel_rfl
theorem info68 : (Try.prog.info? 68).map (fun i => (i.zero, i.size, i.bytes)) = some (some (.agg #[.int .i64 0, .int .u64 0]), 2, 16) := by kernel_rfl
theorem enters89 : Enters 89 := enters_of Try.func89 (by kernel_rfl) rfl
theorem row_item {x : World} {g i : Nat} {s : List Ent} (h : x.heap[g]? = some (.cells (ents4 s).toArray 58 (0, 0))) (hi : i < s.length) : x.cell? ⟨g, i * 4, none⟩ = some (.int .i64 (s.getD i e0).item) := block_ent h hi 0 _ rfl
theorem row_drop {x : World} {g k : Nat} {s : List Ent} (h : x.heap[g]? = some (.cells (ents4 s).toArray 58 (0, 0))) {ok : Nat → Prop} (hg : ok g) (r : Nat) (hr : k + r ≤ s.length) : Ents x ok (some ⟨g, k * 4, none⟩) ((s.drop k).take r) :=
  ⟨fun hp => ⟨g, k * 4, rfl, hg, fun j hj => by
    rw [List.length_take, List.length_drop] at hj
    have h1 := block_ent h (j := k + j) (by omega)
    rw [Nat.add_mul] at h1
    have e : ((s.drop k).take r).getD j e0 = s.getD (k + j) e0 := by
      rw [List.getD_eq_getElem?_getD, List.getD_eq_getElem?_getD, List.getElem?_take, if_pos (by omega), List.getElem?_drop]
    rw [e]
    exact h1⟩⟩
theorem VR.next {w x : World} {g B1 m m' : Nat} {Ak A' : Option Addr} {s : List Ent} (hne : B1 ≠ g) (h : VR w g B1 Ak m s x) : VR w g x.heap.size A' m' s ((x.setCell ⟨B1, 0, none⟩ (.slice A' m' m')).alloc (.cells #[.slice A' m' m'] 54)) := by
  have h1 : RowKit.Below w.heap.size x (x.setCell ⟨B1, 0, none⟩ (.slice A' m' m')) := below_setN h.lb _
  have hs : (x.setCell ⟨B1, 0, none⟩ (.slice A' m' m')).heap.size = x.heap.size := by simp [World.setCell]
  have h2 := below1 (x.setCell ⟨B1, 0, none⟩ (.slice A' m' m')) (.cells #[.slice A' m' m'] 54)
  have hr : (x.setCell ⟨B1, 0, none⟩ (.slice A' m' m')).heap[g]? = x.heap[g]? := Below.heap_setCell x ⟨B1, 0, none⟩ _ g (by intro e; simp only at e; omega)
  refine ⟨((h2.block g (by rw [hs]; exact lt_of_row h.row)).trans hr).trans h.row, ?_, (h.below.trans h1).trans (h2.mono (by rw [hs]; exact h.below.size)), h.le, h.below.size⟩
  have h3 := heap_alloc_new (x.setCell ⟨B1, 0, none⟩ (.slice A' m' m')) (.cells #[.slice A' m' m'] 54)
  rw [hs] at h3
  exact h3

theorem VR.own_next {w x : World} {g B1 m : Nat} {Ak : Option Addr} {s : List Ent} (h : VR w g B1 Ak m s x) {v : Value} {n : Nat} {xs : List Value} (ho : x.ownsRow w.heap.size 68 2 v n xs) (A' : Option Addr) (m' : Nat) :
    ((x.setCell ⟨B1, 0, none⟩ (.slice A' m' m')).alloc (.cells #[.slice A' m' m'] 54)).ownsRow w.heap.size 68 2 v n xs := by
  have hg : x.grownBy ((x.setCell ⟨B1, 0, none⟩ (.slice A' m' m')).alloc (.cells #[.slice A' m' m'] 54)) (some B1) :=
    below_then (only_setCell ⟨rfl, rfl, rfl, Nat.le_refl _, fun _ _ _ => rfl⟩ (.inl rfl) _) (below1 _ _)
  refine ho.kept hg (.inr fun e => ?_)
  obtain ⟨cur, hc⟩ := own_tag ho e
  rw [h.rest] at hc
  injection hc with hc
  injection hc with _ hc
  exact absurd hc (by decide)

set_option maxRecDepth 100000 in
set_option maxHeartbeats 8000000 in
theorem value_any (f : Nat → Nat) (ls : List Ent) (c : Nat) (A : Option Addr) (w : World) (hv : Ents w (· < w.heap.size) A ls) (hm : ls.length ≤ 100000) (hq : QtyOk ls) :
    Calls Try.prog 48 #[cartV f A ls.length c] w fun e w' => ∃ v, e = .returned v ∧ w'.ownsRow w.heap.size 68 2 v (valueE ls).length (dots2 (valueE ls)) ∧ RowKit.Below w.heap.size w w' := by
  obtain ⟨w1, hw1⟩ : ∃ w1, w1 = w.alloc (.cells (cartC f A ls.length c) 56) := ⟨_, rfl⟩
  have hb1 : RowKit.Below w.heap.size w w1 := by rw [hw1]; exact below1 _ _
  have hs1 : w1.heap.size = w.heap.size + 1 := by rw [hw1]; simp
  have c8 : (w.alloc (.cells (cartC f A ls.length c) 56)).cell? ⟨w.heap.size, 8, none⟩ = some (.slice A ls.length c) := (CartAt.new w f A ls.length c).c8
  have HO := Lib.hid (corder_any ls c A w1 ((hv.below hb1).loose fun b hb => by omega) hm)
  have HB1 := Lib.hid hb1
  have HW1 := Lib.hid hw1
  have HM := Lib.hid hm
  obtain ⟨s, hs⟩ : ∃ s, s = ordE ls := ⟨_, rfl⟩
  have HSL : Hid (s.length = ls.length) := Lib.hid (by rw [hs, ordE_len])
  have HQS : Hid (QtyOk s) := Lib.hid (hq.sub fun e he => by rw [hs] at he; exact (ordE_mem ls e).1 he)
  have HSO : Hid (s.Pairwise fun x y => x.item ≤ y.item) := Lib.hid (by rw [hs]; exact ordE_items ls)
  have HVE : Hid (valueE ls = linesF ls.length s) := Lib.hid (by unfold valueE; rw [← hs, HSL.out])
  rw [← hs] at HO
  obtain ⟨g, hg⟩ : ∃ g, g = w1.heap.size := ⟨_, rfl⟩
  have HG : Hid (w.heap.size < g) := Lib.hid (by omega)
  rw [← hg] at HO
  clear hv hm hq hw1 hb1 hs1 hs hg
  go_enter Try.func48, Try.ntmps48
  go_wp2_with fail
  rw [← HW1.out]
  refine HO.out.mono ?_
  rintro e w2 ⟨rfl, hr2, hb2⟩
  have HV2 : Hid (VR w g w2.heap.size (some ⟨g, 0, none⟩) ls.length s (w2.alloc (.cells #[.slice (some ⟨g, 0, none⟩) ls.length ls.length] 54))) := Lib.hid (by
    have hb3 := below1 w2 (.cells #[.slice (some ⟨g, 0, none⟩) ls.length ls.length] 54)
    have hb0 : RowKit.Below w.heap.size w w2 := HB1.out.trans (hb2.mono (by have := HG.out; omega))
    exact ⟨(hb3.block _ (lt_of_row hr2)).trans hr2, heap_alloc_new _ _, hb0.trans (hb3.mono hb0.size), Nat.le_of_lt HG.out, hb0.size⟩)
  have HNE : Hid (w2.heap.size ≠ g) := Lib.hid (by have := lt_of_row hr2; omega)
  clear hr2 hb2 HO c8
  go_wp2_with fail
  go_loopg [3, 4] ls.length (fun kx u3 u4 wr => ∃ (k B1 : Nat) (Ak : Option Addr) (acc : List Dt), k ≤ ls.length ∧ u4 = .pointer (some ⟨B1, 0, none⟩) ∧ ls.length - k ≤ kx ∧ B1 ≠ g ∧ acc.length ≤ k ∧ Hid (VR w g B1 Ak (ls.length - k) s wr) ∧ Hid (k < ls.length → Ak = some ⟨g, k * 4, none⟩) ∧
      Hid (wr.ownsRow w.heap.size 68 2 u3 acc.length (dots2 acc)) ∧ Hid (∃ q, ls.length - k ≤ q ∧ acc ++ linesF q (s.drop k) = valueE ls))
  case atStart =>
    refine ⟨0, w2.heap.size, some ⟨g, 0, none⟩, [], Nat.zero_le _, rfl, by omega, HNE.out, Nat.le_refl _, HV2, Lib.hid (fun _ => by simp), ?_, Lib.hid ⟨ls.length, by omega, by rw [List.drop_zero, List.nil_append, HVE.out]⟩⟩
    exact Lib.hid (World.ownsRow_nil _ _ _ _)
  case round =>
    clear HV2 HNE
    obtain ⟨k, B1, Ak, acc, hk, rfl, hkx, hne, hac, HV, HAk, HO, HL⟩ := hrel
    by_cases hlt : k < ls.length
    · have hAk := HAk.out hlt
      subst hAk
      obtain ⟨m, hm⟩ : ∃ m, m = ls.length - k := ⟨_, rfl⟩
      rw [← hm] at HV
      obtain ⟨it, hit⟩ : ∃ it, it = (s.getD k e0).item := ⟨_, rfl⟩
      have hm0 : (0 : Int) < (m : Int) := by omega
      have hsl := HSL.out
      have cB : wr.cell? ⟨B1, 0, none⟩ = some (.slice (some ⟨g, k * 4, none⟩) m m) := by rw [cell_of_row _ _ _ _ _ _ HV.out.rest]; rfl
      have cI : wr.cell? ⟨g, k * 4, none⟩ = some (.int .i64 it) := by rw [hit]; exact row_item HV.out.row (by omega)
      have hb2 := below1 wr (.cells #[.int .i64 it] 3)
      obtain ⟨W2, hW2⟩ : ∃ W2, W2 = wr.alloc (.cells #[.int .i64 it] 3) := ⟨_, rfl⟩
      rw [← hW2] at hb2
      have hV2 := HV.out.then_ hb2
      have hI2 : W2.heap[wr.heap.size]? = some (.cells #[.int .i64 it] 3 (0, 0)) := by rw [hW2]; exact heap_alloc_new _ _
      have cB2 : (wr.alloc (.cells #[.int .i64 it] 3)).cell? ⟨B1, 0, none⟩ = some (.slice (some ⟨g, k * 4, none⟩) m m) := by rw [← hW2, cell_of_row _ _ _ _ _ _ hV2.rest]; rfl
      have HX : Hid (VX w g B1 m k s wr.heap.size it u3 acc W2) := Lib.hid ⟨hV2, hI2, own_keep HO.out fun k _ hk => hb2.block k hk⟩
      have HSR := Lib.hid (search_any 89 #[.pointer (some ⟨B1, 0, none⟩), .pointer (some ⟨wr.heap.size, 0, none⟩)] m (fun i => decide (it < (s.getD (k + i) e0).item)) W2 enters89 (by have := HM.out; omega) (fun i W hi hW => by
        have hx := HX.out.then_ hW
        refine value1_any B1 wr.heap.size g (k * 4) m m i it ((s.getD (k + i) e0).item) W ?_ ?_ hi ?_
        · rw [cell_of_row _ _ _ _ _ _ hx.v.rest]; rfl
        · rw [cell_of_row _ _ _ _ _ _ hx.item]; rfl
        · have h := row_item hx.v.row (i := k + i) (by omega)
          rw [Nat.add_mul] at h
          exact h))
      have HW2 := Lib.hid hW2
      have HMK := Lib.hid hm
      have HIT := Lib.hid hit
      have HAC := Lib.hid (Nat.lt_of_le_of_lt hac hlt)
      clear hW2 hV2 hI2 hb2 hm hit HV HO HAk hsl
      go_wp2_with fail
      rw [← HW2.out]
      refine HSR.out.mono ?_
      rintro e w5 ⟨r, rfl, hrm, hr1, hr2, hb5⟩
      replace HX := Lib.hid (HX.out.then_ hb5)
      have HRM := Lib.hid hrm
      have hd0 : (s.drop k).getD 0 e0 = s.getD k e0 := by rw [List.getD_eq_getElem?_getD, List.getD_eq_getElem?_getD, List.getElem?_drop, Nat.add_zero]
      have hdl : (s.drop k).length = m := by rw [List.length_drop, HSL.out, HMK.out]
      have hr0 : 1 ≤ r := by
        rcases Nat.eq_zero_or_pos r with e | e
        · subst e
          exfalso
          rcases hr2 with e | e
          · have := HMK.out; omega
          · rw [decide_eq_true_eq, Nat.add_zero, ← HIT.out] at e
            omega
        · exact e
      have hcut := cut_item (l := s.drop k) (it := it) (r := r) (List.Pairwise.sublist (List.drop_sublist k s) HSO.out) hr0 (by rw [hdl]; exact hrm) (by rw [hd0, HIT.out])
        (by
          rcases hr1 with e | e
          · omega
          · rw [decide_eq_false_iff_not] at e
            have e2 : (s.drop k).getD (r - 1) e0 = s.getD (k + (r - 1)) e0 := by rw [List.getD_eq_getElem?_getD, List.getD_eq_getElem?_getD, List.getElem?_drop]
            rw [e2]
            omega)
        (by
          rcases hr2 with e | e
          · exact .inl (by rw [hdl]; exact e)
          · rw [decide_eq_true_eq] at e
            refine .inr ?_
            have e2 : (s.drop k).getD r e0 = s.getD (k + r) e0 := by rw [List.getD_eq_getElem?_getD, List.getD_eq_getElem?_getD, List.getElem?_drop]
            rw [e2]
            exact e)
      obtain ⟨q, hq⟩ : ∃ q, q = quantE (ofE (s.drop k) it) := ⟨_, rfl⟩
      have HQ : Hid (∀ x, VX w g B1 m k s wr.heap.size it u3 acc x → Calls Try.prog 82 #[.slice (some ⟨g, k * 4, none⟩) r m] x fun e y => e = .returned (.int .u64 (q : Int)) ∧ RowKit.Below x.heap.size x y) := Lib.hid (fun x hx => by
        have h := quantity_any ((s.drop k).take r) m (some ⟨g, k * 4, none⟩) x (row_drop hx.v.row (lt_of_row hx.v.row) r (by have := HMK.out; have := HSL.out; omega)) (by rw [List.length_take]; have := HM.out; have := HMK.out; omega)
          (HQS.out.sub fun e he => List.mem_of_mem_drop (List.mem_of_mem_take he))
        rw [List.length_take, hdl, Nat.min_eq_left hrm, hcut.1, ← hq] at h
        exact h)
      have HL2 : Hid (∃ q', ls.length - (k + r) ≤ q' ∧ (acc ++ [(it, q)]) ++ linesF q' (s.drop (k + r)) = valueE ls) := Lib.hid (by
        obtain ⟨p, hp, he⟩ := HL.out
        cases p with
        | zero => have := HMK.out; omega
        | succ p =>
          refine ⟨p, by omega, ?_⟩
          rw [linesF_step (by rw [hdl]; omega), hd0, ← HIT.out, ← hq, ← hcut.2, List.drop_drop] at he
          rw [List.append_assoc]
          exact he)
      have HR0 := Lib.hid hr0
      clear hrm hr1 hr2 hb5 hd0 hdl hr0 hcut hq HSR HL cB cI cB2
      generalize wr.heap.size = bi at *
      go_wp2_with fail
      refine WM.wp_region_front 8 [] (fun _ x y => RowKit.Below x.heap.size x y) (fun _ x => VX w g B1 m k s bi it u3 acc x) (fun x => VX w g B1 m k s bi it u3 acc x)
        [(1, .val (.int .i64 it) fun _ => True), (2, .val (.slice (some ⟨g, k * 4, none⟩) m m) fun _ => True), (5, .val (.int .u64 (q : Int)) fun _ => True), (7, .mem (LB it q))] (by kernel_rfl) (by kernel_rfl) (by kernel_rfl) (by kernel_rfl) (of_decide_eq_true (by kernel_rfl)) ?_ ?_ (fun _ _ _ hb => hb.size) (fun _ _ _ hb h => h.then_ hb) (fun _ _ _ _ _ hb h => h.then_ hb) ?_ HX.out.drew (fun _ => HX.out.drew) ?_
      · intro p hp
        cases hp
      · intro p hp
        cases hp
      · intro z hz
        simp only [List.mem_cons, List.mem_nil_iff, or_false] at hz
        rcases hz with rfl | rfl | rfl | rfl
        · exact fun _ _ _ _ _ _ => trivial
        · exact fun _ _ _ _ _ _ => trivial
        · exact fun _ _ _ _ _ _ => trivial
        · exact fun j v x y _ hr ⟨gl, e, h⟩ => ⟨gl, e, (hr.block _ (lt_of_row h)).trans h⟩
      refine WM.mono_pure rfl rfl ?_
      apply Exists.intro
      refine ⟨fun x => ?_, ?_⟩
      · go_simp
        rfl
      apply Exists.intro
      refine ⟨by simp only [Act.put, List.setIfInBounds_toArray, List.set_cons_succ, List.set_cons_zero]; rfl, ?_⟩
      refine WM.mono_val rfl rfl (fun x hD hF => ?_) ?_
      · have hc : x.cell? ⟨bi, 0, none⟩ = some (.int .i64 it) := by rw [cell_of_row _ _ _ _ _ _ hD.item]; rfl
        go_simp
        exact ⟨RowKit.Below.refl _ _, rfl⟩
      apply Exists.intro
      refine ⟨by simp only [Act.put, List.setIfInBounds_toArray, List.set_cons_succ, List.set_cons_zero]; rfl, ?_⟩
      refine WM.mono_val rfl rfl (fun x hD hF => ?_) ?_
      · have hc : x.cell? ⟨B1, 0, none⟩ = some (.slice (some ⟨g, k * 4, none⟩) m m) := by rw [cell_of_row _ _ _ _ _ _ hD.v.rest]; rfl
        go_simp
        exact ⟨RowKit.Below.refl _ _, rfl⟩
      apply Exists.intro
      refine ⟨by simp only [Act.put, List.setIfInBounds_toArray, List.set_cons_succ, List.set_cons_zero]; rfl, ?_⟩
      refine WM.mono_pure rfl rfl ?_
      refine ⟨.int .i64 (r : Int), fun x => ?_, ?_⟩
      · go_simp
      apply Exists.intro
      refine ⟨by simp only [Act.put, List.setIfInBounds_toArray, List.set_cons_succ, List.set_cons_zero]; rfl, ?_⟩
      refine WM.mono_pure rfl rfl ?_
      refine ⟨.slice (some ⟨g, k * 4, none⟩) r m, fun x => ?_, ?_⟩
      · exact exec_slice 54 (.tmp 23) none (some (.tmp 24)) none rfl rfl rfl rfl rfl (run_sliceAt_to4 54 58 Try.underlying54 size58k (some ⟨g, k * 4, none⟩) m m r HRM.out x)
      apply Exists.intro
      refine ⟨by simp only [Act.put, List.setIfInBounds_toArray, List.set_cons_succ, List.set_cons_zero]; rfl, ?_⟩
      refine WM.mono_val rfl rfl (fun x hD hF => ?_) ?_
      · go_simp
        refine (HQ.out x hD).mono ?_
        rintro e y ⟨rfl, hg⟩
        exact ⟨_, rfl, hg, rfl⟩
      apply Exists.intro
      refine ⟨by simp only [Act.put, List.setIfInBounds_toArray, List.set_cons_succ, List.set_cons_zero]; rfl, ?_⟩
      refine WM.mono_pure rfl rfl ?_
      refine ⟨.agg (dotC (it, q)), fun x => ?_, ?_⟩
      · go_simp
      apply Exists.intro
      refine ⟨by simp only [Act.put, List.setIfInBounds_toArray, List.set_cons_succ, List.set_cons_zero]; rfl, ?_⟩
      refine WM.mono_mem rfl rfl (fun x hD hF => ?_) (fun v28 => ?_)
      · go_simp
        exact ⟨below1 _ _, _, rfl, heap_alloc_new _ _⟩
      apply Exists.intro
      refine ⟨by simp only [Act.put, List.setIfInBounds_toArray, List.set_cons_succ, List.set_cons_zero]; rfl, ?_⟩
      refine WM.mono_nil ?_
      intro x hD hF _
      obtain ⟨gl, e7, h7⟩ := (hF 7).1
      subst e7
      refine wpList_append_line rfl (.tmp 21) (.tmp 28) 65 rfl w.heap.size 68 (.agg #[.int .i64 0, .int .u64 0]) 16 Try.underlying65 info68 rfl u3 acc.length (dots2 acc) rfl hD.own (it, q) gl 1 68 rfl h7 (by have := HAC.out; have := HM.out; unfold maxLen; omega) (by have := HAC.out; have := HM.out; omega) hD.v.below.size ?_
      intro v6 w6 H6 B6 K6
      have HV6 := Lib.hid (hD.v.app B6.out K6.out)
      clear hD hF h7 HX HQ
      go_simp
      have cB6 : w6.cell? ⟨B1, 0, none⟩ = some (.slice (some ⟨g, k * 4, none⟩) m m) := by rw [cell_of_row _ _ _ _ _ _ HV6.out.rest]; rfl
      have fB6 : w6.frozen? ⟨B1, 0, none⟩ = false := by simp [World.frozen?, HV6.out.rest]
      have HV7 := Lib.hid (fun (A' : Option Addr) (m' : Nat) => HV6.out.next (A' := A') (m' := m') hne)
      have HO7 := Lib.hid (fun (A' : Option Addr) (m' : Nat) => HV6.out.own_next H6.out A' m')
      have HLEN : Hid (m - r = ls.length - (k + r)) := Lib.hid (by have := HMK.out; omega)
      have HB6 := Lib.hid HV6.out.row
      go_wp2_with fail
      all_goals
        go_roundg (ls.length - (k + r))
        case measure =>
          have h1 := HR0.out
          have h2 := HMK.out
          omega
        case rel =>
          have h1 := HR0.out
          have h2 := HMK.out
          have h3 := HRM.out
          have h4 := lt_of_row HB6.out
          first
            | (refine ⟨k + r, w6.heap.size, some ⟨g, k * 4 + r * 4, none⟩, acc ++ [(it, q)], by omega, rfl, Nat.le_refl _, by omega, by rw [List.length_append]; simp only [List.length_cons, List.length_nil]; omega, ?_, Lib.hid (fun hk2 => by rw [Nat.add_mul]), ?_, HL2⟩
               · rw [show ls.length - (k + r) = m - r by omega]
                 exact Lib.hid (HV7.out _ _)
               · rw [List.length_append, dots2_append, dots2_one]
                 exact Lib.hid (HO7.out _ _))
            | (refine ⟨k + r, w6.heap.size, some ⟨g, k * 4, none⟩, acc ++ [(it, q)], by omega, rfl, Nat.le_refl _, by omega, by rw [List.length_append]; simp only [List.length_cons, List.length_nil]; omega, ?_, Lib.hid (fun hk2 => by omega), ?_, HL2⟩
               · rw [show ls.length - (k + r) = 0 by omega]
                 exact Lib.hid (HV7.out _ _)
               · rw [List.length_append, dots2_append, dots2_one]
                 exact Lib.hid (HO7.out _ _))
    · obtain rfl : k = ls.length := by omega
      have HE : Hid (acc = valueE ls) := Lib.hid (by
        obtain ⟨p, _, he⟩ := HL.out
        rw [← HSL.out, List.drop_length, linesF_nil, List.append_nil] at he
        exact he)
      have cB : wr.cell? ⟨B1, 0, none⟩ = some (.slice Ak 0 0) := by
        have h := HV.out.rest
        rw [Nat.sub_self] at h
        rw [cell_of_row _ _ _ _ _ _ h]
        rfl
      have HB := Lib.hid HV.out.below
      go_wp2
      go_ret
      exact ⟨_, rfl, by rw [← HE.out]; exact HO.out, HB.out⟩
end Go.Proofs.Ytnpacjdgbmldlaa

/- cart.Live. -/
namespace Go.Proofs.Ytnpacjdgbmldlaa
open Go.RowKit Go.Lib

def Ent.dot (e : Ent) : Dt := (e.node, e.n)
/-- The first j dots in block g. -/
structure LR (x : World) (g : Nat) (ds : List Dt) (j : Nat) : Prop where
  row : ∃ cur : Array Value, x.heap[g]? = some (.cells cur 25 (0, 0)) ∧ cur.size = ds.length * 2 ∧ ∀ i, i < j * 2 → cur[i]? = (dots2 ds)[i]?
theorem LR.then_ {x y : World} {g : Nat} {ds : List Dt} {j : Nat} (hb : RowKit.Below x.heap.size x y) (h : LR x g ds j) : LR y g ds j := by
  obtain ⟨cur, h1, h2, h3⟩ := h.row
  exact ⟨cur, (hb.block _ (lt_of_row h1)).trans h1, h2, h3⟩
theorem LR.there {x : World} {g : Nat} {ds : List Dt} {j i : Nat} (h : LR x g ds j) (hi : i < ds.length) : x.there g (i * 2) 2 := by
  obtain ⟨cur, h1, h2, _⟩ := h.row
  intro k hk
  refine ⟨?_, by simp [World.frozen?, h1]⟩
  rw [cell_of_row _ _ _ _ _ _ h1, Array.getElem?_eq_getElem (by omega)]
  rfl
theorem LR.put {x : World} {g : Nat} {ds : List Dt} {j : Nat} (h : LR x g ds j) (hj : j < ds.length) : LR (x.setCells g (j * 2) (dotC (ds.getD j (0, 0))).toList) g ds (j + 1) := by
  obtain ⟨cur, h1, h2, h3⟩ := h.row
  have hd := dots2_get ds j hj
  generalize ds.getD j (0, 0) = d at *
  have e1 : (x.setCell ⟨g, j * 2, none⟩ (.int .i64 d.1)).heap[g]? = some (.cells (cur.setIfInBounds (j * 2) (.int .i64 d.1)) 25 (0, 0)) := by
    rw [setCell_eq_setRow x g (j * 2) cur 25 (0, 0) _ h1, setRow_heap x g cur _ 25 (0, 0) h1]
  have e2 : ((x.setCell ⟨g, j * 2, none⟩ (.int .i64 d.1)).setCell ⟨g, j * 2 + 1, none⟩ (.int .u64 (d.2 : Int))).heap[g]? = some (.cells ((cur.setIfInBounds (j * 2) (.int .i64 d.1)).setIfInBounds (j * 2 + 1) (.int .u64 (d.2 : Int))) 25 (0, 0)) := by
    rw [setCell_eq_setRow _ g (j * 2 + 1) _ 25 (0, 0) _ e1, setRow_heap _ g _ _ 25 (0, 0) e1]
  refine ⟨_, e2, by simp [h2], fun i hi => ?_⟩
  rw [Array.getElem?_setIfInBounds, Array.getElem?_setIfInBounds]
  by_cases a1 : j * 2 + 1 = i
  · subst a1
    rw [if_pos rfl, if_pos (by simp; omega), hd.2]
  · rw [if_neg a1]
    by_cases a2 : j * 2 = i
    · subst a2
      rw [if_pos rfl, if_pos (by omega), hd.1]
    · rw [if_neg a2]
      exact h3 i (by omega)
theorem LR.done {x : World} {g : Nat} {ds : List Dt} (h : LR x g ds ds.length) : x.heap[g]? = some (.cells (dots2 ds).toArray 25 (0, 0)) := by
  obtain ⟨cur, h1, h2, h3⟩ := h.row
  have e1 : cur.toList = dots2 ds := by
    apply List.ext_getElem?
    intro i
    rw [Array.getElem?_toList]
    by_cases hi : i < ds.length * 2
    · exact h3 i hi
    · rw [Array.getElem?_eq_none (by omega), List.getElem?_eq_none (by rw [dots2_len]; omega)]
  have e : cur = (dots2 ds).toArray := by rw [← e1]
  rw [h1, e]
theorem below_setCellsN {N g : Nat} (h : N ≤ g) : ∀ (vs : List Value) (o : Nat) (x : World), RowKit.Below N x (x.setCells g o vs)
  | [], _, _ => RowKit.Below.refl _ _
  | v :: vs, o, x => (below_setN h v).trans (below_setCellsN h vs (o + 1) _)

/-- The dots of a cart's entries, as a set. -/
def liveE (ls : List Ent) : List Dt := setF (rt (ls.map Ent.dot))
set_option maxRecDepth 100000 in
set_option maxHeartbeats 4000000 in
theorem live_any (f : Nat → Nat) (ls : List Ent) (c : Nat) (A : Option Addr) (w : World) (hv : Ents w (· < w.heap.size) A ls) (hm : ls.length ≤ 100000) :
    Calls Try.prog 45 #[cartV f A ls.length c] w fun e w' => ∃ g, e = .returned (.slice (some ⟨g, 0, none⟩) (liveE ls).length (liveE ls).length) ∧ w.heap.size ≤ g ∧ w'.heap[g]? = some (.cells (dots2 (liveE ls)).toArray 25 (0, 0)) ∧ RowKit.Below w.heap.size w w' := by
  have hmk := run_make_new (P := Try.prog) (w.alloc (.cells (cartC f A ls.length c) 56)) 22 25 (.agg #[.int .i64 0, .int .u64 0]) 2 16 Try.underlying22 info25 ls.length (by omega) (by omega)
  obtain ⟨Z, hZ⟩ : ∃ Z, Z = madeCells (Value.agg #[.int .i64 0, .int .u64 0]).cells (ls.length * 2) := ⟨_, rfl⟩
  have hZs : Z.size = ls.length * 2 := by rw [hZ, size_madeCells]
  rw [← hZ, World.size_alloc] at hmk
  obtain ⟨x, hx⟩ : ∃ x, x = (w.alloc (.cells (cartC f A ls.length c) 56)).alloc (.cells Z 25) := ⟨_, rfl⟩
  rw [← hx] at hmk
  have hb2 : RowKit.Below w.heap.size w x := by rw [hx]; exact below2 _ _ _
  have hC0 := CartAt.new w f A ls.length c
  have c80 := hC0.c8
  have hC : CartAt x w.heap.size f A ls.length c := by rw [hx]; exact hC0.then_ (below1 _ _)
  have c8 := hC.c8
  have hL : LR x (w.heap.size + 1) (ls.map Ent.dot) 0 := by
    have h := heap_alloc_new (w.alloc (.cells (cartC f A ls.length c) 56)) (.cells Z 25)
    rw [World.size_alloc] at h
    rw [hx]
    exact ⟨Z, h, by rw [hZs, List.length_map], fun i hi => by omega⟩
  have HL := Lib.hid hL
  have HV := Lib.hid (hv.below hb2)
  have HB := Lib.hid hb2
  have HM := Lib.hid hm
  clear hv hm hZ hZs hx hb2 hC0 hC hL
  go_enter Try.func45, Try.ntmps45
  go_wp2
  clear hmk c80 c8
  go_loopw [13] (fun v wr => ∃ j : Nat, j ≤ ls.length ∧ v = .int .i64 j ∧ Hid (LR wr (w.heap.size + 1) (ls.map Ent.dot) j) ∧ Hid (Ents wr (· < w.heap.size) A ls) ∧ Hid (RowKit.Below w.heap.size w wr)) (fun v _ => ls.length - (intOf v).toNat)
  case atStart => exact ⟨0, by omega, rfl, HL, HV, HB⟩
  case round =>
    clear HV HB HL
    obtain ⟨j, hj, rfl, HL, HV, HB⟩ := hrel
    by_cases hlt : j < ls.length
    · obtain ⟨b, o, hA⟩ := HV.out.some_ (by omega)
      subst hA
      obtain ⟨d, hd⟩ : ∃ d, d = ls.getD j e0 := ⟨_, rfl⟩
      have hr : Hid (rangeA wr b (o + j * 4) (entC d)) := Lib.hid (by rw [hd]; exact HV.out.at_j hlt)
      have s58 := Lib.hid (ent_size58 d)
      have o4 := Lib.hid (ent_one d)
      have hN := Lib.hid (heap_alloc_new wr (.cells #[.int .i64 0, .int .i64 0, .int .u64 0, .int .i64 0] 58))
      have z4 : Hid ((#[.int .i64 0, .int .i64 0, .int .u64 0, .int .i64 0] : Array Value).size = (entC d).size) := rfl
      have eJ : IntKind.i64.wrap ((j : Int) + 1) = (j : Int) + 1 := by have := HM.out; rw [IntKind.wrap_i64]; omega
      obtain ⟨W2, hW2⟩ : ∃ W2, W2 = wr.alloc (.cells (entC d) 58) := ⟨_, rfl⟩
      have HW2 := Lib.hid hW2
      have hE : EntAt W2 wr.heap.size d := by rw [hW2]; exact heap_alloc_new _ _
      have HE := Lib.hid hE
      have hb1 : RowKit.Below wr.heap.size wr W2 := by rw [hW2]; exact below1 wr (.cells (entC d) 58)
      have HL2 := Lib.hid (HL.out.then_ hb1)
      have HV2 := Lib.hid (HV.out.below (hb1.mono HB.out.size))
      have HB2 := Lib.hid (HB.out.trans (hb1.mono HB.out.size))
      have HD : Hid (((ls.map Ent.dot).getD j (0, 0)) = (d.node, d.n)) := Lib.hid (by
        rw [hd, List.getD_eq_getElem?_getD, List.getD_eq_getElem?_getD, List.getElem?_map, List.getElem?_eq_getElem hlt]
        rfl)
      have HC := Lib.hid (cdot_any d W2)
      have s25 := Lib.hid (dot_size25 (d.node, d.n))
      have o2 := (Lib.hid (two_one _ _ rfl rfl) : Hid ((dotC (d.node, d.n)).all (·.oneCell') = true))
      have HLT : Hid (j < (ls.map Ent.dot).length) := Lib.hid (by rw [List.length_map]; exact hlt)
      clear hd hE hb1 HL HV HB hW2
      go_wp2_with (first
        | (refine wpList_load_arr rfl 58 _ rfl b (o + j * 4) rfl (entC d) _ hr.out Try.underlying58 rfl s58.out ?_)
        | (refine wpList_store_row rfl 58 _ _ rfl wr.heap.size (entC d) rfl rfl 58 _ hN.out s58.out z4.out o4.out ?_; rw [World.setRow_alloc_new, ← HW2.out])
        | (refine wpList_load_arr rfl 58 _ rfl wr.heap.size 0 rfl (entC d) _ HE.out.range Try.underlying58 rfl s58.out ?_)
        | fail)
      refine HC.out.mono ?_
      rintro e w3 ⟨rfl, hb⟩
      have HL3 := Lib.hid (HL2.out.then_ hb)
      have HV3 := Lib.hid (HV2.out.below (hb.mono HB2.out.size))
      have HB3 := Lib.hid (HB2.out.trans (hb.mono HB2.out.size))
      have hT := HL3.out.there HLT.out
      obtain ⟨u0, hv0⟩ := Option.isSome_iff_exists.1 (hT 0 (by omega)).1
      obtain ⟨u1, hv1⟩ := Option.isSome_iff_exists.1 (hT 1 (by omega)).1
      have hu0 : w3.cell? ⟨w.heap.size + 1, j * 2, none⟩ = some u0 := hv0
      have hu1 : w3.cell? ⟨w.heap.size + 1, j * 2 + 1, none⟩ = some u1 := hv1
      have hf0 : w3.frozen? ⟨w.heap.size + 1, j * 2, none⟩ = false := (hT 0 (by omega)).2
      have hf1 : w3.frozen? ⟨w.heap.size + 1, j * 2 + 1, none⟩ = false := (hT 1 (by omega)).2
      clear hv0 hv1
      have hp := HL3.out.put HLT.out
      rw [HD.out] at hp
      have hp : LR ((w3.setCell ⟨w.heap.size + 1, j * 2, none⟩ (.int .i64 d.node)).setCell ⟨w.heap.size + 1, j * 2 + 1, none⟩ (.int .u64 (d.n : Int))) (w.heap.size + 1) (ls.map Ent.dot) (j + 1) := hp
      have HL4 := Lib.hid hp
      have hb4 : RowKit.Below w.heap.size w3 ((w3.setCell ⟨w.heap.size + 1, j * 2, none⟩ (.int .i64 d.node)).setCell ⟨w.heap.size + 1, j * 2 + 1, none⟩ (.int .u64 (d.n : Int))) := below_setCellsN (Nat.le_succ _) (dotC (d.node, d.n)).toList _ _
      have HV4 := Lib.hid (HV3.out.below hb4)
      have HB4 := Lib.hid (HB3.out.trans hb4)
      clear hb hp hb4 HC HL2 HL3 hT
      go_wp2_with fail
      go_roundw
      all_goals clear eJ
      case rel => exact ⟨j + 1, by omega, by go_num, HL4, HV4, HB4⟩
      case measure => simp [intOf]; omega
    · obtain rfl : j = ls.length := by omega
      have hL := HL.out
      have hlm : ls.length = (ls.map Ent.dot).length := by simp
      rw [hlm] at hL
      clear hlm
      have hd := hL.done
      have hO := dof_any (ls.map Ent.dot) ls.length (some ⟨w.heap.size + 1, 0, none⟩) wr (block_dots hd (lt_of_row hd)) (by rw [List.length_map]; have := HM.out; omega)
      rw [List.length_map] at hO
      have HO := Lib.hid hO
      clear hL hd hO
      go_wp2_with fail
      refine HO.out.mono ?_
      rintro e w3 ⟨g, rfl, hg, hr, hb⟩
      have HG := Lib.hid (Nat.le_trans HB.out.size hg)
      have HR := Lib.hid hr
      have HB3 := Lib.hid (HB.out.trans (hb.mono HB.out.size))
      clear hg hr hb HO
      go_wp2_with fail
      go_ret
      exact ⟨g, rfl, HG.out, HR.out, HB3.out⟩
end Go.Proofs.Ytnpacjdgbmldlaa

/- cart.Right. -/
namespace Go.Proofs.Ytnpacjdgbmldlaa
open Go.RowKit

theorem gtr3 (a b : Int) {q : Bool} (hq : decide (b < a) = q) {ev : Operand → Value} {o : Oper} {w : World} (x y : Operand) (ho : o.op = .binOp .gtr 3 x y 3) (hx : ev x = .int .i64 a) (hy : ev y = .int .i64 b) : (execOp ev o).run Try.prog w = .ok (.value (.bool q)) w := by
  subst hq
  unfold execOp
  simp only [ho, hx, hy]
  go_simp
theorem sub3 (a b : Int) {q : Int} (hq : IntKind.i64.wrap (a - b) = q) {ev : Operand → Value} {o : Oper} {w : World} (x y : Operand) (ho : o.op = .binOp .sub 3 x y 3) (hx : ev x = .int .i64 a) (hy : ev y = .int .i64 b) : (execOp ev o).run Try.prog w = .ok (.value (.int .i64 q)) w := by
  subst hq
  unfold execOp
  simp only [ho, hx, hy]
  go_simp
/-- An entry's copy, the cart and its entries. -/
structure RE (w : World) (b4 : Nat) (d : Ent) (f : Nat → Nat) (A : Option Addr) (c : Nat) (ls : List Ent) (x : World) : Prop where
  e : EntAt x b4 d
  c : CartAt x w.heap.size f A ls.length c
  v : Ents x (· < w.heap.size) A ls
  below : Below w.heap.size w x
theorem RE.then_ {w x y : World} {b4 : Nat} {d : Ent} {f : Nat → Nat} {A : Option Addr} {c : Nat} {ls : List Ent} (hb : Below x.heap.size x y) (h : RE w b4 d f A c ls x) : RE w b4 d f A c ls y :=
  ⟨h.e.below hb (lt_of_row h.e), h.c.then_ hb, h.v.below (hb.mono h.below.size), h.below.trans (hb.mono h.below.size)⟩
theorem RE.drew {w x : World} {b4 : Nat} {d : Ent} {f : Nat → Nat} {A : Option Addr} {c : Nat} {ls : List Ent} (h : RE w b4 d f A c ls x) : RE w b4 d f A c ls x.drew := RE.then_ (x := x) (y := x.drew) ⟨rfl, rfl, rfl, Nat.le_refl _, fun _ _ => rfl⟩ h
/-- May entry j stand there? -/
def stepR (f : Nat → Nat) (ls : List Ent) (j : Nat) : Bool := (ls.getD j e0).right f && (decide (j = 0) || (ls.getD (j - 1) e0).less (ls.getD j e0))
def rightC (f : Nat → Nat) (ls : List Ent) : Bool := decide (ls.length ≤ 400) && (List.range ls.length).all (stepR f ls) && decide ((liveE ls).length = ls.length)
theorem rightC_no {f : Nat → Nat} {ls : List Ent} {j : Nat} (hj : j < ls.length) (h : stepR f ls j = false) : rightC f ls = false := by
  have h1 : (List.range ls.length).all (stepR f ls) = false := by
    rw [Bool.eq_false_iff]
    intro h2
    have h3 := List.all_eq_true.1 h2 j (List.mem_range.2 hj)
    rw [h] at h3
    cases h3
  unfold rightC
  rw [h1, Bool.and_false, Bool.false_and]
theorem rightC_end {f : Nat → Nat} {ls : List Ent} (h : ls.length ≤ 400) (h2 : ∀ i, i < ls.length → stepR f ls i = true) : rightC f ls = decide ((liveE ls).length = ls.length) := by
  have h1 : (List.range ls.length).all (stepR f ls) = true := List.all_eq_true.2 fun x hx => h2 x (List.mem_range.1 hx)
  unfold rightC
  rw [h1, decide_eq_true h]
  rfl

/-- The cart in its box. -/
structure CB (w : World) (f : Nat → Nat) (A : Option Addr) (c : Nat) (ls : List Ent) (x : World) : Prop where
  c : CartAt x w.heap.size f A ls.length c
  v : Ents x (· < w.heap.size) A ls
  below : Below w.heap.size w x
theorem CB.then_ {w x y : World} {f : Nat → Nat} {A : Option Addr} {c : Nat} {ls : List Ent} (hb : Below x.heap.size x y) (h : CB w f A c ls x) : CB w f A c ls y :=
  ⟨h.c.then_ hb, h.v.below (hb.mono h.below.size), h.below.trans (hb.mono h.below.size)⟩
theorem CB.drew {w x : World} {f : Nat → Nat} {A : Option Addr} {c : Nat} {ls : List Ent} (h : CB w f A c ls x) : CB w f A c ls x.drew := CB.then_ (x := x) (y := x.drew) ⟨rfl, rfl, rfl, Nat.le_refl _, fun _ _ => rfl⟩ h
/-- What Live gives. -/
def LvP (n : Nat) (v : Value) (_ : World) : Prop := ∃ g, v = .slice (some ⟨g, 0, none⟩) n n
theorem eql3 (a b : Int) {q : Bool} (hq : decide (a = b) = q) {ev : Operand → Value} {o : Oper} {w : World} (x y : Operand) (ho : o.op = .binOp .eql 3 x y 3) (hx : ev x = .int .i64 a) (hy : ev y = .int .i64 b) : (execOp ev o).run Try.prog w = .ok (.value (.bool q)) w := by
  have hq' : (a == b) = q := by rw [← hq]; rfl
  unfold execOp
  simp only [ho, hx, hy]
  go_simp

set_option maxRecDepth 100000 in
set_option maxHeartbeats 12000000 in
theorem cartRight_any (f : Nat → Nat) (ls : List Ent) (c : Nat) (A : Option Addr) (w : World) (hv : Ents w (· < w.heap.size) A ls) (hm : ls.length ≤ 100000) :
    Calls Try.prog 44 #[cartV f A ls.length c] w fun e w' => e = .returned (.bool (rightC f ls)) ∧ Below w.heap.size w w' := by
  have hb0 := below1 w (.cells (cartC f A ls.length c) 56)
  obtain ⟨w1, hw1⟩ : ∃ w1, w1 = w.alloc (.cells (cartC f A ls.length c) 56) := ⟨_, rfl⟩
  rw [← hw1] at hb0
  have hC : CartAt w1 w.heap.size f A ls.length c := by rw [hw1]; exact CartAt.new w f A ls.length c
  have c8 : (w.alloc (.cells (cartC f A ls.length c) 56)).cell? ⟨w.heap.size, 8, none⟩ = some (.slice A ls.length c) := (CartAt.new w f A ls.length c).c8
  have HB := Lib.hid hb0
  have HC := Lib.hid hC
  have HV := Lib.hid (hv.below hb0)
  have HM := Lib.hid hm
  have HW := Lib.hid hw1
  clear hv hm hb0 hC hw1
  by_cases hbig : 400 < ls.length
  · have HE : Hid (rightC f ls = false) := Lib.hid (by unfold rightC; rw [decide_eq_false (by omega)]; rfl)
    have hbi : (400 : Int) < (ls.length : Int) := by omega
    clear hbig
    go_enter Try.func44, Try.ntmps44
    go_wp2
    go_ret
    exact ⟨ret_bool HE.out.symm, by rw [← HW.out]; exact HB.out⟩
  have HBL : Hid (ls.length ≤ 400) := Lib.hid (by omega)
  have hbi : ¬ (400 : Int) < (ls.length : Int) := by omega
  clear hbig
  go_enter Try.func44, Try.ntmps44
  go_wp2
  clear hbi c8
  rw [← HW.out]
  clear HW
  go_loopw [12] (fun v wr => ∃ j : Nat, j ≤ ls.length ∧ v = .int .i64 j ∧ Hid (∀ i, i < j → stepR f ls i = true) ∧ Hid (Ents wr (· < w.heap.size) A ls) ∧ Hid (CartAt wr w.heap.size f A ls.length c) ∧ Hid (Below w.heap.size w wr)) (fun v _ => ls.length - (intOf v).toNat)
  case atStart => exact ⟨0, by omega, rfl, Lib.hid (fun i hi => by omega), HV, HC, HB⟩
  case round =>
    clear HV HC HB
    obtain ⟨j, hj, rfl, HN, HV, HC, HB⟩ := hrel
    by_cases hlt : j < ls.length
    · obtain ⟨b, o, hA⟩ := HV.out.some_ (by omega)
      subst hA
      obtain ⟨d, hd⟩ : ∃ d, d = ls.getD j e0 := ⟨_, rfl⟩
      have HD := Lib.hid hd
      have hr : Hid (rangeA wr b (o + j * 4) (entC d)) := Lib.hid (by rw [hd]; exact HV.out.at_j hlt)
      have s58 := Lib.hid (ent_size58 d)
      have o4 := Lib.hid (ent_one d)
      have hN := Lib.hid (heap_alloc_new wr (.cells #[.int .i64 0, .int .i64 0, .int .u64 0, .int .i64 0] 58))
      have z4 : Hid ((#[.int .i64 0, .int .i64 0, .int .u64 0, .int .i64 0] : Array Value).size = (entC d).size) := rfl
      have eJ : IntKind.i64.wrap ((j : Int) + 1) = (j : Int) + 1 := by have := HM.out; rw [IntKind.wrap_i64]; omega
      have hb1 : Below wr.heap.size wr (wr.alloc (.cells (entC d) 58)) := below1 wr (.cells (entC d) 58)
      have HI : Hid (RE w wr.heap.size d f (some ⟨b, o, none⟩) c ls (wr.alloc (.cells (entC d) 58))) := Lib.hid
        ⟨heap_alloc_new _ _, HC.out.then_ hb1, HV.out.below (hb1.mono HB.out.size), HB.out.trans (hb1.mono HB.out.size)⟩
      have HLT := Lib.hid hlt
      clear hd hb1 HV HC HB
      go_wp2_with (first
        | (refine wpList_load_arr rfl 58 _ rfl b (o + j * 4) rfl (entC d) _ hr.out Try.underlying58 rfl s58.out ?_)
        | (refine wpList_store_row rfl 58 _ _ rfl wr.heap.size (entC d) rfl rfl 58 _ hN.out s58.out z4.out o4.out ?_; rw [World.setRow_alloc_new])
        | fail)
      generalize wr.alloc (.cells (entC d) 58) = w2 at *
      generalize wr.heap.size = b4 at *
      clear hr hN s58 o4 z4
      cases hrt : d.right f with
      | false =>
        have HR := Lib.hid hrt
        have HNO : Hid (rightC f ls = false) := Lib.hid (rightC_no HLT.out (by unfold stepR; rw [← HD.out, hrt]; rfl))
        clear hrt
        refine WM.wp_region_kinds (fun _ x y => Below x.heap.size x y) (fun _ x => RE w b4 d f (some ⟨b, o, none⟩) c ls x) (fun x => RE w b4 d f (some ⟨b, o, none⟩) c ls x)
          [(0, .val (entV d) fun _ => True), (2, .val (vecV f) fun _ => True), (3, .val (.bool false) fun _ => True)] (by kernel_rfl) (by kernel_rfl) (fun _ _ _ hb h => h.then_ hb) (fun _ _ _ _ _ hb h => h.then_ hb) ?_ HI.out.drew (fun _ => HI.out.drew) ?_
        · intro z hz
          simp only [List.mem_cons, List.mem_nil_iff, or_false] at hz
          rcases hz with rfl | rfl | rfl <;> exact fun _ _ _ _ _ _ => trivial
        refine WM.mono_val rfl rfl (fun x hD hF => ?_) ?_
        · have hl := run_loadVar_arr (P := Try.prog) x (b4) (0) 58 (entC d) _ (hD.e.range) Try.underlying58 rfl (ent_size58 _)
          rw [exec_load 58 (.tmp 4) rfl (b4) (0) rfl hl]
          exact ⟨Below.refl _ _, rfl, trivial⟩
        apply Exists.intro
        refine ⟨by simp only [Act.put, List.setIfInBounds_toArray, List.set_cons_succ, List.set_cons_zero]; rfl, ?_⟩
        iterate 1
          refine WM.mono_pure rfl rfl ?_
          apply Exists.intro
          refine ⟨fun x => ?_, ?_⟩
          · go_simp
            rfl
          apply Exists.intro
          refine ⟨by simp only [Act.put, List.setIfInBounds_toArray, List.set_cons_succ, List.set_cons_zero]; rfl, ?_⟩
        refine WM.mono_val rfl rfl (fun x hD hF => ?_) ?_
        · have hl := run_loadVar_arr (P := Try.prog) x (w.heap.size) (0) 27 (arrOf .u64 8 f) _ (hD.c.vec) Try.underlying27 rfl (size27f f)
          rw [exec_load 27 (.tmp 18) rfl (w.heap.size) (0) rfl hl]
          exact ⟨Below.refl _ _, rfl, trivial⟩
        apply Exists.intro
        refine ⟨by simp only [Act.put, List.setIfInBounds_toArray, List.set_cons_succ, List.set_cons_zero]; rfl, ?_⟩
        refine WM.mono_val rfl rfl (fun x hD hF => ?_) ?_
        · go_simp
          refine (cright_any d f x).mono ?_
          rintro e y ⟨rfl, hg⟩
          exact ⟨_, rfl, hg, by rw [HR.out]⟩
        apply Exists.intro
        refine ⟨by simp only [Act.put, List.setIfInBounds_toArray, List.set_cons_succ, List.set_cons_zero]; rfl, ?_⟩
        refine WM.mono_pure rfl rfl ?_
        refine ⟨.bool true, fun x => ?_, ?_⟩
        · go_simp
        apply Exists.intro
        refine ⟨by simp only [Act.put, List.setIfInBounds_toArray, List.set_cons_succ, List.set_cons_zero]; rfl, ?_⟩
        refine WM.mono_pure rfl rfl ?_
        refine ⟨.bool true, fun x => ?_, ?_⟩
        · go_simp
        apply Exists.intro
        refine ⟨by simp only [Act.put, List.setIfInBounds_toArray, List.set_cons_succ, List.set_cons_zero]; rfl, ?_⟩
        refine WM.mono_skip rfl ?_
        apply Exists.intro
        refine ⟨by simp only [Act.put, List.setIfInBounds_toArray, List.set_cons_succ, List.set_cons_zero]; rfl, ?_⟩
        refine WM.mono_skip rfl ?_
        apply Exists.intro
        refine ⟨by simp only [Act.put, List.setIfInBounds_toArray, List.set_cons_succ, List.set_cons_zero]; rfl, ?_⟩
        refine WM.mono_skip rfl ?_
        apply Exists.intro
        refine ⟨by simp only [Act.put, List.setIfInBounds_toArray, List.set_cons_succ, List.set_cons_zero]; rfl, ?_⟩
        refine WM.mono_skip rfl ?_
        apply Exists.intro
        refine ⟨by simp only [Act.put, List.setIfInBounds_toArray, List.set_cons_succ, List.set_cons_zero]; rfl, ?_⟩
        refine WM.mono_skip rfl ?_
        apply Exists.intro
        refine ⟨by simp only [Act.put, List.setIfInBounds_toArray, List.set_cons_succ, List.set_cons_zero]; rfl, ?_⟩
        refine WM.mono_skip rfl ?_
        apply Exists.intro
        refine ⟨by simp only [Act.put, List.setIfInBounds_toArray, List.set_cons_succ, List.set_cons_zero]; rfl, ?_⟩
        refine WM.mono_skip rfl ?_
        apply Exists.intro
        refine ⟨by simp only [Act.put, List.setIfInBounds_toArray, List.set_cons_succ, List.set_cons_zero]; rfl, ?_⟩
        refine WM.mono_skip rfl ?_
        apply Exists.intro
        refine ⟨by simp only [Act.put, List.setIfInBounds_toArray, List.set_cons_succ, List.set_cons_zero]; rfl, ?_⟩
        refine WM.mono_skip rfl ?_
        apply Exists.intro
        refine ⟨by simp only [Act.put, List.setIfInBounds_toArray, List.set_cons_succ, List.set_cons_zero]; rfl, ?_⟩
        refine WM.mono_skip rfl ?_
        apply Exists.intro
        refine ⟨by simp only [Act.put, List.setIfInBounds_toArray, List.set_cons_succ, List.set_cons_zero]; rfl, ?_⟩
        refine WM.mono_skip rfl ?_
        apply Exists.intro
        refine ⟨by simp only [Act.put, List.setIfInBounds_toArray, List.set_cons_succ, List.set_cons_zero]; rfl, ?_⟩
        refine WM.mono_skip rfl ?_
        apply Exists.intro
        refine ⟨by simp only [Act.put, List.setIfInBounds_toArray, List.set_cons_succ, List.set_cons_zero]; rfl, ?_⟩
        refine WM.mono_skip rfl ?_
        apply Exists.intro
        refine ⟨by simp only [Act.put, List.setIfInBounds_toArray, List.set_cons_succ, List.set_cons_zero]; rfl, ?_⟩
        refine WM.mono_pure rfl rfl ?_
        refine ⟨.bool true, fun x => ?_, ?_⟩
        · go_simp
        apply Exists.intro
        refine ⟨by simp only [Act.put, List.setIfInBounds_toArray, List.set_cons_succ, List.set_cons_zero]; rfl, ?_⟩
        refine WM.mono_nil ?_
        intro x hD hF
        replace HI := Lib.hid hD
        clear hD hF
        go_simp
        go_wp2
        go_ret
        exact ⟨ret_bool HNO.out.symm, HI.out.below⟩
      | true =>
        have HR := Lib.hid hrt
        by_cases hj0 : j = 0
        · have HG : Hid (decide ((0 : Int) < (j : Int)) = false) := Lib.hid (decide_eq_false (by omega))
          have HY : Hid (∀ i, i < j + 1 → stepR f ls i = true) := Lib.hid (fun i hi => by
            by_cases e : i = j
            · subst e
              unfold stepR
              rw [← HD.out, hrt, decide_eq_true hj0]
              rfl
            · exact HN.out i (by omega))
          clear hrt hj0
          refine WM.wp_region_kinds (fun _ x y => Below x.heap.size x y) (fun _ x => RE w b4 d f (some ⟨b, o, none⟩) c ls x) (fun x => RE w b4 d f (some ⟨b, o, none⟩) c ls x)
            [(0, .val (entV d) fun _ => True), (2, .val (vecV f) fun _ => True), (3, .val (.bool true) fun _ => True)] (by kernel_rfl) (by kernel_rfl) (fun _ _ _ hb h => h.then_ hb) (fun _ _ _ _ _ hb h => h.then_ hb) ?_ HI.out.drew (fun _ => HI.out.drew) ?_
          · intro z hz
            simp only [List.mem_cons, List.mem_nil_iff, or_false] at hz
            rcases hz with rfl | rfl | rfl <;> exact fun _ _ _ _ _ _ => trivial
          refine WM.mono_val rfl rfl (fun x hD hF => ?_) ?_
          · have hl := run_loadVar_arr (P := Try.prog) x (b4) (0) 58 (entC d) _ (hD.e.range) Try.underlying58 rfl (ent_size58 _)
            rw [exec_load 58 (.tmp 4) rfl (b4) (0) rfl hl]
            exact ⟨Below.refl _ _, rfl, trivial⟩
          apply Exists.intro
          refine ⟨by simp only [Act.put, List.setIfInBounds_toArray, List.set_cons_succ, List.set_cons_zero]; rfl, ?_⟩
          iterate 1
            refine WM.mono_pure rfl rfl ?_
            apply Exists.intro
            refine ⟨fun x => ?_, ?_⟩
            · go_simp
              rfl
            apply Exists.intro
            refine ⟨by simp only [Act.put, List.setIfInBounds_toArray, List.set_cons_succ, List.set_cons_zero]; rfl, ?_⟩
          refine WM.mono_val rfl rfl (fun x hD hF => ?_) ?_
          · have hl := run_loadVar_arr (P := Try.prog) x (w.heap.size) (0) 27 (arrOf .u64 8 f) _ (hD.c.vec) Try.underlying27 rfl (size27f f)
            rw [exec_load 27 (.tmp 18) rfl (w.heap.size) (0) rfl hl]
            exact ⟨Below.refl _ _, rfl, trivial⟩
          apply Exists.intro
          refine ⟨by simp only [Act.put, List.setIfInBounds_toArray, List.set_cons_succ, List.set_cons_zero]; rfl, ?_⟩
          refine WM.mono_val rfl rfl (fun x hD hF => ?_) ?_
          · go_simp
            refine (cright_any d f x).mono ?_
            rintro e y ⟨rfl, hg⟩
            exact ⟨_, rfl, hg, by rw [HR.out]⟩
          apply Exists.intro
          refine ⟨by simp only [Act.put, List.setIfInBounds_toArray, List.set_cons_succ, List.set_cons_zero]; rfl, ?_⟩
          refine WM.mono_pure rfl rfl ?_
          refine ⟨.bool false, fun x => ?_, ?_⟩
          · go_simp
          apply Exists.intro
          refine ⟨by simp only [Act.put, List.setIfInBounds_toArray, List.set_cons_succ, List.set_cons_zero]; rfl, ?_⟩
          refine WM.mono_pure rfl rfl ?_
          refine ⟨.bool false, fun x => ?_, ?_⟩
          · go_simp
          apply Exists.intro
          refine ⟨by simp only [Act.put, List.setIfInBounds_toArray, List.set_cons_succ, List.set_cons_zero]; rfl, ?_⟩
          refine WM.mono_pure rfl rfl ?_
          refine ⟨.int .i64 (j : Int), fun x => ?_, ?_⟩
          · go_simp
          apply Exists.intro
          refine ⟨by simp only [Act.put, List.setIfInBounds_toArray, List.set_cons_succ, List.set_cons_zero]; rfl, ?_⟩
          refine WM.mono_pure rfl rfl ?_
          refine ⟨.bool false, fun x => ?_, ?_⟩
          · exact gtr3 (j : Int) 0 HG.out (.tmp 23) (.const (.int .i64 0)) rfl rfl rfl
          apply Exists.intro
          refine ⟨by simp only [Act.put, List.setIfInBounds_toArray, List.set_cons_succ, List.set_cons_zero]; rfl, ?_⟩
          refine WM.mono_pure rfl rfl ?_
          refine ⟨.bool false, fun x => ?_, ?_⟩
          · go_simp
          apply Exists.intro
          refine ⟨by simp only [Act.put, List.setIfInBounds_toArray, List.set_cons_succ, List.set_cons_zero]; rfl, ?_⟩
          refine WM.mono_skip rfl ?_
          apply Exists.intro
          refine ⟨by simp only [Act.put, List.setIfInBounds_toArray, List.set_cons_succ, List.set_cons_zero]; rfl, ?_⟩
          refine WM.mono_skip rfl ?_
          apply Exists.intro
          refine ⟨by simp only [Act.put, List.setIfInBounds_toArray, List.set_cons_succ, List.set_cons_zero]; rfl, ?_⟩
          refine WM.mono_skip rfl ?_
          apply Exists.intro
          refine ⟨by simp only [Act.put, List.setIfInBounds_toArray, List.set_cons_succ, List.set_cons_zero]; rfl, ?_⟩
          refine WM.mono_skip rfl ?_
          apply Exists.intro
          refine ⟨by simp only [Act.put, List.setIfInBounds_toArray, List.set_cons_succ, List.set_cons_zero]; rfl, ?_⟩
          refine WM.mono_skip rfl ?_
          apply Exists.intro
          refine ⟨by simp only [Act.put, List.setIfInBounds_toArray, List.set_cons_succ, List.set_cons_zero]; rfl, ?_⟩
          refine WM.mono_skip rfl ?_
          apply Exists.intro
          refine ⟨by simp only [Act.put, List.setIfInBounds_toArray, List.set_cons_succ, List.set_cons_zero]; rfl, ?_⟩
          refine WM.mono_skip rfl ?_
          apply Exists.intro
          refine ⟨by simp only [Act.put, List.setIfInBounds_toArray, List.set_cons_succ, List.set_cons_zero]; rfl, ?_⟩
          refine WM.mono_skip rfl ?_
          apply Exists.intro
          refine ⟨by simp only [Act.put, List.setIfInBounds_toArray, List.set_cons_succ, List.set_cons_zero]; rfl, ?_⟩
          refine WM.mono_skip rfl ?_
          apply Exists.intro
          refine ⟨by simp only [Act.put, List.setIfInBounds_toArray, List.set_cons_succ, List.set_cons_zero]; rfl, ?_⟩
          refine WM.mono_pure rfl rfl ?_
          refine ⟨.bool false, fun x => ?_, ?_⟩
          · go_simp
          apply Exists.intro
          refine ⟨by simp only [Act.put, List.setIfInBounds_toArray, List.set_cons_succ, List.set_cons_zero]; rfl, ?_⟩
          refine WM.mono_pure rfl rfl ?_
          refine ⟨.bool false, fun x => ?_, ?_⟩
          · go_simp
          apply Exists.intro
          refine ⟨by simp only [Act.put, List.setIfInBounds_toArray, List.set_cons_succ, List.set_cons_zero]; rfl, ?_⟩
          refine WM.mono_nil ?_
          intro x hD hF
          replace HI := Lib.hid hD
          clear hD hF
          go_simp
          go_wp2
          go_roundw
          all_goals clear eJ
          case rel => exact ⟨j + 1, by omega, by go_num, HY, Lib.hid HI.out.v, Lib.hid HI.out.c, Lib.hid HI.out.below⟩
          case measure => simp [intOf]; omega
        · have HG : Hid (decide ((0 : Int) < (j : Int)) = true) := Lib.hid (decide_eq_true (by omega))
          obtain ⟨m, hm⟩ : ∃ m, m = j - 1 := ⟨_, rfl⟩
          obtain ⟨p, hp⟩ : ∃ p, p = ls.getD m e0 := ⟨_, rfl⟩
          have HP := Lib.hid hp
          have HS : Hid (IntKind.i64.wrap ((j : Int) - 1) = (m : Int)) := Lib.hid (by have := HM.out; rw [IntKind.wrap_i64]; omega)
          have HMJ : Hid (m < ls.length) := Lib.hid (by omega)
          have hmi : (m : Int) < (ls.length : Int) := by omega
          cases hls : p.less d with
          | true =>
            have HLS := Lib.hid hls
            have HY : Hid (∀ i, i < j + 1 → stepR f ls i = true) := Lib.hid (fun i hi => by
              by_cases e : i = j
              · subst e
                unfold stepR
                rw [← HD.out, hrt, ← hm, ← hp, hls, Bool.or_true]
                rfl
              · exact HN.out i (by omega))
            clear hrt hj0 hm hp hls
            refine WM.wp_region_kinds (fun _ x y => Below x.heap.size x y) (fun _ x => RE w b4 d f (some ⟨b, o, none⟩) c ls x) (fun x => RE w b4 d f (some ⟨b, o, none⟩) c ls x)
              [(0, .val (entV d) fun _ => True), (2, .val (vecV f) fun _ => True), (3, .val (.bool true) fun _ => True), (10, .val (.slice (some ⟨b, o, none⟩) ls.length c) fun _ => True), (14, .val (entV p) fun _ => True), (15, .val (entV d) fun _ => True), (16, .val (.bool true) fun _ => True)] (by kernel_rfl) (by kernel_rfl) (fun _ _ _ hb h => h.then_ hb) (fun _ _ _ _ _ hb h => h.then_ hb) ?_ HI.out.drew (fun _ => HI.out.drew) ?_
            · intro z hz
              simp only [List.mem_cons, List.mem_nil_iff, or_false] at hz
              rcases hz with rfl | rfl | rfl | rfl | rfl | rfl | rfl <;> exact fun _ _ _ _ _ _ => trivial
            refine WM.mono_val rfl rfl (fun x hD hF => ?_) ?_
            · have hl := run_loadVar_arr (P := Try.prog) x (b4) (0) 58 (entC d) _ (hD.e.range) Try.underlying58 rfl (ent_size58 _)
              rw [exec_load 58 (.tmp 4) rfl (b4) (0) rfl hl]
              exact ⟨Below.refl _ _, rfl, trivial⟩
            apply Exists.intro
            refine ⟨by simp only [Act.put, List.setIfInBounds_toArray, List.set_cons_succ, List.set_cons_zero]; rfl, ?_⟩
            iterate 1
              refine WM.mono_pure rfl rfl ?_
              apply Exists.intro
              refine ⟨fun x => ?_, ?_⟩
              · go_simp
                rfl
              apply Exists.intro
              refine ⟨by simp only [Act.put, List.setIfInBounds_toArray, List.set_cons_succ, List.set_cons_zero]; rfl, ?_⟩
            refine WM.mono_val rfl rfl (fun x hD hF => ?_) ?_
            · have hl := run_loadVar_arr (P := Try.prog) x (w.heap.size) (0) 27 (arrOf .u64 8 f) _ (hD.c.vec) Try.underlying27 rfl (size27f f)
              rw [exec_load 27 (.tmp 18) rfl (w.heap.size) (0) rfl hl]
              exact ⟨Below.refl _ _, rfl, trivial⟩
            apply Exists.intro
            refine ⟨by simp only [Act.put, List.setIfInBounds_toArray, List.set_cons_succ, List.set_cons_zero]; rfl, ?_⟩
            refine WM.mono_val rfl rfl (fun x hD hF => ?_) ?_
            · go_simp
              refine (cright_any d f x).mono ?_
              rintro e y ⟨rfl, hg⟩
              exact ⟨_, rfl, hg, by rw [HR.out]⟩
            apply Exists.intro
            refine ⟨by simp only [Act.put, List.setIfInBounds_toArray, List.set_cons_succ, List.set_cons_zero]; rfl, ?_⟩
            refine WM.mono_pure rfl rfl ?_
            refine ⟨.bool false, fun x => ?_, ?_⟩
            · go_simp
            apply Exists.intro
            refine ⟨by simp only [Act.put, List.setIfInBounds_toArray, List.set_cons_succ, List.set_cons_zero]; rfl, ?_⟩
            refine WM.mono_pure rfl rfl ?_
            refine ⟨.bool false, fun x => ?_, ?_⟩
            · go_simp
            apply Exists.intro
            refine ⟨by simp only [Act.put, List.setIfInBounds_toArray, List.set_cons_succ, List.set_cons_zero]; rfl, ?_⟩
            refine WM.mono_pure rfl rfl ?_
            refine ⟨.int .i64 (j : Int), fun x => ?_, ?_⟩
            · go_simp
            apply Exists.intro
            refine ⟨by simp only [Act.put, List.setIfInBounds_toArray, List.set_cons_succ, List.set_cons_zero]; rfl, ?_⟩
            refine WM.mono_pure rfl rfl ?_
            refine ⟨.bool true, fun x => ?_, ?_⟩
            · exact gtr3 (j : Int) 0 HG.out (.tmp 23) (.const (.int .i64 0)) rfl rfl rfl
            apply Exists.intro
            refine ⟨by simp only [Act.put, List.setIfInBounds_toArray, List.set_cons_succ, List.set_cons_zero]; rfl, ?_⟩
            refine WM.mono_pure rfl rfl ?_
            refine ⟨.bool true, fun x => ?_, ?_⟩
            · go_simp
            apply Exists.intro
            refine ⟨by simp only [Act.put, List.setIfInBounds_toArray, List.set_cons_succ, List.set_cons_zero]; rfl, ?_⟩
            refine WM.mono_pure rfl rfl ?_
            refine ⟨.pointer (some ⟨w.heap.size, 8, none⟩), fun x => ?_, ?_⟩
            · go_simp
            apply Exists.intro
            refine ⟨by simp only [Act.put, List.setIfInBounds_toArray, List.set_cons_succ, List.set_cons_zero]; rfl, ?_⟩
            refine WM.mono_val rfl rfl (fun x hD hF => ?_) ?_
            · have hc : x.cell? ⟨w.heap.size, 8, none⟩ = some (.slice (some ⟨b, o, none⟩) ls.length c) := hD.c.c8
              go_simp
              exact ⟨Below.refl _ _, rfl⟩
            apply Exists.intro
            refine ⟨by simp only [Act.put, List.setIfInBounds_toArray, List.set_cons_succ, List.set_cons_zero]; rfl, ?_⟩
            refine WM.mono_pure rfl rfl ?_
            refine ⟨.int .i64 (j : Int), fun x => ?_, ?_⟩
            · go_simp
            apply Exists.intro
            refine ⟨by simp only [Act.put, List.setIfInBounds_toArray, List.set_cons_succ, List.set_cons_zero]; rfl, ?_⟩
            refine WM.mono_pure rfl rfl ?_
            refine ⟨.int .i64 (m : Int), fun x => ?_, ?_⟩
            · exact sub3 (j : Int) 1 HS.out (.tmp 28) (.const (.int .i64 1)) rfl rfl rfl
            apply Exists.intro
            refine ⟨by simp only [Act.put, List.setIfInBounds_toArray, List.set_cons_succ, List.set_cons_zero]; rfl, ?_⟩
            refine WM.mono_pure rfl rfl ?_
            refine ⟨.pointer (some ⟨b, o + m * 4, none⟩), fun x => ?_, ?_⟩
            · go_simp
            apply Exists.intro
            refine ⟨by simp only [Act.put, List.setIfInBounds_toArray, List.set_cons_succ, List.set_cons_zero]; rfl, ?_⟩
            refine WM.mono_val rfl rfl (fun x hD hF => ?_) ?_
            · have hl := run_loadVar_arr (P := Try.prog) x (b) (o + m * 4) 58 (entC p) _ (by rw [HP.out]; exact hD.v.at_j HMJ.out) Try.underlying58 rfl (ent_size58 _)
              rw [exec_load 58 (.tmp 30) rfl (b) (o + m * 4) rfl hl]
              exact ⟨Below.refl _ _, rfl, trivial⟩
            apply Exists.intro
            refine ⟨by simp only [Act.put, List.setIfInBounds_toArray, List.set_cons_succ, List.set_cons_zero]; rfl, ?_⟩
            refine WM.mono_val rfl rfl (fun x hD hF => ?_) ?_
            · have hl := run_loadVar_arr (P := Try.prog) x (b4) (0) 58 (entC d) _ (hD.e.range) Try.underlying58 rfl (ent_size58 _)
              rw [exec_load 58 (.tmp 4) rfl (b4) (0) rfl hl]
              exact ⟨Below.refl _ _, rfl, trivial⟩
            apply Exists.intro
            refine ⟨by simp only [Act.put, List.setIfInBounds_toArray, List.set_cons_succ, List.set_cons_zero]; rfl, ?_⟩
            refine WM.mono_val rfl rfl (fun x hD hF => ?_) ?_
            · go_simp
              refine (cless_any p d x).mono ?_
              rintro e y ⟨rfl, hg⟩
              exact ⟨_, rfl, hg, by rw [HLS.out]⟩
            apply Exists.intro
            refine ⟨by simp only [Act.put, List.setIfInBounds_toArray, List.set_cons_succ, List.set_cons_zero]; rfl, ?_⟩
            refine WM.mono_pure rfl rfl ?_
            refine ⟨.bool false, fun x => ?_, ?_⟩
            · go_simp
            apply Exists.intro
            refine ⟨by simp only [Act.put, List.setIfInBounds_toArray, List.set_cons_succ, List.set_cons_zero]; rfl, ?_⟩
            refine WM.mono_pure rfl rfl ?_
            refine ⟨.bool false, fun x => ?_, ?_⟩
            · go_simp
            apply Exists.intro
            refine ⟨by simp only [Act.put, List.setIfInBounds_toArray, List.set_cons_succ, List.set_cons_zero]; rfl, ?_⟩
            refine WM.mono_pure rfl rfl ?_
            refine ⟨.bool false, fun x => ?_, ?_⟩
            · go_simp
            apply Exists.intro
            refine ⟨by simp only [Act.put, List.setIfInBounds_toArray, List.set_cons_succ, List.set_cons_zero]; rfl, ?_⟩
            refine WM.mono_nil ?_
            intro x hD hF
            replace HI := Lib.hid hD
            clear hD hF
            go_simp
            go_wp2
            go_roundw
            all_goals clear eJ
            case rel => exact ⟨j + 1, by omega, by go_num, HY, Lib.hid HI.out.v, Lib.hid HI.out.c, Lib.hid HI.out.below⟩
            case measure => simp [intOf]; omega
          | false =>
            have HLS := Lib.hid hls
            have HNO : Hid (rightC f ls = false) := Lib.hid (rightC_no HLT.out (by unfold stepR; rw [← HD.out, hrt, ← hm, ← hp, hls, decide_eq_false hj0]; rfl))
            clear hrt hj0 hm hp hls
            refine WM.wp_region_kinds (fun _ x y => Below x.heap.size x y) (fun _ x => RE w b4 d f (some ⟨b, o, none⟩) c ls x) (fun x => RE w b4 d f (some ⟨b, o, none⟩) c ls x)
              [(0, .val (entV d) fun _ => True), (2, .val (vecV f) fun _ => True), (3, .val (.bool true) fun _ => True), (10, .val (.slice (some ⟨b, o, none⟩) ls.length c) fun _ => True), (14, .val (entV p) fun _ => True), (15, .val (entV d) fun _ => True), (16, .val (.bool false) fun _ => True)] (by kernel_rfl) (by kernel_rfl) (fun _ _ _ hb h => h.then_ hb) (fun _ _ _ _ _ hb h => h.then_ hb) ?_ HI.out.drew (fun _ => HI.out.drew) ?_
            · intro z hz
              simp only [List.mem_cons, List.mem_nil_iff, or_false] at hz
              rcases hz with rfl | rfl | rfl | rfl | rfl | rfl | rfl <;> exact fun _ _ _ _ _ _ => trivial
            refine WM.mono_val rfl rfl (fun x hD hF => ?_) ?_
            · have hl := run_loadVar_arr (P := Try.prog) x (b4) (0) 58 (entC d) _ (hD.e.range) Try.underlying58 rfl (ent_size58 _)
              rw [exec_load 58 (.tmp 4) rfl (b4) (0) rfl hl]
              exact ⟨Below.refl _ _, rfl, trivial⟩
            apply Exists.intro
            refine ⟨by simp only [Act.put, List.setIfInBounds_toArray, List.set_cons_succ, List.set_cons_zero]; rfl, ?_⟩
            iterate 1
              refine WM.mono_pure rfl rfl ?_
              apply Exists.intro
              refine ⟨fun x => ?_, ?_⟩
              · go_simp
                rfl
              apply Exists.intro
              refine ⟨by simp only [Act.put, List.setIfInBounds_toArray, List.set_cons_succ, List.set_cons_zero]; rfl, ?_⟩
            refine WM.mono_val rfl rfl (fun x hD hF => ?_) ?_
            · have hl := run_loadVar_arr (P := Try.prog) x (w.heap.size) (0) 27 (arrOf .u64 8 f) _ (hD.c.vec) Try.underlying27 rfl (size27f f)
              rw [exec_load 27 (.tmp 18) rfl (w.heap.size) (0) rfl hl]
              exact ⟨Below.refl _ _, rfl, trivial⟩
            apply Exists.intro
            refine ⟨by simp only [Act.put, List.setIfInBounds_toArray, List.set_cons_succ, List.set_cons_zero]; rfl, ?_⟩
            refine WM.mono_val rfl rfl (fun x hD hF => ?_) ?_
            · go_simp
              refine (cright_any d f x).mono ?_
              rintro e y ⟨rfl, hg⟩
              exact ⟨_, rfl, hg, by rw [HR.out]⟩
            apply Exists.intro
            refine ⟨by simp only [Act.put, List.setIfInBounds_toArray, List.set_cons_succ, List.set_cons_zero]; rfl, ?_⟩
            refine WM.mono_pure rfl rfl ?_
            refine ⟨.bool false, fun x => ?_, ?_⟩
            · go_simp
            apply Exists.intro
            refine ⟨by simp only [Act.put, List.setIfInBounds_toArray, List.set_cons_succ, List.set_cons_zero]; rfl, ?_⟩
            refine WM.mono_pure rfl rfl ?_
            refine ⟨.bool false, fun x => ?_, ?_⟩
            · go_simp
            apply Exists.intro
            refine ⟨by simp only [Act.put, List.setIfInBounds_toArray, List.set_cons_succ, List.set_cons_zero]; rfl, ?_⟩
            refine WM.mono_pure rfl rfl ?_
            refine ⟨.int .i64 (j : Int), fun x => ?_, ?_⟩
            · go_simp
            apply Exists.intro
            refine ⟨by simp only [Act.put, List.setIfInBounds_toArray, List.set_cons_succ, List.set_cons_zero]; rfl, ?_⟩
            refine WM.mono_pure rfl rfl ?_
            refine ⟨.bool true, fun x => ?_, ?_⟩
            · exact gtr3 (j : Int) 0 HG.out (.tmp 23) (.const (.int .i64 0)) rfl rfl rfl
            apply Exists.intro
            refine ⟨by simp only [Act.put, List.setIfInBounds_toArray, List.set_cons_succ, List.set_cons_zero]; rfl, ?_⟩
            refine WM.mono_pure rfl rfl ?_
            refine ⟨.bool true, fun x => ?_, ?_⟩
            · go_simp
            apply Exists.intro
            refine ⟨by simp only [Act.put, List.setIfInBounds_toArray, List.set_cons_succ, List.set_cons_zero]; rfl, ?_⟩
            refine WM.mono_pure rfl rfl ?_
            refine ⟨.pointer (some ⟨w.heap.size, 8, none⟩), fun x => ?_, ?_⟩
            · go_simp
            apply Exists.intro
            refine ⟨by simp only [Act.put, List.setIfInBounds_toArray, List.set_cons_succ, List.set_cons_zero]; rfl, ?_⟩
            refine WM.mono_val rfl rfl (fun x hD hF => ?_) ?_
            · have hc : x.cell? ⟨w.heap.size, 8, none⟩ = some (.slice (some ⟨b, o, none⟩) ls.length c) := hD.c.c8
              go_simp
              exact ⟨Below.refl _ _, rfl⟩
            apply Exists.intro
            refine ⟨by simp only [Act.put, List.setIfInBounds_toArray, List.set_cons_succ, List.set_cons_zero]; rfl, ?_⟩
            refine WM.mono_pure rfl rfl ?_
            refine ⟨.int .i64 (j : Int), fun x => ?_, ?_⟩
            · go_simp
            apply Exists.intro
            refine ⟨by simp only [Act.put, List.setIfInBounds_toArray, List.set_cons_succ, List.set_cons_zero]; rfl, ?_⟩
            refine WM.mono_pure rfl rfl ?_
            refine ⟨.int .i64 (m : Int), fun x => ?_, ?_⟩
            · exact sub3 (j : Int) 1 HS.out (.tmp 28) (.const (.int .i64 1)) rfl rfl rfl
            apply Exists.intro
            refine ⟨by simp only [Act.put, List.setIfInBounds_toArray, List.set_cons_succ, List.set_cons_zero]; rfl, ?_⟩
            refine WM.mono_pure rfl rfl ?_
            refine ⟨.pointer (some ⟨b, o + m * 4, none⟩), fun x => ?_, ?_⟩
            · go_simp
            apply Exists.intro
            refine ⟨by simp only [Act.put, List.setIfInBounds_toArray, List.set_cons_succ, List.set_cons_zero]; rfl, ?_⟩
            refine WM.mono_val rfl rfl (fun x hD hF => ?_) ?_
            · have hl := run_loadVar_arr (P := Try.prog) x (b) (o + m * 4) 58 (entC p) _ (by rw [HP.out]; exact hD.v.at_j HMJ.out) Try.underlying58 rfl (ent_size58 _)
              rw [exec_load 58 (.tmp 30) rfl (b) (o + m * 4) rfl hl]
              exact ⟨Below.refl _ _, rfl, trivial⟩
            apply Exists.intro
            refine ⟨by simp only [Act.put, List.setIfInBounds_toArray, List.set_cons_succ, List.set_cons_zero]; rfl, ?_⟩
            refine WM.mono_val rfl rfl (fun x hD hF => ?_) ?_
            · have hl := run_loadVar_arr (P := Try.prog) x (b4) (0) 58 (entC d) _ (hD.e.range) Try.underlying58 rfl (ent_size58 _)
              rw [exec_load 58 (.tmp 4) rfl (b4) (0) rfl hl]
              exact ⟨Below.refl _ _, rfl, trivial⟩
            apply Exists.intro
            refine ⟨by simp only [Act.put, List.setIfInBounds_toArray, List.set_cons_succ, List.set_cons_zero]; rfl, ?_⟩
            refine WM.mono_val rfl rfl (fun x hD hF => ?_) ?_
            · go_simp
              refine (cless_any p d x).mono ?_
              rintro e y ⟨rfl, hg⟩
              exact ⟨_, rfl, hg, by rw [HLS.out]⟩
            apply Exists.intro
            refine ⟨by simp only [Act.put, List.setIfInBounds_toArray, List.set_cons_succ, List.set_cons_zero]; rfl, ?_⟩
            refine WM.mono_pure rfl rfl ?_
            refine ⟨.bool true, fun x => ?_, ?_⟩
            · go_simp
            apply Exists.intro
            refine ⟨by simp only [Act.put, List.setIfInBounds_toArray, List.set_cons_succ, List.set_cons_zero]; rfl, ?_⟩
            refine WM.mono_pure rfl rfl ?_
            refine ⟨.bool true, fun x => ?_, ?_⟩
            · go_simp
            apply Exists.intro
            refine ⟨by simp only [Act.put, List.setIfInBounds_toArray, List.set_cons_succ, List.set_cons_zero]; rfl, ?_⟩
            refine WM.mono_pure rfl rfl ?_
            refine ⟨.bool true, fun x => ?_, ?_⟩
            · go_simp
            apply Exists.intro
            refine ⟨by simp only [Act.put, List.setIfInBounds_toArray, List.set_cons_succ, List.set_cons_zero]; rfl, ?_⟩
            refine WM.mono_nil ?_
            intro x hD hF
            replace HI := Lib.hid hD
            clear hD hF
            go_simp
            go_wp2
            go_ret
            exact ⟨ret_bool HNO.out.symm, HI.out.below⟩
    · obtain rfl : j = ls.length := by omega
      have HI : Hid (CB w f A c ls wr) := Lib.hid ⟨HC.out, HV.out, HB.out⟩
      have HEND := Lib.hid (rightC_end HBL.out HN.out)
      obtain ⟨n, hn⟩ : ∃ n, n = (liveE ls).length := ⟨_, rfl⟩
      rw [← hn] at HEND
      have HLV : Hid (∀ x, CB w f A c ls x → Calls Try.prog 45 #[cartV f A ls.length c] x fun e y => (∃ g, e = .returned (.slice (some ⟨g, 0, none⟩) n n)) ∧ Below x.heap.size x y) := Lib.hid (fun x hx => by
        rw [hn]
        refine (live_any f ls c A x (hx.v.loose fun b hb => Nat.lt_of_lt_of_le hb hx.below.size) HM.out).mono ?_
        rintro e y ⟨g, rfl, _, _, hb⟩
        exact ⟨⟨g, rfl⟩, hb⟩)
      clear HV HC HB HN hn
      go_wp2_with fail
      refine WM.wp_region_kinds (fun _ x y => Below x.heap.size x y) (fun _ x => CB w f A c ls x) (fun x => CB w f A c ls x)
        [(0, .val (cartV f A ls.length c) fun _ => True), (1, .mem (LvP n)), (2, .val (.int .i64 (n : Int)) fun _ => True), (4, .val (.slice A ls.length c) fun _ => True)] (by kernel_rfl) (by kernel_rfl) (fun _ _ _ hb h => h.then_ hb) (fun _ _ _ _ _ hb h => h.then_ hb) ?_ HI.out.drew (fun _ => HI.out.drew) ?_
      · intro z hz
        simp only [List.mem_cons, List.mem_nil_iff, or_false] at hz
        rcases hz with rfl | rfl | rfl | rfl
        · exact fun _ _ _ _ _ _ => trivial
        · exact fun _ _ _ _ _ _ h => h
        · exact fun _ _ _ _ _ _ => trivial
        · exact fun _ _ _ _ _ _ => trivial
      refine WM.mono_val rfl rfl (fun x hD hF => ?_) ?_
      · have hl := run_loadVar_arr (P := Try.prog) x (w.heap.size) (0) 56 (cartC f A ls.length c) _ (hD.c.range) Try.underlying56 rfl (cart_size56 f A ls.length c)
        rw [exec_load 56 (.tmp 1) rfl (w.heap.size) (0) rfl hl]
        exact ⟨Below.refl _ _, rfl, trivial⟩
      apply Exists.intro
      refine ⟨by simp only [Act.put, List.setIfInBounds_toArray, List.set_cons_succ, List.set_cons_zero]; rfl, ?_⟩
      refine WM.mono_mem rfl rfl (fun x hD hF => ?_) (fun v39 => ?_)
      · go_simp
        refine (HLV.out x hD).mono ?_
        rintro e y ⟨⟨g, rfl⟩, hg⟩
        exact ⟨_, rfl, hg, g, rfl⟩
      apply Exists.intro
      refine ⟨by simp only [Act.put, List.setIfInBounds_toArray, List.set_cons_succ, List.set_cons_zero]; rfl, ?_⟩
      refine WM.mono_val rfl rfl (fun x hD hF => ?_) ?_
      · obtain ⟨g, e1⟩ := (hF 1 _ 39 rfl rfl (by decide)).1
        subst e1
        go_simp
        exact ⟨Below.refl _ _, rfl⟩
      apply Exists.intro
      refine ⟨by simp only [Act.put, List.setIfInBounds_toArray, List.set_cons_succ, List.set_cons_zero]; rfl, ?_⟩
      refine WM.mono_pure rfl rfl ?_
      refine ⟨.pointer (some ⟨w.heap.size, 8, none⟩), fun x => ?_, ?_⟩
      · go_simp
      apply Exists.intro
      refine ⟨by simp only [Act.put, List.setIfInBounds_toArray, List.set_cons_succ, List.set_cons_zero]; rfl, ?_⟩
      refine WM.mono_val rfl rfl (fun x hD hF => ?_) ?_
      · have hc : x.cell? ⟨w.heap.size, 8, none⟩ = some (.slice A ls.length c) := hD.c.c8
        go_simp
        exact ⟨Below.refl _ _, rfl⟩
      apply Exists.intro
      refine ⟨by simp only [Act.put, List.setIfInBounds_toArray, List.set_cons_succ, List.set_cons_zero]; rfl, ?_⟩
      refine WM.mono_pure rfl rfl ?_
      refine ⟨.int .i64 (ls.length : Int), fun x => ?_, ?_⟩
      · go_simp
      apply Exists.intro
      refine ⟨by simp only [Act.put, List.setIfInBounds_toArray, List.set_cons_succ, List.set_cons_zero]; rfl, ?_⟩
      refine WM.mono_pure rfl rfl ?_
      refine ⟨.bool (decide ((n : Int) = (ls.length : Int))), fun x => ?_, ?_⟩
      · exact eql3 (n : Int) (ls.length : Int) rfl (.tmp 40) (.tmp 43) rfl rfl rfl
      apply Exists.intro
      refine ⟨by simp only [Act.put, List.setIfInBounds_toArray, List.set_cons_succ, List.set_cons_zero]; rfl, ?_⟩
      refine WM.mono_pure rfl rfl ?_
      apply Exists.intro
      refine ⟨fun x => ?_, ?_⟩
      · go_simp
        rfl
      apply Exists.intro
      refine ⟨by simp only [Act.put, List.setIfInBounds_toArray, List.set_cons_succ, List.set_cons_zero]; rfl, ?_⟩
      refine WM.mono_nil ?_
      intro x hD hF
      have HX := Lib.hid hD
      clear hD hF HI
      go_simp
      go_wp2
      go_ret
      refine ⟨?_, HX.out.below⟩
      rw [HEND.out]
      refine ret_bool ?_
      rw [Bool.eq_iff_iff, decide_eq_true_eq, decide_eq_true_eq]
      omega

end Go.Proofs.Ytnpacjdgbmldlaa

/- Equal entries, equal lines; cart.Same, cart.SameValue. -/
namespace Go.Proofs.Ytnpacjdgbmldlaa
open Go.RowKit

-- a line has the cells of a dot
set_option maxRecDepth 100000 in
set_option maxHeartbeats 2000000 in
theorem equalL_any (xs bs : List Dt) (c c' : Nat) (A B : Option Addr) (w : World) {oa ob : Nat → Prop} (ha : Dots w oa A xs) (hb : Dots w ob B bs) (hm : xs.length ≤ 9223372036854775807) :
    Calls Try.prog 90 #[.slice A xs.length c, .slice B bs.length c'] w fun e w' => e = .returned (.bool (decide (xs = bs))) ∧ Below w.heap.size w w' := by
  have HA := Lib.hid ha
  have HB := Lib.hid hb
  clear ha hb
  by_cases hl : xs.length = bs.length
  · have HL := Lib.hid hl
    have hli : ((xs.length : Int) == (bs.length : Int)) = true := by rw [beq_iff_eq]; omega
    have hln : ((xs.length : Int) != (bs.length : Int)) = false := by rw [bne_eq_false_iff_eq]; omega
    clear hl
    go_enter Try.func90, Try.ntmps90
    go_wp2
    go_loopw [13] (fun v wr => ∃ j : Nat, j ≤ xs.length ∧ v = .int .i64 j ∧ Hid (∀ i, i < j → xs.getD i (0, 0) = bs.getD i (0, 0)) ∧ Hid (Dots wr oa A xs) ∧ Hid (Dots wr ob B bs) ∧ Hid (Below w.heap.size w wr)) (fun v _ => xs.length - (intOf v).toNat)
    case atStart => exact ⟨0, by omega, rfl, fun i hi => by omega, HA, HB, Below.refl _ _⟩
    case round =>
      clear HA HB
      obtain ⟨j, hj, rfl, HN, HA, HB, HW⟩ := hrel
      by_cases hlt : j < xs.length
      · have hlb : j < bs.length := by have := HL.out; omega
        obtain ⟨b, o, hA⟩ := HA.out.some_ (by omega)
        subst hA
        obtain ⟨b', o', hB⟩ := HB.out.some_ (by omega)
        subst hB
        have hc := HA.out.cells hlt
        have hd := HB.out.cells hlb
        obtain ⟨p, hp⟩ : ∃ p, p = xs.getD j (0, 0) := ⟨_, rfl⟩
        obtain ⟨q, hq⟩ : ∃ q, q = bs.getD j (0, 0) := ⟨_, rfl⟩
        have HP := Lib.hid hp
        have HQ := Lib.hid hq
        rw [← hp] at hc
        rw [← hq] at hd
        obtain ⟨c0, c1⟩ := hc
        obtain ⟨d0, d1⟩ := hd
        obtain ⟨p1, p2⟩ := p
        obtain ⟨q1, q2⟩ := q
        have HAd : Hid (Dots wr.drew oa (some ⟨b, o, none⟩) xs) := Lib.hid ⟨HA.out.at_⟩
        have HBd : Hid (Dots wr.drew ob (some ⟨b', o', none⟩) bs) := Lib.hid ⟨HB.out.at_⟩
        have HWd : Hid (Below w.heap.size w wr.drew) := ⟨HW.out.os, HW.out.tape, HW.out.output, HW.out.size, HW.out.block⟩
        have hji : (j : Int) < (bs.length : Int) := by omega
        have HLB := Lib.hid hlb
        clear hp hq HA HB HW hlb
        by_cases e1 : p1 = q1
        · by_cases e2 : p2 = q2
          · subst e1 e2
            have HN2 : Hid (∀ i, i < j + 1 → xs.getD i (0, 0) = bs.getD i (0, 0)) := Lib.hid (fun i hi => by
              by_cases e : i = j
              · subst e
                rw [← HP.out, ← HQ.out]
              · exact HN.out i (by omega))
            go_wp2_with fail
            go_region
            go_wp2
            go_roundw
            case rel => exact ⟨j + 1, by omega, by go_num, HN2, HAd, HBd, HWd⟩
            case measure => simp [intOf]; omega
          · have HE : Hid (xs ≠ bs) := Lib.hid (fun e => by
              have h1 := HP.out
              rw [e, ← HQ.out] at h1
              injection h1 with _ h1
              exact e2 h1)
            subst e1
            have b2 : ((p2 : Int) == (q2 : Int)) = false := by rw [beq_eq_false_iff_ne]; omega
            clear e2
            go_wp2_with fail
            go_region
            go_wp2
            go_ret
            exact ⟨ret_bool (decide_eq_false HE.out).symm, HWd.out⟩
        · have HE : Hid (xs ≠ bs) := Lib.hid (fun e => by
            have h1 := HP.out
            rw [e, ← HQ.out] at h1
            injection h1 with h1 _
            exact e1 h1)
          have b1 : (p1 == q1) = false := by rw [beq_eq_false_iff_ne]; exact e1
          clear e1
          go_wp2_with fail
          go_region
          go_wp2
          go_ret
          exact ⟨ret_bool (decide_eq_false HE.out).symm, HWd.out⟩
      · obtain rfl : j = xs.length := by omega
        have HE : Hid (xs = bs) := Lib.hid (by
          apply List.ext_getElem HL.out
          intro i h1 h2
          have h := HN.out i h1
          rwa [List.getD_eq_getElem?_getD, List.getD_eq_getElem?_getD, List.getElem?_eq_getElem h1, List.getElem?_eq_getElem h2] at h)
        go_wp2
        go_ret
        exact ⟨ret_bool (decide_eq_true HE.out).symm, HW.out⟩
  · have HE : Hid (xs ≠ bs) := Lib.hid (fun e => hl (by rw [e]))
    have hli : ((xs.length : Int) == (bs.length : Int)) = false := by rw [beq_eq_false_iff_ne]; omega
    have hln : ((xs.length : Int) != (bs.length : Int)) = true := by rw [bne_iff_ne]; omega
    clear hl
    go_enter Try.func90, Try.ntmps90
    go_wp2
    go_ret
    exact ⟨ret_bool (decide_eq_false HE.out).symm, Below.refl _ _⟩


set_option maxRecDepth 100000 in
set_option maxHeartbeats 1000000 in
theorem samevalue_any (xs bs : List Dt) (c c' : Nat) (A B : Option Addr) (w : World) {oa ob : Nat → Prop} (ha : Dots w oa A xs) (hb : Dots w ob B bs) (hm : xs.length ≤ 9223372036854775807) :
    Calls Try.prog 50 #[.slice A xs.length c, .slice B bs.length c'] w fun e w' => e = .returned (.bool (decide (xs = bs))) ∧ Below w.heap.size w w' := by
  have HE := Lib.hid (equalL_any xs bs c c' A B w ha hb hm)
  clear ha hb hm
  go_enter Try.func50, Try.ntmps50
  go_wp2_with fail
  refine HE.out.mono ?_
  rintro e w1 ⟨rfl, hb⟩
  have HB := Lib.hid hb
  clear hb
  go_wp2_with fail
  go_ret
  exact ⟨rfl, HB.out⟩

theorem Ents.cells {w : World} {ok : Nat → Prop} {b o : Nat} {ls : List Ent} (h : Ents w ok (some ⟨b, o, none⟩) ls) {j : Nat} (hj : j < ls.length) :
    w.cell? ⟨b, o + j * 4, none⟩ = some (.int .i64 (ls.getD j e0).item) ∧ w.cell? ⟨b, o + j * 4 + 1, none⟩ = some (.int .i64 (ls.getD j e0).node) ∧ w.cell? ⟨b, o + j * 4 + 2, none⟩ = some (.int .u64 ((ls.getD j e0).n : Int)) ∧ w.cell? ⟨b, o + j * 4 + 3, none⟩ = some (.int .i64 (ls.getD j e0).qty) := by
  have hc := h.at_j hj
  have h0 := hc 0 _ rfl
  exact ⟨by rw [Nat.add_zero] at h0; exact h0, hc 1 _ rfl, hc 2 _ rfl, hc 3 _ rfl⟩
set_option maxRecDepth 100000 in
set_option maxHeartbeats 4000000 in
theorem equalE_any (xs bs : List Ent) (c c' : Nat) (A B : Option Addr) (w : World) {oa ob : Nat → Prop} (ha : Ents w oa A xs) (hb : Ents w ob B bs) (hm : xs.length ≤ 9223372036854775807) :
    Calls Try.prog 93 #[.slice A xs.length c, .slice B bs.length c'] w fun e w' => e = .returned (.bool (decide (xs = bs))) ∧ Below w.heap.size w w' := by
  have HA := Lib.hid ha
  have HB := Lib.hid hb
  clear ha hb
  by_cases hl : xs.length = bs.length
  · have HL := Lib.hid hl
    have hli : ((xs.length : Int) == (bs.length : Int)) = true := by rw [beq_iff_eq]; omega
    have hln : ((xs.length : Int) != (bs.length : Int)) = false := by rw [bne_eq_false_iff_eq]; omega
    clear hl
    go_enter Try.func93, Try.ntmps93
    go_wp2
    go_loopw [13] (fun v wr => ∃ j : Nat, j ≤ xs.length ∧ v = .int .i64 j ∧ Hid (∀ i, i < j → xs.getD i e0 = bs.getD i e0) ∧ Hid (Ents wr oa A xs) ∧ Hid (Ents wr ob B bs) ∧ Hid (Below w.heap.size w wr)) (fun v _ => xs.length - (intOf v).toNat)
    case atStart => exact ⟨0, by omega, rfl, fun i hi => by omega, HA, HB, Below.refl _ _⟩
    case round =>
      clear HA HB
      obtain ⟨j, hj, rfl, HN, HA, HB, HW⟩ := hrel
      by_cases hlt : j < xs.length
      · have hlb : j < bs.length := by have := HL.out; omega
        obtain ⟨b, o, hA⟩ := HA.out.some_ (by omega)
        subst hA
        obtain ⟨b', o', hB⟩ := HB.out.some_ (by omega)
        subst hB
        have hc := HA.out.cells hlt
        have hd := HB.out.cells hlb
        obtain ⟨p, hp⟩ : ∃ p, p = xs.getD j e0 := ⟨_, rfl⟩
        obtain ⟨q, hq⟩ : ∃ q, q = bs.getD j e0 := ⟨_, rfl⟩
        have HP := Lib.hid hp
        have HQ := Lib.hid hq
        rw [← hp] at hc
        rw [← hq] at hd
        obtain ⟨c0, c1, c2, c3⟩ := hc
        obtain ⟨d0, d1, d2, d3⟩ := hd
        obtain ⟨p1, p2, p3, p4⟩ := p
        obtain ⟨q1, q2, q3, q4⟩ := q
        have HAd : Hid (Ents wr.drew oa (some ⟨b, o, none⟩) xs) := Lib.hid ⟨HA.out.at_⟩
        have HBd : Hid (Ents wr.drew ob (some ⟨b', o', none⟩) bs) := Lib.hid ⟨HB.out.at_⟩
        have HWd : Hid (Below w.heap.size w wr.drew) := ⟨HW.out.os, HW.out.tape, HW.out.output, HW.out.size, HW.out.block⟩
        have hji : (j : Int) < (bs.length : Int) := by omega
        have HLB := Lib.hid hlb
        have hne : ∀ (h : Ent.mk p1 p2 p3 p4 ≠ Ent.mk q1 q2 q3 q4), Hid (xs ≠ bs) := fun h => Lib.hid (fun e => by
          have h1 := HP.out
          rw [e, ← HQ.out] at h1
          exact h h1)
        have HNE := Lib.hid hne
        clear hp hq HA HB HW hlb hne
        simp only at c0 c1 c2 c3 d0 d1 d2 d3
        by_cases e1 : p1 = q1
        · by_cases e2 : p2 = q2
          · by_cases e3 : p3 = q3
            · by_cases e4 : p4 = q4
              · subst e1 e2 e3 e4
                have HN2 : Hid (∀ i, i < j + 1 → xs.getD i e0 = bs.getD i e0) := Lib.hid (fun i hi => by
                  by_cases e : i = j
                  · subst e
                    rw [← HP.out, ← HQ.out]
                  · exact HN.out i (by omega))
                clear HNE
                go_wp2_with fail
                go_region
                go_wp2
                go_roundw
                case rel => exact ⟨j + 1, by omega, by go_num, HN2, HAd, HBd, HWd⟩
                case measure => simp [intOf]; omega
              · have HE := HNE.out (fun h => e4 (by injection h))
                subst e1 e2 e3
                have b1 : (p4 == q4) = false := by rw [beq_eq_false_iff_ne]; exact e4
                clear e4 HNE
                go_wp2_with fail
                go_region
                go_wp2
                go_ret
                exact ⟨ret_bool (decide_eq_false HE.out).symm, HWd.out⟩
            · have HE := HNE.out (fun h => e3 (by injection h))
              subst e1 e2
              have b1 : ((p3 : Int) == (q3 : Int)) = false := by rw [beq_eq_false_iff_ne]; omega
              clear e3 HNE
              go_wp2_with fail
              go_region
              go_wp2
              go_ret
              exact ⟨ret_bool (decide_eq_false HE.out).symm, HWd.out⟩
          · have HE := HNE.out (fun h => e2 (by injection h))
            subst e1
            have b1 : (p2 == q2) = false := by rw [beq_eq_false_iff_ne]; exact e2
            clear e2 HNE
            go_wp2_with fail
            go_region
            go_wp2
            go_ret
            exact ⟨ret_bool (decide_eq_false HE.out).symm, HWd.out⟩
        · have HE := HNE.out (fun h => e1 (by injection h))
          have b1 : (p1 == q1) = false := by rw [beq_eq_false_iff_ne]; exact e1
          clear e1 HNE
          go_wp2_with fail
          go_region
          go_wp2
          go_ret
          exact ⟨ret_bool (decide_eq_false HE.out).symm, HWd.out⟩
      · obtain rfl : j = xs.length := by omega
        have HE : Hid (xs = bs) := Lib.hid (by
          apply List.ext_getElem HL.out
          intro i h1 h2
          have h := HN.out i h1
          rwa [List.getD_eq_getElem?_getD, List.getD_eq_getElem?_getD, List.getElem?_eq_getElem h1, List.getElem?_eq_getElem h2] at h)
        go_wp2
        go_ret
        exact ⟨ret_bool (decide_eq_true HE.out).symm, HW.out⟩
  · have HE : Hid (xs ≠ bs) := Lib.hid (fun e => hl (by rw [e]))
    have hli : ((xs.length : Int) == (bs.length : Int)) = false := by rw [beq_eq_false_iff_ne]; omega
    have hln : ((xs.length : Int) != (bs.length : Int)) = true := by rw [bne_iff_ne]; omega
    clear hl
    go_enter Try.func93, Try.ntmps93
    go_wp2
    go_ret
    exact ⟨ret_bool (decide_eq_false HE.out).symm, Below.refl _ _⟩

theorem wpList_exec {P : Program} {ops : Array Oper} {rest : List Oper} {o : Oper} {a : Act} {w : World} {Q : Exit → Act → World → Prop} (hgd : o.guard = none) (v : Value) (he : (execOp a.eval o).run P w = .ok (.value v) w)
    (h : wpList P ops Q rest (a.put o.dst v) w) : wpList P ops Q (o :: rest) a w :=
  wpList_plain hgd fun _ hK => by
    unfold Oper.wp
    rw [he]
    exact hK _ _ h
theorem size23k : (Try.prog.info? 23).map (·.size) = some 1 := by kernel_rfl
def eqV (f g : Nat → Nat) : Bool := decide (∀ i ∈ List.range 8, f i = g i)
theorem eql27 (f g : Nat → Nat) {q : Bool} (hq : eqV f g = q) {ev : Operand → Value} {o : Oper} {w : World} (x y : Operand) (ho : o.op = .binOp .eql 27 x y 27) (hx : ev x = vecV f) (hy : ev y = vecV g) : (execOp ev o).run Try.prog w = .ok (.value (.bool q)) w := by
  unfold execOp
  simp only [ho, hx, hy]
  have h := run_eql_arr (P := Try.prog) 27 23 8 .u64 .u64 Try.underlying27 Try.underlying23 size23k (fun w => by kernel_rfl) f g w
  have e := hq
  unfold eqV at e
  have e2 : ∀ (P : Prop) [Decidable P], (P ↔ ∀ i ∈ List.range 8, f i = g i) → decide P = q := fun P _ hP => by rw [← e]; exact decide_eq_decide.2 hP
  rw [e2 _ (by simp [List.mem_range])] at h
  simp [eqGuard, Sem.run_bind, h, Result.andThen]
/-- Equal carts. -/
def sameC (f g : Nat → Nat) (xs ys : List Ent) : Bool := eqV f g && decide (xs = ys)
set_option maxRecDepth 100000 in
set_option maxHeartbeats 4000000 in
theorem csame_any (f g : Nat → Nat) (xs ys : List Ent) (c c' : Nat) (A B : Option Addr) (w : World) (ha : Ents w (· < w.heap.size) A xs) (hb : Ents w (· < w.heap.size) B ys) (hm : xs.length ≤ 9223372036854775807) :
    Calls Try.prog 52 #[cartV f A xs.length c, cartV g B ys.length c'] w fun e w' => e = .returned (.bool (sameC f g xs ys)) ∧ Below w.heap.size w w' := by
  have hb2 := below2 w (.cells (cartC f A xs.length c) 56) (.cells (cartC g B ys.length c') 56)
  obtain ⟨w1, hw1⟩ : ∃ w1, w1 = (w.alloc (.cells (cartC f A xs.length c) 56)).alloc (.cells (cartC g B ys.length c') 56) := ⟨_, rfl⟩
  rw [← hw1] at hb2
  have hC : CartAt w1 w.heap.size f A xs.length c := by
    rw [hw1]
    exact ((below1 (w.alloc (.cells (cartC f A xs.length c) 56)) (.cells (cartC g B ys.length c') 56)).block _ (by simp)).trans (CartAt.new w f A xs.length c)
  have hD : CartAt w1 (w.heap.size + 1) g B ys.length c' := by
    have h := CartAt.new (w.alloc (.cells (cartC f A xs.length c) 56)) g B ys.length c'
    rw [World.size_alloc] at h
    rw [hw1]
    exact h
  have HC := Lib.hid hC
  have HD := Lib.hid hD
  have c8 := hC.c8
  have d8 := hD.c8
  have HB := Lib.hid hb2
  have HE := Lib.hid (equalE_any xs ys c c' A B w1 (ha.below hb2) (hb.below hb2) hm)
  have HW := Lib.hid hw1
  have s27 := Lib.hid (size27f f)
  have s27' := Lib.hid (size27f g)
  clear ha hb hm hw1 hb2 hC hD
  cases hh : eqV f g with
  | false =>
    have HQ : Hid (sameC f g xs ys = false) := Lib.hid (by unfold sameC; rw [hh]; rfl)
    have HH := Lib.hid hh
    clear hh
    go_enter Try.func52, Try.ntmps52
    go_wp2_with (first
      | (rw [← HW.out]; refine wpList_load_arr rfl 27 _ rfl w.heap.size 0 rfl (arrOf .u64 8 f) _ HC.out.vec Try.underlying27 rfl s27.out ?_)
      | (refine wpList_load_arr rfl 27 _ rfl (w.heap.size + 1) 0 rfl (arrOf .u64 8 g) _ HD.out.vec Try.underlying27 rfl s27'.out ?_)
      | (refine wpList_exec rfl _ (eql27 f g HH.out (.tmp 6) (.tmp 8) rfl rfl rfl) ?_)
      | fail)
    go_ret
    refine ⟨?_, HB.out⟩
    rw [HQ.out]
    rfl
  | true =>
    have HQ : Hid (sameC f g xs ys = decide (xs = ys)) := Lib.hid (by unfold sameC; rw [hh]; rfl)
    have HH := Lib.hid hh
    clear hh
    obtain ⟨q, hq⟩ : ∃ q, q = decide (xs = ys) := ⟨_, rfl⟩
    rw [← hq] at HE HQ
    clear hq
    go_enter Try.func52, Try.ntmps52
    go_wp2_with (first
      | (rw [← HW.out]; refine wpList_load_arr rfl 27 _ rfl w.heap.size 0 rfl (arrOf .u64 8 f) _ HC.out.vec Try.underlying27 rfl s27.out ?_)
      | (refine wpList_load_arr rfl 27 _ rfl (w.heap.size + 1) 0 rfl (arrOf .u64 8 g) _ HD.out.vec Try.underlying27 rfl s27'.out ?_)
      | (refine wpList_exec rfl _ (eql27 f g HH.out (.tmp 6) (.tmp 8) rfl rfl rfl) ?_)
      | fail)
    refine HE.out.mono ?_
    rintro e w2 ⟨rfl, hb⟩
    have HB2 := Lib.hid (HB.out.trans (hb.mono HB.out.size))
    clear hb
    go_wp2_with fail
    go_ret
    refine ⟨?_, HB2.out⟩
    rw [HQ.out]
    rfl
end Go.Proofs.Ytnpacjdgbmldlaa

/- cart.IsOff, and what it asks: slices.ContainsFunc of entries. -/
namespace Go.Proofs.Ytnpacjdgbmldlaa
open Go.RowKit

theorem eql25 (a : Int) (m : Nat) (b : Int) (n : Nat) {q : Bool} (hq : decide (a = b ∧ m = n) = q) {ev : Operand → Value} {o : Oper} {w : World} (x y : Operand) (ho : o.op = .binOp .eql 25 x y 25) (hx : ev x = dotV a m) (hy : ev y = dotV b n) : (execOp ev o).run Try.prog w = .ok (.value (.bool q)) w := by
  unfold execOp
  simp only [ho, hx, hy]
  have h : (Op.equalIn Op.maxDepth 25 (dotV a m) (dotV b n)).run Try.prog w = .ok q w := by
    have h0 : (Op.equalIn 10000 25 (Value.agg #[Value.int IntKind.i64 a, Value.int IntKind.u64 (m : Int)]) (Value.agg #[Value.int IntKind.i64 b, Value.int IntKind.u64 (n : Int)])).run Try.prog w = .ok (decide (a = b ∧ m = n)) w := by
      by_cases h1 : a = b
      · subst h1
        by_cases h2 : m = n
        · subst h2
          go_simp
        · have h3 : ((m : Int) == (n : Int)) = false := by rw [beq_eq_false_iff_ne]; omega
          go_simp
      · have h3 : (a == b) = false := by rw [beq_eq_false_iff_ne]; exact h1
        go_simp
    rw [hq] at h0
    exact h0
  simp [eqGuard, Sem.run_bind, binOp, Op.equal, h, Result.andThen]

/-- An entry in its box, and a dot in another one. -/
structure CI (w : World) (e : Ent) (B : Nat) (d : Dt) (x : World) : Prop where
  e : EntAt x w.heap.size e
  d : DotAt x B 25 d.1 d.2
  below : Below w.heap.size w x
theorem CI.then_ {w x y : World} {e : Ent} {B : Nat} {d : Dt} (hb : Below x.heap.size x y) (h : CI w e B d x) : CI w e B d y := ⟨h.e.below hb (lt_of_row h.e), (hb.block _ (lt_of_row h.d)).trans h.d, h.below.trans (hb.mono h.below.size)⟩
theorem CI.drew {w x : World} {e : Ent} {B : Nat} {d : Dt} (h : CI w e B d x) : CI w e B d x.drew := CI.then_ (x := x) (y := x.drew) ⟨rfl, rfl, rfl, Nat.le_refl _, fun _ _ => rfl⟩ h
def Ent.isDot (e : Ent) (d : Dt) : Bool := decide (e.node = d.1 ∧ e.n = d.2)

set_option maxRecDepth 100000 in
set_option maxHeartbeats 4000000 in
theorem isoff1_any (e : Ent) (d : Dt) (B : Nat) (w : World) (h : DotAt w B 25 d.1 d.2) :
    Calls Try.prog 87 #[entV e, .pointer (some ⟨B, 0, none⟩)] w fun e' w' => e' = .returned (.bool (e.isDot d)) ∧ Below w.heap.size w w' := by
  have HI : Hid (CI w e B d (w.alloc (.cells (entC e) 58))) := Lib.hid ⟨heap_alloc_new _ _, ((below1 w (.cells (entC e) 58)).block _ (lt_of_row h)).trans h, below1 _ _⟩
  have HQ : Hid (decide (e.node = d.1 ∧ e.n = d.2) = e.isDot d) := Lib.hid rfl
  clear h
  go_enter Try.func87, Try.ntmps87
  go_wp2_with fail
  refine WM.wp_region_kinds (fun _ x y => Below x.heap.size x y) (fun _ x => CI w e B d x) (fun x => CI w e B d x)
    [(0, .val (entV e) fun _ => True), (1, .val (dotV e.node e.n) fun _ => True), (2, .val (dotV d.1 d.2) fun _ => True)] (by kernel_rfl) (by kernel_rfl) (fun _ _ _ hb h => h.then_ hb) (fun _ _ _ _ _ hb h => h.then_ hb) ?_ HI.out.drew (fun _ => HI.out.drew) ?_
  · intro z hz
    simp only [List.mem_cons, List.mem_nil_iff, or_false] at hz
    rcases hz with rfl | rfl | rfl <;> exact fun _ _ _ _ _ _ => trivial
  refine WM.mono_val rfl rfl (fun x hD hF => ?_) ?_
  · have hl := run_loadVar_arr (P := Try.prog) x w.heap.size 0 58 (entC e) _ hD.e.range Try.underlying58 rfl (ent_size58 _)
    rw [exec_load 58 (.tmp 2) rfl w.heap.size 0 rfl hl]
    exact ⟨Below.refl _ _, rfl, trivial⟩
  apply Exists.intro
  refine ⟨by simp only [Act.put, List.setIfInBounds_toArray, List.set_cons_succ, List.set_cons_zero]; rfl, ?_⟩
  refine WM.mono_val rfl rfl (fun x hD hF => ?_) ?_
  · go_simp
    refine (cdot_any e x).mono ?_
    rintro e' y ⟨rfl, hg⟩
    exact ⟨_, rfl, hg, rfl⟩
  apply Exists.intro
  refine ⟨by simp only [Act.put, List.setIfInBounds_toArray, List.set_cons_succ, List.set_cons_zero]; rfl, ?_⟩
  refine WM.mono_val rfl rfl (fun x hD hF => ?_) ?_
  · have hl := run_loadVar_arr (P := Try.prog) x B 0 25 _ _ hD.d.range Try.underlying25 rfl size25
    rw [exec_load 25 (.tmp 1) rfl B 0 rfl hl]
    exact ⟨Below.refl _ _, rfl, trivial⟩
  apply Exists.intro
  refine ⟨by simp only [Act.put, List.setIfInBounds_toArray, List.set_cons_succ, List.set_cons_zero]; rfl, ?_⟩
  refine WM.mono_pure rfl rfl ?_
  refine ⟨.bool (e.isDot d), fun x => ?_, ?_⟩
  · exact eql25 e.node e.n d.1 d.2 HQ.out (.tmp 5) (.tmp 6) rfl rfl rfl
  apply Exists.intro
  refine ⟨by simp only [Act.put, List.setIfInBounds_toArray, List.set_cons_succ, List.set_cons_zero]; rfl, ?_⟩
  iterate 1
    refine WM.mono_pure rfl rfl ?_
    apply Exists.intro
    refine ⟨fun x => ?_, ?_⟩
    · go_simp
      rfl
    apply Exists.intro
    refine ⟨by simp only [Act.put, List.setIfInBounds_toArray, List.set_cons_succ, List.set_cons_zero]; rfl, ?_⟩
  refine WM.mono_nil ?_
  intro x hD hF
  replace HI := Lib.hid hD
  clear hD hF
  go_simp
  go_wp2
  go_ret
  exact ⟨rfl, HI.out.below⟩

/-- The first entry that p takes. -/
def IdxE (ls : List Ent) (p : Ent → Bool) (w : World) (e : Ending) (w' : World) : Prop := ∃ r : Int, e = .returned (.int .i64 r) ∧ decide (0 ≤ r) = ls.any p ∧ Below w.heap.size w w'
theorem any_take (ls : List Ent) (p : Ent → Bool) {j : Nat} (h : j < ls.length) (ha : (ls.take j).any p = false) : (ls.take (j + 1)).any p = p (ls.getD j e0) := by
  rw [List.take_add_one, List.any_append, ha, List.getElem?_eq_getElem h, List.getD_eq_getElem?_getD, List.getElem?_eq_getElem h]
  simp
set_option maxRecDepth 100000 in
set_option maxHeartbeats 4000000 in
theorem indexE_any (ls : List Ent) (p : Ent → Bool) (g : Nat) (lb : Array Value) (c : Nat) (A : Option Addr) (w : World) (hE : Enters g) (hv : Ents w (· < w.heap.size) A ls) (hm : ls.length ≤ 100000)
    (hf : ∀ (e : Ent) W, Below w.heap.size w W → Calls Try.prog g (#[entV e] ++ lb) W fun e' W' => e' = .returned (.bool (p e)) ∧ Below W.heap.size W W') :
    Calls Try.prog 117 #[.slice A ls.length c, .func (.func g) #[] lb] w (IdxE ls p w) := by
  have HV := Lib.hid hv
  have HM := Lib.hid hm
  have HF := Lib.hid hf
  have eg : ∀ args w, (callFunc g args).run Try.prog w = .ok (.enter g args) w := hE
  clear hv hm hf hE
  go_enter Try.func117, Try.ntmps117
  go_wp2
  go_loopw [8] (fun v wr => ∃ j : Nat, j ≤ ls.length ∧ v = .int .i64 j ∧ Hid ((ls.take j).any p = false) ∧ Hid (Ents wr (· < w.heap.size) A ls) ∧ Hid (Below w.heap.size w wr)) (fun v _ => ls.length - (intOf v).toNat)
  case atStart => exact ⟨0, by omega, rfl, Lib.hid (by simp), HV, Lib.hid (Below.refl _ _)⟩
  case round =>
    clear HV
    obtain ⟨j, hj, rfl, HN, HV, HB⟩ := hrel
    by_cases hlt : j < ls.length
    · obtain ⟨b, o, hA⟩ := HV.out.some_ (by omega)
      subst hA
      obtain ⟨d, hd⟩ : ∃ d, d = ls.getD j e0 := ⟨_, rfl⟩
      have hr : Hid (rangeA wr b (o + j * 4) (entC d)) := Lib.hid (by rw [hd]; exact HV.out.at_j hlt)
      have s58 := Lib.hid (ent_size58 d)
      have eJ : IntKind.i64.wrap ((j : Int) + 1) = (j : Int) + 1 := by have := HM.out; rw [IntKind.wrap_i64]; omega
      have HT : Hid ((ls.take (j + 1)).any p = p d) := Lib.hid (by rw [hd]; exact any_take ls p hlt HN.out)
      have HC := Lib.hid (HF.out d wr HB.out)
      clear hd
      cases hp : p d with
      | true =>
        rw [hp] at HC HT
        have HA : Hid (ls.any p = true) := Lib.hid (by
          rw [List.any_eq_true]
          obtain ⟨x, h1, h2⟩ := List.any_eq_true.1 HT.out
          exact ⟨x, List.mem_of_mem_take h1, h2⟩)
        clear hp
        go_wp2_with (first
          | (refine wpList_load_arr rfl 58 _ rfl b (o + j * 4) rfl (entC d) _ hr.out Try.underlying58 rfl s58.out ?_)
          | (go_at_fn g; refine HC.out.mono ?_; rintro e w2 ⟨rfl, hb⟩; have HB2 := Lib.hid (HB.out.trans (hb.mono HB.out.size)); clear hb))
        go_ret
        exact ⟨_, rfl, by rw [HA.out]; exact decide_eq_true (by omega), HB2.out⟩
      | false =>
        rw [hp] at HC HT
        clear hp
        go_wp2_with (first
          | (refine wpList_load_arr rfl 58 _ rfl b (o + j * 4) rfl (entC d) _ hr.out Try.underlying58 rfl s58.out ?_)
          | (go_at_fn g; refine HC.out.mono ?_; rintro e w2 ⟨rfl, hb⟩; have HB2 := Lib.hid (HB.out.trans (hb.mono HB.out.size)); have HV2 := Lib.hid (HV.out.below (hb.mono HB.out.size)); clear hb))
        go_roundw
        all_goals clear eJ
        case rel => exact ⟨j + 1, by omega, by go_num, HT, HV2, HB2⟩
        case measure => simp [intOf]; omega
    · obtain rfl : j = ls.length := by omega
      rw [List.take_length] at HN
      go_wp2
      go_ret
      exact ⟨_, rfl, by rw [HN.out]; exact decide_eq_false (by omega), HB.out⟩
theorem enters117 : Enters 117 := enters_of Try.func117 (by kernel_rfl) rfl
set_option maxRecDepth 100000 in
set_option maxHeartbeats 1000000 in
theorem contE_any (ls : List Ent) (p : Ent → Bool) (g : Nat) (lb : Array Value) (c : Nat) (A : Option Addr) (w : World) (hE : Enters g) (hv : Ents w (· < w.heap.size) A ls) (hm : ls.length ≤ 100000)
    (hf : ∀ (e : Ent) W, Below w.heap.size w W → Calls Try.prog g (#[entV e] ++ lb) W fun e' W' => e' = .returned (.bool (p e)) ∧ Below W.heap.size W W') :
    Calls Try.prog 86 #[.slice A ls.length c, .func (.func g) #[] lb] w fun e w' => e = .returned (.bool (ls.any p)) ∧ Below w.heap.size w w' := by
  have HI := Lib.hid (indexE_any ls p g lb c A w hE hv hm hf)
  clear hE hv hm hf
  go_enter Try.func86, Try.ntmps86
  go_wp2_with fail
  refine HI.out.mono ?_
  rintro e w1 ⟨r, rfl, hr, hb⟩
  have HR := Lib.hid hr
  have HB := Lib.hid hb
  clear hr hb HI
  go_wp2_with fail
  go_ret
  exact ⟨ret_bool HR.out, HB.out⟩
theorem enters87 : Enters 87 := enters_of Try.func87 (by kernel_rfl) rfl
/-- Is a dot off? -/
def offE (f : Nat → Nat) (ls : List Ent) (d : Dt) : Bool := Vec.has f d.1 d.2 && !ls.any (·.isDot d)
set_option maxRecDepth 100000 in
set_option maxHeartbeats 4000000 in
theorem isoff_any (f : Nat → Nat) (ls : List Ent) (c : Nat) (A : Option Addr) (d : Dt) (w : World) (hv : Ents w (· < w.heap.size) A ls) (hm : ls.length ≤ 100000) :
    Calls Try.prog 47 #[cartV f A ls.length c, dotV d.1 d.2] w fun e w' => e = .returned (.bool (offE f ls d)) ∧ Below w.heap.size w w' := by
  have hb2 := below2 w (.cells (cartC f A ls.length c) 56) (.cells #[.int .i64 d.1, .int .u64 (d.2 : Int)] 25)
  obtain ⟨w1, hw1⟩ : ∃ w1, w1 = (w.alloc (.cells (cartC f A ls.length c) 56)).alloc (.cells #[.int .i64 d.1, .int .u64 (d.2 : Int)] 25) := ⟨_, rfl⟩
  rw [← hw1] at hb2
  have hC : CartAt w1 w.heap.size f A ls.length c := by
    rw [hw1]
    exact ((below1 (w.alloc (.cells (cartC f A ls.length c) 56)) (.cells #[.int .i64 d.1, .int .u64 (d.2 : Int)] 25)).block _ (by simp)).trans (CartAt.new w f A ls.length c)
  have hD : DotAt w1 (w.heap.size + 1) 25 d.1 d.2 := by
    have h := DotAt.new (w.alloc (.cells (cartC f A ls.length c) 56)) 25 d.1 d.2
    rw [World.size_alloc] at h
    rw [hw1]
    exact h
  have HC := Lib.hid hC
  have HD := Lib.hid hD
  have HB := Lib.hid hb2
  have HV := Lib.hid ((hv.below hb2))
  have HM := Lib.hid hm
  have HW := Lib.hid hw1
  have s27 := Lib.hid (size27f f)
  have s25 := Lib.hid (dot_size25 d)
  clear hv hm hw1 hb2 hC hD
  cases hh : Vec.has f d.1 d.2 with
  | false =>
    have HE : Hid (offE f ls d = false) := Lib.hid (by unfold offE; rw [hh]; rfl)
    have HH := Lib.hid (has_any f d.1 d.2 w1)
    rw [hh] at HH
    clear hh
    go_enter Try.func47, Try.ntmps47
    go_wp2_with (first
      | (rw [← HW.out]; refine wpList_load_arr rfl 27 _ rfl w.heap.size 0 rfl (arrOf .u64 8 f) _ HC.out.vec Try.underlying27 rfl s27.out ?_)
      | (refine wpList_load_arr rfl 25 _ rfl (w.heap.size + 1) 0 rfl (dotC d) _ HD.out.range Try.underlying25 rfl s25.out ?_)
      | fail)
    refine HH.out.mono ?_
    rintro e w2 ⟨rfl, hb⟩
    have HB2 := Lib.hid (HB.out.trans (hb.mono HB.out.size))
    clear hb
    go_wp2_with fail
    go_ret
    exact ⟨by rw [HE.out]; rfl, HB2.out⟩
  | true =>
    have HE : Hid (offE f ls d = !ls.any (·.isDot d)) := Lib.hid (by unfold offE; rw [hh]; rfl)
    have HH := Lib.hid (has_any f d.1 d.2 w1)
    rw [hh] at HH
    clear hh
    go_enter Try.func47, Try.ntmps47
    go_wp2_with (first
      | (rw [← HW.out]; refine wpList_load_arr rfl 27 _ rfl w.heap.size 0 rfl (arrOf .u64 8 f) _ HC.out.vec Try.underlying27 rfl s27.out ?_)
      | (refine wpList_load_arr rfl 25 _ rfl (w.heap.size + 1) 0 rfl (dotC d) _ HD.out.range Try.underlying25 rfl s25.out ?_)
      | fail)
    refine HH.out.mono ?_
    rintro e w2 ⟨rfl, hb⟩
    have HB2 := Lib.hid (HB.out.trans (hb.mono HB.out.size))
    have HC2 := Lib.hid (HC.out.then_ hb)
    have hD2 : DotAt w2 (w.heap.size + 1) 25 d.1 d.2 := (hb.block _ (lt_of_row HD.out)).trans HD.out
    have c8 := HC2.out.c8
    have HN := Lib.hid (contE_any ls (·.isDot d) 87 #[.pointer (some ⟨w.heap.size + 1, 0, none⟩)] c A w2 enters87 ((HV.out.below (hb.mono HB.out.size)).loose fun b hb' => Nat.lt_of_lt_of_le hb' HB2.out.size) HM.out
      (fun e W hW => isoff1_any e d _ W ((hW.block _ (lt_of_row hD2)).trans hD2)))
    obtain ⟨q, hq⟩ : ∃ q, q = ls.any (·.isDot d) := ⟨_, rfl⟩
    rw [← hq] at HN HE
    clear hb hD2 HC HD hq
    go_wp2_with fail
    refine HN.out.mono ?_
    rintro e w3 ⟨rfl, hb⟩
    have HB3 := Lib.hid (HB2.out.trans (hb.mono HB2.out.size))
    clear hb
    cases q with
    | false =>
      go_wp2_with fail
      go_ret
      exact ⟨by rw [HE.out]; rfl, HB3.out⟩
    | true =>
      go_wp2_with fail
      go_ret
      exact ⟨by rw [HE.out]; rfl, HB3.out⟩
end Go.Proofs.Ytnpacjdgbmldlaa

/- What comes of a fixed cart: the mathematics. -/
namespace Go.Proofs.Ytnpacjdgbmldlaa
open Go.RowKit Go.Lib

theorem sorted_same {l l' : List Ent} (hp : l.Perm l') (h : l.Pairwise fun x y => y.less x = false) (h' : l'.Pairwise fun x y => y.less x = false) : l = l' :=
  List.Perm.eq_of_pairwise (le := fun x y => y.less x = false) (fun a b _ _ h1 h2 => total_ent a b h2 h1) h h' hp
theorem ordE_fix {l : List Ent} (h : l.Pairwise fun x y => y.less x = false) : ordE l = l := sorted_same (ordE_perm l) (ordE_sorted l) h
theorem ordE_same {l l' : List Ent} (hp : l.Perm l') : ordE l = ordE l' := sorted_same ((ordE_perm l).trans (hp.trans (ordE_perm l').symm)) (ordE_sorted l) (ordE_sorted l')
theorem liveE_of (ls : List Ent) : liveE ls = ofF (ls.map Ent.dot) := setF_rt _

def a1 : Ent := ⟨5, 1, 1, 2⟩
def a2 : Ent := ⟨5, 2, 3, -3⟩
def a3 : Ent := ⟨7, 2, 1, 4⟩
abbrev LA : List Ent := [a1, a2, a3]
theorem LA_sorted : LA.Pairwise fun x y => y.less x = false := by decide
theorem LA_ord : ordE LA = LA := ordE_fix LA_sorted
theorem LA_turned : ordE [a3, a1, a2] = LA := by
  rw [← LA_ord]
  exact ordE_same (by decide)
theorem LA_qty : QtyOk LA := by unfold QtyOk; decide
theorem LA_value : valueE LA = [(5, 0), (7, 4)] := by
  unfold valueE
  rw [LA_ord]
  decide
theorem LA_live : (liveE LA).length = 3 := by
  rw [liveE_of]
  decide
theorem LA_right : rightC (fOf [2, 3]) LA = true := by
  unfold rightC
  rw [LA_live]
  decide
theorem LA_get5 : quantE (ofE LA 5) = 0 := by decide
theorem LA_get6 : quantE (ofE LA 6) = 0 := by decide
theorem LA_of5 : (ofE LA 5).length = 2 := by decide
theorem LA_of6 : (ofE LA 6).length = 0 := by decide
theorem LA_off : offE (fOf [2, 3]) LA (1, 2) = true := by decide
theorem LA_on : offE (fOf [2, 3]) LA (1, 1) = false := by decide
theorem LA_same : sameC (fOf [2, 3]) (fOf [2, 3]) LA LA = true := by
  unfold sameC eqV
  simp
theorem LA_cart (A : Option Addr) (n c : Nat) : cartC (fOf [2, 3]) A n c = #[.int .u64 2, .int .u64 3, .int .u64 0, .int .u64 0, .int .u64 0, .int .u64 0, .int .u64 0, .int .u64 0, .slice A n c] := rfl
end Go.Proofs.Ytnpacjdgbmldlaa

/- What comes of a fixed cart. -/
namespace Go.Proofs.Ytnpacjdgbmldlaa
open Go.RowKit Go.Lib

abbrev cL (H : Nat) : Array Value := #[.int .u64 2, .int .u64 3, .int .u64 0, .int .u64 0, .int .u64 0, .int .u64 0, .int .u64 0, .int .u64 0, .slice (some ⟨H, 0, none⟩) 3 3]
def B3 (v : Value) (x : World) : Prop := ∃ g, v = .slice (some ⟨g, 0, none⟩) 3 3 ∧ x.heap[g]? = some (.cells (ents4 [a3, a1, a2]).toArray 58 (0, 0))
def O3 (v : Value) (x : World) : Prop := ∃ g, v = .slice (some ⟨g, 0, none⟩) 3 3 ∧ x.heap[g]? = some (.cells (ents4 LA).toArray 58 (0, 0))
def SlA (n : Nat) (v : Value) (_ : World) : Prop := ∃ A c, v = .slice A n c
def LV2 (v : Value) (x : World) : Prop := ∃ A c, v = .slice A 2 c ∧ Dots x (· < x.heap.size) A [(5, 0), (7, 4)]
theorem wpList_load_arrW {P : Program} {ops : Array Oper} {rest : List Oper} {op : Oper} {a : Act} {w : World} {Q : Exit → Act → World → Prop} (hgd : Region.wanted op (yielded ops a.tmps) = true) (ty : TypeId) (x : Operand) (ho : op.op = .load ty x)
    (b o : Nat) (hx : a.eval x = .pointer (some ⟨b, o, none⟩)) (A : Array Value) (d : TypeDesc) (hc : rangeA w b o A)
    (hu : P.underlying ty = some d) (hd : d.isRow = true) (hi : (P.info? ty).map (·.size) = some A.size)
    (h : wpList P ops Q rest (a.put op.dst (.agg A)) w) : wpList P ops Q (op :: rest) a w :=
  wpList_wanted hgd fun _ hK => by
    unfold Oper.wp execOp
    simp only [ho, hx, Instr.loadAt, Instr.sureAddr, Sem.run_bind, Sem.run_pure, Result.andThen_ok, run_loadVar_arr w b o ty A d hc hu hd hi]
    exact hK _ _ h
theorem size68k : (Try.prog.info? 68).map (·.size) = some 2 := by kernel_rfl
theorem eq68 (a : Int) (n : Nat) (w : World) : (Op.equalIn 10000 68 (Value.agg #[Value.int IntKind.i64 a, Value.int IntKind.u64 (n : Int)]) (Value.agg #[Value.int IntKind.i64 a, Value.int IntKind.u64 (n : Int)])).run Try.prog w = .ok true w := by go_simp
theorem eql68 (a : Int) (n : Nat) {ev : Operand → Value} {o : Oper} {w : World} (x y : Operand) (ho : o.op = .binOp .eql 68 x y 68) (hx : ev x = .agg (dotC (a, n))) (hy : ev y = .agg (dotC (a, n))) : (execOp ev o).run Try.prog w = .ok (.value (.bool true)) w := by
  unfold execOp
  simp only [ho, hx, hy]
  simp [eqGuard, Sem.run_bind, run_eql_struct, eq68, Result.andThen]
/-- The cart, its entries, the lines, the other cart. -/
structure S6 (w : World) (b7 : Nat) (A7 : Option Addr) (Ad : Option Addr) (x : World) : Prop where
  c : CartAt x (w.heap.size + 1) (fOf [2, 3]) (some ⟨w.heap.size, 0, none⟩) 3 3
  e : x.heap[w.heap.size]? = some (.cells (ents4 LA).toArray 58 (0, 0))
  v : Dots x (· < x.heap.size) A7 [(5, 0), (7, 4)]
  d : CartAt x b7 (fOf [2, 3]) Ad 3 3
  below : RowKit.Below w.heap.size w x
  hb : w.heap.size + 2 ≤ b7
  vl : ∀ b o, A7 = some ⟨b, o, none⟩ → b ≠ b7
theorem S6.then_ {w x y : World} {b7 : Nat} {A7 Ad : Option Addr} (hb : RowKit.Below x.heap.size x y) (h : S6 w b7 A7 Ad x) : S6 w b7 A7 Ad y :=
  ⟨h.c.then_ hb, (hb.block _ (lt_of_row h.e)).trans h.e, h.v.grow hb, h.d.then_ hb, h.below.trans (hb.mono h.below.size), h.hb, h.vl⟩
theorem S6.drew {w x : World} {b7 : Nat} {A7 Ad : Option Addr} (h : S6 w b7 A7 Ad x) : S6 w b7 A7 Ad x.drew := S6.then_ (x := x) (y := x.drew) ⟨rfl, rfl, rfl, Nat.le_refl _, fun _ _ => rfl⟩ h
structure S7 (w : World) (b7 bV oV go : Nat) (x : World) : Prop where
  s : S6 w b7 (some ⟨bV, oV, none⟩) (some ⟨go, 0, none⟩) x
  o : x.heap[go]? = some (.cells (ents4 LA).toArray 58 (0, 0))
theorem S7.then_ {w x y : World} {b7 bV oV go : Nat} (hb : RowKit.Below x.heap.size x y) (h : S7 w b7 bV oV go x) : S7 w b7 bV oV go y := ⟨h.s.then_ hb, (hb.block _ (lt_of_row h.o)).trans h.o⟩
theorem S7.drew {w x : World} {b7 bV oV go : Nat} (h : S7 w b7 bV oV go x) : S7 w b7 bV oV go x.drew := S7.then_ (x := x) (y := x.drew) ⟨rfl, rfl, rfl, Nat.le_refl _, fun _ _ => rfl⟩ h
theorem S7.c {w x : World} {b7 bV oV go : Nat} (h : S7 w b7 bV oV go x) : CartAt x (w.heap.size + 1) (fOf [2, 3]) (some ⟨w.heap.size, 0, none⟩) 3 3 := h.s.c
theorem S7.d {w x : World} {b7 bV oV go : Nat} (h : S7 w b7 bV oV go x) : CartAt x b7 (fOf [2, 3]) (some ⟨go, 0, none⟩) 3 3 := h.s.d
theorem S7.v {w x : World} {b7 bV oV go : Nat} (h : S7 w b7 bV oV go x) : Dots x (· < x.heap.size) (some ⟨bV, oV, none⟩) [(5, 0), (7, 4)] := h.s.v
theorem S7.below {w x : World} {b7 bV oV go : Nat} (h : S7 w b7 bV oV go x) : RowKit.Below w.heap.size w x := h.s.below
theorem S7.ec {w x : World} {b7 bV oV go : Nat} (h : S7 w b7 bV oV go x) : Ents x (· < x.heap.size) (some ⟨w.heap.size, 0, none⟩) LA := block_ents h.s.e (lt_of_row h.s.e)
theorem S7.ed {w x : World} {b7 bV oV go : Nat} (h : S7 w b7 bV oV go x) (_ : True) : Ents x (· < x.heap.size) (some ⟨go, 0, none⟩) LA := block_ents h.o (lt_of_row h.o)
theorem cart_set (A B : Option Addr) : (cartC (fOf [2, 3]) A 3 3).setIfInBounds 8 (.slice B 3 3) = cartC (fOf [2, 3]) B 3 3 := rfl
theorem S6.put {w x : World} {b7 bV oV go : Nat} (h : S6 w b7 (some ⟨bV, oV, none⟩) (some ⟨w.heap.size, 0, none⟩) x) (ho : x.heap[go]? = some (.cells (ents4 LA).toArray 58 (0, 0))) :
    S7 w b7 bV oV go (x.setCell ⟨b7, 8, none⟩ (.slice (some ⟨go, 0, none⟩) 3 3)) := by
  have hd := h.d
  unfold CartAt at hd
  have hk : ∀ k, k ≠ b7 → (x.setCell ⟨b7, 8, none⟩ (.slice (some ⟨go, 0, none⟩) 3 3)).heap[k]? = x.heap[k]? := fun k hk => Below.heap_setCell x ⟨b7, 8, none⟩ _ k hk
  have hne : go ≠ b7 := fun e => by
    subst e
    rw [ho] at hd
    injection hd with hd
    injection hd with _ hd
    exact absurd hd (by decide)
  have hs : (x.setCell ⟨b7, 8, none⟩ (.slice (some ⟨go, 0, none⟩) 3 3)).heap.size = x.heap.size := by simp [World.setCell]
  have hb := h.hb
  refine ⟨⟨(hk _ (by omega)).trans h.c, (hk _ (by omega)).trans h.e, ?_, ?_, h.below.trans ⟨rfl, rfl, rfl, by rw [hs]; exact Nat.le_refl _, fun k hk2 => hk k (by omega)⟩, h.hb, h.vl⟩, (hk _ hne).trans ho⟩
  · have hv := h.v
    refine ⟨fun hp => ?_⟩
    obtain ⟨b, o, e, hb2, hc⟩ := hv.at_ hp
    refine ⟨b, o, e, by rw [hs]; exact hb2, fun j hj i v hi => ?_⟩
    have h1 := hc j hj i v hi
    rw [World.cell?_of_block (w := x) (a := ⟨b, o + j * 2 + i, none⟩) (hk b (h.vl b o e))]
    exact h1
  · show (x.setCell ⟨b7, 8, none⟩ (.slice (some ⟨go, 0, none⟩) 3 3)).heap[b7]? = _
    rw [setCell_eq_setRow x b7 8 _ 56 (0, 0) _ hd, setRow_heap x b7 _ _ 56 (0, 0) hd, cart_set]

set_option maxRecDepth 100000 in
set_option maxHeartbeats 16000000 in
theorem alive6_any (w : World) : Calls Try.prog 42 #[] w fun e w' => e = .returned (.bool true) ∧ RowKit.Below w.heap.size w w' := by
  obtain ⟨w1, hw1⟩ : ∃ w1, w1 = w.alloc (.cells (ents4 LA).toArray 58) := ⟨_, rfl⟩
  have hb1 : RowKit.Below w.heap.size w w1 := by rw [hw1]; exact below1 _ _
  have hs1 : w1.heap.size = w.heap.size + 1 := by rw [hw1]; simp
  have hE1 : w1.heap[w.heap.size]? = some (.cells (ents4 LA).toArray 58 (0, 0)) := by rw [hw1]; exact heap_alloc_new _ _
  obtain ⟨w2, hw2⟩ : ∃ w2, w2 = w1.alloc (.cells (cartC (fOf [2, 3]) (some ⟨w.heap.size, 0, none⟩) 3 3) 56) := ⟨_, rfl⟩
  have hb2 : RowKit.Below w.heap.size w w2 := by rw [hw2]; exact hb1.trans ((below1 _ _).mono hb1.size)
  have hC2 : CartAt w2 (w.heap.size + 1) (fOf [2, 3]) (some ⟨w.heap.size, 0, none⟩) 3 3 := by
    rw [hw2, ← hs1]
    exact CartAt.new _ _ _ _ _
  have hE2 : w2.heap[w.heap.size]? = some (.cells (ents4 LA).toArray 58 (0, 0)) := by rw [hw2]; exact ((below1 w1 _).block _ (lt_of_row hE1)).trans hE1
  have HLW : Hid ((w.alloc (.cells #[.int .i64 5, .int .i64 1, .int .u64 1, .int .i64 2, .int .i64 5, .int .i64 2, .int .u64 3, .int .i64 (-3), .int .i64 7, .int .i64 2, .int .u64 1, .int .i64 4] 58)).alloc (.cells (cL w.heap.size) 56) = w2) := Lib.hid (by rw [hw2, hw1]; rfl)
  have HV : Hid (Calls Try.prog 48 #[.agg (cL w.heap.size)] w2 fun e w' => ∃ v, e = .returned v ∧ w'.ownsRow w2.heap.size 68 2 v 2 (dots2 [(5, 0), (7, 4)]) ∧ RowKit.Below w2.heap.size w2 w') := Lib.hid (by
    have h := value_any (fOf [2, 3]) LA 3 (some ⟨w.heap.size, 0, none⟩) w2 (block_ents hE2 (lt_of_row hE2)) (by decide) LA_qty
    rw [LA_value] at h
    exact h)
  have HB2 := Lib.hid hb2
  have HC2 := Lib.hid hC2
  have HE2 := Lib.hid hE2
  have HS2 : Hid (w.heap.size + 2 ≤ w2.heap.size) := Lib.hid (by rw [hw2]; simp; omega)
  have s56 : Hid ((Try.prog.info? 56).map (·.size) = some (cL w.heap.size).size) := Lib.hid (by kernel_rfl)
  clear hw1 hb1 hs1 hE1 hw2 hb2 hC2 hE2
  go_enter Try.func42, Try.ntmps42
  go_wp2_with fail
  rw [HLW.out]
  refine HV.out.mono ?_
  rintro e w3 ⟨v3, rfl, ho3, hb3⟩
  obtain ⟨A7, c7, e7, hd7, _⟩ := own_dots ho3
  subst e7
  obtain ⟨bV, oV, hA7, hbV, _⟩ := hd7.at_ (by decide)
  subst hA7
  have HC3 := Lib.hid (HC2.out.then_ hb3)
  have HE3 := Lib.hid ((hb3.block _ (lt_of_row HE2.out)).trans HE2.out)
  have HB3 := Lib.hid (HB2.out.trans (hb3.mono HB2.out.size))
  have HD3 : Hid (Dots w3 (· < w3.heap.size) (some ⟨bV, oV, none⟩) [(5, 0), (7, 4)]) := Lib.hid (hd7.loose fun b h => h.2)
  have HBV := Lib.hid hbV.2
  have hr3 : rangeA w3 (w.heap.size + 1) 0 (cL w.heap.size) := HC3.out.range
  have HR3 := Lib.hid hr3
  have HG : Hid (Calls Try.prog 43 #[.agg (cL w.heap.size), .int .i64 5] w3 fun e w' => e = .returned (.tuple #[.int .u64 0, .bool true]) ∧ RowKit.Below w3.heap.size w3 w') := Lib.hid (by
    have h := cget_any (fOf [2, 3]) LA 3 (some ⟨w.heap.size, 0, none⟩) 5 w3 (block_ents HE3.out (lt_of_row HE3.out)) (by decide) LA_qty
    rw [LA_get5, LA_of5] at h
    exact h)
  have HS3 := Lib.hid (Nat.le_trans HS2.out hb3.size)
  clear ho3 hd7 hbV hb3 hr3 HV HC2 HE2 HB2 HLW HS2
  go_wp2_with (first
    | (refine wpList_load_arr rfl 56 _ rfl (w.heap.size + 1) 0 rfl (cL w.heap.size) _ HR3.out Try.underlying56 rfl s56.out ?_)
    | fail)
  refine HG.out.mono ?_
  rintro e w4 ⟨rfl, hb4⟩
  have HC4 := Lib.hid (HC3.out.then_ hb4)
  have HE4 := Lib.hid ((hb4.block _ (lt_of_row HE3.out)).trans HE3.out)
  have HB4 := Lib.hid (HB3.out.trans (hb4.mono HB3.out.size))
  have HD4 := Lib.hid (HD3.out.grow hb4)
  have hr4 : rangeA w4 (w.heap.size + 1) 0 (cL w.heap.size) := HC4.out.range
  have HR4 := Lib.hid hr4
  have HG4 : Hid (Calls Try.prog 43 #[.agg (cL w.heap.size), .int .i64 6] w4 fun e w' => e = .returned (.tuple #[.int .u64 0, .bool false]) ∧ RowKit.Below w4.heap.size w4 w') := Lib.hid (by
    have h := cget_any (fOf [2, 3]) LA 3 (some ⟨w.heap.size, 0, none⟩) 6 w4 (block_ents HE4.out (lt_of_row HE4.out)) (by decide) LA_qty
    rw [LA_get6, LA_of6] at h
    exact h)
  have HBV4 := Lib.hid (Nat.lt_of_lt_of_le HBV.out hb4.size)
  have HS4 := Lib.hid (Nat.le_trans HS3.out hb4.size)
  clear hb4 hr4 HG HC3 HE3 HB3 HD3 HR3 HBV HS3
  go_wp2_with (first
    | (refine wpList_load_arr rfl 56 _ rfl (w.heap.size + 1) 0 rfl (cL w.heap.size) _ HR4.out Try.underlying56 rfl s56.out ?_)
    | fail)
  refine HG4.out.mono ?_
  rintro e w5 ⟨rfl, hb5⟩
  have HC5 := Lib.hid (HC4.out.then_ hb5)
  have hr5 : rangeA w5 (w.heap.size + 1) 0 (cL w.heap.size) := HC5.out.range
  have HR5 := Lib.hid hr5
  have hb6 := below1 w5 (.cells (cL w.heap.size) 56)
  have hBV5 := Nat.lt_of_lt_of_le HBV4.out hb5.size
  have HS6 : Hid (S6 w w5.heap.size (some ⟨bV, oV, none⟩) (some ⟨w.heap.size, 0, none⟩) (w5.alloc (.cells (cL w.heap.size) 56))) := Lib.hid
    ⟨HC5.out.then_ hb6, (hb6.block _ (Nat.lt_of_lt_of_le (lt_of_row HE4.out) hb5.size)).trans ((hb5.block _ (lt_of_row HE4.out)).trans HE4.out), (HD4.out.grow hb5).grow hb6, heap_alloc_new _ _,
      (HB4.out.trans (hb5.mono HB4.out.size)).trans (hb6.mono (Nat.le_trans HB4.out.size hb5.size)), Nat.le_trans HS4.out hb5.size, fun b o e => by injection e with e; injection e with e _; omega⟩
  have hN := Lib.hid (heap_alloc_new w5 (.cells #[.int .u64 0, .int .u64 0, .int .u64 0, .int .u64 0, .int .u64 0, .int .u64 0, .int .u64 0, .int .u64 0, .slice none 0 0] 56))
  have z9 : Hid ((#[.int .u64 0, .int .u64 0, .int .u64 0, .int .u64 0, .int .u64 0, .int .u64 0, .int .u64 0, .int .u64 0, .slice none 0 0] : Array Value).size = (cL w.heap.size).size) := Lib.hid rfl
  have o9 : Hid ((cL w.heap.size).all (·.oneCell') = true) := Lib.hid (by simp [Value.oneCell'])
  clear hb5 hr5 hb6 hBV5 HG4 HC4 HC5 HE4 HB4 HD4 HR4 HBV4 HS4
  go_wp2_with (first
    | (refine wpList_load_arr rfl 56 _ rfl (w.heap.size + 1) 0 rfl (cL w.heap.size) _ HR5.out Try.underlying56 rfl s56.out ?_)
    | (refine wpList_store_row rfl 56 _ _ rfl w5.heap.size (cL w.heap.size) rfl rfl 56 _ hN.out s56.out z9.out o9.out ?_; rw [World.setRow_alloc_new])
    | fail)
  generalize w5.alloc (.cells (cL w.heap.size) 56) = w6 at *
  generalize w5.heap.size = b7 at *
  have t56 : ∀ {g : Nat}, Hid ((Try.prog.info? 56).map (·.size) = some (cL g).size) := fun {g} => Lib.hid (by kernel_rfl)
  have s68a : Hid ((Try.prog.info? 68).map (·.size) = some (#[.int .i64 5, .int .u64 0] : Array Value).size) := Lib.hid size68k
  have s68b : Hid ((Try.prog.info? 68).map (·.size) = some (#[.int .i64 7, .int .u64 4] : Array Value).size) := Lib.hid size68k
  clear hN HR5
  refine WM.wp_region_front 15 [] (fun _ x y => RowKit.Below x.heap.size x y) (fun _ x => S6 w b7 (some ⟨bV, oV, none⟩) (some ⟨w.heap.size, 0, none⟩) x) (fun x => S6 w b7 (some ⟨bV, oV, none⟩) (some ⟨w.heap.size, 0, none⟩) x)
    [(1, .val (.slice (some ⟨w.heap.size, 0, none⟩) 3 3) fun _ => True), (3, .val (entV a3) fun _ => True), (5, .val (.slice (some ⟨w.heap.size, 0, none⟩) 3 3) fun _ => True), (7, .val (entV a1) fun _ => True), (9, .val (.slice (some ⟨w.heap.size, 0, none⟩) 3 3) fun _ => True), (11, .val (entV a2) fun _ => True), (12, .mem B3), (13, .mem O3)] (by kernel_rfl) (by kernel_rfl) (by kernel_rfl) (by kernel_rfl) (of_decide_eq_true (by kernel_rfl)) ?_ ?_ (fun _ _ _ hb => hb.size) (fun _ _ _ hb h => h.then_ hb) (fun _ _ _ _ _ hb h => h.then_ hb) ?_ HS6.out.drew (fun _ => HS6.out.drew) ?_
  · intro p hp
    cases hp
  · intro p hp
    cases hp
  · intro z hz
    simp only [List.mem_cons, List.mem_nil_iff, or_false] at hz
    rcases hz with rfl | rfl | rfl | rfl | rfl | rfl | rfl | rfl
    iterate 6 exact fun _ _ _ _ _ _ => trivial
    · exact fun j v x y _ hr ⟨gl, e, h⟩ => ⟨gl, e, (hr.block _ (lt_of_row h)).trans h⟩
    · exact fun j v x y _ hr ⟨gl, e, h⟩ => ⟨gl, e, (hr.block _ (lt_of_row h)).trans h⟩
  refine WM.mono_pure rfl rfl ?_
  refine ⟨.pointer (some ⟨w.heap.size + 1, 8, none⟩), fun x => ?_, ?_⟩
  · go_simp
  apply Exists.intro
  refine ⟨by simp only [Act.put, List.setIfInBounds_toArray, List.set_cons_succ, List.set_cons_zero]; rfl, ?_⟩
  refine WM.mono_val rfl rfl (fun x hD hF => ?_) ?_
  · have hc : x.cell? ⟨w.heap.size + 1, 8, none⟩ = some (.slice (some ⟨w.heap.size, 0, none⟩) 3 3) := hD.c.c8
    go_simp
    exact ⟨RowKit.Below.refl _ _, rfl⟩
  apply Exists.intro
  refine ⟨by simp only [Act.put, List.setIfInBounds_toArray, List.set_cons_succ, List.set_cons_zero]; rfl, ?_⟩
  refine WM.mono_pure rfl rfl ?_
  refine ⟨.pointer (some ⟨w.heap.size, 8, none⟩), fun x => ?_, ?_⟩
  · go_simp
  apply Exists.intro
  refine ⟨by simp only [Act.put, List.setIfInBounds_toArray, List.set_cons_succ, List.set_cons_zero]; rfl, ?_⟩
  refine WM.mono_val rfl rfl (fun x hD hF => ?_) ?_
  · have hl := run_loadVar_arr (P := Try.prog) x w.heap.size (8) 58 (entC a3) _ (by have h := block_ent hD.e (j := 2) (by decide); exact h) Try.underlying58 rfl (ent_size58 _)
    rw [exec_load 58 (.tmp 29) rfl w.heap.size (8) rfl hl]
    exact ⟨RowKit.Below.refl _ _, rfl, trivial⟩
  apply Exists.intro
  refine ⟨by simp only [Act.put, List.setIfInBounds_toArray, List.set_cons_succ, List.set_cons_zero]; rfl, ?_⟩
  refine WM.mono_pure rfl rfl ?_
  refine ⟨.pointer (some ⟨w.heap.size + 1, 8, none⟩), fun x => ?_, ?_⟩
  · go_simp
  apply Exists.intro
  refine ⟨by simp only [Act.put, List.setIfInBounds_toArray, List.set_cons_succ, List.set_cons_zero]; rfl, ?_⟩
  refine WM.mono_val rfl rfl (fun x hD hF => ?_) ?_
  · have hc : x.cell? ⟨w.heap.size + 1, 8, none⟩ = some (.slice (some ⟨w.heap.size, 0, none⟩) 3 3) := hD.c.c8
    go_simp
    exact ⟨RowKit.Below.refl _ _, rfl⟩
  apply Exists.intro
  refine ⟨by simp only [Act.put, List.setIfInBounds_toArray, List.set_cons_succ, List.set_cons_zero]; rfl, ?_⟩
  refine WM.mono_pure rfl rfl ?_
  refine ⟨.pointer (some ⟨w.heap.size, 0, none⟩), fun x => ?_, ?_⟩
  · go_simp
  apply Exists.intro
  refine ⟨by simp only [Act.put, List.setIfInBounds_toArray, List.set_cons_succ, List.set_cons_zero]; rfl, ?_⟩
  refine WM.mono_val rfl rfl (fun x hD hF => ?_) ?_
  · have hl := run_loadVar_arr (P := Try.prog) x w.heap.size (0) 58 (entC a1) _ (by have h := block_ent hD.e (j := 0) (by decide); exact h) Try.underlying58 rfl (ent_size58 _)
    rw [exec_load 58 (.tmp 33) rfl w.heap.size (0) rfl hl]
    exact ⟨RowKit.Below.refl _ _, rfl, trivial⟩
  apply Exists.intro
  refine ⟨by simp only [Act.put, List.setIfInBounds_toArray, List.set_cons_succ, List.set_cons_zero]; rfl, ?_⟩
  refine WM.mono_pure rfl rfl ?_
  refine ⟨.pointer (some ⟨w.heap.size + 1, 8, none⟩), fun x => ?_, ?_⟩
  · go_simp
  apply Exists.intro
  refine ⟨by simp only [Act.put, List.setIfInBounds_toArray, List.set_cons_succ, List.set_cons_zero]; rfl, ?_⟩
  refine WM.mono_val rfl rfl (fun x hD hF => ?_) ?_
  · have hc : x.cell? ⟨w.heap.size + 1, 8, none⟩ = some (.slice (some ⟨w.heap.size, 0, none⟩) 3 3) := hD.c.c8
    go_simp
    exact ⟨RowKit.Below.refl _ _, rfl⟩
  apply Exists.intro
  refine ⟨by simp only [Act.put, List.setIfInBounds_toArray, List.set_cons_succ, List.set_cons_zero]; rfl, ?_⟩
  refine WM.mono_pure rfl rfl ?_
  refine ⟨.pointer (some ⟨w.heap.size, 4, none⟩), fun x => ?_, ?_⟩
  · go_simp
  apply Exists.intro
  refine ⟨by simp only [Act.put, List.setIfInBounds_toArray, List.set_cons_succ, List.set_cons_zero]; rfl, ?_⟩
  refine WM.mono_val rfl rfl (fun x hD hF => ?_) ?_
  · have hl := run_loadVar_arr (P := Try.prog) x w.heap.size (4) 58 (entC a2) _ (by have h := block_ent hD.e (j := 1) (by decide); exact h) Try.underlying58 rfl (ent_size58 _)
    rw [exec_load 58 (.tmp 37) rfl w.heap.size (4) rfl hl]
    exact ⟨RowKit.Below.refl _ _, rfl, trivial⟩
  apply Exists.intro
  refine ⟨by simp only [Act.put, List.setIfInBounds_toArray, List.set_cons_succ, List.set_cons_zero]; rfl, ?_⟩
  refine WM.mono_mem rfl rfl (fun x hD hF => ?_) (fun v39 => ?_)
  · go_simp
    exact ⟨below1 _ _, _, rfl, heap_alloc_new _ _⟩
  apply Exists.intro
  refine ⟨by simp only [Act.put, List.setIfInBounds_toArray, List.set_cons_succ, List.set_cons_zero]; rfl, ?_⟩
  refine WM.mono_mem rfl rfl (fun x hD hF => ?_) (fun v40 => ?_)
  · obtain ⟨gt, e1, ht⟩ : B3 v39 x := (hF 12 _ 39 rfl rfl (by decide)).1
    subst e1
    have ho := corder_any [a3, a1, a2] 3 (some ⟨gt, 0, none⟩) x (block_ents (ls := [a3, a1, a2]) ht (lt_of_row ht)) (by decide)
    rw [LA_turned] at ho
    go_simp
    refine ho.mono ?_
    rintro e y ⟨rfl, hr, hb⟩
    exact ⟨_, rfl, hb, _, rfl, hr⟩
  apply Exists.intro
  refine ⟨by simp only [Act.put, List.setIfInBounds_toArray, List.set_cons_succ, List.set_cons_zero]; rfl, ?_⟩
  refine WM.mono_pure rfl rfl ?_
  refine ⟨.pointer (some ⟨b7, 8, none⟩), fun x => ?_, ?_⟩
  · go_simp
  apply Exists.intro
  refine ⟨by simp only [Act.put, List.setIfInBounds_toArray, List.set_cons_succ, List.set_cons_zero]; rfl, ?_⟩
  refine WM.mono_nil ?_
  intro x hD hF _
  obtain ⟨go, e7, h7⟩ : O3 v40 x := (hF 13).1
  subst e7
  have cd := hD.d.c8
  have fd : x.frozen? ⟨b7, 8, none⟩ = false := by
    have h := hD.d
    unfold CartAt at h
    simp [World.frozen?, h]
  have HS7 := Lib.hid (hD.put h7)
  clear hD hF h7 HS6
  go_simp
  go_upto_region 7 with fail
  apply WM.relist
  · simp only [WM.app_cons, WM.app_nil]; rfl
  have HS := HS7
  clear HS7
  have hrc : rangeA (x.setCell ⟨b7, 8, none⟩ (.slice (some ⟨go, 0, none⟩) 3 3)) (w.heap.size + 1) 0 (cL w.heap.size) := HS.out.c.range
  have hrd : rangeA (x.setCell ⟨b7, 8, none⟩ (.slice (some ⟨go, 0, none⟩) 3 3)) b7 0 (cL go) := HS.out.d.range
  have hl0 : rangeA (x.setCell ⟨b7, 8, none⟩ (.slice (some ⟨go, 0, none⟩) 3 3)) bV oV #[.int .i64 5, .int .u64 0] := by have h := HS.out.v.at_j (j := 0) (by decide); exact h
  have hl1 : rangeA (x.setCell ⟨b7, 8, none⟩ (.slice (some ⟨go, 0, none⟩) 3 3)) bV (oV + 2) #[.int .i64 7, .int .u64 4] := by have h := HS.out.v.at_j (j := 1) (by decide); exact h
  have HRC := Lib.hid hrc
  have HRD := Lib.hid hrd
  have HL0 := Lib.hid hl0
  have HL1 := Lib.hid hl1
  clear hrc hrd hl0 hl1
  have HCALL : Hid (Calls Try.prog 44 #[.agg (cL w.heap.size)] (x.setCell ⟨b7, 8, none⟩ (.slice (some ⟨go, 0, none⟩) 3 3)) fun e w' => e = .returned (.bool true) ∧ RowKit.Below (x.setCell ⟨b7, 8, none⟩ (.slice (some ⟨go, 0, none⟩) 3 3)).heap.size (x.setCell ⟨b7, 8, none⟩ (.slice (some ⟨go, 0, none⟩) 3 3)) w') := Lib.hid (by
    have h := cartRight_any (fOf [2, 3]) LA 3 (some ⟨w.heap.size, 0, none⟩) (x.setCell ⟨b7, 8, none⟩ (.slice (some ⟨go, 0, none⟩) 3 3)) HS.out.ec (by decide)
    rw [LA_right] at h
    exact h)
  go_wp2_with (first
    | (refine wpList_load_arr rfl 56 _ rfl (w.heap.size + 1) 0 rfl (cL w.heap.size) _ HRC.out Try.underlying56 rfl s56.out ?_)
    | (refine wpList_load_arrW (by go_simp) 56 _ rfl (w.heap.size + 1) 0 rfl (cL w.heap.size) _ HRC.out Try.underlying56 rfl s56.out ?_)
    | (refine wpList_load_arrW (by go_simp) 56 _ rfl b7 0 rfl (cL go) _ HRD.out Try.underlying56 rfl t56.out ?_)
    | (refine wpList_load_arrW (by go_simp) 68 _ rfl bV oV rfl #[.int .i64 5, .int .u64 0] _ HL0.out Try.underlying68 rfl s68a.out ?_)
    | (refine wpList_load_arrW (by go_simp) 68 _ rfl bV (oV + 2) rfl #[.int .i64 7, .int .u64 4] _ HL1.out Try.underlying68 rfl s68b.out ?_)
    | fail)
  refine HCALL.out.mono ?_
  rintro e y1 ⟨rfl, hb⟩
  replace HS := Lib.hid (HS.out.then_ hb)
  clear hb
  clear HRC HRD HL0 HL1 HCALL
  have hrc : rangeA y1 (w.heap.size + 1) 0 (cL w.heap.size) := HS.out.c.range
  have hrd : rangeA y1 b7 0 (cL go) := HS.out.d.range
  have hl0 : rangeA y1 bV oV #[.int .i64 5, .int .u64 0] := by have h := HS.out.v.at_j (j := 0) (by decide); exact h
  have hl1 : rangeA y1 bV (oV + 2) #[.int .i64 7, .int .u64 4] := by have h := HS.out.v.at_j (j := 1) (by decide); exact h
  have HRC := Lib.hid hrc
  have HRD := Lib.hid hrd
  have HL0 := Lib.hid hl0
  have HL1 := Lib.hid hl1
  clear hrc hrd hl0 hl1
  have HCALL : Hid (Calls Try.prog 52 #[.agg (cL w.heap.size), .agg (cL go)] y1 fun e w' => e = .returned (.bool true) ∧ RowKit.Below y1.heap.size y1 w') := Lib.hid (by
    have h := csame_any (fOf [2, 3]) (fOf [2, 3]) LA LA 3 3 (some ⟨w.heap.size, 0, none⟩) (some ⟨go, 0, none⟩) y1 HS.out.ec (HS.out.ed trivial) (by decide)
    rw [LA_same] at h
    exact h)
  go_wp2_with (first
    | (refine wpList_load_arr rfl 56 _ rfl (w.heap.size + 1) 0 rfl (cL w.heap.size) _ HRC.out Try.underlying56 rfl s56.out ?_)
    | (refine wpList_load_arrW (by go_simp) 56 _ rfl (w.heap.size + 1) 0 rfl (cL w.heap.size) _ HRC.out Try.underlying56 rfl s56.out ?_)
    | (refine wpList_load_arrW (by go_simp) 56 _ rfl b7 0 rfl (cL go) _ HRD.out Try.underlying56 rfl t56.out ?_)
    | (refine wpList_load_arrW (by go_simp) 68 _ rfl bV oV rfl #[.int .i64 5, .int .u64 0] _ HL0.out Try.underlying68 rfl s68a.out ?_)
    | (refine wpList_load_arrW (by go_simp) 68 _ rfl bV (oV + 2) rfl #[.int .i64 7, .int .u64 4] _ HL1.out Try.underlying68 rfl s68b.out ?_)
    | fail)
  refine HCALL.out.mono ?_
  rintro e y2 ⟨rfl, hb⟩
  replace HS := Lib.hid (HS.out.then_ hb)
  clear hb
  clear HRC HRD HL0 HL1 HCALL
  have hrc : rangeA y2 (w.heap.size + 1) 0 (cL w.heap.size) := HS.out.c.range
  have hrd : rangeA y2 b7 0 (cL go) := HS.out.d.range
  have hl0 : rangeA y2 bV oV #[.int .i64 5, .int .u64 0] := by have h := HS.out.v.at_j (j := 0) (by decide); exact h
  have hl1 : rangeA y2 bV (oV + 2) #[.int .i64 7, .int .u64 4] := by have h := HS.out.v.at_j (j := 1) (by decide); exact h
  have HRC := Lib.hid hrc
  have HRD := Lib.hid hrd
  have HL0 := Lib.hid hl0
  have HL1 := Lib.hid hl1
  clear hrc hrd hl0 hl1
  have HCALL : Hid (Calls Try.prog 45 #[.agg (cL w.heap.size)] y2 fun e w' => (∃ g, e = .returned (.slice (some ⟨g, 0, none⟩) 3 3)) ∧ RowKit.Below y2.heap.size y2 w') := Lib.hid (by
    have h := live_any (fOf [2, 3]) LA 3 (some ⟨w.heap.size, 0, none⟩) y2 HS.out.ec (by decide)
    rw [LA_live] at h
    refine h.mono ?_
    rintro e y ⟨g, rfl, _, _, hb⟩
    exact ⟨⟨g, rfl⟩, hb⟩)
  go_wp2_with (first
    | (refine wpList_load_arr rfl 56 _ rfl (w.heap.size + 1) 0 rfl (cL w.heap.size) _ HRC.out Try.underlying56 rfl s56.out ?_)
    | (refine wpList_load_arrW (by go_simp) 56 _ rfl (w.heap.size + 1) 0 rfl (cL w.heap.size) _ HRC.out Try.underlying56 rfl s56.out ?_)
    | (refine wpList_load_arrW (by go_simp) 56 _ rfl b7 0 rfl (cL go) _ HRD.out Try.underlying56 rfl t56.out ?_)
    | (refine wpList_load_arrW (by go_simp) 68 _ rfl bV oV rfl #[.int .i64 5, .int .u64 0] _ HL0.out Try.underlying68 rfl s68a.out ?_)
    | (refine wpList_load_arrW (by go_simp) 68 _ rfl bV (oV + 2) rfl #[.int .i64 7, .int .u64 4] _ HL1.out Try.underlying68 rfl s68b.out ?_)
    | fail)
  refine HCALL.out.mono ?_
  rintro e y3 ⟨⟨gl, rfl⟩, hb⟩
  replace HS := Lib.hid (HS.out.then_ hb)
  clear hb
  clear HRC HRD HL0 HL1 HCALL
  have hrc : rangeA y3 (w.heap.size + 1) 0 (cL w.heap.size) := HS.out.c.range
  have hrd : rangeA y3 b7 0 (cL go) := HS.out.d.range
  have hl0 : rangeA y3 bV oV #[.int .i64 5, .int .u64 0] := by have h := HS.out.v.at_j (j := 0) (by decide); exact h
  have hl1 : rangeA y3 bV (oV + 2) #[.int .i64 7, .int .u64 4] := by have h := HS.out.v.at_j (j := 1) (by decide); exact h
  have HRC := Lib.hid hrc
  have HRD := Lib.hid hrd
  have HL0 := Lib.hid hl0
  have HL1 := Lib.hid hl1
  clear hrc hrd hl0 hl1
  have HCALL : Hid (Calls Try.prog 49 #[.agg (cL w.heap.size), .int .i64 5] y3 fun e w' => (∃ A c, e = .returned (.slice A 2 c)) ∧ RowKit.Below y3.heap.size y3 w') := Lib.hid (by
    have h := cof_any (fOf [2, 3]) LA 3 (some ⟨w.heap.size, 0, none⟩) 5 y3 HS.out.ec (by decide)
    refine h.mono ?_
    rintro e y ⟨v, rfl, ho, hb⟩
    obtain ⟨A9, c9, e9, _⟩ := own_ents ho
    rw [LA_of5] at e9
    exact ⟨⟨A9, c9, by rw [e9]⟩, hb⟩)
  go_wp2_with (first
    | (refine wpList_load_arr rfl 56 _ rfl (w.heap.size + 1) 0 rfl (cL w.heap.size) _ HRC.out Try.underlying56 rfl s56.out ?_)
    | (refine wpList_load_arrW (by go_simp) 56 _ rfl (w.heap.size + 1) 0 rfl (cL w.heap.size) _ HRC.out Try.underlying56 rfl s56.out ?_)
    | (refine wpList_load_arrW (by go_simp) 56 _ rfl b7 0 rfl (cL go) _ HRD.out Try.underlying56 rfl t56.out ?_)
    | (refine wpList_load_arrW (by go_simp) 68 _ rfl bV oV rfl #[.int .i64 5, .int .u64 0] _ HL0.out Try.underlying68 rfl s68a.out ?_)
    | (refine wpList_load_arrW (by go_simp) 68 _ rfl bV (oV + 2) rfl #[.int .i64 7, .int .u64 4] _ HL1.out Try.underlying68 rfl s68b.out ?_)
    | fail)
  refine HCALL.out.mono ?_
  rintro e y4 ⟨⟨A9, c9, rfl⟩, hb⟩
  replace HS := Lib.hid (HS.out.then_ hb)
  clear hb
  clear HRC HRD HL0 HL1 HCALL
  have hrc : rangeA y4 (w.heap.size + 1) 0 (cL w.heap.size) := HS.out.c.range
  have hrd : rangeA y4 b7 0 (cL go) := HS.out.d.range
  have hl0 : rangeA y4 bV oV #[.int .i64 5, .int .u64 0] := by have h := HS.out.v.at_j (j := 0) (by decide); exact h
  have hl1 : rangeA y4 bV (oV + 2) #[.int .i64 7, .int .u64 4] := by have h := HS.out.v.at_j (j := 1) (by decide); exact h
  have HRC := Lib.hid hrc
  have HRD := Lib.hid hrd
  have HL0 := Lib.hid hl0
  have HL1 := Lib.hid hl1
  clear hrc hrd hl0 hl1
  have HCALL : Hid (Calls Try.prog 47 #[.agg (cL w.heap.size), dotV 1 2] y4 fun e w' => e = .returned (.bool true) ∧ RowKit.Below y4.heap.size y4 w') := Lib.hid (by
    have h := isoff_any (fOf [2, 3]) LA 3 (some ⟨w.heap.size, 0, none⟩) (1, 2) y4 HS.out.ec (by decide)
    rw [LA_off] at h
    exact h)
  go_wp2_with (first
    | (refine wpList_load_arr rfl 56 _ rfl (w.heap.size + 1) 0 rfl (cL w.heap.size) _ HRC.out Try.underlying56 rfl s56.out ?_)
    | (refine wpList_load_arrW (by go_simp) 56 _ rfl (w.heap.size + 1) 0 rfl (cL w.heap.size) _ HRC.out Try.underlying56 rfl s56.out ?_)
    | (refine wpList_load_arrW (by go_simp) 56 _ rfl b7 0 rfl (cL go) _ HRD.out Try.underlying56 rfl t56.out ?_)
    | (refine wpList_load_arrW (by go_simp) 68 _ rfl bV oV rfl #[.int .i64 5, .int .u64 0] _ HL0.out Try.underlying68 rfl s68a.out ?_)
    | (refine wpList_load_arrW (by go_simp) 68 _ rfl bV (oV + 2) rfl #[.int .i64 7, .int .u64 4] _ HL1.out Try.underlying68 rfl s68b.out ?_)
    | fail)
  refine HCALL.out.mono ?_
  rintro e y5 ⟨rfl, hb⟩
  replace HS := Lib.hid (HS.out.then_ hb)
  clear hb
  clear HRC HRD HL0 HL1 HCALL
  have hrc : rangeA y5 (w.heap.size + 1) 0 (cL w.heap.size) := HS.out.c.range
  have hrd : rangeA y5 b7 0 (cL go) := HS.out.d.range
  have hl0 : rangeA y5 bV oV #[.int .i64 5, .int .u64 0] := by have h := HS.out.v.at_j (j := 0) (by decide); exact h
  have hl1 : rangeA y5 bV (oV + 2) #[.int .i64 7, .int .u64 4] := by have h := HS.out.v.at_j (j := 1) (by decide); exact h
  have HRC := Lib.hid hrc
  have HRD := Lib.hid hrd
  have HL0 := Lib.hid hl0
  have HL1 := Lib.hid hl1
  clear hrc hrd hl0 hl1
  have HCALL : Hid (Calls Try.prog 47 #[.agg (cL w.heap.size), dotV 1 1] y5 fun e w' => e = .returned (.bool false) ∧ RowKit.Below y5.heap.size y5 w') := Lib.hid (by
    have h := isoff_any (fOf [2, 3]) LA 3 (some ⟨w.heap.size, 0, none⟩) (1, 1) y5 HS.out.ec (by decide)
    rw [LA_on] at h
    exact h)
  go_wp2_with (first
    | (refine wpList_load_arr rfl 56 _ rfl (w.heap.size + 1) 0 rfl (cL w.heap.size) _ HRC.out Try.underlying56 rfl s56.out ?_)
    | (refine wpList_load_arrW (by go_simp) 56 _ rfl (w.heap.size + 1) 0 rfl (cL w.heap.size) _ HRC.out Try.underlying56 rfl s56.out ?_)
    | (refine wpList_load_arrW (by go_simp) 56 _ rfl b7 0 rfl (cL go) _ HRD.out Try.underlying56 rfl t56.out ?_)
    | (refine wpList_load_arrW (by go_simp) 68 _ rfl bV oV rfl #[.int .i64 5, .int .u64 0] _ HL0.out Try.underlying68 rfl s68a.out ?_)
    | (refine wpList_load_arrW (by go_simp) 68 _ rfl bV (oV + 2) rfl #[.int .i64 7, .int .u64 4] _ HL1.out Try.underlying68 rfl s68b.out ?_)
    | fail)
  refine HCALL.out.mono ?_
  rintro e y6 ⟨rfl, hb⟩
  replace HS := Lib.hid (HS.out.then_ hb)
  clear hb
  clear HRC HRD HL0 HL1 HCALL
  have hrc : rangeA y6 (w.heap.size + 1) 0 (cL w.heap.size) := HS.out.c.range
  have hrd : rangeA y6 b7 0 (cL go) := HS.out.d.range
  have hl0 : rangeA y6 bV oV #[.int .i64 5, .int .u64 0] := by have h := HS.out.v.at_j (j := 0) (by decide); exact h
  have hl1 : rangeA y6 bV (oV + 2) #[.int .i64 7, .int .u64 4] := by have h := HS.out.v.at_j (j := 1) (by decide); exact h
  have HRC := Lib.hid hrc
  have HRD := Lib.hid hrd
  have HL0 := Lib.hid hl0
  have HL1 := Lib.hid hl1
  clear hrc hrd hl0 hl1
  have HCALL : Hid (Calls Try.prog 48 #[.agg (cL go)] y6 fun e w' => (∃ A c, e = .returned (.slice A 2 c) ∧ Dots w' (· < w'.heap.size) A [(5, 0), (7, 4)]) ∧ RowKit.Below y6.heap.size y6 w') := Lib.hid (by
    have h := value_any (fOf [2, 3]) LA 3 (some ⟨go, 0, none⟩) y6 (HS.out.ed trivial) (by decide) LA_qty
    rw [LA_value] at h
    refine h.mono ?_
    rintro e y ⟨v, rfl, ho, hb⟩
    obtain ⟨A9, c9, e9, hd, _⟩ := own_dots ho
    exact ⟨⟨A9, c9, by rw [e9]; rfl, hd.loose fun b h => h.2⟩, hb⟩)
  go_wp2_with (first
    | (refine wpList_load_arr rfl 56 _ rfl (w.heap.size + 1) 0 rfl (cL w.heap.size) _ HRC.out Try.underlying56 rfl s56.out ?_)
    | (refine wpList_load_arrW (by go_simp) 56 _ rfl (w.heap.size + 1) 0 rfl (cL w.heap.size) _ HRC.out Try.underlying56 rfl s56.out ?_)
    | (refine wpList_load_arrW (by go_simp) 56 _ rfl b7 0 rfl (cL go) _ HRD.out Try.underlying56 rfl t56.out ?_)
    | (refine wpList_load_arrW (by go_simp) 68 _ rfl bV oV rfl #[.int .i64 5, .int .u64 0] _ HL0.out Try.underlying68 rfl s68a.out ?_)
    | (refine wpList_load_arrW (by go_simp) 68 _ rfl bV (oV + 2) rfl #[.int .i64 7, .int .u64 4] _ HL1.out Try.underlying68 rfl s68b.out ?_)
    | fail)
  refine HCALL.out.mono ?_
  rintro e y7 ⟨⟨A8, c8, rfl, hd8⟩, hb⟩
  have HD8 := Lib.hid hd8
  clear hd8
  replace HS := Lib.hid (HS.out.then_ hb)
  clear hb
  clear HRC HRD HL0 HL1 HCALL
  have hrc : rangeA y7 (w.heap.size + 1) 0 (cL w.heap.size) := HS.out.c.range
  have hrd : rangeA y7 b7 0 (cL go) := HS.out.d.range
  have hl0 : rangeA y7 bV oV #[.int .i64 5, .int .u64 0] := by have h := HS.out.v.at_j (j := 0) (by decide); exact h
  have hl1 : rangeA y7 bV (oV + 2) #[.int .i64 7, .int .u64 4] := by have h := HS.out.v.at_j (j := 1) (by decide); exact h
  have HRC := Lib.hid hrc
  have HRD := Lib.hid hrd
  have HL0 := Lib.hid hl0
  have HL1 := Lib.hid hl1
  clear hrc hrd hl0 hl1
  have HCALL : Hid (Calls Try.prog 50 #[.slice (some ⟨bV, oV, none⟩) 2 c7, .slice A8 2 c8] y7 fun e w' => e = .returned (.bool true) ∧ RowKit.Below y7.heap.size y7 w') := Lib.hid (by
    have h := samevalue_any [(5, 0), (7, 4)] [(5, 0), (7, 4)] c7 c8 (some ⟨bV, oV, none⟩) A8 y7 HS.out.v HD8.out (by decide)
    rw [decide_eq_true rfl] at h
    exact h)
  go_wp2_with (first
    | (refine wpList_load_arr rfl 56 _ rfl (w.heap.size + 1) 0 rfl (cL w.heap.size) _ HRC.out Try.underlying56 rfl s56.out ?_)
    | (refine wpList_load_arrW (by go_simp) 56 _ rfl (w.heap.size + 1) 0 rfl (cL w.heap.size) _ HRC.out Try.underlying56 rfl s56.out ?_)
    | (refine wpList_load_arrW (by go_simp) 56 _ rfl b7 0 rfl (cL go) _ HRD.out Try.underlying56 rfl t56.out ?_)
    | (refine wpList_load_arrW (by go_simp) 68 _ rfl bV oV rfl #[.int .i64 5, .int .u64 0] _ HL0.out Try.underlying68 rfl s68a.out ?_)
    | (refine wpList_load_arrW (by go_simp) 68 _ rfl bV (oV + 2) rfl #[.int .i64 7, .int .u64 4] _ HL1.out Try.underlying68 rfl s68b.out ?_)
    | fail)
  refine HCALL.out.mono ?_
  rintro e y8 ⟨rfl, hb⟩
  replace HS := Lib.hid (HS.out.then_ hb)
  clear hb
  clear HRC HRD HL0 HL1 HCALL
  go_wp2_with fail
  go_ret
  exact ⟨rfl, HS.out.below⟩
end Go.Proofs.Ytnpacjdgbmldlaa

/- A cart that came in, opened. -/
namespace Go.Proofs.Ytnpacjdgbmldlaa
open Go.RowKit Go.WideShapes Go.ChangeShapes
set_option maxRecDepth 100000
theorem cellsO54 : Try.prog.cellsOf 54 = 1 := by kernel_rfl
theorem cellsO56 : Try.prog.cellsOf 56 = 9 := by kernel_rfl
theorem cellsO58 : Try.prog.cellsOf 58 = 4 := by kernel_rfl
section
variable {H : Type} {enc : TypeId × Value → H}
theorem one_of {cs : List Value} {o : Nat} {v : Value} (h : (cs.drop o).take 1 = [v]) : cs[o]? = some v := by
  have := congrArg (fun l : List Value => l[0]?) h
  simpa [List.getElem?_take, List.getElem?_drop] using this
theorem int_rng {z : Int} (w : (Lit.int .i64 z).wf = true) : -9223372036854775808 ≤ z ∧ z ≤ 9223372036854775807 := by
  simp [Lit.wf, IntKind.min, IntKind.max, IntKind.bits, IntKind.signed] at w
  omega
/-- The numbers of an entry are such that the language has. -/
def EntOk (e : Ent) : Prop := e.n < 18446744073709551616 ∧ (-9223372036854775808 ≤ e.qty ∧ e.qty ≤ 9223372036854775807) ∧ (-9223372036854775808 ≤ e.item ∧ e.item ≤ 9223372036854775807) ∧ (-9223372036854775808 ≤ e.node ∧ e.node ≤ 9223372036854775807)
theorem ent_of_cells {w : World} {base : Nat} {sp : Nat → Bool} {held : Bool} {fuel : Nat} {cs : List Value} {x : DataW H × List MemPlace} (h : DataW.trod enc Try.prog w base sp held fuel 58 cs = some x) :
    ∃ e : Ent, cs = entL e ∧ EntOk e := by
  obtain ⟨xs, n, _, _, hlen, hxl, hf⟩ := DataW.trod_struct Try.underlying58 h
  rw [cellsO58] at hlen
  have hxl : xs.length = 4 := hxl
  have at_ : ∀ j, (hj : j < 4) → xs[j]? = some (xs[j]'(by omega)) := fun j hj => List.getElem?_eq_getElem (by omega)
  have g0 : DataW.trod enc Try.prog w base sp held n 3 ((cs.drop 0).take 1) = xs[0]? := by have this : DataW.trod enc Try.prog w base sp held n 3 ((cs.drop 0).take (Try.prog.cellsOf 3)) = xs[0]? := hf 0 ⟨ "Item", 3, 0, false, "", "", 0⟩ rfl; rw [cellsO3] at this; exact this
  have g1 : DataW.trod enc Try.prog w base sp held n 3 ((cs.drop 1).take 1) = xs[1]? := by have this : DataW.trod enc Try.prog w base sp held n 3 ((cs.drop 1).take (Try.prog.cellsOf 3)) = xs[1]? := hf 1 ⟨ "Node", 3, 1, false, "", "", 8⟩ rfl; rw [cellsO3] at this; exact this
  have g2 : DataW.trod enc Try.prog w base sp held n 23 ((cs.drop 2).take 1) = xs[2]? := by have this : DataW.trod enc Try.prog w base sp held n 23 ((cs.drop 2).take (Try.prog.cellsOf 23)) = xs[2]? := hf 2 ⟨ "N", 23, 2, false, "", "", 16⟩ rfl; rw [cellsO23] at this; exact this
  have g3 : DataW.trod enc Try.prog w base sp held n 3 ((cs.drop 3).take 1) = xs[3]? := by have this : DataW.trod enc Try.prog w base sp held n 3 ((cs.drop 3).take (Try.prog.cellsOf 3)) = xs[3]? := hf 3 ⟨ "Qty", 3, 3, false, "", "", 24⟩ rfl; rw [cellsO3] at this; exact this
  rw [at_ _ (by omega)] at g0 g1 g2 g3
  obtain ⟨z0, e0, _, w0⟩ := DataW.trod_int Try.underlying3 g0
  obtain ⟨z1, e1, _, w1⟩ := DataW.trod_int Try.underlying3 g1
  obtain ⟨z2, e2, _, w2⟩ := DataW.trod_int Try.underlying23 g2
  obtain ⟨z3, e3, _, w3⟩ := DataW.trod_int Try.underlying3 g3
  have hb : 0 ≤ z2 ∧ z2 < 18446744073709551616 := by
    have := w2
    simp [Lit.wf, IntKind.min, IntKind.max, IntKind.bits, IntKind.signed] at this
    omega
  have f0 := one_of e0
  have f1 := one_of e1
  have f2 := one_of e2
  have f3 := one_of e3
  refine ⟨⟨z0, z1, z2.toNat, z3⟩, ?_, by show z2.toNat < _; omega, int_rng w3, int_rng w0, int_rng w1⟩
  have h4 : cs = [Value.int .i64 z0, .int .i64 z1, .int .u64 z2, .int .i64 z3] := by
    apply List.ext_getElem?
    intro i
    rcases (show i = 0 ∨ i = 1 ∨ i = 2 ∨ i = 3 ∨ 4 ≤ i by omega) with e | e | e | e | e
    · subst e; exact f0
    · subst e; exact f1
    · subst e; exact f2
    · subst e; exact f3
    · rw [List.getElem?_eq_none (by omega), List.getElem?_eq_none (by simp; omega)]
  rw [h4]
  have h5 : ((z2.toNat : Nat) : Int) = z2 := Int.toNat_of_nonneg hb.1
  simp only [entL]
  rw [h5]
theorem ents_of_cells {W : World} {fuel : Nat} {cs : List Value} {x : DataW H × List MemPlace} (h : DataW.trod enc Try.prog W 0 (fun _ => true) true fuel 54 cs = some x) :
    ∃ A ls c, cs = [.slice A (List.length ls) c] ∧ Ents W (· < W.heap.size) A ls ∧ ls.length ≤ c ∧ ls.length ≤ maxLen ∧ ∀ e ∈ ls, EntOk e := by
  rcases Deep.open_slice Try.underlying54 h with ⟨hcs, _⟩ | ⟨a, len, cap, m, n, D, Pl, hcs, _, hl, hm, hmm, _, hel⟩
  · exact ⟨none, [], 0, hcs, ⟨fun h => (by cases h)⟩, Nat.le_refl _, by simp [maxLen], fun d hd => (by cases hd)⟩
  · have hlm : len ≤ m := by simp at hmm; omega
    have each : ∀ r, r < len → ∃ e : Ent, (∀ i v, (entC e)[i]? = some v → W.cell? ((a.add (r * 4)).add i) = some v) ∧ EntOk e := fun r hr => by
      obtain ⟨cs', h1, h2⟩ := hel r (by omega)
      rw [cellsO58] at h1
      have hc := World.cells?_some h1
      obtain ⟨e, h3, h4⟩ := ent_of_cells h2
      refine ⟨e, fun i v hv => ?_, h4⟩
      have hi : i < 4 := by
        have := Array.getElem?_eq_some_iff.1 hv
        obtain ⟨hlt, _⟩ := this
        simpa [entC] using hlt
      have h5 := hc.2.2 i hi
      rw [h5, h3]
      rw [show entC e = (entL e).toArray from rfl, List.getElem?_toArray] at hv
      exact hv
    obtain ⟨F, hF⟩ := Deep.choose_lt each
    have hlen : ((List.range len).map F).length = len := by simp
    refine ⟨some a, (List.range len).map F, cap, by rw [hlen, hcs], ⟨fun hp => ?_⟩, by rw [hlen]; exact hl, by rw [hlen]; omega, fun d hd => ?_⟩
    · rw [hlen] at hp ⊢
      obtain ⟨b, off, spot⟩ := a
      have hspot : spot = none := by simpa [Addr.add] using World.cell?_spot ((hF 0 hp).1 0 _ rfl)
      subst hspot
      have hc : ∀ j, j < len → ∀ i v, (entC (F j))[i]? = some v → W.cell? ⟨b, off + j * 4 + i, none⟩ = some v := fun j hj i v hv => by
        have := (hF j hj).1 i v hv
        rwa [Go.WideShapes.add_plain, Go.WideShapes.add_plain] at this
      refine ⟨b, off, rfl, World.block_lt_of_cell? W _ (hc 0 hp 0 _ rfl), fun j hj i v hv => ?_⟩
      rw [List.getD_eq_getElem?_getD, List.getElem?_map, List.getElem?_range hj] at hv
      exact hc j hj i v hv
    · obtain ⟨j, hj, rfl⟩ := List.mem_map.1 hd
      exact (hF j (List.mem_range.1 hj)).2
theorem open_cart {W : World} {base : Nat} {v : Value} {d : DataW H} {p : List MemPlace} (hv : Value.okWide Try.prog W .any base 56 v) (h : DataW.Trod enc Try.prog W 0 (fun _ => true) true 56 v d p) :
    ∃ (f : Nat → Nat) (A : Option Addr) (ls : List Ent) (c : Nat), v = cartV f A ls.length c ∧ (∀ i, i < 8 → f i < 18446744073709551616) ∧ Ents W (· < W.heap.size) A ls ∧ ls.length ≤ c ∧ ls.length ≤ maxLen ∧ ∀ e ∈ ls, EntOk e := by
  obtain ⟨cs, rfl, hs⟩ := okWide_struct Try.underlying56 hv
  rw [cellsO56] at hs
  obtain ⟨fuel, hf0⟩ := h
  obtain ⟨xs, n, _, _, hlen, hxl, hf⟩ := DataW.trod_struct Try.underlying56 hf0
  have hxl : xs.length = 2 := hxl
  have at_ : ∀ j, (hj : j < 2) → xs[j]? = some (xs[j]'(by omega)) := fun j hj => List.getElem?_eq_getElem (by omega)
  have g0 : DataW.trod enc Try.prog W 0 (fun _ => true) true n 27 ((cs.toList.drop 0).take 8) = xs[0]? := by have this : DataW.trod enc Try.prog W 0 (fun _ => true) true n 27 ((cs.toList.drop 0).take (Try.prog.cellsOf 27)) = xs[0]? := hf 0 ⟨ "Ctx", 27, 0, false, "", "", 0⟩ rfl; rw [cellsO27] at this; exact this
  have g1 : DataW.trod enc Try.prog W 0 (fun _ => true) true n 54 ((cs.toList.drop 8).take 1) = xs[1]? := by have this : DataW.trod enc Try.prog W 0 (fun _ => true) true n 54 ((cs.toList.drop 8).take (Try.prog.cellsOf 54)) = xs[1]? := hf 1 ⟨ "L", 54, 8, false, "", "", 64⟩ rfl; rw [cellsO54] at this; exact this
  rw [at_ _ (by omega)] at g0 g1
  obtain ⟨f, h1, h2⟩ := vec_of_cells Try.underlying27 Try.underlying23 cellsO23 cellsO27 g0
  obtain ⟨A, ls, c, e4, hE, hc, hm, hok⟩ := ents_of_cells g1
  refine ⟨f, A, ls, c, ?_, h2, hE, hc, hm, hok⟩
  have f8 := one_of e4
  show Value.agg cs = .agg _
  congr 1
  apply Array.ext_getElem?
  intro i
  unfold cartC
  rw [Array.getElem?_push, arrOf_size]
  by_cases hi : i = 8
  · rw [if_pos hi, hi, ← f8, Array.getElem?_toList]
  · rw [if_neg hi, ← h1]
    have h3 : ((List.take 8 (cs.toList.drop 0)).toArray)[i]? = if i < 8 then cs[i]? else none := by simp [List.getElem?_take]
    rw [h3]
    by_cases h8 : i < 8
    · rw [if_pos h8]
    · rw [if_neg h8, Array.getElem?_eq_none (by omega)]
end
end Go.Proofs.Ytnpacjdgbmldlaa
