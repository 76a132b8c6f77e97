/- The law CartMany of layer 6, walked. -/
import Derived.Test.YtnpacjdgbmldlaaCaK15
set_option linter.unusedVariables false
set_option linter.unusedSimpArgs false
namespace Go.Proofs.Ytnpacjdgbmldlaa
open Go.RowKit Go.Lib

/-- The first events of node 1, each counting one piece of item 1. -/
def manyE (n : Nat) : List Ent := (List.range n).map fun i => ⟨1, 1, i + 1, 1⟩
theorem manyE_len (n : Nat) : (manyE n).length = n := by simp [manyE]
theorem manyE_succ (n : Nat) : manyE (n + 1) = manyE n ++ [⟨1, 1, n + 1, 1⟩] := by simp [manyE, List.range_succ]
theorem manyE_get {n i : Nat} (h : i < n) : (manyE n).getD i e0 = ⟨1, 1, i + 1, 1⟩ := by
  rw [List.getD_eq_getElem?_getD, manyE, List.getElem?_map, List.getElem?_range h]
  rfl
theorem manyE_qty (n : Nat) : QtyOk (manyE n) := fun e he => by
  obtain ⟨i, _, rfl⟩ := List.mem_map.1 he
  simp only
  omega
theorem manyE_of (n : Nat) : ofE (manyE n) 1 = manyE n := List.filter_eq_self.2 fun e he => by
  obtain ⟨i, _, rfl⟩ := List.mem_map.1 he
  rfl
theorem sum_ones : ∀ n : Nat, ((manyE n).map (·.qty)).map Ta.Tal.up = List.replicate n 1
  | 0 => rfl
  | n + 1 => by rw [manyE_succ, List.map_append, List.map_append, sum_ones n, List.replicate_succ']; rfl
theorem sum_nones : ∀ n : Nat, ((manyE n).map (·.qty)).map Ta.Tal.down = List.replicate n 0
  | 0 => rfl
  | n + 1 => by rw [manyE_succ, List.map_append, List.map_append, sum_nones n, List.replicate_succ']; rfl
theorem sum_rep (a : Nat) : ∀ n : Nat, (List.replicate n a).sum = n * a
  | 0 => by simp
  | n + 1 => by rw [List.replicate_succ, List.sum_cons, sum_rep a n, Nat.succ_mul, Nat.add_comm]
theorem manyE_quant {n : Nat} (h : n ≤ 420) : quantE (manyE n) = n := by
  unfold quantE Ta.Tal.ups Ta.Tal.downs
  rw [sum_ones, sum_nones]
  simp only [Ta.Tal.sum, sum_rep, Ta.Tal.M]
  omega
theorem same_len {l l' : List Dt} (h : l.Nodup) (h' : l'.Nodup) (hm : ∀ a, a ∈ l ↔ a ∈ l') : l.length = l'.length := ((List.perm_ext_iff_of_nodup h h').2 hm).length_eq
theorem live_nodup (ls : List Ent) (h : ls.length ≤ 2000) : (liveE ls).Nodup := by
  rw [liveE_of]
  refine (of_rise (by rw [List.length_map]; exact h)).imp ?_
  intro a b hab e
  subst e
  simp [Lt, Vec.less] at hab
theorem live_full {ls : List Ent} (h : ls.length ≤ 2000) (hr : ∀ e ∈ ls, Vec.right e.node e.n = true) (hn : (ls.map Ent.dot).Nodup) : (liveE ls).length = ls.length := by
  have h1 := same_len (live_nodup ls h) hn (fun a => by
    rw [live_mem h]
    constructor
    · exact fun h => h.1
    · intro ha
      obtain ⟨e, he, rfl⟩ := List.mem_map.1 ha
      exact ⟨ha, hr e he⟩)
  rw [h1, List.length_map]
theorem manyE_live {n : Nat} (h : n ≤ 420) : (liveE (manyE n)).length = n := by
  have h1 := live_full (ls := manyE n) (by rw [manyE_len]; omega) (fun e he => by
    obtain ⟨i, _, rfl⟩ := List.mem_map.1 he
    simp only [Vec.right, decide_eq_true_eq]
    omega) (by
    unfold manyE
    rw [List.map_map]
    refine List.pairwise_map.2 ((List.nodup_range (n := n)).imp ?_)
    intro a b hab e
    simp only [Function.comp, Ent.dot, Prod.mk.injEq] at e
    omega)
  rw [h1, manyE_len]
theorem manyE_right {n : Nat} (h : n ≤ 420) : rightC (fOf [500]) (manyE n) = decide (n ≤ 400) := by
  unfold rightC
  rw [manyE_len, manyE_live h]
  have h1 : (List.range n).all (stepR (fOf [500]) (manyE n)) = true := List.all_eq_true.2 fun i hi => by
    have hi := List.mem_range.1 hi
    unfold stepR
    rw [manyE_get hi]
    have hh : Ent.right ⟨1, 1, i + 1, 1⟩ (fOf [500]) = true := by
      simp only [Ent.right, Vec.has, Vec.right, Vec.get, fOf, Bool.and_eq_true, decide_eq_true_eq]
      simp
      omega
    rw [hh]
    rcases Nat.eq_zero_or_pos i with e | e
    · rw [decide_eq_true e]
      rfl
    · rw [manyE_get (show i - 1 < n by omega)]
      have hl : Ent.less ⟨1, 1, i - 1 + 1, 1⟩ ⟨1, 1, i + 1, 1⟩ = true := by
        rw [Ent.less_iff]
        show (1 : Int) < 1 ∨ (1 : Int) = 1 ∧ ((1 : Int) < 1 ∨ (1 : Int) = 1 ∧ (i - 1 + 1 < i + 1 ∨ i - 1 + 1 = i + 1 ∧ (1 : Int) < 1))
        omega
      rw [hl, Bool.or_true]
      rfl
  rw [h1]
  simp
theorem fiveC (A : Option Addr) (n c : Nat) : cartC (fOf [500]) A n c = #[.int .u64 500, .int .u64 0, .int .u64 0, .int .u64 0, .int .u64 0, .int .u64 0, .int .u64 0, .int .u64 0, .slice A n c] := rfl
theorem five_set (A B : Option Addr) (n c m d : Nat) : (cartC (fOf [500]) A n c).setIfInBounds 8 (.slice B m d) = cartC (fOf [500]) B m d := rfl
abbrev c5 (A : Option Addr) (n c : Nat) : Array Value := #[.int .u64 500, .int .u64 0, .int .u64 0, .int .u64 0, .int .u64 0, .int .u64 0, .int .u64 0, .int .u64 0, .slice A n c]
theorem CartAt.fr {x : World} {b : Nat} {f : Nat → Nat} {A : Option Addr} {n c o : Nat} (h : CartAt x b f A n c) : x.frozen? ⟨b, o, none⟩ = false := by
  unfold CartAt at h
  simp [World.frozen?, h]
/-- The cart with its first entries. -/
structure MC (w : World) (A : Option Addr) (c j : Nat) (x : World) : Prop where
  ct : CartAt x w.heap.size (fOf [500]) A j c
  own : x.ownsRow (w.heap.size + 1) 58 4 (.slice A j c) j (ents4 (manyE j))
  below : RowKit.Below w.heap.size w x
theorem MC.then_ {w x y : World} {A : Option Addr} {c j : Nat} (hb : RowKit.Below x.heap.size x y) (h : MC w A c j x) : MC w A c j y :=
  ⟨h.ct.then_ hb, own_keep h.own fun k _ hk => hb.block k hk, h.below.trans (hb.mono h.below.size)⟩
theorem MC.ents {w x : World} {A : Option Addr} {c j : Nat} (h : MC w A c j x) : Ents x (· < x.heap.size) A (manyE j) := by
  obtain ⟨A', c', e, hE, _⟩ := own_ents h.own
  rw [manyE_len] at e
  injection e with e1 _ _
  subst e1
  exact hE.loose fun b h => h.2
theorem MC.next {w y : World} {A : Option Addr} {c j : Nat} {v : Value} (hc : CartAt y w.heap.size (fOf [500]) A j c) (hb : RowKit.Below w.heap.size w y) (ho : y.ownsRow (w.heap.size + 1) 58 4 v (j + 1) (ents4 (manyE j) ++ entL ⟨1, 1, j + 1, 1⟩)) :
    ∃ A' c', v = .slice A' (j + 1) c' ∧ MC w A' c' (j + 1) (y.setCell ⟨w.heap.size, 8, none⟩ v) := by
  have ho2 : y.ownsRow (w.heap.size + 1) 58 4 v (j + 1) (ents4 (manyE (j + 1))) := by rw [manyE_succ, ents4_append, ents4_one]; exact ho
  obtain ⟨A', c', e, _⟩ := own_ents ho2
  rw [manyE_len] at e
  subst e
  have hd := hc
  unfold CartAt at hd
  refine ⟨A', c', rfl, ?_, ?_, ?_⟩
  · show (y.setCell ⟨w.heap.size, 8, none⟩ (.slice A' (j + 1) c')).heap[w.heap.size]? = _
    rw [setCell_eq_setRow y w.heap.size 8 _ 56 (0, 0) _ hd, setRow_heap y w.heap.size _ _ 56 (0, 0) hd, five_set]
  · exact own_keep ho2 fun k hk _ => Below.heap_setCell y ⟨w.heap.size, 8, none⟩ _ k (by intro e; simp only at e; omega)
  · exact hb.trans (below_setN (Nat.le_refl _) _)

set_option maxRecDepth 100000 in
set_option maxHeartbeats 8000000 in
theorem law_cmany (n : Nat) (w : World) (hn : n < 65536) :
    Calls Try.prog 7 #[.int .u16 (n : Int)] w fun e w' => e = .returned (.bool true) ∧ RowKit.Below w.heap.size w w' := by
  by_cases hbig : 420 < n
  · have h' : (420 : Int) < (n : Int) := by omega
    have HA := Lib.hid (alive6_any w)
    clear hbig
    go_enter Try.func7, Try.ntmps7
    go_wp2_with fail
    refine HA.out.mono ?_
    rintro e w1 ⟨rfl, hb⟩
    have HB := Lib.hid hb
    clear hb
    go_wp2_with fail
    go_ret
    exact ⟨rfl, HB.out⟩
  have h' : ¬ (420 : Int) < (n : Int) := by omega
  have HN : Hid (n ≤ 420) := Lib.hid (by omega)
  have eN : IntKind.i64.wrap (n : Int) = (n : Int) := by rw [IntKind.wrap_i64]; omega
  have hX : MC w none 0 0 (w.alloc (.cells (c5 none 0 0) 56)) := ⟨heap_alloc_new _ _, World.ownsRow_nil _ _ _ _, below1 _ _⟩
  have HX := Lib.hid hX
  clear hbig hn hX
  go_enter Try.func7, Try.ntmps7
  go_wp2
  clear h'
  go_loopw [4] (fun v wr => ∃ (j c : Nat) (A : Option Addr), j ≤ n ∧ v = .int .i64 (j : Int) ∧ Hid (MC w A c j wr)) (fun v _ => n - (intOf v).toNat)
  case atStart => exact ⟨0, 0, none, Nat.zero_le _, rfl, HX⟩
  case round =>
    clear HX
    obtain ⟨j, c, A, hj, rfl, HX⟩ := hrel
    by_cases hlt : j < n
    · have eJ : IntKind.i64.wrap ((j : Int) + 1) = (j : Int) + 1 := by have := HN.out; rw [IntKind.wrap_i64]; omega
      have eU : IntKind.u64.wrap ((j : Int) + 1) = (j : Int) + 1 := by have := HN.out; rw [IntKind.wrap_u64]; omega
      have c8 := HX.out.ct.c8
      obtain ⟨d, hd⟩ : ∃ d : Ent, d = ⟨1, 1, j + 1, 1⟩ := ⟨_, rfl⟩
      have HO := Lib.hid HX.out.own
      have S0 : Hid (w.heap.size + 1 ≤ wr.heap.size) := Lib.hid HX.out.ct.lt
      have HLJ : Hid (j < n) := Lib.hid hlt
      go_wp2_with (first
        | (refine wpList_append_ent (d := ⟨1, 1, j + 1, 1⟩) rfl (.tmp 19) (.tmp 24) 54 rfl (w.heap.size + 1) 58 entZ 32 Try.underlying54 info58 rfl _ j _ rfl HO.out 58 rfl (by have := HN.out; have := HLJ.out; unfold maxLen; omega) (by have := HN.out; have := HLJ.out; omega) S0.out ?_; intro v1 w3 H1 B1; have hc3 := HX.out.ct.below B1.out (Nat.lt_succ_self _); have hb3 := HX.out.below.trans (B1.out.mono (Nat.le_succ _)); obtain ⟨A2, c2, rfl, hX2⟩ := MC.next hc3 hb3 H1.out; have c83 := hc3.c8; have f83 := hc3.fr (o := 8); have HX2 := Lib.hid hX2; clear hc3 hb3 hX2)
        | fail)
      go_roundw
      all_goals clear eJ eU
      case rel => exact ⟨j + 1, c2, A2, by omega, by go_num, HX2⟩
      case measure => simp [intOf]; omega
    · obtain rfl : j = n := by omega
      have HR := Lib.hid (show rangeA wr w.heap.size 0 (c5 A j c) from HX.out.ct.range)
      have s5 : Hid ((Try.prog.info? 56).map (·.size) = some (c5 A j c).size) := Lib.hid (by kernel_rfl)
      have hm : j ≤ 100000 := by have := HN.out; omega
      have h1 := cget_any (fOf [500]) (manyE j) c A 1 wr HX.out.ents (by rw [manyE_len]; exact hm) (manyE_qty j)
      rw [manyE_of, manyE_quant HN.out, manyE_len] at h1
      have HG : Hid (Calls Try.prog 43 #[.agg (c5 A j c), .int .i64 1] wr fun e w' => e = .returned (.tuple #[.int .u64 (j : Int), .bool (decide (0 < j))]) ∧ RowKit.Below wr.heap.size wr w') := Lib.hid h1
      clear h1 hm
      go_wp2_with (first
        | (refine wpList_load_arr rfl 56 _ rfl w.heap.size 0 rfl (c5 A j c) _ HR.out Try.underlying56 rfl s5.out ?_)
        | fail)
      refine HG.out.mono ?_
      rintro e w2 ⟨rfl, hb⟩
      replace HX := Lib.hid (HX.out.then_ hb)
      have HA := Lib.hid (alive6_any w2)
      clear hb HG HR
      go_wp2_with fail
      refine HA.out.mono ?_
      rintro e w3 ⟨rfl, hb⟩
      replace HX := Lib.hid (HX.out.then_ hb)
      have HR := Lib.hid (show rangeA w3 w.heap.size 0 (c5 A j c) from HX.out.ct.range)
      have h1 := cartRight_any (fOf [500]) (manyE j) c A w3 HX.out.ents (by rw [manyE_len]; have := HN.out; omega)
      rw [manyE_right HN.out, manyE_len] at h1
      have HRT : Hid (Calls Try.prog 44 #[.agg (c5 A j c)] w3 fun e w' => e = .returned (.bool (decide (j ≤ 400))) ∧ RowKit.Below w3.heap.size w3 w') := Lib.hid h1
      clear hb HA h1
      have q1 : Hid (decide (j ≤ 400) = decide ((j : Int) ≤ 400)) := Lib.hid (by rw [decide_eq_decide]; omega)
      have q2 : Hid (decide (0 < j) = decide ((0 : Int) < (j : Int))) := Lib.hid (by rw [decide_eq_decide]; omega)
      rw [q1.out] at HRT
      rw [q2.out]
      have eV : IntKind.u64.wrap (j : Int) = (j : Int) := by have := HN.out; rw [IntKind.wrap_u64]; omega
      have hjj : ((j : Int) == (j : Int)) = true := by simp
      go_wp2_with (first
        | (refine wpList_load_arrW (by go_simp) 56 _ rfl w.heap.size 0 rfl (c5 A j c) _ HR.out Try.underlying56 rfl s5.out ?_)
        | fail)
      refine HRT.out.mono ?_
      rintro e w4 ⟨rfl, hb⟩
      replace HX := Lib.hid (HX.out.then_ hb)
      replace HR := Lib.hid (show rangeA w4 w.heap.size 0 (c5 A j c) from HX.out.ct.range)
      have h1 := live_any (fOf [500]) (manyE j) c A w4 HX.out.ents (by rw [manyE_len]; have := HN.out; omega)
      rw [manyE_live HN.out, manyE_len] at h1
      have HLV : Hid (Calls Try.prog 45 #[.agg (c5 A j c)] w4 fun e w' => (∃ g, e = .returned (.slice (some ⟨g, 0, none⟩) j j)) ∧ RowKit.Below w4.heap.size w4 w') := Lib.hid (by
        refine h1.mono ?_
        rintro e y ⟨g, rfl, _, _, hb⟩
        exact ⟨⟨g, rfl⟩, hb⟩)
      clear hb HRT h1
      go_wp2_with (first
        | (refine wpList_load_arrW (by go_simp) 56 _ rfl w.heap.size 0 rfl (c5 A j c) _ HR.out Try.underlying56 rfl s5.out ?_)
        | fail)
      refine HLV.out.mono ?_
      rintro e w5 ⟨⟨g, rfl⟩, hb⟩
      replace HX := Lib.hid (HX.out.then_ hb)
      clear hb HLV HR
      go_wp2_with fail
      go_ret
      exact ⟨rfl, HX.out.below⟩
end Go.Proofs.Ytnpacjdgbmldlaa
