/- The law ShaCuts of layer 1, walked: for every bytes and every cuts it returns true, and nothing that was there has turned. -/
import Derived.Test.YtlejlgamefdckaaDoorA7
namespace Go.Proofs.YtlejlgamefdckaaDoor
open Go.RowKit

def pv (p : Piece) : Value := .slice p.A p.xs.length p.c
theorem run_sliceAt_to {P : Program} (t e : TypeId) (hu : P.underlying t = some (.slice e)) (hs : (P.info? e).map (·.size) = some 1) (A : Option Addr) (n c k : Nat) (hk : k ≤ c) (w : World) :
    (Instr.sliceAt t (.slice A n c) none (some (.int .i64 (k : Int))) none).run P w = .ok (.slice A k c) w := by
  have h : (Instr.slice t (.slice A n c) none (some (.int .i64 (k : Int))) none).run P w = .ok (.slice A k c) w := by
    cases hq : P.info? e with
    | none => simp [hq] at hs
    | some i =>
      have hi : i.size = 1 := by simpa [hq] using hs
      have ha : A.map (fun a : Addr => a.add 0) = A := by cases A <;> simp [Addr.add]
      simp [Instr.slice, Instr.sliceBounds, Instr.sliceBound, asIntOf, Sem.run_bind, run_underlying hu w, sizeOf, typeInfo, hq, hi, hk, Result.andThen, ha]
  simp only [Instr.sliceAt, Sem.run_bind, run_underlying hu w, Result.andThen, h]
theorem own_pieces {w : World} {N : Nat} {v : Value} {ls : List Piece} (h : w.ownsRow N 22 1 v ls.length (ls.map pv)) (he : ∀ p, p ∈ ls → Bytes w (· < w.heap.size) p.A p.xs ∧ p.xs.length ≤ p.c ∧ p.xs.length ≤ maxLen) :
    ∃ A c, v = .slice A ls.length c ∧ Pieces w (· < w.heap.size) A ls := by
  obtain ⟨_, h | ⟨g, cap, cur, hv, _, hg, hn, _, hs, ht⟩⟩ := h
  · refine ⟨none, 0, by rw [h.1, h.2], he, fun hp => absurd hp (by omega)⟩
  · refine ⟨some ⟨g, 0, none⟩, cap, hv, he, fun hp => ⟨g, 0, rfl, ?_, fun j p hj => ?_⟩⟩
    · rcases Nat.lt_or_ge g w.heap.size with h' | h'
      · exact h'
      · rw [Array.getElem?_eq_none h'] at hg; cases hg
    · have hlt : j < ls.length := (List.getElem?_eq_some_iff.1 hj).1
      rw [Nat.zero_add, cell_of_row _ _ _ _ _ _ hg]
      have h3 : (cur.toList.take (ls.length * 1))[j]? = some (pv p) := by rw [ht, List.getElem?_map, hj]; rfl
      rw [List.getElem?_take, if_pos (by omega)] at h3
      simpa [pv] using h3
structure CInv (w : World) (xs : List Nat) (k : Nat) (lv : Value) (ls : List Piece) (A : Option Addr) (ys : List Nat) (wr : World) : Prop where
  len : ls.length = k
  own : wr.ownsRow w.heap.size 22 1 lv k (ls.map pv)
  each : ∀ p, p ∈ ls → Bytes wr (· < w.heap.size) p.A p.xs ∧ p.xs.length ≤ p.c ∧ p.xs.length ≤ maxLen
  rest : Bytes wr (· < w.heap.size) A ys
  all : allOf ls ++ ys = xs
  below : Below w.heap.size w wr
theorem allOf_snoc (ls : List Piece) (p : Piece) : allOf (ls ++ [p]) = allOf ls ++ p.xs := by simp [allOf]
theorem CInv.snoc {w : World} {xs : List Nat} {k : Nat} {lv lv' : Value} {ls : List Piece} {A : Option Addr} {ys : List Nat} {wr w' : World} {c n : Nat} (I : CInv w xs k lv ls A ys wr) (hn : n ≤ ys.length) (hc : ys.length ≤ c) (hm : ys.length ≤ maxLen)
    (hown : w'.ownsRow w.heap.size 22 1 lv' (k + 1) (ls.map pv ++ [.slice A n c])) (hb : Below w.heap.size wr w') : CInv w xs (k + 1) lv' (ls ++ [⟨A, c, ys.take n⟩]) (cutA A c n) (ys.drop n) w' := by
  have hl : (ys.take n).length = n := by rw [List.length_take]; omega
  have hr := I.rest.below hb
  refine ⟨by rw [List.length_append, I.len]; rfl, ?_, fun p hp => ?_, hr.cut hn hc, ?_, I.below.trans hb⟩
  · rw [List.map_append, List.map_singleton, pv, hl]; exact hown
  · rcases List.mem_append.1 hp with hp | hp
    · exact ⟨(I.each p hp).1.below hb, (I.each p hp).2⟩
    · rw [List.mem_singleton] at hp
      subst hp
      refine ⟨⟨fun x hx => hr.lt x (List.mem_of_mem_take hx), fun hp => ?_⟩, by dsimp only; rw [hl]; omega, by dsimp only; rw [hl]; omega⟩
      dsimp only at hp
      rw [hl] at hp
      obtain ⟨b, o, e, hb, hcell⟩ := hr.at_ (by omega)
      refine ⟨b, o, e, hb, fun j hj => ?_⟩
      dsimp only at hj
      rw [hl] at hj
      rw [hcell j (by omega)]
      simp [List.getD_eq_getElem?_getD, hj]
  · rw [allOf_snoc, List.append_assoc, List.take_append_drop, I.all]

/-- 'out = append(out, x)', x in a new block of one cell. -/
theorem wpList_append_one {P : Program} {w : World} {ops : Array Oper} {rest : List Oper} {o : Oper} {a : Act} {Q : Exit → Act → World → Prop} (hgd : o.guard = none) (s x : Operand) (t : TypeId)
    (ho : o.op = .call { callee := .builtin .append, args := #[s, x], argTypes := #[t, t] }) (base : Nat) (e : TypeId) (z : Value) (bytes : Nat) (ht : P.underlying t = some (.slice e))
    (hinfo : (P.info? e).map (fun i => (i.zero, i.size, i.bytes)) = some (some z, 1, bytes)) (hzs : z.cells.size = 1)
    (v : Value) (n : Nat) (xs : List Value) (hs : a.eval s = v) (hown : w.ownsRow base e 1 v n xs) (u : Value) (te : TypeId)
    (hx : a.eval x = .slice (some ⟨w.heap.size, 0, none⟩) 1 1) (h1 : u.oneCell' = true) (h63 : n + 1 ≤ maxLen) (hbytes : (n + 1) * bytes ≤ 140737488355328) (hbase : base ≤ w.heap.size)
    (h : ∀ v' w', Hid (w'.ownsRow base e 1 v' (n + 1) (xs ++ [u])) → Hid (Below base w w') → wpList P ops Q rest (a.put o.dst v') w') : wpList P ops Q (o :: rest) a (w.alloc (.cells #[u] te)) := by
  obtain ⟨i, hi, hz, hsz, hby⟩ := info_parts hinfo
  refine wpList_append_own _ hgd s x t ho base e i z 1 bytes ht hi hz hsz hby hzs (by decide) v n xs hs (hown.alloc _) ⟨w.heap.size, 0, none⟩ 1 1 [u] hx rfl (cell_one_new _ _ _) (fun y hy => ?_) h63 hbytes (by rw [World.size_alloc]; omega) ?_
  · rw [List.mem_singleton] at hy
    subst hy
    exact h1
  · intro v' w' hown' hg _
    refine h v' w' hown' ((Below.alloc (Below.refl base w) hbase _).grown hg (by rw [World.size_alloc]; omega) fun k hk => ?_)
    exact ((hown.alloc (.cells #[u] te)).lt k hk).1

theorem info22 : (Tryd.prog.info? 22).map (fun i => (i.zero, i.size, i.bytes)) = some (some (.slice none 0 0), 1, 24) := by kernel_rfl
theorem eq_abc (f : Nat → Nat) (W : World) : (Op.equalIn 10000 25 (.agg (arrOf .u8 32 f)) (.agg (arrOf .u8 32 f))).run Tryd.prog W = .ok true W := by
  rw [run_equalIn_arr (P := Tryd.prog) 25 5 32 .u8 .u8 Tryd.underlying25 Tryd.underlying5 size5 agg5 f f W, decide_eq_true (fun i _ => rfl)]

/-- What stands behind the loop: the last piece is appended, and both digests are told. -/
theorem cuts_piece {w : World} {xs : List Nat} {k : Nat} {lv : Value} {ls : List Piece} {A : Option Addr} {ys : List Nat} {wr : World} (I : CInv w xs k lv ls A ys wr) : Below w.heap.size w wr := I.below

set_option maxRecDepth 100000 in
set_option maxHeartbeats 2000000 in
theorem law_cuts (xs cs : List Nat) (A0 A1 : Option Addr) (c0 c1 : Nat) (w : World) (ht : Tabs w) (hx : Bytes w (· < w.heap.size) A0 xs) (hc0 : xs.length ≤ c0) (hm0 : xs.length ≤ maxLen) (hs : xs.length ≤ 600)
    (hy : Bytes w (· < w.heap.size) A1 cs) (hc1 : cs.length ≤ c1) (hm1 : cs.length ≤ 9223372036854775807) :
    Calls Tryd.prog 6 #[.slice A0 xs.length c0, .slice A1 cs.length c1] w fun e w' => e = .returned (.bool true) ∧ Below w.heap.size w w' := by
  have HT := Lib.hid ht
  have HY := Lib.hid hy
  have HX := Lib.hid hx
  have HM := Lib.hid hm0
  obtain ⟨i22, hi22, hz22, hs22, hb22⟩ := info_parts info22
  have HI22 := Lib.hid hi22
  have HZ22 := Lib.hid hz22
  have HS22 := Lib.hid hs22
  have HB22 := Lib.hid hb22
  clear ht hy hx hm0 hi22 hz22 hs22 hb22
  go_enter Tryd.func6, Tryd.ntmps6
  go_wp2_with fail
  have HI0 : Hid (CInv w xs 0 (.slice none 0 0) [] A0 xs w) := ⟨rfl, ⟨rfl, .inl ⟨rfl, rfl⟩⟩, fun _ h => (by cases h), HX.out, rfl, Below.refl _ _⟩
  go_loopw [5, 6, 7] (fun lv rest v wr => ∃ (k : Nat) (ls : List Piece) (A : Option Addr) (c : Nat) (ys : List Nat), k ≤ 40 ∧ k ≤ cs.length ∧ v = .int .i64 k ∧ rest = .slice A ys.length c ∧ ys.length ≤ c ∧ ys.length ≤ 600 ∧ Hid (CInv w xs k lv ls A ys wr)) (fun _ _ v _ => 40 - (intOf v).toNat)
  case atStart => exact ⟨0, [], A0, c0, xs, by omega, by omega, rfl, rfl, hc0, hs, HI0⟩
  case round =>
    obtain ⟨k, ls, A, c, ys, hk, hkc, rfl, rfl, hc, hl, HI⟩ := hrel
    by_cases h1 : k < cs.length ∧ k < 40 ∧ 0 < ys.length
    · obtain ⟨ha, hb, hd⟩ := h1
      have ha' : (k : Int) < (cs.length : Int) := by omega
      have hb' : (k : Int) < 40 := by omega
      have hd' : (0 : Int) < (ys.length : Int) := by omega
      obtain ⟨bb, oo, hA1, _, hcell⟩ := HY.out.at_ (by omega)
      subst hA1
      have hck : wr.cell? ⟨bb, oo + k, none⟩ = some (.int .u8 ((cs.getD k 0 : Nat) : Int)) := by
        obtain ⟨bb', oo', e, hbb, hcell'⟩ := (HY.out.below HI.out.below).at_ (by omega)
        injection e with e
        injection e with e1 e2
        subst e1 e2
        exact hcell' k ha
      have hlt : cs.getD k 0 < 256 := by
        rw [List.getD_eq_getElem?_getD, List.getElem?_eq_getElem ha]
        exact HY.out.lt _ (List.getElem_mem _)
      generalize cs.getD k 0 = n at *
      clear hcell
      generalize hL : ys.length = L at *
      have HL := Lib.hid hL
      clear hL
      by_cases hn : L < n
      · have hn' : (L : Int) < (n : Int) := by omega
        have s1 := fun W => run_sliceAt_to (P := Tryd.prog) 22 5 Tryd.underlying22 size5 A L c L (by omega) W
        have s2 := fun W => run_sliceAt_from (P := Tryd.prog) 22 5 Tryd.underlying22 size5 A L c L (by omega) W
        go_wp2_with (at_builtin; refine wpList_append_one rfl (.tmp 40) (.tmp 44) 33 rfl w.heap.size 22 (.slice none 0 0) 24 Tryd.underlying33 info22 rfl _ k (ls.map pv) rfl HI.out.own (.slice A L c) 22 rfl rfl (by simp only [maxLen]; omega) (by omega) HI.out.below.size ?_; intro lv' w2 hown hbel)
        go_roundw
        case rel =>
          have hI := HI.out.snoc (n := L) (by rw [HL.out]; omega) (by rw [HL.out]; exact hc) (by rw [HL.out]; simp only [maxLen]; omega) hown.out hbel.out
          exact ⟨k + 1, _, _, _, _, by omega, by omega, by go_num, by rw [List.length_drop, HL.out, Nat.sub_self], by rw [List.length_drop, HL.out]; omega, by rw [List.length_drop, HL.out]; omega, hI⟩
        case measure => simp [intOf]; omega
      · have hn' : (n : Int) ≤ (L : Int) := by omega
        have s1 := fun W => run_sliceAt_to (P := Tryd.prog) 22 5 Tryd.underlying22 size5 A L c n (by omega) W
        have s2 := fun W => run_sliceAt_from (P := Tryd.prog) 22 5 Tryd.underlying22 size5 A L c n (by omega) W
        go_wp2_with (at_builtin; refine wpList_append_one rfl (.tmp 40) (.tmp 44) 33 rfl w.heap.size 22 (.slice none 0 0) 24 Tryd.underlying33 info22 rfl _ k (ls.map pv) rfl HI.out.own (.slice A n c) 22 rfl rfl (by simp only [maxLen]; omega) (by omega) HI.out.below.size ?_; intro lv' w2 hown hbel)
        go_roundw
        case rel =>
          have hI := HI.out.snoc (n := n) (by rw [HL.out]; omega) (by rw [HL.out]; exact hc) (by rw [HL.out]; simp only [maxLen]; omega) hown.out hbel.out
          exact ⟨k + 1, _, _, _, _, by omega, by omega, by go_num, by rw [List.length_drop, HL.out], by rw [List.length_drop, HL.out]; omega, by rw [List.length_drop, HL.out]; omega, hI⟩
        case measure => simp [intOf]; omega
    · have hcase : ((cs.length : Int) ≤ (k : Int)) ∨ ((k : Int) < (cs.length : Int) ∧ (40 : Int) ≤ (k : Int)) ∨ ((k : Int) < (cs.length : Int) ∧ (k : Int) < 40 ∧ (ys.length : Int) ≤ 0) := by omega
      clear h1
      rcases hcase with g1 | ⟨g1, g2⟩ | ⟨g1, g2, g3⟩
      all_goals
        go_wp2_with (at_builtin; refine wpList_append_one rfl (.tmp 49) (.tmp 51) 33 rfl w.heap.size 22 (.slice none 0 0) 24 Tryd.underlying33 info22 rfl _ k (ls.map pv) rfl HI.out.own (.slice A ys.length c) 22 rfl rfl (by simp only [maxLen]; omega) (by omega) HI.out.below.size ?_; intro lv' w2 hown hbel)
        have hI := HI.out.snoc (n := ys.length) (Nat.le_refl _) hc (by simp only [maxLen]; omega) hown.out hbel.out
        have hfin : PS xs lv' w2 ∧ Below w.heap.size w w2 := by
          have hlen : (ls ++ [(⟨A, c, ys.take ys.length⟩ : Piece)]).length = k + 1 := hI.len
          have ho := hI.own
          rw [← hlen] at ho
          obtain ⟨A', c', e, hp⟩ := own_pieces ho fun p hp => ⟨(hI.each p hp).1.weak fun b hb _ => Nat.lt_of_lt_of_le hb hI.below.size, (hI.each p hp).2⟩
          have hall := hI.all
          rw [List.drop_length, List.append_nil] at hall
          exact ⟨⟨A', c', _, e, hp, hall, by rw [hlen]; simp only [maxLen]; omega⟩, hI.below⟩
        clear hI hown hbel HI
        have HP := Lib.hid hfin.1
        have HB := Lib.hid hfin.2
        clear hfin
        refine (alive_any _ (HT.out.below HB.out)).mono ?_
        rintro e w3 ⟨rfl, hb3⟩
        have HP3 := Lib.hid (PS.up (N := w.heap.size) _ _ _ (.of_below hb3 HB.out.size) HP.out)
        have HB3 := Lib.hid (HB.out.trans (hb3.mono HB.out.size))
        clear hb3
        go_wp2_with fail
        refine (sum_ps (N := w.heap.size) (HT.out.below HB3.out) HP3.out HB3.out.size).mono ?_
        rintro e w4 ⟨rfl, hg4⟩
        have HB4 := Lib.hid (HB3.out.trans hg4.below)
        clear hg4
        have hq := eq_abc (sha xs)
        have HQ := Lib.hid hq
        clear hq
        go_wp2_with fail
        have hx4 : BS xs (.slice A0 xs.length c0) w4 := ⟨A0, c0, rfl, hc0, (HX.out.below HB4.out).weak fun b hb _ => Nat.lt_of_lt_of_le hb HB4.out.size⟩
        have hp5 := ps_one (N := w.heap.size) w4 hx4 HM.out 22 HB4.out.size
        refine (sum_ps (N := w.heap.size) (HT.out.below (HB4.out.trans hp5.1.below)) hp5.2 (Nat.le_trans HB4.out.size hp5.1.below.size)).mono ?_
        rintro e w6 ⟨rfl, hg6⟩
        have HB6 := Lib.hid ((HB4.out.trans hp5.1.below).trans hg6.below)
        clear hg6 hp5 hx4
        have hq := HQ.out
        go_wp2_with fail
        go_ret
        exact ⟨rfl, HB6.out⟩

set_option maxHeartbeats 1000000 in
theorem law_cuts_far (n1 n2 c0 c1 : Nat) (A0 A1 : Option Addr) (w : World) (ht : Tabs w) (hs : 600 < n1) (hm : n1 ≤ 9223372036854775807) :
    Calls Tryd.prog 6 #[.slice A0 n1 c0, .slice A1 n2 c1] w fun e w' => e = .returned (.bool true) ∧ Below w.heap.size w w' := by
  have HT := Lib.hid ht
  clear ht
  have hs' : (600 : Int) < (n1 : Int) := by omega
  go_enter Tryd.func6, Tryd.ntmps6
  go_wp2_with (go_at_call 7; refine (alive_any _ HT.out).mono ?_; rintro e w1 ⟨rfl, hb1⟩; have HB1 := Lib.hid hb1; clear hb1)
  go_ret
  exact ⟨rfl, HB1.out⟩
end Go.Proofs.YtlejlgamefdckaaDoor
