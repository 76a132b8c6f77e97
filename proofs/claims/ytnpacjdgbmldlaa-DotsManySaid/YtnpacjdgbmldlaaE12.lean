/- The law DotsMany of layer 4, walked. -/
import Derived.Test.YtnpacjdgbmldlaaE10
import Derived.Test.YtnpacjdgbmldlaaE11
namespace Go.Proofs.Ytnpacjdgbmldlaa
open Go.RowKit Go.Shelf Go.Lib Go.Sort Wr

/-- A node's first dots in block g. -/
structure GA (w : World) (g : Nat) (n : Int) (q : Nat) (x : World) : Prop where
  row : x.heap[g]? = some (.cells (dots2 (runF n q)).toArray 25 (0, 0))
  le : w.heap.size ≤ g
  below : Below w.heap.size w x
theorem GA.then_ {w x y : World} {g : Nat} {n : Int} {q : Nat} (hb : Below x.heap.size x y) (h : GA w g n q x) : GA w g n q y := ⟨(hb.block _ (lt_of_row h.row)).trans h.row, h.le, h.below.trans (hb.mono h.below.size)⟩
theorem GA.drew {w x : World} {g : Nat} {n : Int} {q : Nat} (h : GA w g n q x) : GA w g n q x.drew := h.then_ (drewB x)
theorem GA.dots {w x : World} {g : Nat} {n : Int} {q : Nat} (h : GA w g n q x) : Dots x (· < x.heap.size) (some ⟨g, 0, none⟩) (runF n q) := block_dots h.row (lt_of_row h.row)
theorem GA.at_ {w x : World} {g : Nat} {n : Int} {q i : Nat} (h : GA w g n q x) (hi : i < q) : rangeA x g (i * 2) #[.int .i64 n, .int .u64 ((i : Int) + 1)] := by
  have h1 := h.dots.at_j (j := i) (b := g) (o := 0) (by rw [runF_len]; exact hi)
  rw [run_get hi, Nat.zero_add] at h1
  have e : (dotC (n, i + 1)) = #[.int .i64 n, .int .u64 ((i : Int) + 1)] := by simp [dotC]
  rw [← e]
  exact h1
theorem GA.right {w x : World} {g : Nat} {n : Int} {q : Nat} (h : GA w g n q x) (h1 : 1 ≤ n) (h2 : n ≤ 8) (h3 : q ≤ 2000) : Calls Try.prog 20 #[.slice (some ⟨g, 0, none⟩) q q] x fun e w' => e = .returned (.bool true) ∧ Below x.heap.size x w' := by
  have hc := dright_any (runF n q) q _ x h.dots (by rw [runF_len]; omega)
  rw [runF_len, run_set h1 h2 h3] at hc
  exact hc
theorem GA.whole {w x : World} {g : Nat} {n : Int} {q : Nat} (h : GA w g n q x) (h1 : 1 ≤ n) (h2 : n ≤ 8) (h3 : q ≤ 2000) : Calls Try.prog 22 #[.slice (some ⟨g, 0, none⟩) q q] x fun e w' => e = .returned (.bool true) ∧ Below x.heap.size x w' := by
  have hc := dwhole_any (runF n q) q _ x h.dots (by rw [runF_len]; omega) (run_lt h3)
  rw [runF_len, run_whole h1 h2 h3] at hc
  exact hc
theorem GA.owns {w x : World} {g : Nat} {n : Int} {q : Nat} (h : GA w g n q x) (h3 : q ≤ 2000) : x.ownsRow w.heap.size 25 2 (.slice (some ⟨g, 0, none⟩) q q) q (dots2 (runF n q)) :=
  ⟨by rw [dots2_len, runF_len], .inr ⟨g, q, _, rfl, h.le, h.row, Nat.le_refl _, by unfold maxLen; omega, by simp [dots2_len, runF_len], by
    rw [List.take_of_length_le]
    simp [dots2_len, runF_len]⟩⟩
theorem size25x (n : Int) (k : Int) : (Try.prog.info? 25).map (·.size) = some (#[.int .i64 n, .int .u64 k] : Array Value).size := dot_size25 (n, 0)

/-- Appending a dot, behind a guard that lets it. -/
theorem wpList_append_dotG {P : Program} {w : World} {ops : Array Oper} {rest : List Oper} {o : Oper} {a : Act} {Q : Exit → Act → World → Prop} (hw : Region.wanted o (yielded ops a.tmps) = true) (s x : Operand) (t : TypeId)
    (ho : o.op = .call { callee := .builtin .append, args := #[s, x], argTypes := #[t, t] }) (base : Nat) (e : TypeId) (z : Value) (bytes : Nat) (ht : P.underlying t = some (.slice e))
    (hinfo : (P.info? e).map (fun i => (i.zero, i.size, i.bytes)) = some (some z, 2, bytes)) (hzs : z.cells.size = 2)
    (v : Value) (n : Nat) (xs : List Value) (hs : a.eval s = v) (hown : w.ownsRow base e 2 v n xs) (d : Dt) (te : TypeId)
    (hx : a.eval x = .slice (some ⟨w.heap.size, 0, none⟩) 1 1) (h63 : n + 1 ≤ maxLen) (hbytes : (n + 1) * bytes ≤ 140737488355328) (hbase : base ≤ w.heap.size)
    (h : ∀ v' w', Hid (w'.ownsRow base e 2 v' (n + 1) (xs ++ dcells d)) → Hid (Below base w w') → wpList P ops Q rest (a.put o.dst v') w') : wpList P ops Q (o :: rest) a (w.alloc (.cells (dotC d) te)) := by
  obtain ⟨i, hi, hz, hsz, hby⟩ := info_parts hinfo
  refine wpList_wanted hw fun K hK => ?_
  refine wp_append_own _ s x t ho base e i z 2 bytes ht hi hz hsz hby hzs (by decide) v n xs hs (hown.alloc _) ⟨w.heap.size, 0, none⟩ 1 1 (dcells d) hx rfl (fun j u hu => ?_) (fun y hy => ?_) h63 hbytes (by rw [World.size_alloc]; omega) ?_
  · rw [Addr.add_mid, Nat.zero_add, cell_of_row _ _ _ _ _ _ (heap_alloc_new _ _)]
    match j, hu with
    | 0, hu => exact hu
    | 1, hu => exact hu
  · simp only [dcells, List.mem_cons, List.mem_nil_iff, or_false] at hy
    rcases hy with rfl | rfl <;> rfl
  · intro v' w' hown' hg _
    refine hK _ _ (h v' w' hown' ((Below.alloc (Below.refl base w) hbase _).grown hg (by rw [World.size_alloc]; omega) fun k hk => ?_))
    exact ((hown.alloc (.cells (dotC d) te)).lt k hk).1
set_option maxRecDepth 100000 in
set_option maxHeartbeats 8000000 in
theorem law_many (m : Nat) (node : Int) (w : World) (hm : m < 65536) :
    Calls Try.prog 4 #[.int .u16 (m : Int), .int .i64 node] w fun e w' => e = .returned (.bool true) ∧ Below w.heap.size w w' := by
  by_cases hbad : 2100 < m ∨ node < 1 ∨ 8 < node
  · rcases hbad with h | h | h
    · have h' : (2100 : Int) < (m : Int) := by omega
      clear h
      go_enter Try.func4, Try.ntmps4
      go_wp2_with (go_at_call 18; refine (alive4_any _).mono ?_; rintro e w' ⟨rfl, hb⟩; have HB := Lib.hid hb; clear hb)
      all_goals
        go_ret
        exact ⟨rfl, HB.out⟩
    all_goals
      go_enter Try.func4, Try.ntmps4
      go_wp2_with (go_at_call 18; refine (alive4_any _).mono ?_; rintro e w' ⟨rfl, hb⟩; have HB := Lib.hid hb; clear hb)
      all_goals
        go_ret
        exact ⟨rfl, HB.out⟩
  · have H1 : Hid (1 ≤ node) := Lib.hid (by omega)
    have H2 : Hid (node ≤ 8) := Lib.hid (by omega)
    have HM : Hid (m ≤ 2100) := Lib.hid (by omega)
    have i1 : ¬ (2100 : Int) < (m : Int) := by omega
    have i2 : ¬ node < 1 := by omega
    have i3 : ¬ 8 < node := by omega
    have eN : IntKind.i64.wrap (m : Int) = (m : Int) := by rw [IntKind.wrap_i64]; omega
    clear hbad hm
    go_enter Try.func4, Try.ntmps4
    go_wp2
    clear i1 i2 i3
    go_loopw [5, 6] (fun u v wr => ∃ k p : Nat, k + p = m ∧ v = .int .i64 (p : Int) ∧ Hid (wr.ownsRow w.heap.size 25 2 u k (dots2 (backF node m k))) ∧ Hid (Below w.heap.size w wr)) (fun _ v _ => (intOf v).toNat)
    case atStart => exact ⟨0, m, by omega, rfl, World.ownsRow_nil _ _ _ _, Below.refl _ _⟩
    case round =>
      obtain ⟨k, p, hkp, rfl, HO, HB⟩ := hrel
      by_cases hp : 0 < p
      · have hpi : (0 : Int) < (p : Int) := by omega
        have e1 : IntKind.i64.wrap ((p : Int) - 1) = (p : Int) - 1 := by have := HM.out; rw [IntKind.wrap_i64]; omega
        have e2 : IntKind.u64.wrap (p : Int) = (p : Int) := by have := HM.out; rw [IntKind.wrap_u64]; omega
        have S0 := Lib.hid HB.out.size
        have HT : Hid (dots2 (backF node m (k + 1)) = dots2 (backF node m k) ++ dcells (node, p)) := Lib.hid (by rw [backF, dots2_append, dots2_one, show m - k = p by omega])
        have HKP := Lib.hid hkp
        clear hkp eN
        go_wp2_with (refine wpList_append_dot rfl (.tmp 27) (.tmp 32) 22 rfl w.heap.size 25 (.agg #[.int .i64 0, .int .u64 0]) 16 Try.underlying22 info25 rfl _ k _ rfl HO.out (node, p) 25 rfl (by have := HM.out; have := HKP.out; unfold maxLen; omega) (by have := HM.out; have := HKP.out; omega) S0.out ?_; intro v1 w3 H3 B3)
        go_roundw
        case rel =>
          refine ⟨k + 1, p - 1, by have := HKP.out; omega, by go_num, ?_, Lib.hid (HB.out.trans B3.out)⟩
          rw [HT.out]
          exact H3
        case measure => simp [intOf]; omega
      · obtain rfl : p = 0 := by omega
        obtain rfl : k = m := by omega
        obtain ⟨A, c, rfl, hd, hc, _⟩ := own_dots HO.out
        have HF := Lib.hid (dof_any (backF node k k) c A wr (hd.loose fun b h => h.2) (by rw [backF_len]; have := HM.out; omega))
        rw [setF_rt, of_back H1.out H2.out, runF_len] at HF
        clear hd hc HO hkp hp
        go_wp2_with fail
        refine HF.out.mono ?_
        rintro e w3 ⟨g, rfl, hg, hr, hb⟩
        clear HF
        by_cases h2000 : 2000 < k
        · obtain ⟨q, hq⟩ : ∃ q, q = min 2000 k := ⟨_, rfl⟩
          rw [← hq] at hr ⊢
          obtain rfl : q = 2000 := by omega
          have HG : Hid (GA w g node 2000 w3) := Lib.hid ⟨hr, Nat.le_trans HB.out.size hg, HB.out.trans (hb.mono HB.out.size)⟩
          have hki : (2000 : Int) < (k : Int) := by omega
          clear hq hg hr hb HB h2000
          go_wp2
          go_loopw [9] (fun v wx => ∃ i : Nat, i ≤ 2000 ∧ v = .int .i64 i ∧ Hid (GA w g node 2000 wx)) (fun v _ => 2000 - (intOf v).toNat)
          case atStart => exact ⟨0, by omega, rfl, HG⟩
          case round =>
            clear HG
            obtain ⟨i, hi, rfl, HG⟩ := hrel
            by_cases hlt : i < 2000
            · have hli : (i : Int) < (2000 : Int) := by omega
              have HL := Lib.hid (HG.out.at_ hlt)
              have s25 := Lib.hid (size25x node ((i : Int) + 1))
              have e1 : IntKind.i64.wrap ((i : Int) + 1) = (i : Int) + 1 := by have := HM.out; rw [IntKind.wrap_i64]; omega
              have e2 : IntKind.u64.wrap ((i : Int) + 1) = (i : Int) + 1 := by have := HM.out; rw [IntKind.wrap_u64]; omega
              go_wp2_with (first
                | (refine wpList_load_arr rfl 25 _ rfl g (i * 2) rfl #[.int .i64 node, .int .u64 ((i : Int) + 1)] _ HL.out Try.underlying25 rfl s25.out ?_)
                | fail)
              go_roundw
              case rel => exact ⟨i + 1, by omega, by go_num, HG⟩
              case measure => simp [intOf]; omega
            · obtain rfl : 2000 = i := by omega
              have HQ2 : Hid (2000 ≤ 2000) := Lib.hid (by omega)
              have hnl : ¬ (2000 : Int) < (2000 : Int) := by omega
              have HLS : Hid (isSet (runF node 2000 ++ [(8, 1099511627776)]) = false) := Lib.hid (long_set (by rw [List.length_append, runF_len]; decide))
              have hk2 : ¬ (k : Int) ≤ 2000 := by omega
              clear hlt
              go_wp2_with fail
              refine (alive4_any _).mono ?_
              rintro e x ⟨rfl, hb⟩
              replace HG := Lib.hid (HG.out.then_ hb)
              clear hb
              go_wp2_with fail
              refine (HG.out.whole H1.out H2.out HQ2.out).mono ?_
              rintro e x ⟨rfl, hb⟩
              replace HG := Lib.hid (HG.out.then_ hb)
              clear hb
              go_wp2_with fail
              refine (HG.out.right H1.out H2.out HQ2.out).mono ?_
              rintro e x ⟨rfl, hb⟩
              replace HG := Lib.hid (HG.out.then_ hb)
              clear hb
              have HOW := Lib.hid (HG.out.owns (by omega))
              have S0 := Lib.hid HG.out.below.size
              go_wp2_with (first
                | (refine wpList_append_dotG (by first | rfl | go_simp) (.tmp 80) (.tmp 82) 22 rfl w.heap.size 25 (.agg #[.int .i64 0, .int .u64 0]) 16 Try.underlying22 info25 rfl _ 2000 _ rfl HOW.out (8, 1099511627776) 25 rfl (by unfold maxLen; omega) (by omega) S0.out ?_; intro v1 w5 H5 B5)
                | fail)
              rw [← dots2_one, ← dots2_append] at H5
              obtain ⟨A5, c5, rfl, hd5, _, _⟩ := own_dots H5.out
              have hc := dright_any _ c5 A5 w5 (hd5.loose fun b h => h.2) (by rw [List.length_append, runF_len]; decide)
              rw [HLS.out] at hc
              have HC := Lib.hid hc
              have HB5 : Hid (Below w.heap.size w w5) := Lib.hid (HG.out.below.trans B5.out)
              clear hc hd5 HOW HG
              go_wp2_with fail
              refine HC.out.mono ?_
              rintro e x ⟨rfl, hb⟩
              have HX := Lib.hid (HB5.out.trans (hb.mono HB5.out.size))
              clear hb HC HB5
              go_wp2
              go_ret
              exact ⟨rfl, HX.out⟩
        · rw [Nat.min_eq_right (by omega)] at hr ⊢
          have HG : Hid (GA w g node k w3) := Lib.hid ⟨hr, Nat.le_trans HB.out.size hg, HB.out.trans (hb.mono HB.out.size)⟩
          have hki : ¬ (2000 : Int) < (k : Int) := by omega
          clear hg hr hb HB h2000
          go_wp2
          go_loopw [9] (fun v wx => ∃ i : Nat, i ≤ k ∧ v = .int .i64 i ∧ Hid (GA w g node k wx)) (fun v _ => k - (intOf v).toNat)
          case atStart => exact ⟨0, by omega, rfl, HG⟩
          case round =>
            clear HG
            obtain ⟨i, hi, rfl, HG⟩ := hrel
            by_cases hlt : i < k
            · have hli : (i : Int) < (k : Int) := by omega
              have HL := Lib.hid (HG.out.at_ hlt)
              have s25 := Lib.hid (size25x node ((i : Int) + 1))
              have e1 : IntKind.i64.wrap ((i : Int) + 1) = (i : Int) + 1 := by have := HM.out; rw [IntKind.wrap_i64]; omega
              have e2 : IntKind.u64.wrap ((i : Int) + 1) = (i : Int) + 1 := by have := HM.out; rw [IntKind.wrap_u64]; omega
              go_wp2_with (first
                | (refine wpList_load_arr rfl 25 _ rfl g (i * 2) rfl #[.int .i64 node, .int .u64 ((i : Int) + 1)] _ HL.out Try.underlying25 rfl s25.out ?_)
                | fail)
              go_roundw
              case rel => exact ⟨i + 1, by omega, by go_num, HG⟩
              case measure => simp [intOf]; omega
            · obtain rfl : k = i := by omega
              have HQ2 : Hid (k ≤ 2000) := Lib.hid (by omega)
              have hnl : ¬ (k : Int) < (k : Int) := by omega
              have hk2 : (k : Int) ≤ 2000 := by omega
              clear hlt
              go_wp2_with fail
              refine (alive4_any _).mono ?_
              rintro e x ⟨rfl, hb⟩
              replace HG := Lib.hid (HG.out.then_ hb)
              clear hb
              go_wp2_with fail
              refine (HG.out.whole H1.out H2.out HQ2.out).mono ?_
              rintro e x ⟨rfl, hb⟩
              replace HG := Lib.hid (HG.out.then_ hb)
              clear hb
              go_wp2_with fail
              refine (HG.out.right H1.out H2.out HQ2.out).mono ?_
              rintro e x ⟨rfl, hb⟩
              replace HG := Lib.hid (HG.out.then_ hb)
              clear hb
              have HX := Lib.hid HG.out
              go_wp2
              go_ret
              exact ⟨rfl, HX.out.below⟩
end Go.Proofs.Ytnpacjdgbmldlaa
