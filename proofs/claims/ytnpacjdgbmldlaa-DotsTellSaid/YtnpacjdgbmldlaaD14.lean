/- The iterator over the dots that may be, of several lists; a copy without room. -/
import Derived.Test.YtnpacjdgbmldlaaWin
namespace Go.Proofs.Ytnpacjdgbmldlaa
open Go.RowKit Go.Shelf
attribute [local go_sem] Oper.semAt_some

/-- The dots of a list that may be. -/
def rt (ls : List Dt) : List Dt := ls.filter fun d => Vec.right d.1 d.2
/-- .. of several lists. -/
def rts (LL : List (List Dt)) : List Dt := LL.flatMap rt
theorem rt_take (ls : List Dt) {j : Nat} (h : j < ls.length) : rt (ls.take (j + 1)) = rt (ls.take j) ++ if Vec.right (ls.getD j (0, 0)).1 (ls.getD j (0, 0)).2 = true then [ls.getD j (0, 0)] else [] := by
  rw [List.take_add_one, List.getD_eq_getElem?_getD, List.getElem?_eq_getElem h]
  unfold rt
  rw [List.filter_append]
  simp [List.filter_cons]
theorem rts_take (LL : List (List Dt)) {i : Nat} (h : i < LL.length) : rts (LL.take (i + 1)) = rts (LL.take i) ++ rt (LL.getD i []) := by
  rw [List.take_add_one, List.getD_eq_getElem?_getD, List.getElem?_eq_getElem h]
  unfold rts
  rw [List.flatMap_append]
  simp
theorem rt_pre (ls : List Dt) (j : Nat) : rt (ls.take j) <+: rt ls := by
  conv => rhs; rw [← List.take_append_drop j ls]
  unfold rt
  rw [List.filter_append]
  exact List.prefix_append _ _
theorem rts_pre (LL : List (List Dt)) {i : Nat} (h : i < LL.length) (j : Nat) : rts (LL.take i) ++ rt ((LL.getD i []).take j) <+: rts LL := by
  have h1 : rts (LL.take (i + 1)) <+: rts LL := by
    conv => rhs; rw [← List.take_append_drop (i + 1) LL]
    unfold rts
    rw [List.flatMap_append]
    exact List.prefix_append _ _
  rw [rts_take LL h] at h1
  exact ((List.prefix_append_right_inj _).2 (rt_pre _ j)).trans h1

/-- The slice at A holds lists of dots, whose blocks lie below n₀. -/
structure Lists (w : World) (n₀ : Nat) (b o : Nat) (LL : List (List Dt)) : Prop where
  at_ : ∀ i, i < LL.length → ∃ A c, w.cell? ⟨b, o + i, none⟩ = some (.slice A (LL.getD i []).length c) ∧ Dots w (· < n₀) A (LL.getD i [])
theorem Lists.kept {w w' : World} {n₀ b o : Nat} {LL : List (List Dt)} (h : Lists w n₀ b o LL) (hb : Below n₀ w w') (hr : b < w.heap.size → w'.heap[b]? = w.heap[b]?) : Lists w' n₀ b o LL :=
  ⟨fun i hi => by
    obtain ⟨A, c, h1, h2⟩ := h.at_ i hi
    exact ⟨A, c, (World.cell?_of_block (w := w) (a := ⟨b, o + i, none⟩) (hr (World.block_lt_of_cell? w _ h1))).trans h1, h2.below hb⟩⟩
theorem Lists.below {w w' : World} {n₀ b o : Nat} {LL : List (List Dt)} (h : Lists w n₀ b o LL) (hb : Below n₀ w w') (hl : b < n₀) : Lists w' n₀ b o LL := h.kept hb fun _ => hb.block b hl
theorem Lists.grow {w w' : World} {n₀ b o : Nat} {LL : List (List Dt)} (h : Lists w n₀ b o LL) (hb : Below w.heap.size w w') : Lists w' n₀ b o LL :=
  ⟨fun i hi => by
    obtain ⟨A, c, h1, h2⟩ := h.at_ i hi
    exact ⟨A, c, (World.cell?_of_block (w := w) (a := ⟨b, o + i, none⟩) (hb.block b (World.block_lt_of_cell? w _ h1))).trans h1, h2.keep fun b' j _ hlt => World.cell?_of_block (w := w) (a := ⟨b', j, none⟩) (hb.block b' hlt)⟩⟩

set_option maxRecDepth 100000 in
set_option maxHeartbeats 4000000 in
theorem right1_in (n : Nat) (hn : 1 ≤ n) (l Bs n₀ b o c : Nat) (LL : List (List Dt)) (hll : LL.length ≤ 1000) (hm : ∀ ls ∈ LL, ls.length ≤ 1000000) (K : World → World → Prop) (hK : ∀ X Y, K X Y → Lists X n₀ b o LL → Lists Y n₀ b o LL) (hKB : ∀ X Y, K X Y → Below n₀ X Y) (J : List Dt → World → Prop) (W : World) (hJ : OwnFrom W.heap.size J)
    (hY : ∀ pre x W1, J pre W1 → pre ++ [x] <+: rts LL → YieldAt Fence.wide (n - 1) Try.prog l #[dotV x.1 x.2] W1 fun e W' => e = .returned (.bool true) ∧ J (pre ++ [x]) W' ∧ K W1 W')
    (hBs : W.cell? ⟨Bs, 0, none⟩ = some (.slice (some ⟨b, o, none⟩) LL.length c)) (hL : Lists W n₀ b o LL) (h0 : J [] W) :
    CallsIn Fence.wide n Try.prog 110 #[.func (.yield l) #[] #[], .pointer (some ⟨Bs, 0, none⟩)] W fun e W' => (∃ v, e = .returned v) ∧ J (rts LL) W' := by
  have HY := Lib.hid hY
  have HJ := Lib.hid hJ
  have HM := Lib.hid hm
  have HLL := Lib.hid hll
  have HK := Lib.hid hK
  have HKB := Lib.hid hKB
  have HL0 := Lib.hid hL
  clear hY hJ hm hll hK hKB hL
  refine callsIn_of_wp Try.func110 rfl trivial ?_ rfl
  simp only [Try.ntmps110, List.size_toArray, List.length_cons, List.length_nil, Nat.reduceAdd, Nat.reduceSub, Array.replicate_succ, Array.replicate_zero, List.push_toArray, List.append_toArray, List.nil_append, List.cons_append]
  gi_wp2
  gi_loopw [9] (fun i wr => ∃ k : Nat, k ≤ LL.length ∧ i = .int .i64 k ∧ Hid (J (rts (LL.take k)) wr) ∧ Hid (Lists wr n₀ b o LL))
    (fun i _ => LL.length - (intOf i).toNat)
  case atStart => exact ⟨0, Nat.zero_le _, rfl, Lib.hid h0, HL0⟩
  case round =>
    clear HL0
    obtain ⟨k, hk, rfl, HJs, HB⟩ := hrel
    by_cases hlt : k < LL.length
    · obtain ⟨A, c1, hc0, hD⟩ := HB.out.at_ k hlt
      have HD := Lib.hid hD
      have HC0 := Lib.hid hc0
      obtain ⟨ls, hls⟩ : ∃ ls, ls = LL.getD k [] := ⟨_, rfl⟩
      rw [← hls] at HC0 HD
      have HT : Hid (rts (LL.take (k + 1)) = rts (LL.take k) ++ rt ls) := Lib.hid (by rw [hls]; exact rts_take LL hlt)
      have HP : Hid (∀ j, rts (LL.take k) ++ rt (ls.take j) <+: rts LL) := Lib.hid (fun j => by rw [hls]; exact rts_pre LL hlt j)
      have HM1 : Hid (ls.length ≤ 1000000) := Lib.hid (HM.out _ (by rw [hls, List.getD_eq_getElem?_getD, List.getElem?_eq_getElem hlt]; exact List.getElem_mem hlt))
      obtain ⟨acc, hacc⟩ : ∃ acc, acc = rts (LL.take k) := ⟨_, rfl⟩
      rw [← hacc] at HJs HT HP
      have eK : IntKind.i64.wrap ((k : Int) + 1) = (k : Int) + 1 := by have := HLL.out; rw [IntKind.wrap_i64]; omega
      have hc := HC0.out
      clear hacc hls hD hc0
      gi_wp2
      clear hc
      gi_loopw [15] (fun i wr => ∃ j : Nat, j ≤ ls.length ∧ i = .int .i64 j ∧ Hid (J (acc ++ rt (ls.take j)) wr) ∧ Hid (Lists wr n₀ b o LL) ∧ Hid (Dots wr (· < n₀) A ls))
        (fun i _ => ls.length - (intOf i).toNat)
      case atStart => exact ⟨0, Nat.zero_le _, rfl, Lib.hid (by simpa [rt] using HJs.out), HB, HD⟩
      case round =>
        clear HB HJs HD
        obtain ⟨j, hj, rfl, HJs, HB, HD⟩ := hrel
        by_cases hlt2 : j < ls.length
        · obtain ⟨b1, o1, hA⟩ := HD.out.some_ (by omega)
          subst hA
          obtain ⟨d, hd⟩ : ∃ d, d = ls.getD j (0, 0) := ⟨_, rfl⟩
          have hr : Hid (rangeA wr b1 (o1 + j * 2) (dotC d)) := Lib.hid (by rw [hd]; exact HD.out.at_j hlt2)
          have s25 := Lib.hid (dot_size25 d)
          have HR : Hid (rt (ls.take (j + 1)) = rt (ls.take j) ++ if Vec.right d.1 d.2 = true then [d] else []) := Lib.hid (by rw [hd]; exact rt_take ls hlt2)
          obtain ⟨ac2, hac2⟩ : ∃ ac2, ac2 = acc ++ rt (ls.take j) := ⟨_, rfl⟩
          have HX : Hid (acc ++ rt (ls.take (j + 1)) = ac2 ++ if Vec.right d.1 d.2 = true then [d] else []) := Lib.hid (by rw [HR.out, hac2, List.append_assoc])
          have HPJ : Hid (ac2 ++ (if Vec.right d.1 d.2 = true then [d] else []) <+: rts LL) := Lib.hid (by rw [← HX.out]; exact HP.out (j + 1))
          rw [← hac2] at HJs
          have eJ : IntKind.i64.wrap ((j : Int) + 1) = (j : Int) + 1 := by have := HM1.out; rw [IntKind.wrap_i64]; omega
          have HN : Hid (DotAt (wr.alloc (.cells (dotC d) 25)) wr.heap.size 25 d.1 d.2) := Lib.hid (DotAt.new wr 25 d.1 d.2)
          clear hd hac2
          gi_wp2_with (first
            | (refine wpListIn_load_arr rfl 25 _ rfl b1 (o1 + j * 2) rfl (dotC d) _ hr.out Try.underlying25 rfl s25.out ?_)
            | (refine wpListIn_store_row rfl 25 _ _ rfl wr.heap.size (dotC d) rfl rfl 25 _ (heap_alloc_new _ _) s25.out rfl rfl ?_; rw [World.setRow_alloc_new])
            | (refine wpListIn_load_arr rfl 25 _ rfl wr.heap.size 0 rfl (dotC d) _ HN.out.range Try.underlying25 rfl s25.out ?_)
            | fail)
          refine ⟨trivial, (callsIn_wide.2 (right_any d.1 d.2 _)).mono ?_⟩
          rintro e w2 ⟨rfl, hb⟩
          have HJ2 : Hid (J ac2 w2) := Lib.hid (HJ.out _ _ _ none HJs.out (only_below ((below1 wr (.cells (dotC d) 25)).trans (hb.mono (below1 wr (.cells (dotC d) 25)).size)) none) (fun r e => by cases e))
          have hbb : Below wr.heap.size wr w2 := (below1 wr (.cells (dotC d) 25)).trans (hb.mono (below1 wr (.cells (dotC d) 25)).size)
          have HB2 : Hid (Lists w2 n₀ b o LL) := Lib.hid (HB.out.grow hbb)
          have HDD2 : Hid (Dots w2 (· < n₀) (some ⟨b1, o1, none⟩) ls) := Lib.hid (HD.out.keep fun b' j' _ hl => World.cell?_of_block (w := wr) (a := ⟨b', j', none⟩) (hbb.block b' hl))
          have HN2 : Hid (DotAt w2 wr.heap.size 25 d.1 d.2) := Lib.hid (HN.out.below hb HN.out.lt)
          clear hb HN HB HJs hr hbb HD
          cases hri : Vec.right d.1 d.2 with
          | false =>
            rw [hri] at HX HPJ
            gi_wp2_with fail
            refine ⟨fun _ h => (by cases h), ?_⟩
            gi_wp2_with fail
            go_roundw
            all_goals clear eJ eK
            case rel => exact ⟨j + 1, by omega, by go_num, by rw [HX.out]; simpa using HJ2, HB2, HDD2⟩
            case measure => simp [intOf]; omega
          | true =>
            rw [hri] at HX HPJ
            have HPL : Hid (ac2 ++ [d] <+: rts LL) := Lib.hid (by simpa using HPJ.out)
            obtain ⟨fn, tmps, assign, body, hy, hR⟩ := HY.out ac2 d w2 HJ2.out HPL.out
            have hy2 : (Instr.yield l #[Value.agg (dotC d)]).run Try.prog w2 = .ok (.round l fn tmps assign body) w2 := hy
            clear hy
            gi_wp2_with (first
              | (refine wpListIn_load_w 25 _ rfl rfl wr.heap.size 0 rfl (dotC d) _ HN2.out.range Try.underlying25 rfl s25.out ?_)
              | fail)
            refine hR.mono ?_
            rintro e W3 ⟨rfl, hJ3, hk3⟩
            have HJ3 : Hid (J (acc ++ rt (ls.take (j + 1))) W3) := Lib.hid (by rw [HX.out]; simpa using hJ3)
            have HB3 := Lib.hid (HK.out _ _ hk3 HB2.out)
            have HDD3 := Lib.hid (HDD2.out.below (HKB.out _ _ hk3))
            clear hJ3 hk3 hR hy2
            gi_wp2_with fail
            go_roundw
            all_goals clear eJ eK
            case rel => exact ⟨j + 1, by omega, by go_num, HJ3, HB3, HDD3⟩
            case measure => simp [intOf]; omega
        · obtain rfl : j = ls.length := by omega
          rw [List.take_length] at HJs
          gi_wp2_with fail
          go_roundw
          all_goals clear eK
          case rel => exact ⟨k + 1, by omega, by go_num, by rw [HT.out]; exact HJs, HB⟩
          case measure => simp [intOf]; omega
    · obtain rfl : k = LL.length := by omega
      rw [List.take_length] at HJs
      gi_wp2_with fail
      go_end0
      exact ⟨⟨_, rfl⟩, HJs.out⟩
end Go.Proofs.Ytnpacjdgbmldlaa
