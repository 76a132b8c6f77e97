/- The iterator over the dots of one list that stand in another, or don't. -/
import Derived.Test.YtnpacjdgbmldlaaE1
namespace Go.Proofs.Ytnpacjdgbmldlaa
open Go.RowKit Go.Shelf Go.Lib Go.Sort
attribute [local go_sem] Oper.semAt_some

theorem YieldAt.deep {m : Nat} (m' : Nat) {P : Program} {l : Nat} {args : Array Value} {W : World} {R : Ending → World → Prop} (h : YieldAt Fence.wide m P l args W R) : YieldAt Fence.wide m' P l args W R := by
  obtain ⟨fn, tmps, assign, body, hy, hR⟩ := h
  exact ⟨fn, tmps, assign, body, hy, hR.1, fun c cs _ => hR.2 c cs (room_wide _)⟩
theorem RoundIn.deepIn {m : Nat} (m' l' : Nat) {P : Program} {l : Nat} {f : FuncId} {tmps : Array Value} {assign body : Code} {w : World} {R : Ending → World → Prop} (h : RoundIn Fence.wide m P l f tmps assign body w R) : RoundIn (Fence.wide.inRound l') m' P l f tmps assign body w R :=
  ⟨h.1, fun c cs _ => h.2 c cs (room_wide _)⟩
def pickF (xs ys : List Dt) (q : Bool) : List Dt := (rt xs).filter fun d => decide (d ∈ rt ys) == q

/-- What the iterator laid itself, and what its caller collects in box n₀: between two rounds. -/
structure PickI (n₀ : Nat) (W V : World) (X : World) : Prop where
  below : Below n₀ W X
  mine : ∀ k o, W.heap.size ≤ k → V.heap[k]? = some o → o.isCells = true → X.heap[k]? = some o
  own : ∀ k, boxOwn n₀ X = some k → k < W.heap.size ∨ V.heap.size ≤ k
  size : V.heap.size ≤ X.heap.size
theorem PickI.grow {n₀ : Nat} {W V X Y : World} (h : PickI n₀ W V X) (hn : n₀ < W.heap.size) (hW : W.heap.size ≤ V.heap.size) (hb : Below X.heap.size X Y) : PickI n₀ W V Y where
  below := h.below.trans (hb.mono (by have := h.size; omega))
  mine k o h1 h2 h3 := (hb.block k (lt_of_row (h.mine k o h1 h2 h3))).trans (h.mine k o h1 h2 h3)
  own k hk := by
    rw [boxOwn_eq (hb.block n₀ (by have := h.size; omega))] at hk
    exact h.own k hk
  size := Nat.le_trans h.size hb.size
theorem PickI.round {n₀ : Nat} {W V X Y : World} (h : PickI n₀ W V X) (hn : n₀ < W.heap.size) {N : Nat} (hk : KeepB n₀ N X Y) : PickI n₀ W V Y where
  below := h.below.trans hk.below
  mine k o h1 h2 h3 := hk.kept k o (h.mine k o h1 h2 h3) h3 (by omega) fun e => by
    rcases h.own k e with h4 | h4
    · omega
    · have := lt_of_row h2
      omega
  own k he := by
    rcases hk.own k he with h1 | h1
    · exact h.own k h1
    · exact .inr (Nat.le_trans h.size h1)
  size := Nat.le_trans h.size hk.below.size
theorem PickI.own_ {n₀ : Nat} {W V : World} (hn : n₀ < W.heap.size) (hW : W.heap.size ≤ V.heap.size) {β : Type} : OwnFrom V.heap.size (fun (_ : β) X => PickI n₀ W V X) := fun _ A C row hs hg hr => by
  have hne : ∀ k, k < V.heap.size → some k ≠ row := fun k hk e => by
    have := (hr k e.symm).1
    omega
  refine ⟨hs.below.grown hg (by have := hs.size; omega) (fun k e => ?_), fun k o h1 h2 h3 => ?_, fun k hk => ?_, Nat.le_trans hs.size hg.size⟩
  · have := (hr k e).1
    omega
  · exact (hg.block k (lt_of_row (hs.mine k o h1 h2 h3)) (hne k (lt_of_row h2))).trans (hs.mine k o h1 h2 h3)
  · rw [boxOwn_eq (hg.block n₀ (by have := hs.size; omega) (hne n₀ (by omega)))] at hk
    exact hs.own k hk

set_option maxRecDepth 100000 in
set_option maxHeartbeats 4000000 in
theorem picked_yields (xs ys : List Dt) (q : Bool) (bx by_ bq n₀ : Nat) (A B : Option Addr) (cA cB : Nat) (w : World) (hnx : bx < n₀) (hny : by_ < n₀) (hnq : bq < n₀) (hn : n₀ ≤ w.heap.size)
    (hx : w.heap[bx]? = some (.cells #[.slice A xs.length cA] 22 (0, 0))) (hy : w.heap[by_]? = some (.cells #[.slice B ys.length cB] 22 (0, 0))) (hq : w.heap[bq]? = some (.cells #[.bool q] 4 (0, 0)))
    (hX : Dots w (· < n₀) A xs) (hYY : Dots w (· < n₀) B ys) (hmx : xs.length ≤ 1000000) (hmy : ys.length ≤ 1000000) :
    Yields 112 #[.pointer (some ⟨by_, 0, none⟩), .pointer (some ⟨bx, 0, none⟩), .pointer (some ⟨bq, 0, none⟩)] (pickF xs ys q) n₀ w := by
  intro m h1 l J W hW hPre hJ hY h0
  obtain ⟨hp1, hp2⟩ := hPre
  refine (callsIn_wide (n := m)).2 ((callsIn_wide (n := 9)).1 ?_)
  have HY := Lib.hid (fun pre x W1 hj hl => YieldAt.deep 5 (hY pre x W1 hj hl))
  have HJ := Lib.hid hJ
  have HW := Lib.hid (hW.mono hn)
  have HX := Lib.hid (hX.below HW.out)
  have HYY := Lib.hid (hYY.below HW.out)
  have hbx : W.heap[bx]? = some (.cells #[.slice A xs.length cA] 22 (0, 0)) := (HW.out.block bx hnx).trans hx
  have hby : W.heap[by_]? = some (.cells #[.slice B ys.length cB] 22 (0, 0)) := (HW.out.block by_ hny).trans hy
  have hbq : W.heap[bq]? = some (.cells #[.bool q] 4 (0, 0)) := (HW.out.block bq hnq).trans hq
  have HBX := Lib.hid hbx
  have HBY := Lib.hid hby
  have HBQ := Lib.hid hbq
  have HP1 := Lib.hid hp1
  have HP2 := Lib.hid hp2
  have H0 := Lib.hid h0
  have HMX := Lib.hid hmx
  have HMY := Lib.hid hmy
  have HNW : Hid (n₀ ≤ W.heap.size) := Lib.hid (Nat.le_of_lt hp1)
  clear hY hJ hX hYY hx hy hq hbx hbq hp2 h0 hW hmx hmy
  have hcy : W.cell? ⟨by_, 0, none⟩ = some (.slice B ys.length cB) := by rw [cell_of_row _ _ _ _ _ _ hby]; rfl
  have hyy : by_ ≠ W.heap.size := by have := lt_of_row hby; omega
  clear hby
  change CallsIn Fence.wide 9 Try.prog 112 #[.func (.yield l) #[] #[], .pointer (some ⟨by_, 0, none⟩), .pointer (some ⟨bx, 0, none⟩), .pointer (some ⟨bq, 0, none⟩)] W _
  refine callsIn_of_wp_marks Try.func112 rfl trivial ?_ rfl
  simp only [Try.ntmps112, List.size_toArray, List.length_cons, List.length_nil, Nat.reduceAdd, Nat.reduceSub, Array.replicate_succ, Array.replicate_zero, List.push_toArray, List.append_toArray, List.nil_append, List.cons_append]
  have hcy1 : (W.alloc (.cells #[.func (.yield l) #[] #[]] 51)).cell? ⟨by_, 0, none⟩ = some (.slice B ys.length cB) := (World.cell?_alloc_old _ _ _ hyy).trans hcy
  clear hcy hyy
  gi_wp2_with fail
  refine ⟨trivial, (callsIn_wide.2 (rightV_any _ 1 1 _)).mono ?_⟩
  rintro e w3 ⟨rfl, hw3⟩
  have hsz3 : w3.heap.size = W.heap.size + 3 := by rw [hw3]; simp
  have hB3 : Below W.heap.size W w3 := by rw [hw3]; exact (below2 _ _ _).alloc (by simp; omega) _
  have hby3 : w3.heap[W.heap.size]? = some (.cells #[.func (.yield l) #[] #[]] 51 (0, 0)) := by
    rw [hw3, Below.heap_alloc _ _ _ (by simp; omega), Below.heap_alloc _ _ _ (by simp)]
    exact heap_alloc_new _ _
  have hrow3 : w3.heap[W.heap.size + 1]? = some (.cells #[.slice B ys.length cB] 22 (0, 0)) := by
    rw [hw3, Below.heap_alloc _ _ _ (by simp)]
    have h := heap_alloc_new (W.alloc (.cells #[.func (.yield l) #[] #[]] 51)) (.cells #[.slice B ys.length cB] 22)
    rwa [World.size_alloc] at h
  have hbox3 : w3.heap[W.heap.size + 2]? = some (.cells #[.slice (some ⟨W.heap.size + 1, 0, none⟩) 1 1] 149 (0, 0)) := by
    rw [hw3]
    have h := heap_alloc_new ((W.alloc (.cells #[.func (.yield l) #[] #[]] 51)).alloc (.cells #[.slice B ys.length cB] 22)) (.cells #[.slice (some ⟨W.heap.size + 1, 0, none⟩) 1 1] 149)
    rwa [World.size_alloc, World.size_alloc] at h
  have HY3 : Hid (Dots w3 (· < w3.heap.size) B ys) := Lib.hid ((HYY.out.below (hB3.mono HNW.out)).loose fun b h => by have := HNW.out; omega)
  have hrts : rts [ys] = rt ys := by simp [rts]
  have hyl := right_yields (W.heap.size + 2) w3.heap.size (W.heap.size + 1) 0 1 [ys] (by simp) (fun l hl => by rw [List.mem_singleton.1 hl]; exact HMY.out) w3 (by omega) (by omega)
    (by rw [cell_of_row _ _ _ _ _ _ hbox3]; rfl)
    ⟨fun i hi => by
      obtain rfl : i = 0 := by simpa using hi
      exact ⟨B, cB, by rw [cell_of_row _ _ _ _ _ _ hrow3]; rfl, HY3.out⟩⟩
  rw [hrts] at hyl
  have HSO := Lib.hid (sorted_any 110 _ (rt ys) w3 enters110 hyl (Nat.le_trans (List.length_filter_le _ _) HMY.out))
  have HB3 := Lib.hid hB3
  have HBY3 := Lib.hid hby3
  have HZ3 := Lib.hid hsz3
  clear hw3 hsz3 hB3 hby3 hrow3 hbox3 hrts hyl hcy1
  gi_wp2_with fail
  refine ⟨trivial, (callsIn_wide.2 HSO.out).mono ?_⟩
  rintro e w4 ⟨A', c', rfl, hD4, hc4, hB4⟩
  have hB5 := HB3.out.trans (hB4.mono (by have := HZ3.out; omega))
  have hby4 := (hB4.block _ (lt_of_row HBY3.out)).trans HBY3.out
  obtain ⟨hd, hhd⟩ : ∃ hd, hd = sortD (rt ys) := ⟨_, rfl⟩
  have HHD := Lib.hid hhd
  rw [← hhd] at hD4 hc4 ⊢
  have HD4 := Lib.hid hD4
  have HC4 := Lib.hid hc4
  have HB4 := Lib.hid hB5
  have HBY4 := Lib.hid hby4
  have HW3 : Hid (W.heap.size ≤ w3.heap.size) := Lib.hid (by have := HZ3.out; omega)
  have HZ4 : Hid (W.heap.size + 3 ≤ w4.heap.size) := Lib.hid (by have := hB4.size; have := HZ3.out; omega)
  have hbx4 : w4.heap[bx]? = some (.cells #[.slice A xs.length cA] 22 (0, 0)) := (hB5.block bx (by have := lt_of_row HBX.out; omega)).trans HBX.out
  have hcx5 : (w4.alloc (.cells #[.slice A' hd.length c'] 22)).cell? ⟨bx, 0, none⟩ = some (.slice A xs.length cA) := by
    rw [World.cell?_alloc_old _ _ _ (by have := lt_of_row hbx4; show bx ≠ w4.heap.size; omega), cell_of_row _ _ _ _ _ _ hbx4]
    rfl
  clear hhd hD4 hc4 hB4 hB5 hby4 HSO HY3 HB3 HBY3 HZ3 hbx4
  gi_wp2_with fail
  refine ⟨trivial, (callsIn_wide.2 (rightV_any _ 1 1 _)).mono ?_⟩
  rintro e V ⟨rfl, hw7⟩
  have hsz7 : V.heap.size = w4.heap.size + 3 := by rw [hw7]; simp
  have hB7 : Below w4.heap.size w4 V := by rw [hw7]; exact (below2 _ _ _).alloc (by simp; omega) _
  have hhb7 : V.heap[w4.heap.size]? = some (.cells #[.slice A' hd.length c'] 22 (0, 0)) := by
    rw [hw7, Below.heap_alloc _ _ _ (by simp; omega), Below.heap_alloc _ _ _ (by simp)]
    exact heap_alloc_new _ _
  have hrow7 : V.heap[w4.heap.size + 1]? = some (.cells #[.slice A xs.length cA] 22 (0, 0)) := by
    rw [hw7, Below.heap_alloc _ _ _ (by simp)]
    have h := heap_alloc_new (w4.alloc (.cells #[.slice A' hd.length c'] 22)) (.cells #[.slice A xs.length cA] 22)
    rwa [World.size_alloc] at h
  have hbox7 : V.heap[w4.heap.size + 2]? = some (.cells #[.slice (some ⟨w4.heap.size + 1, 0, none⟩) 1 1] 149 (0, 0)) := by
    rw [hw7]
    have h := heap_alloc_new ((w4.alloc (.cells #[.slice A' hd.length c'] 22)).alloc (.cells #[.slice A xs.length cA] 22)) (.cells #[.slice (some ⟨w4.heap.size + 1, 0, none⟩) 1 1] 149)
    rwa [World.size_alloc, World.size_alloc] at h
  have hBV : Below W.heap.size W V := HB4.out.trans (hB7.mono (by have := HZ4.out; omega))
  have hpv : PickI n₀ W V V := ⟨hBV.mono HNW.out, fun k o _ h _ => h, fun k hk => by
    rw [boxOwn_eq (hBV.block n₀ HP1.out)] at hk
    exact .inl (HP2.out k hk), Nat.le_refl _⟩
  have hj7 : J [] V := HJ.out _ _ _ none H0.out (only_below hBV none) (fun r e => by cases e)
  have hX7 : Dots V (· < n₀) A xs := HX.out.below (hBV.mono HNW.out)
  have hD7 : Dots V (fun b => W.heap.size ≤ b ∧ b < w4.heap.size) A' hd := (HD4.out.loose fun b h => ⟨by have := h.1; have := HW3.out; omega, h.2⟩).keep fun b j hb _ => World.cell?_of_block (w := w4) (a := ⟨b, j, none⟩) (hB7.block b hb.2)
  have hby7 : V.heap[W.heap.size]? = some (.cells #[.func (.yield l) #[] #[]] 51 (0, 0)) := (hB7.block _ (lt_of_row HBY4.out)).trans HBY4.out
  have hbq7 : V.heap[bq]? = some (.cells #[.bool q] 4 (0, 0)) := (hBV.block bq (lt_of_row HBQ.out)).trans HBQ.out
  have HSP := Lib.hid (sortD_spec (rt ys))
  rw [← HHD.out] at HSP
  have HHL : Hid (hd.length ≤ 1000000) := Lib.hid (by rw [HHD.out]; exact Nat.le_trans (sortD_len _) (Nat.le_trans (List.length_filter_le _ _) HMY.out))
  have HBV := Lib.hid hBV
  have HZ7 : Hid (W.heap.size + 3 ≤ w4.heap.size ∧ V.heap.size = w4.heap.size + 3) := Lib.hid ⟨HZ4.out, hsz7⟩
  have HJ7 := Lib.hid hj7
  have HX7 := Lib.hid hX7
  have HD7 := Lib.hid hD7
  have HBY7 := Lib.hid hby7
  have HBQ7 := Lib.hid hbq7
  have HHB7 := Lib.hid hhb7
  have HPV := Lib.hid hpv
  have hrts : rts [xs] = rt xs := by simp [rts]
  have hrg := right_gives (fun _ X Y => Below n₀ X Y ∧ ∀ k o, W.heap.size ≤ k → V.heap[k]? = some o → o.isCells = true → Y.heap[k]? = X.heap[k]?) (fun _ => True) (w4.heap.size + 2) n₀ (w4.heap.size + 1) 0 1 [xs] (by simp) (fun l hl => by rw [List.mem_singleton.1 hl]; exact HMX.out) V (by omega)
    (fun _ X Y hk hL => hL.kept hk.1 fun _ => hk.2 _ _ (by have := HZ4.out; omega) hrow7 rfl) (fun _ X Y hk => hk.1)
    (by rw [cell_of_row _ _ _ _ _ _ hbox7]; rfl)
    ⟨fun i hi => by
      obtain rfl : i = 0 := by simpa using hi
      exact ⟨A, cA, by rw [cell_of_row _ _ _ _ _ _ hrow7]; rfl, hX7⟩⟩
  rw [hrts] at hrg
  have HRG := Lib.hid hrg
  clear hw7 hsz7 hB7 hhb7 hrow7 hbox7 hBV hpv hj7 hX7 hD7 hby7 hbq7 hrts hrg hcx5 HHD HB4 HBY4 HD4 HC4 HX HYY HBX HBY H0 HP2 HW3 HZ4
  gi_wp2_with fail
  have s25 : ∀ d, Hid ((Try.prog.info? 25).map (·.size) = some (dotC d).size) := fun d => Lib.hid (dot_size25 d)
  obtain ⟨f, hf⟩ : ∃ f : Dt → Bool, f = fun d => decide (d ∈ rt ys) == q := ⟨_, rfl⟩
  have HF := Lib.hid hf
  have HPF : Hid (pickF xs ys q = (rt xs).filter f) := Lib.hid (by rw [hf]; rfl)
  clear hf
  refine wpIn_range_gives (n := 9) (by decide) (gf := 110) (lb := #[.pointer (some ⟨w4.heap.size + 2, 0, none⟩)]) rfl enters110 HRG.out (fun _ _ => trivial)
    (fun h k => ⟨h.1.trans k.1, fun j o a b c => (k.2 j o a b c).trans (h.2 j o a b c)⟩)
    (fun X l o o' hl _ ho hc => ⟨below_putObj (by have := HZ7.out; have := HNW.out; omega) _, fun k x h1 h2 h3 => World.putObj_heap_other (by have := lt_of_row h2; omega)⟩)
    (Below.refl _ _) (fun _ => rfl)
    (fun pre X => J (pre.filter f) X ∧ PickI n₀ W V X)
    (OwnFrom.and (fun s A B row hs hg hr => HJ.out _ A B row hs hg fun r e => ⟨by have := (hr r e).1; have := HZ7.out; omega, (hr r e).2⟩) (PickI.own_ HP1.out (by have := HZ7.out; omega)))
    ⟨HJ7.out, HPV.out⟩
    (fun x a' X => ∃ Bx, V.heap.size ≤ Bx ∧ DotAt X Bx 25 x.1 x.2 ∧ a' = { tmps := #[.func (.yield l) #[] #[], .pointer (some ⟨by_, 0, none⟩), .pointer (some ⟨bx, 0, none⟩), .pointer (some ⟨bq, 0, none⟩), .pointer (some ⟨W.heap.size, 0, none⟩), .pointer (some ⟨w4.heap.size, 0, none⟩), .pointer (some ⟨Bx, 0, none⟩), .slice B ys.length cB, .slice (some ⟨W.heap.size + 1, 0, none⟩) 1 1, .func (.func 110) #[] #[.pointer (some ⟨W.heap.size + 1 + 1, 0, none⟩)], .slice A' hd.length c', .slice A xs.length cA, .slice (some ⟨w4.heap.size + 1, 0, none⟩) 1 1, .func (.func 110) #[] #[.pointer (some ⟨w4.heap.size + 1 + 1, 0, none⟩)], .agg (dotC x), undef, undef, undef, undef, undef, undef, undef, undef, undef, undef, undef], defers := [] })
    (fun x a' _ X Y row hs hg hr => by obtain ⟨Bx, h1, h2, h3⟩ := hs; exact ⟨Bx, h1, dotAt_own Bx 25 (fun (_ : Unit) => x.1) (fun _ => x.2) () X Y row h2 hg (fun r e => (hr r e).2), h3⟩)
    ?assign ?body ?done
  case assign =>
    rintro l' pre x X K ⟨hjx, hpx⟩ hK
    gi_wp2_with (first
      | (refine wpListIn_store_row rfl 25 _ _ rfl X.heap.size (dotC x) rfl rfl 25 _ (heap_alloc_new _ _) (s25 x).out rfl rfl ?_; rw [World.setRow_alloc_new])
      | fail)
    refine hK _ _ ((KeepsOthers.alloc _ _).from _) ⟨(below1 X _).mono (by have := hpx.size; have := HZ7.out; have := HNW.out; omega), fun k o h1 h2 h3 => Below.heap_alloc _ _ _ (lt_of_row (hpx.mine k o h1 h2 h3))⟩
      ⟨HJ.out _ _ _ none hjx (World.grownBy_alloc X _ none) (fun r e => by cases e), hpx.grow HP1.out (by have := HZ7.out; omega) (below1 X _)⟩ ⟨X.heap.size, hpx.size, DotAt.new X 25 x.1 x.2, rfl⟩
  case body =>
    rintro l' pre x a' X ⟨hjx, hpx⟩ ⟨Bx, hBx, bX, rfl⟩ hpre
    have hmix : Try.prog.follows .mixedOrders = true := by kernel_rfl
    have hhb : X.heap[w4.heap.size]? = some (.cells #[.slice A' hd.length c'] 22 (0, 0)) := hpx.mine _ _ (by have := HZ7.out; omega) HHB7.out rfl
    have hyb : X.heap[W.heap.size]? = some (.cells #[.func (.yield l) #[] #[]] 51 (0, 0)) := hpx.mine _ _ (Nat.le_refl _) HBY7.out rfl
    have hqb : X.heap[bq]? = some (.cells #[.bool q] 4 (0, 0)) := (hpx.below.block bq hnq).trans HBQ.out
    have hDX : Dots X (· < X.heap.size) A' hd := ⟨fun hp => by
      obtain ⟨b, o, e, hb, hc⟩ := HD7.out.at_ hp
      refine ⟨b, o, e, by have := hpx.size; have := HZ7.out; omega, fun j hj i v hi => ?_⟩
      have h1 := hc j hj i v hi
      obtain ⟨ob, hob, hoc⟩ := cells_of_cell h1
      have h2 := hpx.mine b ob (by omega) hob hoc
      rw [← h1]
      exact World.cell?_of_block (w := V) (a := ⟨b, o + j * 2 + i, none⟩) (h2.trans hob.symm)⟩
    have HAM := Lib.hid (fun Y (hY : Below X.heap.size X Y) => among_any hd c' A' x Y ((hDX.below hY).loose fun b h => Nat.lt_of_lt_of_le h hY.size) HHL.out HSP.out.1)
    have hc5 : X.cell? ⟨w4.heap.size, 0, none⟩ = some (.slice A' hd.length c') := by rw [cell_of_row _ _ _ _ _ _ hhb]; rfl
    have hc4 : X.cell? ⟨W.heap.size, 0, none⟩ = some (.func (.yield l) #[] #[]) := by rw [cell_of_row _ _ _ _ _ _ hyb]; rfl
    have hc3 : X.cell? ⟨bq, 0, none⟩ = some (.bool q) := by rw [cell_of_row _ _ _ _ _ _ hqb]; rfl
    have hd0 := bX.node
    have hd1 := bX.num
    have HJX := Lib.hid hjx
    have HPX := Lib.hid hpx
    have HBX := Lib.hid bX
    clear hjx hpx bX hDX
    obtain ⟨bb, hbb⟩ : ∃ bb, bb = decide (x ∈ hd) := ⟨_, rfl⟩
    have HFX : Hid (f x = (bb == q)) := Lib.hid (by rw [HF.out, hbb]; simp only [decide_eq_decide.2 (HSP.out.2 x)])
    have HAM2 := Lib.hid (fun Y hY => by have h := HAM.out Y hY; rw [← hbb] at h; exact h)
    have HFP : Hid ((pre ++ [x]).filter f = pre.filter f ++ if (bb == q) = true then [x] else []) := Lib.hid (by rw [List.filter_append, List.filter_cons, HFX.out]; cases (bb == q) <;> simp)
    have HPX2 : Hid ((pre ++ [x]).filter f <+: pickF xs ys q) := Lib.hid (by rw [HPF.out]; exact List.IsPrefix.filter f hpre)
    rw [HFP.out] at HPX2
    clear hbb HAM
    have nxt : ∀ Y, Below X.heap.size X Y → Y.cell? ⟨bq, 0, none⟩ = some (.bool q) ∧ Y.cell? ⟨W.heap.size, 0, none⟩ = some (.func (.yield l) #[] #[]) ∧ DotAt Y Bx 25 x.1 x.2 ∧ J (pre.filter f) Y ∧ PickI n₀ W V Y := fun Y hY =>
      ⟨(World.cell?_of_block (w := X) (a := ⟨bq, 0, none⟩) (hY.block _ (lt_of_row hqb))).trans hc3, (World.cell?_of_block (w := X) (a := ⟨W.heap.size, 0, none⟩) (hY.block _ (lt_of_row hyb))).trans hc4, HBX.out.below hY HBX.out.lt,
        HJ.out _ _ _ none HJX.out (only_below hY none) (fun r e => by cases e), HPX.out.grow HP1.out (by have := HZ7.out; omega) hY⟩
    have NXT := Lib.hid nxt
    clear nxt hpre hhb hyb hqb
    have HXD : Hid (Below X.heap.size X X.drew) := Lib.hid (Below.refl _ _).drew
    by_cases hbq2 : bb = q
    · subst hbq2
      rw [if_pos (by simp)] at HPX2 HFP
      gi_wp2_with fail
      gi_region_with_o (first
        | (refine ⟨trivial, (CallsIn.inRound l' (callsIn_wide.2 (HAM2.out _ HXD.out))).mono ?_⟩
           rintro e w9 ⟨rfl, hb9⟩
           obtain ⟨hc3', hc4', hbx', hj', hp'⟩ := NXT.out w9 (HXD.out.trans hb9)
           have hd0' := hbx'.node
           have hd1' := hbx'.num
           have HP9 := Lib.hid hp'
           obtain ⟨fn, tmps, assign, body, hy, hR⟩ := HY.out (pre.filter f) x w9 hj' HPX2.out
           have HR := Lib.hid hR
           have HB9 := Lib.hid (HXD.out.trans hb9)
           clear hp' hj' hbx' hb9 hR)
        | (refine RoundIn.mono (RoundIn.deepIn 6 l' HR.out) ?_
           rintro e w10 ⟨rfl, hj10, hk10⟩
           have HJ10 := Lib.hid hj10
           have HK10 := Lib.hid hk10
           clear hj10 hk10 hy HR))
      all_goals
        gi_wp2_with fail
        have HP10 : PickI n₀ W V w10 := HP9.out.round HP1.out HK10.out
        refine ⟨⟨Nat.le_trans HB9.out.size HK10.out.below.size, fun k o hk ho hc => HK10.out.others k o (by have := HZ7.out; omega) ((HB9.out.block k (lt_of_row ho)).trans ho) hc⟩, ⟨(HB9.out.mono (by have := HPX.out.size; have := HZ7.out; have := HNW.out; omega)).trans HK10.out.below, fun k o h1 h2 h3 => (HP10.mine k o h1 h2 h3).trans (HPX.out.mine k o h1 h2 h3).symm⟩, ?_, HP10⟩
        rw [HFP.out]
        exact HJ10.out
    · have hbqf : (bb == q) = false := by rw [beq_eq_false_iff_ne]; exact hbq2
      rw [if_neg (by rw [hbqf]; simp), List.append_nil] at HFP
      have hqb2 : (q == bb) = false := by rw [beq_eq_false_iff_ne]; exact fun e => hbq2 e.symm
      gi_wp2_with fail
      gi_region_with_o (first
        | (refine ⟨trivial, (CallsIn.inRound l' (callsIn_wide.2 (HAM2.out _ HXD.out))).mono ?_⟩
           rintro e w9 ⟨rfl, hb9⟩
           obtain ⟨hc3', hc4', hbx', hj', hp'⟩ := NXT.out w9 (HXD.out.trans hb9)
           have HP9 := Lib.hid hp'
           have HJ9 := Lib.hid hj'
           have HB9 := Lib.hid (HXD.out.trans hb9)
           clear hp' hj' hbx' hb9)
        | (refine ⟨fun _ h => (by cases h), ?_⟩))
      all_goals
        gi_wp2_with fail
        refine ⟨⟨HB9.out.size, fun k o hk ho hc => (HB9.out.block k (lt_of_row ho)).trans ho⟩, ⟨HB9.out.mono (by have := HPX.out.size; have := HZ7.out; have := HNW.out; omega), fun k o h1 h2 h3 => (HP9.out.mine k o h1 h2 h3).trans (HPX.out.mine k o h1 h2 h3).symm⟩, ?_, HP9.out⟩
        rw [HFP.out]
        exact HJ9.out
  case done =>
    rintro D X hD ⟨hjx, hpx⟩ hK
    have HK := Lib.hid hK
    have HJX := Lib.hid hjx
    have HPX := Lib.hid hpx
    clear hK hjx hpx
    gi_wp2_with fail
    refine ⟨by simp, .inl ⟨_, _, rfl, run_takeDeferred HK.out, ?_⟩⟩
    refine ⟨_, results_none rfl _ _ _, ⟨_, rfl⟩, ?_⟩
    rw [HPF.out]
    exact HJ.out _ _ _ (some D) HJX.out (grownBy_putObj' X D _) (fun r e => by cases e; exact ⟨by have := HZ7.out; omega, _, HK.out, rfl⟩)

theorem enters112 : Enters 112 := enters_of Try.func112 (by kernel_rfl) rfl
set_option maxHeartbeats 400000 in
theorem pickedV_any (A B : Option Addr) (n c m d : Nat) (q : Bool) (w : World) : Calls Try.prog 77 #[.slice A n c, .slice B m d, .bool q] w fun e w' => e = .returned (.func (.func 112) #[] #[.pointer (some ⟨w.heap.size + 1, 0, none⟩), .pointer (some ⟨w.heap.size, 0, none⟩), .pointer (some ⟨w.heap.size + 1 + 1, 0, none⟩)]) ∧ w' = ((w.alloc (.cells #[.slice A n c] 22)).alloc (.cells #[.slice B m d] 22)).alloc (.cells #[.bool q] 4) := by
  go_enter Try.func77, Try.ntmps77
  go_wp2
  go_ret
  exact ⟨rfl, rfl⟩
theorem pickF_of (xs ys : List Dt) (q : Bool) : setF (pickF xs ys q) = ofF (someF xs ys q) := by
  rw [← setF_rt]
  congr 1
  unfold pickF someF rt
  rw [List.filter_filter, List.filter_filter]
  refine List.filter_congr fun d _ => ?_
  cases hr : Vec.right d.1 d.2 with
  | false => simp
  | true =>
    have h : (d ∈ ys.filter fun d => Vec.right d.1 d.2) ↔ d ∈ ys := by rw [List.mem_filter]; simp [hr]
    simp only [decide_eq_decide.2 h, Bool.and_true, Bool.true_and]

set_option maxRecDepth 100000 in
set_option maxHeartbeats 1000000 in
theorem meet_any (k : Nat) (q : Bool) (hk : (k = 35 ∧ q = true) ∨ (k = 37 ∧ q = false)) (xs ys : List Dt) (c c' : Nat) (A B : Option Addr) (w : World) (hx : Dots w (· < w.heap.size) A xs) (hy : Dots w (· < w.heap.size) B ys) (hmx : xs.length ≤ 1000000) (hmy : ys.length ≤ 1000000) :
    Calls Try.prog k #[.slice A xs.length c, .slice B ys.length c'] w fun e w' => ∃ g, e = .returned (.slice (some ⟨g, 0, none⟩) (ofF (someF xs ys q)).length (ofF (someF xs ys q)).length) ∧ w.heap.size ≤ g ∧ w'.heap[g]? = some (.cells (dots2 (ofF (someF xs ys q))).toArray 25 (0, 0)) ∧ Below w.heap.size w w' := by
  have HP := Lib.hid (pickedV_any A B xs.length c ys.length c' q w)
  obtain ⟨w1, hw1⟩ : ∃ w1, w1 = ((w.alloc (.cells #[.slice A xs.length c] 22)).alloc (.cells #[.slice B ys.length c'] 22)).alloc (.cells #[.bool q] 4) := ⟨_, rfl⟩
  have hs1 : w1.heap.size = w.heap.size + 3 := by rw [hw1]; simp
  have hB1 : Below w.heap.size w w1 := by rw [hw1]; exact (below2 _ _ _).alloc (by simp; omega) _
  have h0 : w1.heap[w.heap.size]? = some (.cells #[.slice A xs.length c] 22 (0, 0)) := by
    rw [hw1, Below.heap_alloc _ _ _ (by simp; omega), Below.heap_alloc _ _ _ (by simp)]
    exact heap_alloc_new _ _
  have h1 : w1.heap[w.heap.size + 1]? = some (.cells #[.slice B ys.length c'] 22 (0, 0)) := by
    rw [hw1, Below.heap_alloc _ _ _ (by simp)]
    have h := heap_alloc_new (w.alloc (.cells #[.slice A xs.length c] 22)) (.cells #[.slice B ys.length c'] 22)
    rwa [World.size_alloc] at h
  have h2 : w1.heap[w.heap.size + 2]? = some (.cells #[.bool q] 4 (0, 0)) := by
    rw [hw1]
    have h := heap_alloc_new ((w.alloc (.cells #[.slice A xs.length c] 22)).alloc (.cells #[.slice B ys.length c'] 22)) (.cells #[.bool q] 4)
    rwa [World.size_alloc, World.size_alloc] at h
  have hX1 : Dots w1 (· < w1.heap.size) A xs := (hx.below hB1).loose fun b h => by omega
  have hY1 : Dots w1 (· < w1.heap.size) B ys := (hy.below hB1).loose fun b h => by omega
  have hyl := picked_yields xs ys q w.heap.size (w.heap.size + 1) (w.heap.size + 1 + 1) w1.heap.size A B c c' w1 (by omega) (by omega) (by omega) (Nat.le_refl _) h0 h1 h2 hX1 hY1 hmx hmy
  have hpl : (pickF xs ys q).length ≤ 1000000 := Nat.le_trans (List.length_filter_le _ _) (Nat.le_trans (List.length_filter_le _ _) hmx)
  have HC := Lib.hid (set_any 112 _ (pickF xs ys q) w1 enters112 hyl hpl)
  rw [pickF_of] at HC
  rw [← hw1] at HP
  have HB1 := Lib.hid hB1
  clear hw1 hs1 hB1 h0 h1 h2 hX1 hY1 hyl hpl hx hy hmx hmy
  obtain ⟨r, hr⟩ : ∃ r, r = ofF (someF xs ys q) := ⟨_, rfl⟩
  rw [← hr] at HC ⊢
  clear hr
  rcases hk with ⟨rfl, rfl⟩ | ⟨rfl, rfl⟩
  · go_enter Try.func35, Try.ntmps35
    go_wp2_with fail
    refine HP.out.mono ?_
    rintro e w2 ⟨rfl, rfl⟩
    go_wp2_with fail
    refine HC.out.mono ?_
    rintro e w2 ⟨g, rfl, hg, hr, hb⟩
    have HG := Lib.hid hg
    have HR := Lib.hid hr
    have HB := Lib.hid hb
    clear hg hr hb HC
    go_wp2_with fail
    go_ret
    exact ⟨g, rfl, Nat.le_trans HB1.out.size HG.out, HR.out, HB1.out.trans (HB.out.mono HB1.out.size)⟩
  · go_enter Try.func37, Try.ntmps37
    go_wp2_with fail
    refine HP.out.mono ?_
    rintro e w2 ⟨rfl, rfl⟩
    go_wp2_with fail
    refine HC.out.mono ?_
    rintro e w2 ⟨g, rfl, hg, hr, hb⟩
    have HG := Lib.hid hg
    have HR := Lib.hid hr
    have HB := Lib.hid hb
    clear hg hr hb HC
    go_wp2_with fail
    go_ret
    exact ⟨g, rfl, Nat.le_trans HB1.out.size HG.out, HR.out, HB1.out.trans (HB.out.mono HB1.out.size)⟩
end Go.Proofs.Ytnpacjdgbmldlaa
