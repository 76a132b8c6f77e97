/- Whole. -/
import Derived.Test.YtnpacjdgbmldlaaDm
namespace Go.Proofs.Ytnpacjdgbmldlaa
open Go.RowKit
structure SW (w : World) (A : Option Addr) (ls : List Dt) (f : Nat → Nat) (x : World) : Prop where
  r : x.rowIs w.heap.size 27 8 (fun i => .int .u64 ((f i : Nat) : Int))
  l : Dots x (· < w.heap.size) A ls
  below : Below w.heap.size w x
theorem SW.then_ {w x y : World} {A : Option Addr} {ls : List Dt} {f : Nat → Nat} (hb : Below x.heap.size x y) (I : SW w A ls f x) : SW w A ls f y :=
  ⟨row_below I.r hb I.r.lt, I.l.below (hb.mono I.below.size), I.below.trans (hb.mono I.below.size)⟩
theorem SW.alloc {w x : World} {A : Option Addr} {ls : List Dt} {f : Nat → Nat} (I : SW w A ls f x) (o : Obj) : SW w A ls f (x.alloc o) := SW.then_ (below1 x o) I
theorem SW.put {w x : World} {A : Option Addr} {ls : List Dt} {f : Nat → Nat} (I : SW w A ls f x) (g : Nat → Nat) : SW w A ls g (x.setRow w.heap.size (arrOf .u64 8 g)) :=
  ⟨arr_row (setRow_heap _ _ _ _ _ _ (row_arr I.r)), I.l.keep fun b j hb _ => World.cell?_of_block (w := x) (a := ⟨b, j, none⟩) (setRow_other _ _ _ _ (by show b ≠ _; omega)), below_setRow' I.below (Nat.le_refl _) _⟩
theorem SW.start (w : World) {A : Option Addr} {ls : List Dt} (h : Dots w (· < w.heap.size) A ls) : SW w A ls (fun _ => 0) (w.alloc (.cells #[.int .u64 0, .int .u64 0, .int .u64 0, .int .u64 0, .int .u64 0, .int .u64 0, .int .u64 0, .int .u64 0] 27)) :=
  ⟨zero_row w, h.below (below1 _ _), below1 _ _⟩
set_option maxRecDepth 100000 in
set_option maxHeartbeats 4000000 in
theorem dwhole_any (ls : List Dt) (c : Nat) (A : Option Addr) (w : World) (hv : Dots w (· < w.heap.size) A ls) (hm : ls.length ≤ 9223372036854775806) (hk : ∀ d ∈ ls, d.2 < 18446744073709551616) :
    Calls Try.prog 22 #[.slice A ls.length c] w fun e w' => e = .returned (.bool (isWhole ls)) ∧ Below w.heap.size w w' := by
  have HV := Lib.hid hv
  have HM := Lib.hid hm
  have HK := Lib.hid hk
  have s27 : ∀ {f : Nat → Nat}, Hid ((Try.prog.info? 27).map (·.size) = some (arrOf .u64 8 f).size) := fun {f} => by rw [arrOf_size]; exact size27
  have ss : ∀ {f g : Nat → Nat}, Hid ((arrOf .u64 8 f).size = (arrOf .u64 8 g).size) := fun {f g} => by rw [arrOf_size, arrOf_size]; exact rfl
  have HC := Lib.hid (dright_any ls c A w hv (by omega))
  clear hv hm hk
  cases hs : isSet ls with
  | false =>
    have HE := Lib.hid (isWhole_not hs)
    have HS := Lib.hid hs
    clear hs
    go_enter Try.func22, Try.ntmps22
    go_wp2_with fail
    refine HC.out.mono ?_
    rintro e w1 ⟨rfl, hb⟩
    rw [HS.out]
    have HB := Lib.hid hb
    clear hb
    go_wp2
    go_ret
    exact ⟨ret_bool HE.out.symm, HB.out⟩
  | true =>
    have HS := Lib.hid hs
    clear hs
    go_enter Try.func22, Try.ntmps22
    go_wp2_with fail
    refine HC.out.mono ?_
    rintro e w1 ⟨rfl, hb⟩
    rw [HS.out]
    have HBB := Lib.hid hb
    have HI0 := Lib.hid (SW.start w1 (A := A) (ls := ls) ⟨fun hp => by
      obtain ⟨b', o', e, h1, h2⟩ := (HV.out.below hb).at_ hp
      exact ⟨b', o', e, Nat.lt_of_lt_of_le h1 hb.size, h2⟩⟩)
    have HBB := Lib.hid hb
    clear hb HC HV
    go_wp2
    generalize w1.alloc (.cells #[.int .u64 0, .int .u64 0, .int .u64 0, .int .u64 0, .int .u64 0, .int .u64 0, .int .u64 0, .int .u64 0] 27) = w2 at *
    go_loopw [13] (fun v wr => ∃ j : Nat, j ≤ ls.length ∧ v = .int .i64 j ∧ Hid (∀ i, i < j → prevOk ls (ls.getD i (0, 0))) ∧ Hid (SW w1 A ls (spanF (ls.take j)) wr)) (fun v _ => ls.length - (intOf v).toNat)
    case atStart => exact ⟨0, by omega, rfl, fun i hi => by omega, HI0⟩
    case round =>
      clear HI0
      obtain ⟨j, hj, rfl, HN, HI⟩ := hrel
      by_cases hlt : j < ls.length
      · obtain ⟨b, off, hA⟩ := HI.out.l.some_ (by omega)
        subst hA
        obtain ⟨d, hd⟩ : ∃ d, d = ls.getD j (0, 0) := ⟨_, rfl⟩
        obtain ⟨f, hf⟩ : ∃ f, f = spanF (ls.take j) := ⟨_, rfl⟩
        have HF : Hid (spanF (ls.take (j + 1)) = Vec.with_ f d.1 d.2) := Lib.hid (by rw [spanF_take ls hlt, ← hf, ← hd])
        have HG : Hid (Vec.get f d.1 < 18446744073709551616) := Lib.hid (by rw [hf]; exact span_lt HS.out HK.out hj d.1)
        have HX : Hid (Vec.get f d.1 + 1 = d.2 ↔ prevOk ls d) := Lib.hid (by rw [hf]; exact next_iff HS.out hlt hd)
        have HIN : Hid (Vec.isNode d.1 = true) := Lib.hid (by
          have := set_right HS.out hlt
          rw [← hd] at this
          simp only [Vec.right, Vec.isNode, decide_eq_true_eq] at *
          exact ⟨this.1, this.2.1⟩)
        have hlim : d.2 < 18446744073709551616 := by rw [hd]; exact HK.out _ (getD_mem hlt)
        have HD := Lib.hid hd
        have HMEM : Hid (d ∈ ls) := Lib.hid (by rw [hd]; exact getD_mem hlt)
        have hr : Hid (rangeA wr b (off + j * 2) (dotC d)) := Lib.hid (by rw [hd]; exact HI.out.l.at_j hlt)
        rw [← hf] at HI
        have next : prevOk ls d → Hid (∀ i, i < j + 1 → prevOk ls (ls.getD i (0, 0))) := fun h => Lib.hid (fun i hi => by
          by_cases e : i = j
          · rw [e, ← HD.out]; exact h
          · exact HN.out i (by omega))
        have NX := Lib.hid next
        have HLIM := Lib.hid hlim
        obtain ⟨n, k⟩ := d
        have hN := Lib.hid (heap_alloc_new wr (.cells #[.int .i64 0, .int .u64 0] 25))
        have s25 : ∀ {d : Dt}, Hid ((Try.prog.info? 25).map (·.size) = some (dotC d).size) := fun {d} => dot_size25 d
        have o2 : ∀ {d : Dt}, Hid ((dotC d).all (·.oneCell') = true) := two_one _ _ rfl rfl
        have z2 : ∀ {d : Dt}, Hid ((#[.int .i64 0, .int .u64 0] : Array Value).size = (dotC d).size) := rfl
        have eJ : IntKind.i64.wrap ((j : Int) + 1) = (j : Int) + 1 := by have := HM.out; rw [IntKind.wrap_i64]; omega
        have HI2 := Lib.hid (HI.out.alloc (.cells (dotC (n, k)) 25))
        have HD2 : Hid (DotAt (wr.alloc (.cells (dotC (n, k)) 25)) wr.heap.size 25 n k) := DotAt.new wr 25 n k
        have HA2 := Lib.hid (row_arr HI2.out.r)
        clear hd hf hlim HI next
        go_wp2_with (first
          | (refine wpList_load_arr rfl 25 _ rfl b (off + j * 2) rfl (dotC (n, k)) _ hr.out Try.underlying25 rfl s25.out ?_)
          | (refine wpList_store_row rfl 25 _ _ rfl wr.heap.size (dotC (n, k)) rfl rfl 25 _ hN.out s25.out z2.out o2.out ?_; rw [World.setRow_alloc_new])
          | (refine wpList_load_row rfl 27 _ rfl w1.heap.size rfl 27 (arrOf .u64 8 f) (0, 0) _ HA2.out Try.underlying27 rfl s27.out ?_)
          | fail)
        refine (next_any f n _ HG.out).mono ?_
        rintro e w3 ⟨rfl, hb3⟩
        have HI3 := Lib.hid (HI2.out.then_ hb3)
        have HD3 : Hid (DotAt w3 wr.heap.size 25 n k) := HD2.out.below hb3 HD2.out.lt
        have H53 : Hid (wr.heap.size < w3.heap.size) := HD3.out.lt
        have hN3 := Lib.hid (heap_alloc_new w3 (.cells #[.int .i64 0, .int .u64 0] 25))
        clear hb3
        by_cases hp : Vec.get f n + 1 = k
        · have hE : Vec.next f n = (n, k, 0) := by
            have : k < 18446744073709551616 := HLIM.out
            unfold Vec.next
            rw [if_pos HIN.out, if_neg (by omega), hp]
          have HN2 := NX.out (HX.out.1 hp)
          rw [hE]
          have HD4 : Hid (DotAt (w3.alloc (.cells (dotC (n, k)) 25)) wr.heap.size 25 n k) := HD3.out.alloc _
          have HT4 : Hid (DotAt (w3.alloc (.cells (dotC (n, k)) 25)) w3.heap.size 25 n k) := DotAt.new w3 25 n k
          have HI4 := Lib.hid (HI3.out.alloc (.cells (dotC (n, k)) 25))
          have HA4 := Lib.hid (row_arr HI4.out.r)
          clear hE hp
          go_wp2_with (first
            | (refine wpList_store_row rfl 25 _ _ rfl w3.heap.size (dotC (n, k)) rfl rfl 25 _ hN3.out s25.out z2.out o2.out ?_; rw [World.setRow_alloc_new])
            | (refine wpList_load_w 25 _ rfl rfl w3.heap.size rfl 25 (dotC (n, k)) (0, 0) _ HT4.out Try.underlying25 rfl s25.out ?_)
            | (refine wpList_load_w 25 _ rfl rfl wr.heap.size rfl 25 (dotC (n, k)) (0, 0) _ HD4.out Try.underlying25 rfl s25.out ?_)
            | (refine wpList_load_row rfl 27 _ rfl w1.heap.size rfl 27 (arrOf .u64 8 f) (0, 0) _ HA4.out Try.underlying27 rfl s27.out ?_)
            | (refine wpList_load_row rfl 25 _ rfl wr.heap.size rfl 25 (dotC (n, k)) (0, 0) _ HD4.out Try.underlying25 rfl s25.out ?_)
            | fail)
          refine (with_any f n k _).mono ?_
          rintro e w5 ⟨rfl, hb5⟩
          have HI5 := Lib.hid (HI4.out.then_ hb5)
          have HA5 := Lib.hid (row_arr HI5.out.r)
          have HI6 : Hid (SW w1 (some ⟨b, off, none⟩) ls (spanF (ls.take (j + 1))) (w5.setRow w1.heap.size (arrOf .u64 8 (Vec.with_ f n k)))) := Lib.hid (by rw [HF.out]; exact HI5.out.put _)
          clear hb5
          go_wp2_with (first
            | (refine wpList_store_row rfl 27 _ _ rfl w1.heap.size (arrOf .u64 8 (Vec.with_ f n k)) rfl rfl 27 _ HA5.out s27.out ss.out (arrOf_one _ _ _) ?_; generalize w5.setRow w1.heap.size (arrOf .u64 8 (Vec.with_ f n k)) = w6 at *)
            | fail)
          go_roundw
          all_goals clear eJ
          case rel => exact ⟨j + 1, by omega, by go_num, HN2, HI6⟩
          case measure => simp [intOf]; omega
        · by_cases hq : Vec.get f n = 18446744073709551615
          · have hE : Vec.next f n = (0, 0, 13) := by
              unfold Vec.next
              rw [if_pos HIN.out, if_pos hq]
            have HE : Hid (isWhole ls = false) := Lib.hid (isWhole_bad HMEM.out (fun h => hp (HX.out.2 h)))
            rw [hE]
            have HI4 := Lib.hid (HI3.out.alloc (.cells (dotC (0, 0)) 25))
            clear hE hp hq
            go_wp2_with (first
              | (refine wpList_store_row rfl 25 _ _ rfl w3.heap.size (dotC (0, 0)) rfl rfl 25 _ hN3.out s25.out z2.out o2.out ?_; rw [World.setRow_alloc_new])
              | fail)
            go_ret
            exact ⟨ret_bool HE.out.symm, HBB.out.trans (HI4.out.below.mono HBB.out.size)⟩
          · obtain ⟨m, hM⟩ : ∃ m, m = Vec.get f n + 1 := ⟨_, rfl⟩
            have hE : Vec.next f n = (n, m, 0) := by
              unfold Vec.next
              rw [if_pos HIN.out, if_neg hq, hM]
            have HE : Hid (isWhole ls = false) := Lib.hid (isWhole_bad HMEM.out (fun h => hp (HX.out.2 h)))
            have hne : ¬ m = k := by rw [hM]; exact hp
            rw [hE]
            have HD4 : Hid (DotAt (w3.alloc (.cells (dotC (n, m)) 25)) wr.heap.size 25 n k) := HD3.out.alloc _
            have HT4 : Hid (DotAt (w3.alloc (.cells (dotC (n, m)) 25)) w3.heap.size 25 n m) := DotAt.new w3 25 n m
            have HI4 := Lib.hid (HI3.out.alloc (.cells (dotC (n, m)) 25))
            clear hE hp hq hM
            go_wp2_with (first
              | (refine wpList_store_row rfl 25 _ _ rfl w3.heap.size (dotC (n, m)) rfl rfl 25 _ hN3.out s25.out z2.out o2.out ?_; rw [World.setRow_alloc_new])
              | (refine wpList_load_w 25 _ rfl rfl w3.heap.size rfl 25 (dotC (n, m)) (0, 0) _ HT4.out Try.underlying25 rfl s25.out ?_)
              | (refine wpList_load_w 25 _ rfl rfl wr.heap.size rfl 25 (dotC (n, k)) (0, 0) _ HD4.out Try.underlying25 rfl s25.out ?_)
              | fail)
            go_ret
            exact ⟨ret_bool HE.out.symm, HBB.out.trans (HI4.out.below.mono HBB.out.size)⟩
      · obtain rfl : j = ls.length := by omega
        have HE : Hid (isWhole ls = true) := Lib.hid ((isWhole_iff ls).2 ⟨HS.out, fun d hd => by
          obtain ⟨i, hi, e⟩ := List.mem_iff_getElem.1 hd
          have h := HN.out i hi
          rw [List.getD_eq_getElem?_getD, List.getElem?_eq_getElem hi] at h
          rw [← e]
          exact h⟩)
        go_wp2
        go_ret
        exact ⟨ret_bool HE.out.symm, HBB.out.trans (HI.out.below.mono HBB.out.size)⟩
end Go.Proofs.Ytnpacjdgbmldlaa
