/- Add and Sum of tally. -/
import Derived.Test.YtbjndjmbbephbaaT4
namespace Go.Proofs.Ytbjndjmbbephbaa
open Go.RowKit

theorem sizes_arr (n : Int) : arrOf .u64 2 (Tal.szs n) = #[.int .u64 ((Tal.up n : Nat) : Int), .int .u64 ((Tal.down n : Nat) : Int)] := rfl
/-- A boxed argument and a result's cells. -/
structure One (w : World) (ca : Array Value) (ta : TypeId) (cr : Array Value) (tr : TypeId) (x : World) : Prop where
  a : x.heap[w.heap.size]? = some (.cells ca ta (0, 0))
  r : x.heap[w.heap.size + 1]? = some (.cells cr tr (0, 0))
  below : Below w.heap.size w x
theorem One.start (w : World) (ca cr : Array Value) (ta tr : TypeId) : One w ca ta cr tr ((w.alloc (.cells ca ta)).alloc (.cells cr tr)) := by
  have h1 : (w.alloc (.cells ca ta)).heap[w.heap.size]? = some (.cells ca ta (0, 0)) := heap_alloc_new _ _
  have h2 : ((w.alloc (.cells ca ta)).alloc (.cells cr tr)).heap[w.heap.size + 1]? = some (.cells cr tr (0, 0)) := by simpa using heap_alloc_new (w.alloc (.cells ca ta)) (.cells cr tr)
  have k1 := (below1 (w.alloc (.cells ca ta)) (.cells cr tr)).block w.heap.size (by simp)
  exact ⟨k1.trans h1, h2, below2 _ _ _⟩
theorem One.then_ {w x y : World} {ca cr : Array Value} {ta tr : TypeId} (hb : Below x.heap.size x y) (I : One w ca ta cr tr x) : One w ca ta cr tr y :=
  ⟨(hb.block _ (lt_of_row I.a)).trans I.a, (hb.block _ (lt_of_row I.r)).trans I.r, I.below.trans (hb.mono I.below.size)⟩
theorem One.drew {w x : World} {ca cr : Array Value} {ta tr : TypeId} (I : One w ca ta cr tr x) : One w ca ta cr tr x.drew := ⟨I.a, I.r, ⟨I.below.os, I.below.tape, I.below.output, I.below.size, I.below.block⟩⟩
theorem One.out {w x : World} {ca cr : Array Value} {ta tr : TypeId} (I : One w ca ta cr tr x) (cs : Array Value) : One w ca ta cs tr (x.setRow (w.heap.size + 1) cs) :=
  ⟨(setRow_other _ _ _ _ (by omega)).trans I.a, setRow_heap _ _ _ _ _ _ I.r, below_setRow' I.below (by omega) _⟩

set_option maxRecDepth 100000 in
set_option maxHeartbeats 1000000 in
theorem tadd_any (u d : Nat) (n : Int) (w : World) (h1 : -9223372036854775808 ≤ n) (h2 : n ≤ 9223372036854775807) :
    Calls Try.prog 25 #[tallyV u d, .int .i64 n] w fun e w' => e = .returned (tallyV (Tal.add u (Tal.up n)) (Tal.add d (Tal.down n))) ∧ Below w.heap.size w w' := by
  have HI0 := Lib.hid (One.start w #[.int .u64 (u : Int), .int .u64 (d : Int)] #[.int .u64 0, .int .u64 0] 40 40)
  have H1 := Lib.hid h1
  have H2 := Lib.hid h2
  clear h1 h2
  go_enter Try.func25, Try.ntmps25
  go_wp2_with fail
  generalize (w.alloc (.cells #[.int .u64 (u : Int), .int .u64 (d : Int)] 40)).alloc (.cells #[.int .u64 0, .int .u64 0] 40) = w1 at *
  refine (sizes_any n w1 H1.out H2.out).mono ?_
  rintro e w2 ⟨rfl, hb⟩
  rw [sizes_arr]
  have HI2 := Lib.hid (HI0.out.then_ hb)
  clear hb HI0
  obtain ⟨U, hU⟩ : ∃ U, U = Tal.up n := ⟨_, rfl⟩
  obtain ⟨D, hD⟩ : ∃ D, D = Tal.down n := ⟨_, rfl⟩
  rw [← hU, ← hD]
  have HU := Lib.hid hU
  have HD := Lib.hid hD
  clear hU hD
  have HN := Lib.hid (nums_new w2 0 0 55)
  have s55 : Hid ((Try.prog.info? 55).map (·.size) = some (#[.int .u64 (U : Int), .int .u64 (D : Int)] : Array Value).size) := size55
  have s40 : Hid ((Try.prog.info? 40).map (·.size) = some (#[.int .u64 (u : Int), .int .u64 (d : Int)] : Array Value).size) := size40
  have o2 : Hid ((#[.int .u64 (U : Int), .int .u64 (D : Int)] : Array Value).all (·.oneCell') = true) := two_one _ _ rfl rfl
  have z2 : Hid ((#[.int .u64 0, .int .u64 0] : Array Value).size = (#[.int .u64 (U : Int), .int .u64 (D : Int)] : Array Value).size) := rfl
  have HI3 := Lib.hid (HI2.out.then_ (below1 w2 (.cells #[.int .u64 (U : Int), .int .u64 (D : Int)] 55)))
  have HL := Lib.hid HI3.out.a
  go_wp2_with (first
    | (refine wpList_store_row rfl 55 _ _ rfl w2.heap.size #[.int .u64 (U : Int), .int .u64 (D : Int)] rfl rfl 55 _ HN.out s55.out z2.out o2.out ?_; rw [World.setRow_alloc_new])
    | (refine wpList_load_row rfl 40 _ rfl w.heap.size rfl 40 #[.int .u64 (u : Int), .int .u64 (d : Int)] (0, 0) _ HL.out Try.underlying40 rfl s40.out ?_))
  refine (tplus_any u d U D _).mono ?_
  rintro e w4 ⟨rfl, hb⟩
  have HI4 := Lib.hid (HI3.out.then_ hb)
  clear hb HI2 HI3 HL
  obtain ⟨P, hP⟩ : ∃ P, P = Tal.add u U := ⟨_, rfl⟩
  obtain ⟨Q, hQ⟩ : ∃ Q, Q = Tal.add d D := ⟨_, rfl⟩
  rw [← hP, ← hQ]
  have HP := Lib.hid hP
  have HQ := Lib.hid hQ
  have HE : Hid (Ending.returned (tallyV P Q) = Ending.returned (tallyV (Tal.add u (Tal.up n)) (Tal.add d (Tal.down n)))) := by show _ = _; rw [HP.out, HQ.out, HU.out, HD.out]
  clear hP hQ
  have t40 : Hid ((Try.prog.info? 40).map (·.size) = some (#[.int .u64 (P : Int), .int .u64 (Q : Int)] : Array Value).size) := size40
  have p2 : Hid ((#[.int .u64 (P : Int), .int .u64 (Q : Int)] : Array Value).all (·.oneCell') = true) := two_one _ _ rfl rfl
  have y2 : Hid ((#[.int .u64 0, .int .u64 0] : Array Value).size = (#[.int .u64 (P : Int), .int .u64 (Q : Int)] : Array Value).size) := rfl
  have HR := Lib.hid HI4.out.r
  have HO := Lib.hid (HI4.out.out #[.int .u64 (P : Int), .int .u64 (Q : Int)])
  go_wp2_with (first
    | (refine wpList_store_row rfl 40 _ _ rfl (w.heap.size + 1) #[.int .u64 (P : Int), .int .u64 (Q : Int)] rfl rfl 40 _ HR.out t40.out y2.out p2.out ?_)
    | (refine bodyPost_ret (results_cell_row Try.results25 _ _ (w.heap.size + 1) 40 _ (0, 0) _ rfl HO.out.r Try.underlying40 rfl t40.out) rfl ⟨HE.out, HO.out.below⟩))

/-- A slice of ints. -/
structure Ints (w : World) (ok : Nat → Prop) (A : Option Addr) (ls : List Int) : Prop where
  rng : ∀ x ∈ ls, -9223372036854775808 ≤ x ∧ x ≤ 9223372036854775807
  at_ : 0 < ls.length → ∃ b o, A = some ⟨b, o, none⟩ ∧ ok b ∧ ∀ j, j < ls.length → w.cell? ⟨b, o + j, none⟩ = some (.int .i64 (ls.getD j 0))
theorem Ints.keep {w w' : World} {ok : Nat → Prop} {A : Option Addr} {ls : List Int} (h : Ints w ok A ls) (hk : ∀ b j, ok b → b < w.heap.size → w'.cell? ⟨b, j, none⟩ = w.cell? ⟨b, j, none⟩) : Ints w' ok A ls :=
  ⟨h.rng, fun hp => by
    obtain ⟨b, o, e, hb, hc⟩ := h.at_ hp
    refine ⟨b, o, e, hb, fun j hj => ?_⟩
    have h1 := hc j hj
    rw [hk b _ hb (World.block_lt_of_cell? w _ h1)]
    exact h1⟩
theorem Ints.below {w w' : World} {B : Nat} {A : Option Addr} {ls : List Int} (h : Ints w (· < B) A ls) (hg : Below B w w') : Ints w' (· < B) A ls :=
  h.keep fun b j hb _ => World.cell?_of_block (w := w) (a := ⟨b, j, none⟩) (hg.block b hb)
namespace Tal
def ups (ls : List Int) : Nat := sum (ls.map up)
def downs (ls : List Int) : Nat := sum (ls.map down)
theorem sum_snoc' (ls : List Nat) (n : Nat) : sum (ls ++ [n]) = add (sum ls) n := by
  simp only [sum, add, List.sum_append, List.sum_cons, List.sum_nil]; omega
theorem ups_take (ls : List Int) {j : Nat} (h : j < ls.length) : ups (ls.take (j + 1)) = add (ups (ls.take j)) (up (ls.getD j 0)) := by
  rw [List.take_add_one, List.getD_eq_getElem?_getD, List.getElem?_eq_getElem h]
  simp only [ups, List.map_append, Option.toList_some, List.map_cons, List.map_nil, Option.getD_some]
  exact sum_snoc' _ _
theorem downs_take (ls : List Int) {j : Nat} (h : j < ls.length) : downs (ls.take (j + 1)) = add (downs (ls.take j)) (down (ls.getD j 0)) := by
  rw [List.take_add_one, List.getD_eq_getElem?_getD, List.getElem?_eq_getElem h]
  simp only [downs, List.map_append, Option.toList_some, List.map_cons, List.map_nil, Option.getD_some]
  exact sum_snoc' _ _
end Tal
/-- A result of noughts and a tally. -/
structure SInv (w : World) (u d : Nat) (x : World) : Prop where
  r : x.heap[w.heap.size]? = some (.cells #[.int .u64 0, .int .u64 0] 40 (0, 0))
  t : x.heap[w.heap.size + 1]? = some (.cells #[.int .u64 (u : Int), .int .u64 (d : Int)] 40 (0, 0))
  below : Below w.heap.size w x
theorem SInv.start (w : World) : SInv w 0 0 ((w.alloc (.cells #[.int .u64 0, .int .u64 0] 40)).alloc (.cells #[.int .u64 0, .int .u64 0] 40)) := by
  have h := One.start w #[.int .u64 0, .int .u64 0] #[.int .u64 0, .int .u64 0] 40 40
  exact ⟨h.a, h.r, h.below⟩
theorem SInv.then_ {w x y : World} {u d : Nat} (hb : Below x.heap.size x y) (I : SInv w u d x) : SInv w u d y :=
  ⟨(hb.block _ (lt_of_row I.r)).trans I.r, (hb.block _ (lt_of_row I.t)).trans I.t, I.below.trans (hb.mono I.below.size)⟩
theorem SInv.put {w x : World} {u d : Nat} (I : SInv w u d x) (p q : Nat) : SInv w p q (x.setRow (w.heap.size + 1) #[.int .u64 (p : Int), .int .u64 (q : Int)]) :=
  ⟨(setRow_other _ _ _ _ (by omega)).trans I.r, setRow_heap _ _ _ _ _ _ I.t, below_setRow' I.below (by omega) _⟩
theorem pair_size (x y : Int) : (Try.prog.info? 40).map (·.size) = some (#[.int .u64 x, .int .u64 y] : Array Value).size := size40

set_option maxRecDepth 100000 in
set_option maxHeartbeats 1000000 in
theorem tsum_any (ls : List Int) (c : Nat) (A : Option Addr) (w : World) (hv : Ints w (· < w.heap.size) A ls) (hm : ls.length ≤ 9223372036854775807) :
    Calls Try.prog 16 #[.slice A ls.length c] w fun e w' => e = .returned (tallyV (Tal.ups ls) (Tal.downs ls)) ∧ Below w.heap.size w w' := by
  have HV := Lib.hid hv
  have HI0 := Lib.hid (SInv.start w)
  clear hv
  go_enter Try.func16, Try.ntmps16
  go_wp2
  generalize (w.alloc (.cells #[.int .u64 0, .int .u64 0] 40)).alloc (.cells #[.int .u64 0, .int .u64 0] 40) = w1 at *
  go_loopw [8] (fun v wr => ∃ j : Nat, j ≤ ls.length ∧ v = .int .i64 j ∧ Hid (SInv w (Tal.ups (ls.take j)) (Tal.downs (ls.take j)) wr)) (fun v _ => ls.length - (intOf v).toNat)
  case atStart => exact ⟨0, by omega, rfl, HI0⟩
  case round =>
    clear HI0
    obtain ⟨j, hj, rfl, HI⟩ := hrel
    by_cases hlt : j < ls.length
    · have HC := HV.out.below HI.out.below
      obtain ⟨b, o, hA, _, hc⟩ := HC.at_ (by omega)
      subst hA
      obtain ⟨n, hn⟩ : ∃ n, n = ls.getD j 0 := ⟨_, rfl⟩
      have c1 : wr.cell? ⟨b, o + j, none⟩ = some (.int .i64 n) := by rw [hn]; exact hc j hlt
      have hr : Hid (-9223372036854775808 ≤ n ∧ n ≤ 9223372036854775807) := by
        rw [hn, List.getD_eq_getElem?_getD, List.getElem?_eq_getElem hlt]
        exact HV.out.rng _ (List.getElem_mem hlt)
      obtain ⟨u, hu⟩ : ∃ u, u = Tal.ups (ls.take j) := ⟨_, rfl⟩
      obtain ⟨d, hd⟩ : ∃ d, d = Tal.downs (ls.take j) := ⟨_, rfl⟩
      obtain ⟨P, hP⟩ : ∃ P, P = Tal.add u (Tal.up n) := ⟨_, rfl⟩
      obtain ⟨Q, hQ⟩ : ∃ Q, Q = Tal.add d (Tal.down n) := ⟨_, rfl⟩
      have HP : Hid (Tal.ups (ls.take (j + 1)) = P) := by show _ = _; rw [Tal.ups_take ls hlt, ← hu, ← hn, hP]
      have HQ : Hid (Tal.downs (ls.take (j + 1)) = Q) := by show _ = _; rw [Tal.downs_take ls hlt, ← hd, ← hn, hQ]
      have HE : Hid (∀ w, Calls Try.prog 25 #[tallyV u d, .int .i64 n] w fun e w' => e = .returned (tallyV P Q) ∧ Below w.heap.size w w') := fun w => by rw [hP, hQ]; exact tadd_any u d n w hr.out.1 hr.out.2
      rw [← hu, ← hd] at HI
      clear hu hd hP hQ hn hc HC
      have HL := Lib.hid HI.out.t
      have s40 : ∀ {x y : Int}, Hid ((Try.prog.info? 40).map (·.size) = some (#[.int .u64 x, .int .u64 y] : Array Value).size) := fun {x y} => pair_size x y
      have o2 : ∀ {x y : Int}, Hid ((#[.int .u64 x, .int .u64 y] : Array Value).all (·.oneCell') = true) := fun {x y} => two_one _ _ rfl rfl
      have z2 : ∀ {a b x y : Int}, Hid ((#[.int .u64 a, .int .u64 b] : Array Value).size = (#[.int .u64 x, .int .u64 y] : Array Value).size) := fun {a b x y} => rfl
      go_wp2_with (refine wpList_load_row rfl 40 _ rfl (w.heap.size + 1) rfl 40 #[.int .u64 (u : Int), .int .u64 (d : Int)] (0, 0) _ HL.out Try.underlying40 rfl s40.out ?_)
      refine (HE.out _).mono ?_
      rintro e w4 ⟨rfl, hb⟩
      have HI4 := Lib.hid (HI.out.then_ hb)
      clear hb HL
      have HT := Lib.hid HI4.out.t
      have HO := Lib.hid (HI4.out.put P Q)
      go_wp2_with (refine wpList_store_row rfl 40 _ _ rfl (w.heap.size + 1) #[.int .u64 (P : Int), .int .u64 (Q : Int)] rfl rfl 40 _ HT.out s40.out z2.out o2.out ?_)
      go_roundw
      case rel => exact ⟨j + 1, by omega, by go_num, by rw [HP.out, HQ.out]; exact HO⟩
      case measure => simp [intOf]; omega
    · obtain rfl : j = ls.length := by omega
      rw [List.take_length] at HI
      obtain ⟨P, hP⟩ : ∃ P, P = Tal.ups ls := ⟨_, rfl⟩
      obtain ⟨Q, hQ⟩ : ∃ Q, Q = Tal.downs ls := ⟨_, rfl⟩
      have HE : Hid (Ending.returned (tallyV P Q) = Ending.returned (tallyV (Tal.ups ls) (Tal.downs ls))) := by show _ = _; rw [hP, hQ]
      rw [← hP, ← hQ] at HI
      clear hP hQ
      have HT := Lib.hid HI.out.t
      have HR := Lib.hid HI.out.r
      have HB := Lib.hid HI.out.below
      have s40 : ∀ {x y : Int}, Hid ((Try.prog.info? 40).map (·.size) = some (#[.int .u64 x, .int .u64 y] : Array Value).size) := fun {x y} => pair_size x y
      have o2 : ∀ {x y : Int}, Hid ((#[.int .u64 x, .int .u64 y] : Array Value).all (·.oneCell') = true) := fun {x y} => two_one _ _ rfl rfl
      have z2 : ∀ {a b x y : Int}, Hid ((#[.int .u64 a, .int .u64 b] : Array Value).size = (#[.int .u64 x, .int .u64 y] : Array Value).size) := fun {a b x y} => rfl
      clear HI
      go_wp2_with (first
        | (refine wpList_load_row rfl 40 _ rfl (w.heap.size + 1) rfl 40 #[.int .u64 (P : Int), .int .u64 (Q : Int)] (0, 0) _ HT.out Try.underlying40 rfl s40.out ?_)
        | (refine wpList_store_row rfl 40 _ _ rfl w.heap.size #[.int .u64 (P : Int), .int .u64 (Q : Int)] rfl rfl 40 _ HR.out s40.out z2.out o2.out ?_)
        | (refine bodyPost_ret (results_cell_row Try.results16 _ _ w.heap.size 40 _ (0, 0) _ rfl (setRow_heap _ _ _ _ _ _ HR.out) Try.underlying40 rfl s40.out) rfl ⟨HE.out, below_setRow' HB.out (Nat.le_refl _) _⟩))
end Go.Proofs.Ytbjndjmbbephbaa
