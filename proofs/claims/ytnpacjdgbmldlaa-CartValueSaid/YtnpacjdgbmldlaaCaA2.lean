/- Texts of one kind, joined: D10, K1, K2, K3, Shelf, D11, D12, D13, Win, D14, Rg, Law. -/
import Derived.Shelf.SlGeneric
import Derived.Shelf.Strconv.Itoa0
import Derived.Ground.NamesProg
import Derived.Ground.GgsProg
import Derived.Ground.SlsfProg
import Derived.Shelf.SlSortFuncK.WholeK
import Derived.Shelf.GgSortFunc.Tiny
import Derived.Shelf.SlSortCmp.NoneTotal
import Derived.Test.YtnpacjdgbmldlaaProg
import Derived.RangeFuncNested
import Derived.RangeFuncBound
import Derived.RangeFuncCalls
import Derived.RangeFuncLeaves
import Derived.Shelf.Abstract
import Derived.Shelf.RegionOpen
import Derived.WalkKit
import Derived.OwnWalkIn
import Derived.TacticsInMore
import Derived.LoopNIn
import Derived.LoopIn
import Derived.ProofKit
import Derived.OpenShut
import Derived.ChangeSame
import Derived.Carry
import Derived.Test.YtnpacjdgbmldlaaCaA1
set_option linter.unusedVariables false
set_option linter.unusedSimpArgs false
/- Whole. -/
namespace Go.Proofs.Ytnpacjdgbmldlaa
open Go.RowKit
structure SW (w : World) (A : Option Addr) (ls : List Dt) (f : Nat → Nat) (x : World) : Prop where
  r : x.rowIs w.heap.size 27 8 (fun i => .int .u64 ((f i : Nat) : Int))
  l : Dots x (· < w.heap.size) A ls
  below : Below w.heap.size w x
theorem SW.then_ {w x y : World} {A : Option Addr} {ls : List Dt} {f : Nat → Nat} (hb : Below x.heap.size x y) (I : SW w A ls f x) : SW w A ls f y :=
  ⟨row_below I.r hb I.r.lt, I.l.below (hb.mono I.below.size), I.below.trans (hb.mono I.below.size)⟩
theorem SW.alloc {w x : World} {A : Option Addr} {ls : List Dt} {f : Nat → Nat} (I : SW w A ls f x) (o : Obj) : SW w A ls f (x.alloc o) := SW.then_ (below1 x o) I
theorem SW.put {w x : World} {A : Option Addr} {ls : List Dt} {f : Nat → Nat} (I : SW w A ls f x) (g : Nat → Nat) : SW w A ls g (x.setRow w.heap.size (arrOf .u64 8 g)) :=
  ⟨arr_row (setRow_heap _ _ _ _ _ _ (row_arr I.r)), I.l.keep fun b j hb _ => World.cell?_of_block (w := x) (a := ⟨b, j, none⟩) (setRow_other _ _ _ _ (by show b ≠ _; omega)), below_setRow' I.below (Nat.le_refl _) _⟩
theorem SW.start (w : World) {A : Option Addr} {ls : List Dt} (h : Dots w (· < w.heap.size) A ls) : SW w A ls (fun _ => 0) (w.alloc (.cells #[.int .u64 0, .int .u64 0, .int .u64 0, .int .u64 0, .int .u64 0, .int .u64 0, .int .u64 0, .int .u64 0] 27)) :=
  ⟨zero_row w, h.below (below1 _ _), below1 _ _⟩
set_option maxRecDepth 100000 in
set_option maxHeartbeats 4000000 in
theorem dwhole_any (ls : List Dt) (c : Nat) (A : Option Addr) (w : World) (hv : Dots w (· < w.heap.size) A ls) (hm : ls.length ≤ 9223372036854775806) (hk : ∀ d ∈ ls, d.2 < 18446744073709551616) :
    Calls Try.prog 22 #[.slice A ls.length c] w fun e w' => e = .returned (.bool (isWhole ls)) ∧ Below w.heap.size w w' := by
  have HV := Lib.hid hv
  have HM := Lib.hid hm
  have HK := Lib.hid hk
  have s27 : ∀ {f : Nat → Nat}, Hid ((Try.prog.info? 27).map (·.size) = some (arrOf .u64 8 f).size) := fun {f} => by rw [arrOf_size]; exact size27
  have ss : ∀ {f g : Nat → Nat}, Hid ((arrOf .u64 8 f).size = (arrOf .u64 8 g).size) := fun {f g} => by rw [arrOf_size, arrOf_size]; exact rfl
  have HC := Lib.hid (dright_any ls c A w hv (by omega))
  clear hv hm hk
  cases hs : isSet ls with
  | false =>
    have HE := Lib.hid (isWhole_not hs)
    have HS := Lib.hid hs
    clear hs
    go_enter Try.func22, Try.ntmps22
    go_wp2_with fail
    refine HC.out.mono ?_
    rintro e w1 ⟨rfl, hb⟩
    rw [HS.out]
    have HB := Lib.hid hb
    clear hb
    go_wp2
    go_ret
    exact ⟨ret_bool HE.out.symm, HB.out⟩
  | true =>
    have HS := Lib.hid hs
    clear hs
    go_enter Try.func22, Try.ntmps22
    go_wp2_with fail
    refine HC.out.mono ?_
    rintro e w1 ⟨rfl, hb⟩
    rw [HS.out]
    have HBB := Lib.hid hb
    have HI0 := Lib.hid (SW.start w1 (A := A) (ls := ls) ⟨fun hp => by
      obtain ⟨b', o', e, h1, h2⟩ := (HV.out.below hb).at_ hp
      exact ⟨b', o', e, Nat.lt_of_lt_of_le h1 hb.size, h2⟩⟩)
    have HBB := Lib.hid hb
    clear hb HC HV
    go_wp2
    generalize w1.alloc (.cells #[.int .u64 0, .int .u64 0, .int .u64 0, .int .u64 0, .int .u64 0, .int .u64 0, .int .u64 0, .int .u64 0] 27) = w2 at *
    go_loopw [13] (fun v wr => ∃ j : Nat, j ≤ ls.length ∧ v = .int .i64 j ∧ Hid (∀ i, i < j → prevOk ls (ls.getD i (0, 0))) ∧ Hid (SW w1 A ls (spanF (ls.take j)) wr)) (fun v _ => ls.length - (intOf v).toNat)
    case atStart => exact ⟨0, by omega, rfl, fun i hi => by omega, HI0⟩
    case round =>
      clear HI0
      obtain ⟨j, hj, rfl, HN, HI⟩ := hrel
      by_cases hlt : j < ls.length
      · obtain ⟨b, off, hA⟩ := HI.out.l.some_ (by omega)
        subst hA
        obtain ⟨d, hd⟩ : ∃ d, d = ls.getD j (0, 0) := ⟨_, rfl⟩
        obtain ⟨f, hf⟩ : ∃ f, f = spanF (ls.take j) := ⟨_, rfl⟩
        have HF : Hid (spanF (ls.take (j + 1)) = Vec.with_ f d.1 d.2) := Lib.hid (by rw [spanF_take ls hlt, ← hf, ← hd])
        have HG : Hid (Vec.get f d.1 < 18446744073709551616) := Lib.hid (by rw [hf]; exact span_lt HS.out HK.out hj d.1)
        have HX : Hid (Vec.get f d.1 + 1 = d.2 ↔ prevOk ls d) := Lib.hid (by rw [hf]; exact next_iff HS.out hlt hd)
        have HIN : Hid (Vec.isNode d.1 = true) := Lib.hid (by
          have := set_right HS.out hlt
          rw [← hd] at this
          simp only [Vec.right, Vec.isNode, decide_eq_true_eq] at *
          exact ⟨this.1, this.2.1⟩)
        have hlim : d.2 < 18446744073709551616 := by rw [hd]; exact HK.out _ (getD_mem hlt)
        have HD := Lib.hid hd
        have HMEM : Hid (d ∈ ls) := Lib.hid (by rw [hd]; exact getD_mem hlt)
        have hr : Hid (rangeA wr b (off + j * 2) (dotC d)) := Lib.hid (by rw [hd]; exact HI.out.l.at_j hlt)
        rw [← hf] at HI
        have next : prevOk ls d → Hid (∀ i, i < j + 1 → prevOk ls (ls.getD i (0, 0))) := fun h => Lib.hid (fun i hi => by
          by_cases e : i = j
          · rw [e, ← HD.out]; exact h
          · exact HN.out i (by omega))
        have NX := Lib.hid next
        have HLIM := Lib.hid hlim
        obtain ⟨n, k⟩ := d
        have hN := Lib.hid (heap_alloc_new wr (.cells #[.int .i64 0, .int .u64 0] 25))
        have s25 : ∀ {d : Dt}, Hid ((Try.prog.info? 25).map (·.size) = some (dotC d).size) := fun {d} => dot_size25 d
        have o2 : ∀ {d : Dt}, Hid ((dotC d).all (·.oneCell') = true) := two_one _ _ rfl rfl
        have z2 : ∀ {d : Dt}, Hid ((#[.int .i64 0, .int .u64 0] : Array Value).size = (dotC d).size) := rfl
        have eJ : IntKind.i64.wrap ((j : Int) + 1) = (j : Int) + 1 := by have := HM.out; rw [IntKind.wrap_i64]; omega
        have HI2 := Lib.hid (HI.out.alloc (.cells (dotC (n, k)) 25))
        have HD2 : Hid (DotAt (wr.alloc (.cells (dotC (n, k)) 25)) wr.heap.size 25 n k) := DotAt.new wr 25 n k
        have HA2 := Lib.hid (row_arr HI2.out.r)
        clear hd hf hlim HI next
        go_wp2_with (first
          | (refine wpList_load_arr rfl 25 _ rfl b (off + j * 2) rfl (dotC (n, k)) _ hr.out Try.underlying25 rfl s25.out ?_)
          | (refine wpList_store_row rfl 25 _ _ rfl wr.heap.size (dotC (n, k)) rfl rfl 25 _ hN.out s25.out z2.out o2.out ?_; rw [World.setRow_alloc_new])
          | (refine wpList_load_row rfl 27 _ rfl w1.heap.size rfl 27 (arrOf .u64 8 f) (0, 0) _ HA2.out Try.underlying27 rfl s27.out ?_)
          | fail)
        refine (next_any f n _ HG.out).mono ?_
        rintro e w3 ⟨rfl, hb3⟩
        have HI3 := Lib.hid (HI2.out.then_ hb3)
        have HD3 : Hid (DotAt w3 wr.heap.size 25 n k) := HD2.out.below hb3 HD2.out.lt
        have H53 : Hid (wr.heap.size < w3.heap.size) := HD3.out.lt
        have hN3 := Lib.hid (heap_alloc_new w3 (.cells #[.int .i64 0, .int .u64 0] 25))
        clear hb3
        by_cases hp : Vec.get f n + 1 = k
        · have hE : Vec.next f n = (n, k, 0) := by
            have : k < 18446744073709551616 := HLIM.out
            unfold Vec.next
            rw [if_pos HIN.out, if_neg (by omega), hp]
          have HN2 := NX.out (HX.out.1 hp)
          rw [hE]
          have HD4 : Hid (DotAt (w3.alloc (.cells (dotC (n, k)) 25)) wr.heap.size 25 n k) := HD3.out.alloc _
          have HT4 : Hid (DotAt (w3.alloc (.cells (dotC (n, k)) 25)) w3.heap.size 25 n k) := DotAt.new w3 25 n k
          have HI4 := Lib.hid (HI3.out.alloc (.cells (dotC (n, k)) 25))
          have HA4 := Lib.hid (row_arr HI4.out.r)
          clear hE hp
          go_wp2_with (first
            | (refine wpList_store_row rfl 25 _ _ rfl w3.heap.size (dotC (n, k)) rfl rfl 25 _ hN3.out s25.out z2.out o2.out ?_; rw [World.setRow_alloc_new])
            | (refine wpList_load_w 25 _ rfl rfl w3.heap.size rfl 25 (dotC (n, k)) (0, 0) _ HT4.out Try.underlying25 rfl s25.out ?_)
            | (refine wpList_load_w 25 _ rfl rfl wr.heap.size rfl 25 (dotC (n, k)) (0, 0) _ HD4.out Try.underlying25 rfl s25.out ?_)
            | (refine wpList_load_row rfl 27 _ rfl w1.heap.size rfl 27 (arrOf .u64 8 f) (0, 0) _ HA4.out Try.underlying27 rfl s27.out ?_)
            | (refine wpList_load_row rfl 25 _ rfl wr.heap.size rfl 25 (dotC (n, k)) (0, 0) _ HD4.out Try.underlying25 rfl s25.out ?_)
            | fail)
          refine (with_any f n k _).mono ?_
          rintro e w5 ⟨rfl, hb5⟩
          have HI5 := Lib.hid (HI4.out.then_ hb5)
          have HA5 := Lib.hid (row_arr HI5.out.r)
          have HI6 : Hid (SW w1 (some ⟨b, off, none⟩) ls (spanF (ls.take (j + 1))) (w5.setRow w1.heap.size (arrOf .u64 8 (Vec.with_ f n k)))) := Lib.hid (by rw [HF.out]; exact HI5.out.put _)
          clear hb5
          go_wp2_with (first
            | (refine wpList_store_row rfl 27 _ _ rfl w1.heap.size (arrOf .u64 8 (Vec.with_ f n k)) rfl rfl 27 _ HA5.out s27.out ss.out (arrOf_one _ _ _) ?_; generalize w5.setRow w1.heap.size (arrOf .u64 8 (Vec.with_ f n k)) = w6 at *)
            | fail)
          go_roundw
          all_goals clear eJ
          case rel => exact ⟨j + 1, by omega, by go_num, HN2, HI6⟩
          case measure => simp [intOf]; omega
        · by_cases hq : Vec.get f n = 18446744073709551615
          · have hE : Vec.next f n = (0, 0, 13) := by
              unfold Vec.next
              rw [if_pos HIN.out, if_pos hq]
            have HE : Hid (isWhole ls = false) := Lib.hid (isWhole_bad HMEM.out (fun h => hp (HX.out.2 h)))
            rw [hE]
            have HI4 := Lib.hid (HI3.out.alloc (.cells (dotC (0, 0)) 25))
            clear hE hp hq
            go_wp2_with (first
              | (refine wpList_store_row rfl 25 _ _ rfl w3.heap.size (dotC (0, 0)) rfl rfl 25 _ hN3.out s25.out z2.out o2.out ?_; rw [World.setRow_alloc_new])
              | fail)
            go_ret
            exact ⟨ret_bool HE.out.symm, HBB.out.trans (HI4.out.below.mono HBB.out.size)⟩
          · obtain ⟨m, hM⟩ : ∃ m, m = Vec.get f n + 1 := ⟨_, rfl⟩
            have hE : Vec.next f n = (n, m, 0) := by
              unfold Vec.next
              rw [if_pos HIN.out, if_neg hq, hM]
            have HE : Hid (isWhole ls = false) := Lib.hid (isWhole_bad HMEM.out (fun h => hp (HX.out.2 h)))
            have hne : ¬ m = k := by rw [hM]; exact hp
            rw [hE]
            have HD4 : Hid (DotAt (w3.alloc (.cells (dotC (n, m)) 25)) wr.heap.size 25 n k) := HD3.out.alloc _
            have HT4 : Hid (DotAt (w3.alloc (.cells (dotC (n, m)) 25)) w3.heap.size 25 n m) := DotAt.new w3 25 n m
            have HI4 := Lib.hid (HI3.out.alloc (.cells (dotC (n, m)) 25))
            clear hE hp hq hM
            go_wp2_with (first
              | (refine wpList_store_row rfl 25 _ _ rfl w3.heap.size (dotC (n, m)) rfl rfl 25 _ hN3.out s25.out z2.out o2.out ?_; rw [World.setRow_alloc_new])
              | (refine wpList_load_w 25 _ rfl rfl w3.heap.size rfl 25 (dotC (n, m)) (0, 0) _ HT4.out Try.underlying25 rfl s25.out ?_)
              | (refine wpList_load_w 25 _ rfl rfl wr.heap.size rfl 25 (dotC (n, k)) (0, 0) _ HD4.out Try.underlying25 rfl s25.out ?_)
              | fail)
            go_ret
            exact ⟨ret_bool HE.out.symm, HBB.out.trans (HI4.out.below.mono HBB.out.size)⟩
      · obtain rfl : j = ls.length := by omega
        have HE : Hid (isWhole ls = true) := Lib.hid ((isWhole_iff ls).2 ⟨HS.out, fun d hd => by
          obtain ⟨i, hi, e⟩ := List.mem_iff_getElem.1 hd
          have h := HN.out i hi
          rw [List.getD_eq_getElem?_getD, List.getElem?_eq_getElem hi] at h
          rw [← e]
          exact h⟩)
        go_wp2
        go_ret
        exact ⟨ret_bool HE.out.symm, HBB.out.trans (HI.out.below.mono HBB.out.size)⟩
end Go.Proofs.Ytnpacjdgbmldlaa

/- Entries of a cart: one entry, its dot, the order of two. -/
namespace Go.Proofs.Ytnpacjdgbmldlaa
open Go.RowKit

/-- An entry: its item, node, number and quantity. -/
structure Ent where
  item : Int
  node : Int
  n : Nat
  qty : Int
deriving DecidableEq
def entC (e : Ent) : Array Value := #[.int .i64 e.item, .int .i64 e.node, .int .u64 (e.n : Int), .int .i64 e.qty]
abbrev entV (e : Ent) : Value := .agg #[.int .i64 e.item, .int .i64 e.node, .int .u64 (e.n : Int), .int .i64 e.qty]
def EntAt (x : World) (b : Nat) (e : Ent) : Prop := x.heap[b]? = some (.cells (entC e) 58 (0, 0))
theorem EntAt.below {x y : World} {B b : Nat} {e : Ent} (h : EntAt x b e) (hb : Below B x y) (hB : b < B) : EntAt y b e := (hb.block _ hB).trans h
theorem EntAt.cell {x : World} {b : Nat} {e : Ent} (h : EntAt x b e) {j : Nat} {v : Value} (hv : (entC e)[j]? = some v) : x.cell? ⟨b, j, none⟩ = some v := by rw [cell_of_row _ _ _ _ _ _ h]; exact hv
theorem EntAt.range {x : World} {b : Nat} {e : Ent} (h : EntAt x b e) : rangeA x b 0 (entC e) := fun j v hv => by rw [Nat.zero_add]; exact h.cell hv
theorem ent_size58 (e : Ent) : (Try.prog.info? 58).map (·.size) = some (entC e).size := by
  have h : (Try.prog.info? 58).map (·.size) = some 4 := by kernel_rfl
  rw [h]
  rfl
theorem ent_one (e : Ent) : (entC e).all (·.oneCell') = true := by simp [entC, Value.oneCell']
namespace Ent
def same (a b : Ent) : Bool := decide (a.node = b.node ∧ a.n = b.n)
def less (a b : Ent) : Bool := if a.item = b.item then (if a.same b = true then decide (a.qty < b.qty) else Vec.less a.node a.n b.node b.n) else decide (a.item < b.item)
end Ent
theorem size25c : (Try.prog.info? 25).map (·.size) = some 2 := by kernel_rfl

set_option maxHeartbeats 400000 in
theorem cdot_any (e : Ent) (w : World) : Calls Try.prog 85 #[entV e] w fun e' w' => e' = .returned (dotV e.node e.n) ∧ Below w.heap.size w w' := by
  go_enter Try.func85, Try.ntmps85
  go_wp2
  exact bodyPost_ret (results_cell_row Try.results85 _ _ (w.heap.size + 1) 25 _ (0, 0) _ rfl (DotAt.second w _ 25 e.node e.n) Try.underlying25 rfl size25) rfl ⟨rfl, below2 _ _ _⟩

theorem neq25 (a : Int) (m : Nat) (b : Int) (n : Nat) {q : Bool} (hq : decide (a = b ∧ m = n) = q) {ev : Operand → Value} {o : Oper} {w : World} (x y : Operand) (ho : o.op = .binOp .neq 25 x y 25) (hx : ev x = dotV a m) (hy : ev y = dotV b n) : (execOp ev o).run Try.prog w = .ok (.value (.bool (!q))) w := by
  unfold execOp
  simp only [ho, hx, hy]
  have h : (Op.equalIn Op.maxDepth 25 (dotV a m) (dotV b n)).run Try.prog w = .ok q w := by
    have h0 : (Op.equalIn 10000 25 (Value.agg #[Value.int IntKind.i64 a, Value.int IntKind.u64 (m : Int)]) (Value.agg #[Value.int IntKind.i64 b, Value.int IntKind.u64 (n : Int)])).run Try.prog w = .ok (decide (a = b ∧ m = n)) w := by
      by_cases h1 : a = b
      · subst h1
        by_cases h2 : m = n
        · subst h2
          go_simp
        · have h3 : ((m : Int) == (n : Int)) = false := by rw [beq_eq_false_iff_ne]; omega
          go_simp
          trace_state
      · have h3 : (a == b) = false := by rw [beq_eq_false_iff_ne]; exact h1
        go_simp
        trace_state
    rw [hq] at h0
    exact h0
  simp [eqGuard, Sem.run_bind, binOp, Op.equal, h, Result.andThen]

/-- Two entries in their boxes. -/
structure E2 (w : World) (a b : Ent) (x : World) : Prop where
  a : EntAt x w.heap.size a
  b : EntAt x (w.heap.size + 1) b
  below : Below w.heap.size w x
  le : w.heap.size + 2 ≤ x.heap.size
theorem E2.then_ {w x y : World} {a b : Ent} (hb : Below x.heap.size x y) (h : E2 w a b x) : E2 w a b y := ⟨h.a.below hb (by have := h.le; omega), h.b.below hb (by have := h.le; omega), h.below.trans (hb.mono h.below.size), Nat.le_trans h.le hb.size⟩
theorem E2.drew {w x : World} {a b : Ent} (h : E2 w a b x) : E2 w a b x.drew := E2.then_ (x := x) (y := x.drew) ⟨rfl, rfl, rfl, Nat.le_refl _, fun _ _ => rfl⟩ h

set_option maxRecDepth 100000 in
set_option maxHeartbeats 4000000 in
theorem cless_any (a b : Ent) (w : World) : Calls Try.prog 84 #[entV a, entV b] w fun e' w' => e' = .returned (.bool (a.less b)) ∧ Below w.heap.size w w' := by
  have hs : (w.alloc (.cells (entC a) 58)).heap.size = w.heap.size + 1 := by simp
  have HI : Hid (E2 w a b ((w.alloc (.cells (entC a) 58)).alloc (.cells (entC b) 58))) := Lib.hid
    ⟨(Below.heap_alloc _ _ _ (by simp)).trans (heap_alloc_new _ _), by unfold EntAt; rw [← hs]; exact heap_alloc_new _ _, below2 _ _ _, by simp⟩
  clear hs
  by_cases hit : a.item = b.item
  · have hne : (a.item != b.item) = false := by simp [hit]
    have HIT := Lib.hid hit
    by_cases hsm : a.same b = true
    · have HL : Hid (a.less b = decide (a.qty < b.qty)) := Lib.hid (by unfold Ent.less; rw [if_pos hit, if_pos hsm])
      have HQ : Hid (decide (a.node = b.node ∧ a.n = b.n) = true) := Lib.hid hsm
      clear hit hsm
      go_enter Try.func84, Try.ntmps84
      go_wp2_with fail
      go_wp2_with fail
      refine WM.wp_region_kinds (fun _ x y => Below x.heap.size x y) (fun _ x => E2 w a b x) (fun x => E2 w a b x)
        [(0, .val (entV a) fun _ => True), (1, .val (dotV a.node a.n) fun _ => True), (2, .val (entV b) fun _ => True), (3, .val (dotV b.node b.n) fun _ => True)] (by kernel_rfl) (by kernel_rfl) (fun _ _ _ hb h => h.then_ hb) (fun _ _ _ _ _ hb h => h.then_ hb) ?_ HI.out.drew (fun _ => HI.out.drew) ?_
      · intro z hz
        simp only [List.mem_cons, List.mem_nil_iff, or_false] at hz
        rcases hz with rfl | rfl | rfl | rfl <;> exact fun _ _ _ _ _ _ => trivial
      refine WM.mono_val rfl rfl (fun x hD hF => ?_) ?_
      · have hl := run_loadVar_arr (P := Try.prog) x (w.heap.size) 0 58 (entC a) _ hD.a.range Try.underlying58 rfl (ent_size58 _)
        rw [exec_load 58 (.tmp 2) rfl (w.heap.size) 0 rfl hl]
        exact ⟨Below.refl _ _, rfl, trivial⟩
      apply Exists.intro
      refine ⟨by simp only [Act.put, List.setIfInBounds_toArray, List.set_cons_succ, List.set_cons_zero]; rfl, ?_⟩
      refine WM.mono_val rfl rfl (fun x hD hF => ?_) ?_
      · go_simp
        refine (cdot_any a x).mono ?_
        rintro e y ⟨rfl, hg⟩
        exact ⟨_, rfl, hg, rfl⟩
      apply Exists.intro
      refine ⟨by simp only [Act.put, List.setIfInBounds_toArray, List.set_cons_succ, List.set_cons_zero]; rfl, ?_⟩
      refine WM.mono_val rfl rfl (fun x hD hF => ?_) ?_
      · have hl := run_loadVar_arr (P := Try.prog) x (w.heap.size + 1) 0 58 (entC b) _ hD.b.range Try.underlying58 rfl (ent_size58 _)
        rw [exec_load 58 (.tmp 3) rfl (w.heap.size + 1) 0 rfl hl]
        exact ⟨Below.refl _ _, rfl, trivial⟩
      apply Exists.intro
      refine ⟨by simp only [Act.put, List.setIfInBounds_toArray, List.set_cons_succ, List.set_cons_zero]; rfl, ?_⟩
      refine WM.mono_val rfl rfl (fun x hD hF => ?_) ?_
      · go_simp
        refine (cdot_any b x).mono ?_
        rintro e y ⟨rfl, hg⟩
        exact ⟨_, rfl, hg, rfl⟩
      apply Exists.intro
      refine ⟨by simp only [Act.put, List.setIfInBounds_toArray, List.set_cons_succ, List.set_cons_zero]; rfl, ?_⟩
      refine WM.mono_pure rfl rfl ?_
      refine ⟨.bool (!true), fun x => ?_, ?_⟩
      · exact neq25 a.node a.n b.node b.n HQ.out (.tmp 18) (.tmp 20) rfl rfl rfl
      apply Exists.intro
      refine ⟨by simp only [Act.put, List.setIfInBounds_toArray, List.set_cons_succ, List.set_cons_zero]; rfl, ?_⟩
      iterate 1
        refine WM.mono_pure rfl rfl ?_
        apply Exists.intro
        refine ⟨fun x => ?_, ?_⟩
        · go_simp
          rfl
        apply Exists.intro
        refine ⟨by simp only [Act.put, List.setIfInBounds_toArray, List.set_cons_succ, List.set_cons_zero]; rfl, ?_⟩
      refine WM.mono_nil ?_
      intro x hD hF
      replace HI := Lib.hid hD
      clear hD hF
      go_simp
      have c3 : x.cell? ⟨w.heap.size, 3, none⟩ = some (.int .i64 a.qty) := HI.out.a.cell (j := 3) rfl
      have c4 : x.cell? ⟨w.heap.size + 1, 3, none⟩ = some (.int .i64 b.qty) := HI.out.b.cell (j := 3) rfl
      go_wp2
      go_ret
      exact ⟨ret_bool HL.out.symm, HI.out.below⟩
    · have HL : Hid (a.less b = Vec.less a.node a.n b.node b.n) := Lib.hid (by unfold Ent.less; rw [if_pos hit, if_neg hsm])
      have HQ : Hid (decide (a.node = b.node ∧ a.n = b.n) = false) := Lib.hid (Bool.eq_false_iff.2 hsm)
      clear hit hsm
      go_enter Try.func84, Try.ntmps84
      go_wp2_with fail
      go_wp2_with fail
      refine WM.wp_region_kinds (fun _ x y => Below x.heap.size x y) (fun _ x => E2 w a b x) (fun x => E2 w a b x)
        [(0, .val (entV a) fun _ => True), (1, .val (dotV a.node a.n) fun _ => True), (2, .val (entV b) fun _ => True), (3, .val (dotV b.node b.n) fun _ => True)] (by kernel_rfl) (by kernel_rfl) (fun _ _ _ hb h => h.then_ hb) (fun _ _ _ _ _ hb h => h.then_ hb) ?_ HI.out.drew (fun _ => HI.out.drew) ?_
      · intro z hz
        simp only [List.mem_cons, List.mem_nil_iff, or_false] at hz
        rcases hz with rfl | rfl | rfl | rfl <;> exact fun _ _ _ _ _ _ => trivial
      refine WM.mono_val rfl rfl (fun x hD hF => ?_) ?_
      · have hl := run_loadVar_arr (P := Try.prog) x (w.heap.size) 0 58 (entC a) _ hD.a.range Try.underlying58 rfl (ent_size58 _)
        rw [exec_load 58 (.tmp 2) rfl (w.heap.size) 0 rfl hl]
        exact ⟨Below.refl _ _, rfl, trivial⟩
      apply Exists.intro
      refine ⟨by simp only [Act.put, List.setIfInBounds_toArray, List.set_cons_succ, List.set_cons_zero]; rfl, ?_⟩
      refine WM.mono_val rfl rfl (fun x hD hF => ?_) ?_
      · go_simp
        refine (cdot_any a x).mono ?_
        rintro e y ⟨rfl, hg⟩
        exact ⟨_, rfl, hg, rfl⟩
      apply Exists.intro
      refine ⟨by simp only [Act.put, List.setIfInBounds_toArray, List.set_cons_succ, List.set_cons_zero]; rfl, ?_⟩
      refine WM.mono_val rfl rfl (fun x hD hF => ?_) ?_
      · have hl := run_loadVar_arr (P := Try.prog) x (w.heap.size + 1) 0 58 (entC b) _ hD.b.range Try.underlying58 rfl (ent_size58 _)
        rw [exec_load 58 (.tmp 3) rfl (w.heap.size + 1) 0 rfl hl]
        exact ⟨Below.refl _ _, rfl, trivial⟩
      apply Exists.intro
      refine ⟨by simp only [Act.put, List.setIfInBounds_toArray, List.set_cons_succ, List.set_cons_zero]; rfl, ?_⟩
      refine WM.mono_val rfl rfl (fun x hD hF => ?_) ?_
      · go_simp
        refine (cdot_any b x).mono ?_
        rintro e y ⟨rfl, hg⟩
        exact ⟨_, rfl, hg, rfl⟩
      apply Exists.intro
      refine ⟨by simp only [Act.put, List.setIfInBounds_toArray, List.set_cons_succ, List.set_cons_zero]; rfl, ?_⟩
      refine WM.mono_pure rfl rfl ?_
      refine ⟨.bool (!false), fun x => ?_, ?_⟩
      · exact neq25 a.node a.n b.node b.n HQ.out (.tmp 18) (.tmp 20) rfl rfl rfl
      apply Exists.intro
      refine ⟨by simp only [Act.put, List.setIfInBounds_toArray, List.set_cons_succ, List.set_cons_zero]; rfl, ?_⟩
      iterate 1
        refine WM.mono_pure rfl rfl ?_
        apply Exists.intro
        refine ⟨fun x => ?_, ?_⟩
        · go_simp
          rfl
        apply Exists.intro
        refine ⟨by simp only [Act.put, List.setIfInBounds_toArray, List.set_cons_succ, List.set_cons_zero]; rfl, ?_⟩
      refine WM.mono_nil ?_
      intro x hD hF
      replace HI := Lib.hid hD
      clear hD hF
      go_simp
      go_wp2_with fail
      refine WM.wp_region_kinds (fun _ x y => Below x.heap.size x y) (fun _ x => E2 w a b x) (fun x => E2 w a b x)
        [(0, .val (entV a) fun _ => True), (1, .val (dotV a.node a.n) fun _ => True), (2, .val (entV b) fun _ => True), (3, .val (dotV b.node b.n) fun _ => True), (4, .val (.bool (Vec.less a.node a.n b.node b.n)) fun _ => True)] (by kernel_rfl) (by kernel_rfl) (fun _ _ _ hb h => h.then_ hb) (fun _ _ _ _ _ hb h => h.then_ hb) ?_ HI.out.drew (fun _ => HI.out.drew) ?_
      · intro z hz
        simp only [List.mem_cons, List.mem_nil_iff, or_false] at hz
        rcases hz with rfl | rfl | rfl | rfl | rfl <;> exact fun _ _ _ _ _ _ => trivial
      refine WM.mono_val rfl rfl (fun x hD hF => ?_) ?_
      · have hl := run_loadVar_arr (P := Try.prog) x (w.heap.size) 0 58 (entC a) _ hD.a.range Try.underlying58 rfl (ent_size58 _)
        rw [exec_load 58 (.tmp 2) rfl (w.heap.size) 0 rfl hl]
        exact ⟨Below.refl _ _, rfl, trivial⟩
      apply Exists.intro
      refine ⟨by simp only [Act.put, List.setIfInBounds_toArray, List.set_cons_succ, List.set_cons_zero]; rfl, ?_⟩
      refine WM.mono_val rfl rfl (fun x hD hF => ?_) ?_
      · go_simp
        refine (cdot_any a x).mono ?_
        rintro e y ⟨rfl, hg⟩
        exact ⟨_, rfl, hg, rfl⟩
      apply Exists.intro
      refine ⟨by simp only [Act.put, List.setIfInBounds_toArray, List.set_cons_succ, List.set_cons_zero]; rfl, ?_⟩
      refine WM.mono_val rfl rfl (fun x hD hF => ?_) ?_
      · have hl := run_loadVar_arr (P := Try.prog) x (w.heap.size + 1) 0 58 (entC b) _ hD.b.range Try.underlying58 rfl (ent_size58 _)
        rw [exec_load 58 (.tmp 3) rfl (w.heap.size + 1) 0 rfl hl]
        exact ⟨Below.refl _ _, rfl, trivial⟩
      apply Exists.intro
      refine ⟨by simp only [Act.put, List.setIfInBounds_toArray, List.set_cons_succ, List.set_cons_zero]; rfl, ?_⟩
      refine WM.mono_val rfl rfl (fun x hD hF => ?_) ?_
      · go_simp
        refine (cdot_any b x).mono ?_
        rintro e y ⟨rfl, hg⟩
        exact ⟨_, rfl, hg, rfl⟩
      apply Exists.intro
      refine ⟨by simp only [Act.put, List.setIfInBounds_toArray, List.set_cons_succ, List.set_cons_zero]; rfl, ?_⟩
      refine WM.mono_val rfl rfl (fun x hD hF => ?_) ?_
      · go_simp
        refine (less_any a.node a.n b.node b.n x).mono ?_
        rintro e y ⟨rfl, hg⟩
        exact ⟨_, rfl, hg, rfl⟩
      apply Exists.intro
      refine ⟨by simp only [Act.put, List.setIfInBounds_toArray, List.set_cons_succ, List.set_cons_zero]; rfl, ?_⟩
      iterate 1
        refine WM.mono_pure rfl rfl ?_
        apply Exists.intro
        refine ⟨fun x => ?_, ?_⟩
        · go_simp
          rfl
        apply Exists.intro
        refine ⟨by simp only [Act.put, List.setIfInBounds_toArray, List.set_cons_succ, List.set_cons_zero]; rfl, ?_⟩
      refine WM.mono_nil ?_
      intro x hD hF
      replace HI := Lib.hid hD
      clear hD hF
      go_simp
      go_wp2
      go_ret
      exact ⟨ret_bool HL.out.symm, HI.out.below⟩
  · have hne : (a.item != b.item) = true := by simpa using hit
    have HL : Hid (a.less b = decide (a.item < b.item)) := Lib.hid (by unfold Ent.less; rw [if_neg hit])
    clear hit
    go_enter Try.func84, Try.ntmps84
    go_wp2
    go_ret
    exact ⟨ret_bool HL.out.symm, below2 _ _ _⟩
end Go.Proofs.Ytnpacjdgbmldlaa

/- May an entry stand where that much is covered? -/
namespace Go.Proofs.Ytnpacjdgbmldlaa
open Go.RowKit

namespace Ent
def right (e : Ent) (f : Nat → Nat) : Bool := decide (1 ≤ e.item ∧ e.item ≤ 60 ∧ -1000 ≤ e.qty ∧ e.qty ≤ 1000) && Vec.has f e.node e.n
end Ent
/-- An entry and a vector in their boxes. -/
structure EV (w : World) (a : Ent) (f : Nat → Nat) (x : World) : Prop where
  a : EntAt x w.heap.size a
  v : x.heap[w.heap.size + 1]? = some (.cells (arrOf .u64 8 f) 27 (0, 0))
  below : Below w.heap.size w x
  le : w.heap.size + 2 ≤ x.heap.size
theorem EV.then_ {w x y : World} {a : Ent} {f : Nat → Nat} (hb : Below x.heap.size x y) (h : EV w a f x) : EV w a f y := ⟨h.a.below hb (by have := h.le; omega), (hb.block _ (by have := h.le; omega)).trans h.v, h.below.trans (hb.mono h.below.size), Nat.le_trans h.le hb.size⟩
theorem EV.drew {w x : World} {a : Ent} {f : Nat → Nat} (h : EV w a f x) : EV w a f x.drew := EV.then_ (x := x) (y := x.drew) ⟨rfl, rfl, rfl, Nat.le_refl _, fun _ _ => rfl⟩ h
theorem leq3 (a b : Int) {q : Bool} (hq : decide (a ≤ b) = q) {ev : Operand → Value} {o : Oper} {w : World} (x y : Operand) (ho : o.op = .binOp .leq 3 x y 3) (hx : ev x = .int .i64 a) (hy : ev y = .int .i64 b) : (execOp ev o).run Try.prog w = .ok (.value (.bool q)) w := by
  subst hq
  unfold execOp
  simp only [ho, hx, hy]
  go_simp

set_option maxRecDepth 100000 in
set_option maxHeartbeats 4000000 in
theorem cright_any (a : Ent) (f : Nat → Nat) (w : World) : Calls Try.prog 83 #[entV a, vecV f] w fun e' w' => e' = .returned (.bool (a.right f)) ∧ Below w.heap.size w w' := by
  have hs : (w.alloc (.cells (entC a) 58)).heap.size = w.heap.size + 1 := by simp
  have HI : Hid (EV w a f ((w.alloc (.cells (entC a) 58)).alloc (.cells (arrOf .u64 8 f) 27))) := Lib.hid
    ⟨(Below.heap_alloc _ _ _ (by simp)).trans (heap_alloc_new _ _), by rw [← hs]; exact heap_alloc_new _ _, below2 _ _ _, by simp⟩
  clear hs
  by_cases h0 : 1 ≤ a.item
  rotate_left
  · have H0 : Hid (decide (1 ≤ a.item) = false) := Lib.hid (decide_eq_false h0)
    have HR : Hid (a.right f = false) := Lib.hid (by unfold Ent.right; rw [decide_eq_false (by omega)]; rfl)
    clear h0
    go_enter Try.func83, Try.ntmps83
    go_wp2_with fail
    refine WM.wp_region_kinds (fun _ x y => Below x.heap.size x y) (fun _ x => EV w a f x) (fun x => EV w a f x)
      [(1, .val (.int .i64 a.item) fun _ => True)] (by kernel_rfl) (by kernel_rfl) (fun _ _ _ hb h => h.then_ hb) (fun _ _ _ _ _ hb h => h.then_ hb) ?_ HI.out.drew (fun _ => HI.out.drew) ?_
    · intro z hz
      simp only [List.mem_cons, List.mem_nil_iff, or_false] at hz
      subst hz
      exact fun _ _ _ _ _ _ => trivial
    iterate 1
      refine WM.mono_pure rfl rfl ?_
      apply Exists.intro
      refine ⟨fun x => ?_, ?_⟩
      · go_simp
        rfl
      apply Exists.intro
      refine ⟨by simp only [Act.put, List.setIfInBounds_toArray, List.set_cons_succ, List.set_cons_zero]; rfl, ?_⟩
    refine WM.mono_val rfl rfl (fun x hD hF => ?_) ?_
    · have hc : x.cell? ⟨w.heap.size, 0, none⟩ = some (.int .i64 a.item) := hD.a.cell (j := 0) rfl
      go_simp
      exact ⟨Below.refl _ _, rfl⟩
    apply Exists.intro
    refine ⟨by simp only [Act.put, List.setIfInBounds_toArray, List.set_cons_succ, List.set_cons_zero]; rfl, ?_⟩
    refine WM.mono_pure rfl rfl ?_
    refine ⟨.bool false, fun x => ?_, ?_⟩
    · exact leq3 1 a.item H0.out (.const (.int .i64 1)) (.tmp 6) rfl rfl rfl
    apply Exists.intro
    refine ⟨by simp only [Act.put, List.setIfInBounds_toArray, List.set_cons_succ, List.set_cons_zero]; rfl, ?_⟩
    refine WM.mono_pure rfl rfl ?_
    refine ⟨.bool false, fun x => ?_, ?_⟩
    · go_simp
    apply Exists.intro
    refine ⟨by simp only [Act.put, List.setIfInBounds_toArray, List.set_cons_succ, List.set_cons_zero]; rfl, ?_⟩
    refine WM.mono_skip rfl ?_
    apply Exists.intro
    refine ⟨by simp only [Act.put, List.setIfInBounds_toArray, List.set_cons_succ, List.set_cons_zero]; rfl, ?_⟩
    refine WM.mono_skip rfl ?_
    apply Exists.intro
    refine ⟨by simp only [Act.put, List.setIfInBounds_toArray, List.set_cons_succ, List.set_cons_zero]; rfl, ?_⟩
    refine WM.mono_skip rfl ?_
    apply Exists.intro
    refine ⟨by simp only [Act.put, List.setIfInBounds_toArray, List.set_cons_succ, List.set_cons_zero]; rfl, ?_⟩
    refine WM.mono_pure rfl rfl ?_
    refine ⟨.bool false, fun x => ?_, ?_⟩
    · go_simp
    apply Exists.intro
    refine ⟨by simp only [Act.put, List.setIfInBounds_toArray, List.set_cons_succ, List.set_cons_zero]; rfl, ?_⟩
    refine WM.mono_pure rfl rfl ?_
    refine ⟨.bool false, fun x => ?_, ?_⟩
    · go_simp
    apply Exists.intro
    refine ⟨by simp only [Act.put, List.setIfInBounds_toArray, List.set_cons_succ, List.set_cons_zero]; rfl, ?_⟩
    refine WM.mono_skip rfl ?_
    apply Exists.intro
    refine ⟨by simp only [Act.put, List.setIfInBounds_toArray, List.set_cons_succ, List.set_cons_zero]; rfl, ?_⟩
    refine WM.mono_skip rfl ?_
    apply Exists.intro
    refine ⟨by simp only [Act.put, List.setIfInBounds_toArray, List.set_cons_succ, List.set_cons_zero]; rfl, ?_⟩
    refine WM.mono_skip rfl ?_
    apply Exists.intro
    refine ⟨by simp only [Act.put, List.setIfInBounds_toArray, List.set_cons_succ, List.set_cons_zero]; rfl, ?_⟩
    refine WM.mono_pure rfl rfl ?_
    refine ⟨.bool false, fun x => ?_, ?_⟩
    · go_simp
    apply Exists.intro
    refine ⟨by simp only [Act.put, List.setIfInBounds_toArray, List.set_cons_succ, List.set_cons_zero]; rfl, ?_⟩
    refine WM.mono_pure rfl rfl ?_
    refine ⟨.bool false, fun x => ?_, ?_⟩
    · go_simp
    apply Exists.intro
    refine ⟨by simp only [Act.put, List.setIfInBounds_toArray, List.set_cons_succ, List.set_cons_zero]; rfl, ?_⟩
    refine WM.mono_skip rfl ?_
    apply Exists.intro
    refine ⟨by simp only [Act.put, List.setIfInBounds_toArray, List.set_cons_succ, List.set_cons_zero]; rfl, ?_⟩
    refine WM.mono_skip rfl ?_
    apply Exists.intro
    refine ⟨by simp only [Act.put, List.setIfInBounds_toArray, List.set_cons_succ, List.set_cons_zero]; rfl, ?_⟩
    refine WM.mono_skip rfl ?_
    apply Exists.intro
    refine ⟨by simp only [Act.put, List.setIfInBounds_toArray, List.set_cons_succ, List.set_cons_zero]; rfl, ?_⟩
    refine WM.mono_pure rfl rfl ?_
    refine ⟨.bool false, fun x => ?_, ?_⟩
    · go_simp
    apply Exists.intro
    refine ⟨by simp only [Act.put, List.setIfInBounds_toArray, List.set_cons_succ, List.set_cons_zero]; rfl, ?_⟩
    refine WM.mono_pure rfl rfl ?_
    refine ⟨.bool false, fun x => ?_, ?_⟩
    · go_simp
    apply Exists.intro
    refine ⟨by simp only [Act.put, List.setIfInBounds_toArray, List.set_cons_succ, List.set_cons_zero]; rfl, ?_⟩
    refine WM.mono_skip rfl ?_
    apply Exists.intro
    refine ⟨by simp only [Act.put, List.setIfInBounds_toArray, List.set_cons_succ, List.set_cons_zero]; rfl, ?_⟩
    refine WM.mono_skip rfl ?_
    apply Exists.intro
    refine ⟨by simp only [Act.put, List.setIfInBounds_toArray, List.set_cons_succ, List.set_cons_zero]; rfl, ?_⟩
    refine WM.mono_skip rfl ?_
    apply Exists.intro
    refine ⟨by simp only [Act.put, List.setIfInBounds_toArray, List.set_cons_succ, List.set_cons_zero]; rfl, ?_⟩
    refine WM.mono_skip rfl ?_
    apply Exists.intro
    refine ⟨by simp only [Act.put, List.setIfInBounds_toArray, List.set_cons_succ, List.set_cons_zero]; rfl, ?_⟩
    refine WM.mono_pure rfl rfl ?_
    refine ⟨.bool false, fun x => ?_, ?_⟩
    · go_simp
    apply Exists.intro
    refine ⟨by simp only [Act.put, List.setIfInBounds_toArray, List.set_cons_succ, List.set_cons_zero]; rfl, ?_⟩
    iterate 1
      refine WM.mono_pure rfl rfl ?_
      apply Exists.intro
      refine ⟨fun x => ?_, ?_⟩
      · go_simp
        rfl
      apply Exists.intro
      refine ⟨by simp only [Act.put, List.setIfInBounds_toArray, List.set_cons_succ, List.set_cons_zero]; rfl, ?_⟩
    refine WM.mono_nil ?_
    intro x hD hF
    replace HI := Lib.hid hD
    clear hD hF
    go_simp
    go_wp2
    go_ret
    exact ⟨ret_bool HR.out.symm, HI.out.below⟩
  have H0t : Hid (decide (1 ≤ a.item) = true) := Lib.hid (decide_eq_true h0)
  by_cases h1 : a.item ≤ 60
  rotate_left
  · have H1 : Hid (decide (a.item ≤ 60) = false) := Lib.hid (decide_eq_false h1)
    have HR : Hid (a.right f = false) := Lib.hid (by unfold Ent.right; rw [decide_eq_false (by omega)]; rfl)
    clear h0 h1
    have H0 : Hid (decide (1 ≤ a.item) = true) := H0t
    go_enter Try.func83, Try.ntmps83
    go_wp2_with fail
    refine WM.wp_region_kinds (fun _ x y => Below x.heap.size x y) (fun _ x => EV w a f x) (fun x => EV w a f x)
      [(1, .val (.int .i64 a.item) fun _ => True), (5, .val (.int .i64 a.item) fun _ => True)] (by kernel_rfl) (by kernel_rfl) (fun _ _ _ hb h => h.then_ hb) (fun _ _ _ _ _ hb h => h.then_ hb) ?_ HI.out.drew (fun _ => HI.out.drew) ?_
    · intro z hz
      simp only [List.mem_cons, List.mem_nil_iff, or_false] at hz
      rcases hz with rfl | rfl <;> exact fun _ _ _ _ _ _ => trivial
    iterate 1
      refine WM.mono_pure rfl rfl ?_
      apply Exists.intro
      refine ⟨fun x => ?_, ?_⟩
      · go_simp
        rfl
      apply Exists.intro
      refine ⟨by simp only [Act.put, List.setIfInBounds_toArray, List.set_cons_succ, List.set_cons_zero]; rfl, ?_⟩
    refine WM.mono_val rfl rfl (fun x hD hF => ?_) ?_
    · have hc : x.cell? ⟨w.heap.size, 0, none⟩ = some (.int .i64 a.item) := hD.a.cell (j := 0) rfl
      go_simp
      exact ⟨Below.refl _ _, rfl⟩
    apply Exists.intro
    refine ⟨by simp only [Act.put, List.setIfInBounds_toArray, List.set_cons_succ, List.set_cons_zero]; rfl, ?_⟩
    refine WM.mono_pure rfl rfl ?_
    refine ⟨.bool true, fun x => ?_, ?_⟩
    · exact leq3 1 a.item H0.out (.const (.int .i64 1)) (.tmp 6) rfl rfl rfl
    apply Exists.intro
    refine ⟨by simp only [Act.put, List.setIfInBounds_toArray, List.set_cons_succ, List.set_cons_zero]; rfl, ?_⟩
    refine WM.mono_pure rfl rfl ?_
    refine ⟨.bool true, fun x => ?_, ?_⟩
    · go_simp
    apply Exists.intro
    refine ⟨by simp only [Act.put, List.setIfInBounds_toArray, List.set_cons_succ, List.set_cons_zero]; rfl, ?_⟩
    iterate 1
      refine WM.mono_pure rfl rfl ?_
      apply Exists.intro
      refine ⟨fun x => ?_, ?_⟩
      · go_simp
        rfl
      apply Exists.intro
      refine ⟨by simp only [Act.put, List.setIfInBounds_toArray, List.set_cons_succ, List.set_cons_zero]; rfl, ?_⟩
    refine WM.mono_val rfl rfl (fun x hD hF => ?_) ?_
    · have hc : x.cell? ⟨w.heap.size, 0, none⟩ = some (.int .i64 a.item) := hD.a.cell (j := 0) rfl
      go_simp
      exact ⟨Below.refl _ _, rfl⟩
    apply Exists.intro
    refine ⟨by simp only [Act.put, List.setIfInBounds_toArray, List.set_cons_succ, List.set_cons_zero]; rfl, ?_⟩
    refine WM.mono_pure rfl rfl ?_
    refine ⟨.bool false, fun x => ?_, ?_⟩
    · exact leq3 a.item 60 H1.out (.tmp 10) (.const (.int .i64 60)) rfl rfl rfl
    apply Exists.intro
    refine ⟨by simp only [Act.put, List.setIfInBounds_toArray, List.set_cons_succ, List.set_cons_zero]; rfl, ?_⟩
    refine WM.mono_pure rfl rfl ?_
    refine ⟨.bool false, fun x => ?_, ?_⟩
    · go_simp
    apply Exists.intro
    refine ⟨by simp only [Act.put, List.setIfInBounds_toArray, List.set_cons_succ, List.set_cons_zero]; rfl, ?_⟩
    refine WM.mono_pure rfl rfl ?_
    refine ⟨.bool false, fun x => ?_, ?_⟩
    · go_simp
    apply Exists.intro
    refine ⟨by simp only [Act.put, List.setIfInBounds_toArray, List.set_cons_succ, List.set_cons_zero]; rfl, ?_⟩
    refine WM.mono_skip rfl ?_
    apply Exists.intro
    refine ⟨by simp only [Act.put, List.setIfInBounds_toArray, List.set_cons_succ, List.set_cons_zero]; rfl, ?_⟩
    refine WM.mono_skip rfl ?_
    apply Exists.intro
    refine ⟨by simp only [Act.put, List.setIfInBounds_toArray, List.set_cons_succ, List.set_cons_zero]; rfl, ?_⟩
    refine WM.mono_skip rfl ?_
    apply Exists.intro
    refine ⟨by simp only [Act.put, List.setIfInBounds_toArray, List.set_cons_succ, List.set_cons_zero]; rfl, ?_⟩
    refine WM.mono_pure rfl rfl ?_
    refine ⟨.bool false, fun x => ?_, ?_⟩
    · go_simp
    apply Exists.intro
    refine ⟨by simp only [Act.put, List.setIfInBounds_toArray, List.set_cons_succ, List.set_cons_zero]; rfl, ?_⟩
    refine WM.mono_pure rfl rfl ?_
    refine ⟨.bool false, fun x => ?_, ?_⟩
    · go_simp
    apply Exists.intro
    refine ⟨by simp only [Act.put, List.setIfInBounds_toArray, List.set_cons_succ, List.set_cons_zero]; rfl, ?_⟩
    refine WM.mono_skip rfl ?_
    apply Exists.intro
    refine ⟨by simp only [Act.put, List.setIfInBounds_toArray, List.set_cons_succ, List.set_cons_zero]; rfl, ?_⟩
    refine WM.mono_skip rfl ?_
    apply Exists.intro
    refine ⟨by simp only [Act.put, List.setIfInBounds_toArray, List.set_cons_succ, List.set_cons_zero]; rfl, ?_⟩
    refine WM.mono_skip rfl ?_
    apply Exists.intro
    refine ⟨by simp only [Act.put, List.setIfInBounds_toArray, List.set_cons_succ, List.set_cons_zero]; rfl, ?_⟩
    refine WM.mono_pure rfl rfl ?_
    refine ⟨.bool false, fun x => ?_, ?_⟩
    · go_simp
    apply Exists.intro
    refine ⟨by simp only [Act.put, List.setIfInBounds_toArray, List.set_cons_succ, List.set_cons_zero]; rfl, ?_⟩
    refine WM.mono_pure rfl rfl ?_
    refine ⟨.bool false, fun x => ?_, ?_⟩
    · go_simp
    apply Exists.intro
    refine ⟨by simp only [Act.put, List.setIfInBounds_toArray, List.set_cons_succ, List.set_cons_zero]; rfl, ?_⟩
    refine WM.mono_skip rfl ?_
    apply Exists.intro
    refine ⟨by simp only [Act.put, List.setIfInBounds_toArray, List.set_cons_succ, List.set_cons_zero]; rfl, ?_⟩
    refine WM.mono_skip rfl ?_
    apply Exists.intro
    refine ⟨by simp only [Act.put, List.setIfInBounds_toArray, List.set_cons_succ, List.set_cons_zero]; rfl, ?_⟩
    refine WM.mono_skip rfl ?_
    apply Exists.intro
    refine ⟨by simp only [Act.put, List.setIfInBounds_toArray, List.set_cons_succ, List.set_cons_zero]; rfl, ?_⟩
    refine WM.mono_skip rfl ?_
    apply Exists.intro
    refine ⟨by simp only [Act.put, List.setIfInBounds_toArray, List.set_cons_succ, List.set_cons_zero]; rfl, ?_⟩
    refine WM.mono_pure rfl rfl ?_
    refine ⟨.bool false, fun x => ?_, ?_⟩
    · go_simp
    apply Exists.intro
    refine ⟨by simp only [Act.put, List.setIfInBounds_toArray, List.set_cons_succ, List.set_cons_zero]; rfl, ?_⟩
    iterate 1
      refine WM.mono_pure rfl rfl ?_
      apply Exists.intro
      refine ⟨fun x => ?_, ?_⟩
      · go_simp
        rfl
      apply Exists.intro
      refine ⟨by simp only [Act.put, List.setIfInBounds_toArray, List.set_cons_succ, List.set_cons_zero]; rfl, ?_⟩
    refine WM.mono_nil ?_
    intro x hD hF
    replace HI := Lib.hid hD
    clear hD hF
    go_simp
    go_wp2
    go_ret
    exact ⟨ret_bool HR.out.symm, HI.out.below⟩
  have H1t : Hid (decide (a.item ≤ 60) = true) := Lib.hid (decide_eq_true h1)
  by_cases h2 : (-1000) ≤ a.qty
  rotate_left
  · have H2 : Hid (decide ((-1000) ≤ a.qty) = false) := Lib.hid (decide_eq_false h2)
    have HR : Hid (a.right f = false) := Lib.hid (by unfold Ent.right; rw [decide_eq_false (by omega)]; rfl)
    clear h0 h1 h2
    have H0 : Hid (decide (1 ≤ a.item) = true) := H0t
    have H1 : Hid (decide (a.item ≤ 60) = true) := H1t
    go_enter Try.func83, Try.ntmps83
    go_wp2_with fail
    refine WM.wp_region_kinds (fun _ x y => Below x.heap.size x y) (fun _ x => EV w a f x) (fun x => EV w a f x)
      [(1, .val (.int .i64 a.item) fun _ => True), (5, .val (.int .i64 a.item) fun _ => True), (10, .val (.int .i64 a.qty) fun _ => True)] (by kernel_rfl) (by kernel_rfl) (fun _ _ _ hb h => h.then_ hb) (fun _ _ _ _ _ hb h => h.then_ hb) ?_ HI.out.drew (fun _ => HI.out.drew) ?_
    · intro z hz
      simp only [List.mem_cons, List.mem_nil_iff, or_false] at hz
      rcases hz with rfl | rfl | rfl <;> exact fun _ _ _ _ _ _ => trivial
    iterate 1
      refine WM.mono_pure rfl rfl ?_
      apply Exists.intro
      refine ⟨fun x => ?_, ?_⟩
      · go_simp
        rfl
      apply Exists.intro
      refine ⟨by simp only [Act.put, List.setIfInBounds_toArray, List.set_cons_succ, List.set_cons_zero]; rfl, ?_⟩
    refine WM.mono_val rfl rfl (fun x hD hF => ?_) ?_
    · have hc : x.cell? ⟨w.heap.size, 0, none⟩ = some (.int .i64 a.item) := hD.a.cell (j := 0) rfl
      go_simp
      exact ⟨Below.refl _ _, rfl⟩
    apply Exists.intro
    refine ⟨by simp only [Act.put, List.setIfInBounds_toArray, List.set_cons_succ, List.set_cons_zero]; rfl, ?_⟩
    refine WM.mono_pure rfl rfl ?_
    refine ⟨.bool true, fun x => ?_, ?_⟩
    · exact leq3 1 a.item H0.out (.const (.int .i64 1)) (.tmp 6) rfl rfl rfl
    apply Exists.intro
    refine ⟨by simp only [Act.put, List.setIfInBounds_toArray, List.set_cons_succ, List.set_cons_zero]; rfl, ?_⟩
    refine WM.mono_pure rfl rfl ?_
    refine ⟨.bool true, fun x => ?_, ?_⟩
    · go_simp
    apply Exists.intro
    refine ⟨by simp only [Act.put, List.setIfInBounds_toArray, List.set_cons_succ, List.set_cons_zero]; rfl, ?_⟩
    iterate 1
      refine WM.mono_pure rfl rfl ?_
      apply Exists.intro
      refine ⟨fun x => ?_, ?_⟩
      · go_simp
        rfl
      apply Exists.intro
      refine ⟨by simp only [Act.put, List.setIfInBounds_toArray, List.set_cons_succ, List.set_cons_zero]; rfl, ?_⟩
    refine WM.mono_val rfl rfl (fun x hD hF => ?_) ?_
    · have hc : x.cell? ⟨w.heap.size, 0, none⟩ = some (.int .i64 a.item) := hD.a.cell (j := 0) rfl
      go_simp
      exact ⟨Below.refl _ _, rfl⟩
    apply Exists.intro
    refine ⟨by simp only [Act.put, List.setIfInBounds_toArray, List.set_cons_succ, List.set_cons_zero]; rfl, ?_⟩
    refine WM.mono_pure rfl rfl ?_
    refine ⟨.bool true, fun x => ?_, ?_⟩
    · exact leq3 a.item 60 H1.out (.tmp 10) (.const (.int .i64 60)) rfl rfl rfl
    apply Exists.intro
    refine ⟨by simp only [Act.put, List.setIfInBounds_toArray, List.set_cons_succ, List.set_cons_zero]; rfl, ?_⟩
    refine WM.mono_pure rfl rfl ?_
    refine ⟨.bool true, fun x => ?_, ?_⟩
    · go_simp
    apply Exists.intro
    refine ⟨by simp only [Act.put, List.setIfInBounds_toArray, List.set_cons_succ, List.set_cons_zero]; rfl, ?_⟩
    refine WM.mono_pure rfl rfl ?_
    refine ⟨.bool true, fun x => ?_, ?_⟩
    · go_simp
    apply Exists.intro
    refine ⟨by simp only [Act.put, List.setIfInBounds_toArray, List.set_cons_succ, List.set_cons_zero]; rfl, ?_⟩
    iterate 1
      refine WM.mono_pure rfl rfl ?_
      apply Exists.intro
      refine ⟨fun x => ?_, ?_⟩
      · go_simp
        rfl
      apply Exists.intro
      refine ⟨by simp only [Act.put, List.setIfInBounds_toArray, List.set_cons_succ, List.set_cons_zero]; rfl, ?_⟩
    refine WM.mono_val rfl rfl (fun x hD hF => ?_) ?_
    · have hc : x.cell? ⟨w.heap.size, 3, none⟩ = some (.int .i64 a.qty) := hD.a.cell (j := 3) rfl
      go_simp
      exact ⟨Below.refl _ _, rfl⟩
    apply Exists.intro
    refine ⟨by simp only [Act.put, List.setIfInBounds_toArray, List.set_cons_succ, List.set_cons_zero]; rfl, ?_⟩
    refine WM.mono_pure rfl rfl ?_
    refine ⟨.bool false, fun x => ?_, ?_⟩
    · exact leq3 (-1000) a.qty H2.out (.const (.int .i64 (-1000))) (.tmp 15) rfl rfl rfl
    apply Exists.intro
    refine ⟨by simp only [Act.put, List.setIfInBounds_toArray, List.set_cons_succ, List.set_cons_zero]; rfl, ?_⟩
    refine WM.mono_pure rfl rfl ?_
    refine ⟨.bool false, fun x => ?_, ?_⟩
    · go_simp
    apply Exists.intro
    refine ⟨by simp only [Act.put, List.setIfInBounds_toArray, List.set_cons_succ, List.set_cons_zero]; rfl, ?_⟩
    refine WM.mono_pure rfl rfl ?_
    refine ⟨.bool false, fun x => ?_, ?_⟩
    · go_simp
    apply Exists.intro
    refine ⟨by simp only [Act.put, List.setIfInBounds_toArray, List.set_cons_succ, List.set_cons_zero]; rfl, ?_⟩
    refine WM.mono_skip rfl ?_
    apply Exists.intro
    refine ⟨by simp only [Act.put, List.setIfInBounds_toArray, List.set_cons_succ, List.set_cons_zero]; rfl, ?_⟩
    refine WM.mono_skip rfl ?_
    apply Exists.intro
    refine ⟨by simp only [Act.put, List.setIfInBounds_toArray, List.set_cons_succ, List.set_cons_zero]; rfl, ?_⟩
    refine WM.mono_skip rfl ?_
    apply Exists.intro
    refine ⟨by simp only [Act.put, List.setIfInBounds_toArray, List.set_cons_succ, List.set_cons_zero]; rfl, ?_⟩
    refine WM.mono_pure rfl rfl ?_
    refine ⟨.bool false, fun x => ?_, ?_⟩
    · go_simp
    apply Exists.intro
    refine ⟨by simp only [Act.put, List.setIfInBounds_toArray, List.set_cons_succ, List.set_cons_zero]; rfl, ?_⟩
    refine WM.mono_pure rfl rfl ?_
    refine ⟨.bool false, fun x => ?_, ?_⟩
    · go_simp
    apply Exists.intro
    refine ⟨by simp only [Act.put, List.setIfInBounds_toArray, List.set_cons_succ, List.set_cons_zero]; rfl, ?_⟩
    refine WM.mono_skip rfl ?_
    apply Exists.intro
    refine ⟨by simp only [Act.put, List.setIfInBounds_toArray, List.set_cons_succ, List.set_cons_zero]; rfl, ?_⟩
    refine WM.mono_skip rfl ?_
    apply Exists.intro
    refine ⟨by simp only [Act.put, List.setIfInBounds_toArray, List.set_cons_succ, List.set_cons_zero]; rfl, ?_⟩
    refine WM.mono_skip rfl ?_
    apply Exists.intro
    refine ⟨by simp only [Act.put, List.setIfInBounds_toArray, List.set_cons_succ, List.set_cons_zero]; rfl, ?_⟩
    refine WM.mono_skip rfl ?_
    apply Exists.intro
    refine ⟨by simp only [Act.put, List.setIfInBounds_toArray, List.set_cons_succ, List.set_cons_zero]; rfl, ?_⟩
    refine WM.mono_pure rfl rfl ?_
    refine ⟨.bool false, fun x => ?_, ?_⟩
    · go_simp
    apply Exists.intro
    refine ⟨by simp only [Act.put, List.setIfInBounds_toArray, List.set_cons_succ, List.set_cons_zero]; rfl, ?_⟩
    iterate 1
      refine WM.mono_pure rfl rfl ?_
      apply Exists.intro
      refine ⟨fun x => ?_, ?_⟩
      · go_simp
        rfl
      apply Exists.intro
      refine ⟨by simp only [Act.put, List.setIfInBounds_toArray, List.set_cons_succ, List.set_cons_zero]; rfl, ?_⟩
    refine WM.mono_nil ?_
    intro x hD hF
    replace HI := Lib.hid hD
    clear hD hF
    go_simp
    go_wp2
    go_ret
    exact ⟨ret_bool HR.out.symm, HI.out.below⟩
  have H2t : Hid (decide ((-1000) ≤ a.qty) = true) := Lib.hid (decide_eq_true h2)
  by_cases h3 : a.qty ≤ 1000
  rotate_left
  · have H3 : Hid (decide (a.qty ≤ 1000) = false) := Lib.hid (decide_eq_false h3)
    have HR : Hid (a.right f = false) := Lib.hid (by unfold Ent.right; rw [decide_eq_false (by omega)]; rfl)
    clear h0 h1 h2 h3
    have H0 : Hid (decide (1 ≤ a.item) = true) := H0t
    have H1 : Hid (decide (a.item ≤ 60) = true) := H1t
    have H2 : Hid (decide ((-1000) ≤ a.qty) = true) := H2t
    go_enter Try.func83, Try.ntmps83
    go_wp2_with fail
    refine WM.wp_region_kinds (fun _ x y => Below x.heap.size x y) (fun _ x => EV w a f x) (fun x => EV w a f x)
      [(1, .val (.int .i64 a.item) fun _ => True), (5, .val (.int .i64 a.item) fun _ => True), (10, .val (.int .i64 a.qty) fun _ => True), (15, .val (.int .i64 a.qty) fun _ => True)] (by kernel_rfl) (by kernel_rfl) (fun _ _ _ hb h => h.then_ hb) (fun _ _ _ _ _ hb h => h.then_ hb) ?_ HI.out.drew (fun _ => HI.out.drew) ?_
    · intro z hz
      simp only [List.mem_cons, List.mem_nil_iff, or_false] at hz
      rcases hz with rfl | rfl | rfl | rfl <;> exact fun _ _ _ _ _ _ => trivial
    iterate 1
      refine WM.mono_pure rfl rfl ?_
      apply Exists.intro
      refine ⟨fun x => ?_, ?_⟩
      · go_simp
        rfl
      apply Exists.intro
      refine ⟨by simp only [Act.put, List.setIfInBounds_toArray, List.set_cons_succ, List.set_cons_zero]; rfl, ?_⟩
    refine WM.mono_val rfl rfl (fun x hD hF => ?_) ?_
    · have hc : x.cell? ⟨w.heap.size, 0, none⟩ = some (.int .i64 a.item) := hD.a.cell (j := 0) rfl
      go_simp
      exact ⟨Below.refl _ _, rfl⟩
    apply Exists.intro
    refine ⟨by simp only [Act.put, List.setIfInBounds_toArray, List.set_cons_succ, List.set_cons_zero]; rfl, ?_⟩
    refine WM.mono_pure rfl rfl ?_
    refine ⟨.bool true, fun x => ?_, ?_⟩
    · exact leq3 1 a.item H0.out (.const (.int .i64 1)) (.tmp 6) rfl rfl rfl
    apply Exists.intro
    refine ⟨by simp only [Act.put, List.setIfInBounds_toArray, List.set_cons_succ, List.set_cons_zero]; rfl, ?_⟩
    refine WM.mono_pure rfl rfl ?_
    refine ⟨.bool true, fun x => ?_, ?_⟩
    · go_simp
    apply Exists.intro
    refine ⟨by simp only [Act.put, List.setIfInBounds_toArray, List.set_cons_succ, List.set_cons_zero]; rfl, ?_⟩
    iterate 1
      refine WM.mono_pure rfl rfl ?_
      apply Exists.intro
      refine ⟨fun x => ?_, ?_⟩
      · go_simp
        rfl
      apply Exists.intro
      refine ⟨by simp only [Act.put, List.setIfInBounds_toArray, List.set_cons_succ, List.set_cons_zero]; rfl, ?_⟩
    refine WM.mono_val rfl rfl (fun x hD hF => ?_) ?_
    · have hc : x.cell? ⟨w.heap.size, 0, none⟩ = some (.int .i64 a.item) := hD.a.cell (j := 0) rfl
      go_simp
      exact ⟨Below.refl _ _, rfl⟩
    apply Exists.intro
    refine ⟨by simp only [Act.put, List.setIfInBounds_toArray, List.set_cons_succ, List.set_cons_zero]; rfl, ?_⟩
    refine WM.mono_pure rfl rfl ?_
    refine ⟨.bool true, fun x => ?_, ?_⟩
    · exact leq3 a.item 60 H1.out (.tmp 10) (.const (.int .i64 60)) rfl rfl rfl
    apply Exists.intro
    refine ⟨by simp only [Act.put, List.setIfInBounds_toArray, List.set_cons_succ, List.set_cons_zero]; rfl, ?_⟩
    refine WM.mono_pure rfl rfl ?_
    refine ⟨.bool true, fun x => ?_, ?_⟩
    · go_simp
    apply Exists.intro
    refine ⟨by simp only [Act.put, List.setIfInBounds_toArray, List.set_cons_succ, List.set_cons_zero]; rfl, ?_⟩
    refine WM.mono_pure rfl rfl ?_
    refine ⟨.bool true, fun x => ?_, ?_⟩
    · go_simp
    apply Exists.intro
    refine ⟨by simp only [Act.put, List.setIfInBounds_toArray, List.set_cons_succ, List.set_cons_zero]; rfl, ?_⟩
    iterate 1
      refine WM.mono_pure rfl rfl ?_
      apply Exists.intro
      refine ⟨fun x => ?_, ?_⟩
      · go_simp
        rfl
      apply Exists.intro
      refine ⟨by simp only [Act.put, List.setIfInBounds_toArray, List.set_cons_succ, List.set_cons_zero]; rfl, ?_⟩
    refine WM.mono_val rfl rfl (fun x hD hF => ?_) ?_
    · have hc : x.cell? ⟨w.heap.size, 3, none⟩ = some (.int .i64 a.qty) := hD.a.cell (j := 3) rfl
      go_simp
      exact ⟨Below.refl _ _, rfl⟩
    apply Exists.intro
    refine ⟨by simp only [Act.put, List.setIfInBounds_toArray, List.set_cons_succ, List.set_cons_zero]; rfl, ?_⟩
    refine WM.mono_pure rfl rfl ?_
    refine ⟨.bool true, fun x => ?_, ?_⟩
    · exact leq3 (-1000) a.qty H2.out (.const (.int .i64 (-1000))) (.tmp 15) rfl rfl rfl
    apply Exists.intro
    refine ⟨by simp only [Act.put, List.setIfInBounds_toArray, List.set_cons_succ, List.set_cons_zero]; rfl, ?_⟩
    refine WM.mono_pure rfl rfl ?_
    refine ⟨.bool true, fun x => ?_, ?_⟩
    · go_simp
    apply Exists.intro
    refine ⟨by simp only [Act.put, List.setIfInBounds_toArray, List.set_cons_succ, List.set_cons_zero]; rfl, ?_⟩
    refine WM.mono_pure rfl rfl ?_
    refine ⟨.bool true, fun x => ?_, ?_⟩
    · go_simp
    apply Exists.intro
    refine ⟨by simp only [Act.put, List.setIfInBounds_toArray, List.set_cons_succ, List.set_cons_zero]; rfl, ?_⟩
    iterate 1
      refine WM.mono_pure rfl rfl ?_
      apply Exists.intro
      refine ⟨fun x => ?_, ?_⟩
      · go_simp
        rfl
      apply Exists.intro
      refine ⟨by simp only [Act.put, List.setIfInBounds_toArray, List.set_cons_succ, List.set_cons_zero]; rfl, ?_⟩
    refine WM.mono_val rfl rfl (fun x hD hF => ?_) ?_
    · have hc : x.cell? ⟨w.heap.size, 3, none⟩ = some (.int .i64 a.qty) := hD.a.cell (j := 3) rfl
      go_simp
      exact ⟨Below.refl _ _, rfl⟩
    apply Exists.intro
    refine ⟨by simp only [Act.put, List.setIfInBounds_toArray, List.set_cons_succ, List.set_cons_zero]; rfl, ?_⟩
    refine WM.mono_pure rfl rfl ?_
    refine ⟨.bool false, fun x => ?_, ?_⟩
    · exact leq3 a.qty 1000 H3.out (.tmp 20) (.const (.int .i64 1000)) rfl rfl rfl
    apply Exists.intro
    refine ⟨by simp only [Act.put, List.setIfInBounds_toArray, List.set_cons_succ, List.set_cons_zero]; rfl, ?_⟩
    refine WM.mono_pure rfl rfl ?_
    refine ⟨.bool false, fun x => ?_, ?_⟩
    · go_simp
    apply Exists.intro
    refine ⟨by simp only [Act.put, List.setIfInBounds_toArray, List.set_cons_succ, List.set_cons_zero]; rfl, ?_⟩
    refine WM.mono_pure rfl rfl ?_
    refine ⟨.bool false, fun x => ?_, ?_⟩
    · go_simp
    apply Exists.intro
    refine ⟨by simp only [Act.put, List.setIfInBounds_toArray, List.set_cons_succ, List.set_cons_zero]; rfl, ?_⟩
    refine WM.mono_skip rfl ?_
    apply Exists.intro
    refine ⟨by simp only [Act.put, List.setIfInBounds_toArray, List.set_cons_succ, List.set_cons_zero]; rfl, ?_⟩
    refine WM.mono_skip rfl ?_
    apply Exists.intro
    refine ⟨by simp only [Act.put, List.setIfInBounds_toArray, List.set_cons_succ, List.set_cons_zero]; rfl, ?_⟩
    refine WM.mono_skip rfl ?_
    apply Exists.intro
    refine ⟨by simp only [Act.put, List.setIfInBounds_toArray, List.set_cons_succ, List.set_cons_zero]; rfl, ?_⟩
    refine WM.mono_skip rfl ?_
    apply Exists.intro
    refine ⟨by simp only [Act.put, List.setIfInBounds_toArray, List.set_cons_succ, List.set_cons_zero]; rfl, ?_⟩
    refine WM.mono_pure rfl rfl ?_
    refine ⟨.bool false, fun x => ?_, ?_⟩
    · go_simp
    apply Exists.intro
    refine ⟨by simp only [Act.put, List.setIfInBounds_toArray, List.set_cons_succ, List.set_cons_zero]; rfl, ?_⟩
    iterate 1
      refine WM.mono_pure rfl rfl ?_
      apply Exists.intro
      refine ⟨fun x => ?_, ?_⟩
      · go_simp
        rfl
      apply Exists.intro
      refine ⟨by simp only [Act.put, List.setIfInBounds_toArray, List.set_cons_succ, List.set_cons_zero]; rfl, ?_⟩
    refine WM.mono_nil ?_
    intro x hD hF
    replace HI := Lib.hid hD
    clear hD hF
    go_simp
    go_wp2
    go_ret
    exact ⟨ret_bool HR.out.symm, HI.out.below⟩
  have H3t : Hid (decide (a.qty ≤ 1000) = true) := Lib.hid (decide_eq_true h3)
  have HR : Hid (a.right f = Vec.has f a.node a.n) := Lib.hid (by unfold Ent.right; rw [decide_eq_true ⟨h0, h1, h2, h3⟩]; rfl)
  have H0 : Hid (decide (1 ≤ a.item) = true) := H0t
  have H1 : Hid (decide (a.item ≤ 60) = true) := H1t
  have H2 : Hid (decide ((-1000) ≤ a.qty) = true) := H2t
  have H3 : Hid (decide (a.qty ≤ 1000) = true) := H3t
  clear h0 h1 h2 h3
  go_enter Try.func83, Try.ntmps83
  go_wp2_with fail
  refine WM.wp_region_kinds (fun _ x y => Below x.heap.size x y) (fun _ x => EV w a f x) (fun x => EV w a f x)
    [(1, .val (.int .i64 a.item) fun _ => True), (5, .val (.int .i64 a.item) fun _ => True), (10, .val (.int .i64 a.qty) fun _ => True), (15, .val (.int .i64 a.qty) fun _ => True), (19, .val (vecV f) fun _ => True), (20, .val (entV a) fun _ => True), (21, .val (dotV a.node a.n) fun _ => True), (22, .val (.bool (Vec.has f a.node a.n)) fun _ => True)] (by kernel_rfl) (by kernel_rfl) (fun _ _ _ hb h => h.then_ hb) (fun _ _ _ _ _ hb h => h.then_ hb) ?_ HI.out.drew (fun _ => HI.out.drew) ?_
  · intro z hz
    simp only [List.mem_cons, List.mem_nil_iff, or_false] at hz
    rcases hz with rfl | rfl | rfl | rfl | rfl | rfl | rfl | rfl <;> exact fun _ _ _ _ _ _ => trivial
  iterate 1
    refine WM.mono_pure rfl rfl ?_
    apply Exists.intro
    refine ⟨fun x => ?_, ?_⟩
    · go_simp
      rfl
    apply Exists.intro
    refine ⟨by simp only [Act.put, List.setIfInBounds_toArray, List.set_cons_succ, List.set_cons_zero]; rfl, ?_⟩
  refine WM.mono_val rfl rfl (fun x hD hF => ?_) ?_
  · have hc : x.cell? ⟨w.heap.size, 0, none⟩ = some (.int .i64 a.item) := hD.a.cell (j := 0) rfl
    go_simp
    exact ⟨Below.refl _ _, rfl⟩
  apply Exists.intro
  refine ⟨by simp only [Act.put, List.setIfInBounds_toArray, List.set_cons_succ, List.set_cons_zero]; rfl, ?_⟩
  refine WM.mono_pure rfl rfl ?_
  refine ⟨.bool true, fun x => ?_, ?_⟩
  · exact leq3 1 a.item H0.out (.const (.int .i64 1)) (.tmp 6) rfl rfl rfl
  apply Exists.intro
  refine ⟨by simp only [Act.put, List.setIfInBounds_toArray, List.set_cons_succ, List.set_cons_zero]; rfl, ?_⟩
  refine WM.mono_pure rfl rfl ?_
  refine ⟨.bool true, fun x => ?_, ?_⟩
  · go_simp
  apply Exists.intro
  refine ⟨by simp only [Act.put, List.setIfInBounds_toArray, List.set_cons_succ, List.set_cons_zero]; rfl, ?_⟩
  iterate 1
    refine WM.mono_pure rfl rfl ?_
    apply Exists.intro
    refine ⟨fun x => ?_, ?_⟩
    · go_simp
      rfl
    apply Exists.intro
    refine ⟨by simp only [Act.put, List.setIfInBounds_toArray, List.set_cons_succ, List.set_cons_zero]; rfl, ?_⟩
  refine WM.mono_val rfl rfl (fun x hD hF => ?_) ?_
  · have hc : x.cell? ⟨w.heap.size, 0, none⟩ = some (.int .i64 a.item) := hD.a.cell (j := 0) rfl
    go_simp
    exact ⟨Below.refl _ _, rfl⟩
  apply Exists.intro
  refine ⟨by simp only [Act.put, List.setIfInBounds_toArray, List.set_cons_succ, List.set_cons_zero]; rfl, ?_⟩
  refine WM.mono_pure rfl rfl ?_
  refine ⟨.bool true, fun x => ?_, ?_⟩
  · exact leq3 a.item 60 H1.out (.tmp 10) (.const (.int .i64 60)) rfl rfl rfl
  apply Exists.intro
  refine ⟨by simp only [Act.put, List.setIfInBounds_toArray, List.set_cons_succ, List.set_cons_zero]; rfl, ?_⟩
  refine WM.mono_pure rfl rfl ?_
  refine ⟨.bool true, fun x => ?_, ?_⟩
  · go_simp
  apply Exists.intro
  refine ⟨by simp only [Act.put, List.setIfInBounds_toArray, List.set_cons_succ, List.set_cons_zero]; rfl, ?_⟩
  refine WM.mono_pure rfl rfl ?_
  refine ⟨.bool true, fun x => ?_, ?_⟩
  · go_simp
  apply Exists.intro
  refine ⟨by simp only [Act.put, List.setIfInBounds_toArray, List.set_cons_succ, List.set_cons_zero]; rfl, ?_⟩
  iterate 1
    refine WM.mono_pure rfl rfl ?_
    apply Exists.intro
    refine ⟨fun x => ?_, ?_⟩
    · go_simp
      rfl
    apply Exists.intro
    refine ⟨by simp only [Act.put, List.setIfInBounds_toArray, List.set_cons_succ, List.set_cons_zero]; rfl, ?_⟩
  refine WM.mono_val rfl rfl (fun x hD hF => ?_) ?_
  · have hc : x.cell? ⟨w.heap.size, 3, none⟩ = some (.int .i64 a.qty) := hD.a.cell (j := 3) rfl
    go_simp
    exact ⟨Below.refl _ _, rfl⟩
  apply Exists.intro
  refine ⟨by simp only [Act.put, List.setIfInBounds_toArray, List.set_cons_succ, List.set_cons_zero]; rfl, ?_⟩
  refine WM.mono_pure rfl rfl ?_
  refine ⟨.bool true, fun x => ?_, ?_⟩
  · exact leq3 (-1000) a.qty H2.out (.const (.int .i64 (-1000))) (.tmp 15) rfl rfl rfl
  apply Exists.intro
  refine ⟨by simp only [Act.put, List.setIfInBounds_toArray, List.set_cons_succ, List.set_cons_zero]; rfl, ?_⟩
  refine WM.mono_pure rfl rfl ?_
  refine ⟨.bool true, fun x => ?_, ?_⟩
  · go_simp
  apply Exists.intro
  refine ⟨by simp only [Act.put, List.setIfInBounds_toArray, List.set_cons_succ, List.set_cons_zero]; rfl, ?_⟩
  refine WM.mono_pure rfl rfl ?_
  refine ⟨.bool true, fun x => ?_, ?_⟩
  · go_simp
  apply Exists.intro
  refine ⟨by simp only [Act.put, List.setIfInBounds_toArray, List.set_cons_succ, List.set_cons_zero]; rfl, ?_⟩
  iterate 1
    refine WM.mono_pure rfl rfl ?_
    apply Exists.intro
    refine ⟨fun x => ?_, ?_⟩
    · go_simp
      rfl
    apply Exists.intro
    refine ⟨by simp only [Act.put, List.setIfInBounds_toArray, List.set_cons_succ, List.set_cons_zero]; rfl, ?_⟩
  refine WM.mono_val rfl rfl (fun x hD hF => ?_) ?_
  · have hc : x.cell? ⟨w.heap.size, 3, none⟩ = some (.int .i64 a.qty) := hD.a.cell (j := 3) rfl
    go_simp
    exact ⟨Below.refl _ _, rfl⟩
  apply Exists.intro
  refine ⟨by simp only [Act.put, List.setIfInBounds_toArray, List.set_cons_succ, List.set_cons_zero]; rfl, ?_⟩
  refine WM.mono_pure rfl rfl ?_
  refine ⟨.bool true, fun x => ?_, ?_⟩
  · exact leq3 a.qty 1000 H3.out (.tmp 20) (.const (.int .i64 1000)) rfl rfl rfl
  apply Exists.intro
  refine ⟨by simp only [Act.put, List.setIfInBounds_toArray, List.set_cons_succ, List.set_cons_zero]; rfl, ?_⟩
  refine WM.mono_pure rfl rfl ?_
  refine ⟨.bool true, fun x => ?_, ?_⟩
  · go_simp
  apply Exists.intro
  refine ⟨by simp only [Act.put, List.setIfInBounds_toArray, List.set_cons_succ, List.set_cons_zero]; rfl, ?_⟩
  refine WM.mono_pure rfl rfl ?_
  refine ⟨.bool true, fun x => ?_, ?_⟩
  · go_simp
  apply Exists.intro
  refine ⟨by simp only [Act.put, List.setIfInBounds_toArray, List.set_cons_succ, List.set_cons_zero]; rfl, ?_⟩
  refine WM.mono_val rfl rfl (fun x hD hF => ?_) ?_
  · have hl := run_loadVar_arr (P := Try.prog) x (w.heap.size + 1) 0 27 (arrOf .u64 8 f) _ (row_range (arr_row hD.v)) Try.underlying27 rfl (by rw [arrOf_size]; exact size27)
    rw [exec_load 27 (.tmp 3) rfl (w.heap.size + 1) 0 rfl hl]
    exact ⟨Below.refl _ _, rfl, trivial⟩
  apply Exists.intro
  refine ⟨by simp only [Act.put, List.setIfInBounds_toArray, List.set_cons_succ, List.set_cons_zero]; rfl, ?_⟩
  refine WM.mono_val rfl rfl (fun x hD hF => ?_) ?_
  · have hl := run_loadVar_arr (P := Try.prog) x w.heap.size 0 58 (entC a) _ hD.a.range Try.underlying58 rfl (ent_size58 _)
    rw [exec_load 58 (.tmp 2) rfl w.heap.size 0 rfl hl]
    exact ⟨Below.refl _ _, rfl, trivial⟩
  apply Exists.intro
  refine ⟨by simp only [Act.put, List.setIfInBounds_toArray, List.set_cons_succ, List.set_cons_zero]; rfl, ?_⟩
  refine WM.mono_val rfl rfl (fun x hD hF => ?_) ?_
  · go_simp
    refine (cdot_any a x).mono ?_
    rintro e y ⟨rfl, hg⟩
    exact ⟨_, rfl, hg, rfl⟩
  apply Exists.intro
  refine ⟨by simp only [Act.put, List.setIfInBounds_toArray, List.set_cons_succ, List.set_cons_zero]; rfl, ?_⟩
  refine WM.mono_val rfl rfl (fun x hD hF => ?_) ?_
  · go_simp
    refine (has_any f a.node a.n x).mono ?_
    rintro e y ⟨rfl, hg⟩
    exact ⟨_, rfl, hg, rfl⟩
  apply Exists.intro
  refine ⟨by simp only [Act.put, List.setIfInBounds_toArray, List.set_cons_succ, List.set_cons_zero]; rfl, ?_⟩
  refine WM.mono_pure rfl rfl ?_
  refine ⟨.bool (Vec.has f a.node a.n), fun x => ?_, ?_⟩
  · go_simp
  apply Exists.intro
  refine ⟨by simp only [Act.put, List.setIfInBounds_toArray, List.set_cons_succ, List.set_cons_zero]; rfl, ?_⟩
  iterate 1
    refine WM.mono_pure rfl rfl ?_
    apply Exists.intro
    refine ⟨fun x => ?_, ?_⟩
    · go_simp
      rfl
    apply Exists.intro
    refine ⟨by simp only [Act.put, List.setIfInBounds_toArray, List.set_cons_succ, List.set_cons_zero]; rfl, ?_⟩
  refine WM.mono_nil ?_
  intro x hD hF
  replace HI := Lib.hid hD
  clear hD hF
  go_simp
  go_wp2
  go_ret
  exact ⟨ret_bool HR.out.symm, HI.out.below⟩
end Go.Proofs.Ytnpacjdgbmldlaa

/- Slices of entries; the function that cart.Order hands to sort.Slice. -/
namespace Go.Proofs.Ytnpacjdgbmldlaa
open Go.RowKit

def e0 : Ent := ⟨0, 0, 0, 0⟩
def entL (e : Ent) : List Value := [.int .i64 e.item, .int .i64 e.node, .int .u64 (e.n : Int), .int .i64 e.qty]
def ents4 (ls : List Ent) : List Value := ls.flatMap entL
theorem ents4_cons (e : Ent) (ls : List Ent) : ents4 (e :: ls) = entL e ++ ents4 ls := by simp [ents4]
theorem ents4_append (xs ys : List Ent) : ents4 (xs ++ ys) = ents4 xs ++ ents4 ys := by simp [ents4]
theorem ents4_len : ∀ ls : List Ent, (ents4 ls).length = ls.length * 4
  | [] => rfl
  | e :: ls => by rw [ents4_cons, List.length_append, ents4_len ls, List.length_cons]; simp [entL]; omega
theorem ents4_get : ∀ (ls : List Ent) (j t : Nat), j < ls.length → t < 4 → (ents4 ls)[j * 4 + t]? = (entC (ls.getD j e0))[t]?
  | [], _, _, h, _ => by cases h
  | e :: ls, 0, t, _, ht => by
    rw [ents4_cons, List.getElem?_append_left (by simp [entL]; omega)]
    rw [show 0 * 4 + t = t by omega]
    show (entL e)[t]? = (entC e)[t]?
    rw [show entC e = (entL e).toArray from rfl, List.getElem?_toArray]
  | e :: ls, j + 1, t, h, ht => by
    rw [ents4_cons, List.getElem?_append_right (by simp [entL]; omega)]
    have := ents4_get ls j t (by simpa using h) ht
    rw [show (j + 1) * 4 + t - (entL e).length = j * 4 + t by simp [entL]; omega, this]
    rfl
/-- A slice of entries. -/
structure Ents (w : World) (ok : Nat → Prop) (A : Option Addr) (ls : List Ent) : Prop where
  at_ : 0 < ls.length → ∃ b o, A = some ⟨b, o, none⟩ ∧ ok b ∧ ∀ j, j < ls.length → rangeA w b (o + j * 4) (entC (ls.getD j e0))
theorem Ents.keep {w w' : World} {ok : Nat → Prop} {A : Option Addr} {ls : List Ent} (h : Ents w ok A ls) (hk : ∀ b j, ok b → b < w.heap.size → w'.cell? ⟨b, j, none⟩ = w.cell? ⟨b, j, none⟩) : Ents w' ok A ls :=
  ⟨fun hp => by
    obtain ⟨b, o, e, hb, hc⟩ := h.at_ hp
    refine ⟨b, o, e, hb, fun j hj i v hv => ?_⟩
    have h1 := hc j hj i v hv
    rw [hk b _ hb (World.block_lt_of_cell? w _ h1)]
    exact h1⟩
theorem Ents.below {w w' : World} {B : Nat} {A : Option Addr} {ls : List Ent} (h : Ents w (· < B) A ls) (hg : Below B w w') : Ents w' (· < B) A ls :=
  h.keep fun b j hb _ => World.cell?_of_block (w := w) (a := ⟨b, j, none⟩) (hg.block b hb)
theorem Ents.loose {w : World} {A : Option Addr} {ls : List Ent} {o p : Nat → Prop} (h : Ents w o A ls) (k : ∀ b, o b → p b) : Ents w p A ls := ⟨fun hp => by
  obtain ⟨b, o', e, h1, h2⟩ := h.at_ hp
  exact ⟨b, o', e, k _ h1, h2⟩⟩
theorem Ents.some_ {w : World} {ok : Nat → Prop} {A : Option Addr} {ls : List Ent} (h : Ents w ok A ls) (hp : 0 < ls.length) : ∃ b o, A = some ⟨b, o, none⟩ := by
  obtain ⟨b, o, e, _⟩ := h.at_ hp
  exact ⟨b, o, e⟩
theorem Ents.at_j {w : World} {ok : Nat → Prop} {b o j : Nat} {ls : List Ent} (h : Ents w ok (some ⟨b, o, none⟩) ls) (hj : j < ls.length) : rangeA w b (o + j * 4) (entC (ls.getD j e0)) := by
  obtain ⟨b', o', e, _, h2⟩ := h.at_ (by omega)
  cases e
  exact h2 j hj
theorem block_ent {x : World} {g : Nat} {ls : List Ent} (h : x.heap[g]? = some (.cells (ents4 ls).toArray 58 (0, 0))) {j : Nat} (hj : j < ls.length) : rangeA x g (j * 4) (entC (ls.getD j e0)) := fun t v hv => by
  have ht : t < 4 := by
    have := (Array.getElem?_eq_some_iff.1 hv).1
    simpa [entC] using this
  rw [cell_of_row _ _ _ _ _ _ h, List.getElem?_toArray, ents4_get ls j t hj ht]
  exact hv
theorem block_ents {x : World} {g : Nat} {ls : List Ent} (h : x.heap[g]? = some (.cells (ents4 ls).toArray 58 (0, 0))) {ok : Nat → Prop} (hg : ok g) : Ents x ok (some ⟨g, 0, none⟩) ls :=
  ⟨fun _ => ⟨g, 0, rfl, hg, fun j hj => by rw [Nat.zero_add]; exact block_ent h hj⟩⟩

/-- The box with the slice that is being sorted, and its entries. -/
structure OB (B g : Nat) (ls : List Ent) (x : World) : Prop where
  box : x.heap[B]? = some (.cells #[.slice (some ⟨g, 0, none⟩) ls.length ls.length] 54 (0, 0))
  row : x.heap[g]? = some (.cells (ents4 ls).toArray 58 (0, 0))
theorem OB.then_ {B g : Nat} {ls : List Ent} {x y : World} (hb : Below x.heap.size x y) (h : OB B g ls x) : OB B g ls y := ⟨(hb.block _ (lt_of_row h.box)).trans h.box, (hb.block _ (lt_of_row h.row)).trans h.row⟩
/-- .. seen from a world behind. -/
structure OW (w : World) (B g : Nat) (ls : List Ent) (x : World) : Prop where
  ob : OB B g ls x
  below : Below w.heap.size w x
theorem OW.then_ {w : World} {B g : Nat} {ls : List Ent} {x y : World} (hb : Below x.heap.size x y) (h : OW w B g ls x) : OW w B g ls y := ⟨h.ob.then_ hb, h.below.trans (hb.mono h.below.size)⟩
theorem OW.drew {w : World} {B g : Nat} {ls : List Ent} {x : World} (h : OW w B g ls x) : OW w B g ls x.drew := OW.then_ (x := x) (y := x.drew) ⟨rfl, rfl, rfl, Nat.le_refl _, fun _ _ => rfl⟩ h

set_option maxRecDepth 100000 in
set_option maxHeartbeats 4000000 in
theorem order1_any (ls : List Ent) (B g i j : Nat) (w : World) (h : OB B g ls w) (hi : i < ls.length) (hj : j < ls.length) :
    Calls Try.prog 92 #[.int .i64 (i : Int), .int .i64 (j : Int), .pointer (some ⟨B, 0, none⟩)] w fun e w' => e = .returned (.bool ((ls.getD i e0).less (ls.getD j e0))) ∧ Below w.heap.size w w' := by
  have HI : Hid (OW w B g ls w) := Lib.hid ⟨h, Below.refl _ _⟩
  have HLI := Lib.hid hi
  have HLJ := Lib.hid hj
  have hii : (i : Int) < (ls.length : Int) := by omega
  have hjj : (j : Int) < (ls.length : Int) := by omega
  clear h hi hj
  obtain ⟨a, ha⟩ : ∃ a, a = ls.getD i e0 := ⟨_, rfl⟩
  obtain ⟨b, hb⟩ : ∃ b, b = ls.getD j e0 := ⟨_, rfl⟩
  rw [← ha, ← hb]
  have HA := Lib.hid ha
  have HB := Lib.hid hb
  clear ha hb
  go_enter Try.func92, Try.ntmps92
  go_wp2_with fail
  refine WM.wp_region_kinds (fun _ x y => Below x.heap.size x y) (fun _ x => OW w B g ls x) (fun x => OW w B g ls x)
    [(0, .val (.slice (some ⟨g, 0, none⟩) ls.length ls.length) fun _ => True), (3, .val (entV a) fun _ => True), (4, .val (.slice (some ⟨g, 0, none⟩) ls.length ls.length) fun _ => True), (7, .val (entV b) fun _ => True), (8, .val (.bool (a.less b)) fun _ => True)] (by kernel_rfl) (by kernel_rfl) (fun _ _ _ hb h => h.then_ hb) (fun _ _ _ _ _ hb h => h.then_ hb) ?_ HI.out.drew (fun _ => HI.out.drew) ?_
  · intro z hz
    simp only [List.mem_cons, List.mem_nil_iff, or_false] at hz
    rcases hz with rfl | rfl | rfl | rfl | rfl <;> exact fun _ _ _ _ _ _ => trivial
  refine WM.mono_val rfl rfl (fun x hD hF => ?_) ?_
  · have hc : x.cell? ⟨B, 0, none⟩ = some (.slice (some ⟨g, 0, none⟩) ls.length ls.length) := by rw [cell_of_row _ _ _ _ _ _ hD.ob.box]; rfl
    go_simp
    exact ⟨Below.refl _ _, rfl⟩
  apply Exists.intro
  refine ⟨by simp only [Act.put, List.setIfInBounds_toArray, List.set_cons_succ, List.set_cons_zero]; rfl, ?_⟩
  iterate 1
    refine WM.mono_pure rfl rfl ?_
    apply Exists.intro
    refine ⟨fun x => ?_, ?_⟩
    · go_simp
      rfl
    apply Exists.intro
    refine ⟨by simp only [Act.put, List.setIfInBounds_toArray, List.set_cons_succ, List.set_cons_zero]; rfl, ?_⟩
  refine WM.mono_pure rfl rfl ?_
  refine ⟨.pointer (some ⟨g, i * 4, none⟩), fun x => ?_, ?_⟩
  · go_simp
  apply Exists.intro
  refine ⟨by simp only [Act.put, List.setIfInBounds_toArray, List.set_cons_succ, List.set_cons_zero]; rfl, ?_⟩
  refine WM.mono_val rfl rfl (fun x hD hF => ?_) ?_
  · have hl := run_loadVar_arr (P := Try.prog) x g (i * 4) 58 (entC a) _ (by rw [HA.out]; exact block_ent hD.ob.row HLI.out) Try.underlying58 rfl (ent_size58 _)
    rw [exec_load 58 (.tmp 8) rfl g (i * 4) rfl hl]
    exact ⟨Below.refl _ _, rfl, trivial⟩
  apply Exists.intro
  refine ⟨by simp only [Act.put, List.setIfInBounds_toArray, List.set_cons_succ, List.set_cons_zero]; rfl, ?_⟩
  refine WM.mono_val rfl rfl (fun x hD hF => ?_) ?_
  · have hc : x.cell? ⟨B, 0, none⟩ = some (.slice (some ⟨g, 0, none⟩) ls.length ls.length) := by rw [cell_of_row _ _ _ _ _ _ hD.ob.box]; rfl
    go_simp
    exact ⟨Below.refl _ _, rfl⟩
  apply Exists.intro
  refine ⟨by simp only [Act.put, List.setIfInBounds_toArray, List.set_cons_succ, List.set_cons_zero]; rfl, ?_⟩
  iterate 1
    refine WM.mono_pure rfl rfl ?_
    apply Exists.intro
    refine ⟨fun x => ?_, ?_⟩
    · go_simp
      rfl
    apply Exists.intro
    refine ⟨by simp only [Act.put, List.setIfInBounds_toArray, List.set_cons_succ, List.set_cons_zero]; rfl, ?_⟩
  refine WM.mono_pure rfl rfl ?_
  refine ⟨.pointer (some ⟨g, j * 4, none⟩), fun x => ?_, ?_⟩
  · go_simp
  apply Exists.intro
  refine ⟨by simp only [Act.put, List.setIfInBounds_toArray, List.set_cons_succ, List.set_cons_zero]; rfl, ?_⟩
  refine WM.mono_val rfl rfl (fun x hD hF => ?_) ?_
  · have hl := run_loadVar_arr (P := Try.prog) x g (j * 4) 58 (entC b) _ (by rw [HB.out]; exact block_ent hD.ob.row HLJ.out) Try.underlying58 rfl (ent_size58 _)
    rw [exec_load 58 (.tmp 12) rfl g (j * 4) rfl hl]
    exact ⟨Below.refl _ _, rfl, trivial⟩
  apply Exists.intro
  refine ⟨by simp only [Act.put, List.setIfInBounds_toArray, List.set_cons_succ, List.set_cons_zero]; rfl, ?_⟩
  refine WM.mono_val rfl rfl (fun x hD hF => ?_) ?_
  · go_simp
    refine (cless_any a b x).mono ?_
    rintro e y ⟨rfl, hg⟩
    exact ⟨_, rfl, hg, rfl⟩
  apply Exists.intro
  refine ⟨by simp only [Act.put, List.setIfInBounds_toArray, List.set_cons_succ, List.set_cons_zero]; rfl, ?_⟩
  iterate 1
    refine WM.mono_pure rfl rfl ?_
    apply Exists.intro
    refine ⟨fun x => ?_, ?_⟩
    · go_simp
      rfl
    apply Exists.intro
    refine ⟨by simp only [Act.put, List.setIfInBounds_toArray, List.set_cons_succ, List.set_cons_zero]; rfl, ?_⟩
  refine WM.mono_nil ?_
  intro x hD hF
  replace HI := Lib.hid hD
  clear hD hF
  go_simp
  go_wp2
  go_ret
  exact ⟨rfl, HI.out.below⟩
end Go.Proofs.Ytnpacjdgbmldlaa

/-
  DERIVED: THE SHELF's CONTRACTS AT THIS DUMP, IN PLAIN WORDS (tools/lay-plain.mjs out of 'YtnpacjdgbmldlaaShelf.lean', which tools/lay-shelf.mjs wrote): THE SAME DECLARATIONS UNDER THE SAME NAMES: 'import', 'namespace', 'open', 'def', 'theorem' AND NOTHING ELSE: no command of the shelf's: FOR A HAND-IN. Each laying: the table of numbers ('.._ren') and one theorem, a field a fact of the dump's own or the kernel's comparison; each contract: ONE APPLICATION.
-/
namespace Go.Proofs
open Go.Shelf
def Try.sv6_ren : Go.Shelf.Ren := ⟨fun | 6 => 91 | 10 => 118 | 11 => 119 | 12 => 120 | 13 => 121 | 14 => 122 | 24 => 143 | 25 => 126 | 26 => 144 | 27 => 145 | 28 => 146 | 29 => 147 | 30 => 148 | 31 => 149 | 32 => 150 | 33 => 151 | 34 => 156 | 35 => 157 | 36 => 158 | 37 => 159 | 38 => 160 | 39 => 171 | n => n, fun | 20 => 20 | 26 => 127 | 35 => 160 | 0 => 0 | 37 => 162 | 3 => 3 | 41 => 156 | 44 => 168 | 49 => 184 | 51 => 23 | 4 => 4 | 54 => 187 | 53 => 186 | 58 => 191 | 5 => 5 | 9 => 9 | 60 => 198 | 64 => 201 | 66 => 211 | 67 => 212 | 17 => 17 | 32 => 157 | 33 => 158 | 82 => 233 | 12 => 12 | 75 => 226 | 76 => 227 | 77 => 228 | 78 => 229 | 79 => 230 | 80 => 231 | n => n, fun | n => n⟩
theorem Try.sv6 : Go.Proofs.LaysGg.n6 Try.prog Try.sv6_ren := {
  mixed := by kernel_rfl
  f6 := Try.func91.trans (congrArg some (by kernel_rfl))
  f10 := Try.func118.trans (congrArg some (by kernel_rfl))
  f11 := Try.func119.trans (congrArg some (by kernel_rfl))
  f12 := Try.func120.trans (congrArg some (by kernel_rfl))
  f13 := Try.func121.trans (congrArg some (by kernel_rfl))
  f14 := Try.func122.trans (congrArg some (by kernel_rfl))
  f24 := Try.func143.trans (congrArg some (by kernel_rfl))
  f25 := Try.func126.trans (congrArg some (by kernel_rfl))
  f26 := Try.func144.trans (congrArg some (by kernel_rfl))
  f27 := Try.func145.trans (congrArg some (by kernel_rfl))
  f28 := Try.func146.trans (congrArg some (by kernel_rfl))
  f29 := Try.func147.trans (congrArg some (by kernel_rfl))
  f30 := Try.func148.trans (congrArg some (by kernel_rfl))
  f31 := Try.func149.trans (congrArg some (by kernel_rfl))
  f32 := Try.func150.trans (congrArg some (by kernel_rfl))
  f33 := Try.func151.trans (congrArg some (by kernel_rfl))
  f34 := Try.func156.trans (congrArg some (by kernel_rfl))
  f35 := Try.func157.trans (congrArg some (by kernel_rfl))
  f36 := Try.func158.trans (congrArg some (by kernel_rfl))
  f37 := Try.func159.trans (congrArg some (by kernel_rfl))
  f38 := Try.func160.trans (congrArg some (by kernel_rfl))
  f39 := Try.func171.trans (congrArg some (by kernel_rfl))
  t0 := Try.underlying0
  a0 := Try.isAgg0
  z0 := Try.sizeOf0
  v0 := Try.zeroValue0
  i0 := by kernel_rfl
  t3 := Try.underlying3
  a3 := Try.isAgg3
  z3 := Try.sizeOf3
  v3 := Try.zeroValue3
  i3 := by kernel_rfl
  t4 := Try.underlying4
  a4 := Try.isAgg4
  z4 := Try.sizeOf4
  v4 := Try.zeroValue4
  i4 := by kernel_rfl
  t5 := Try.underlying5
  a5 := Try.isAgg5
  z5 := Try.sizeOf5
  v5 := Try.zeroValue5
  i5 := by kernel_rfl
  t9 := Try.underlying9
  a9 := Try.isAgg9
  z9 := Try.sizeOf9
  v9 := Try.zeroValue9
  i9 := by kernel_rfl
  t12 := Try.underlying12
  a12 := Try.isAgg12
  z12 := Try.sizeOf12
  v12 := Try.zeroValue12
  i12 := by kernel_rfl
  t17 := Try.underlying17
  a17 := Try.isAgg17
  z17 := Try.sizeOf17
  v17 := Try.zeroValue17
  i17 := by kernel_rfl
  t20 := Try.underlying20
  a20 := Try.isAgg20
  z20 := Try.sizeOf20
  v20 := Try.zeroValue20
  i20 := by kernel_rfl
  t26 := Try.underlying127
  a26 := Try.isAgg127
  z26 := Try.sizeOf127
  v26 := Try.zeroValue127
  i26 := by kernel_rfl
  t32 := Try.underlying157
  a32 := Try.isAgg157
  z32 := Try.sizeOf157
  v32 := Try.zeroValue157
  i32 := by kernel_rfl
  t33 := Try.underlying158
  a33 := Try.isAgg158
  z33 := Try.sizeOf158
  v33 := Try.zeroValue158
  i33 := by kernel_rfl
  t35 := Try.underlying160
  a35 := Try.isAgg160
  z35 := Try.sizeOf160
  v35 := Try.zeroValue160
  i35 := by kernel_rfl
  t37 := Try.underlying162
  a37 := Try.isAgg162
  z37 := Try.sizeOf162
  v37 := Try.zeroValue162
  i37 := by kernel_rfl
  t41 := Try.underlying156
  a41 := Try.isAgg156
  z41 := Try.sizeOf156
  v41 := Try.zeroValue156
  i41 := by kernel_rfl
  t44 := Try.underlying168
  a44 := Try.isAgg168
  z44 := Try.sizeOf168
  v44 := Try.zeroValue168
  i44 := by kernel_rfl
  t49 := Try.underlying184
  a49 := Try.isAgg184
  z49 := Try.sizeOf184
  v49 := Try.zeroValue184
  i49 := by kernel_rfl
  t51 := Try.underlying23
  a51 := Try.isAgg23
  z51 := Try.sizeOf23
  v51 := Try.zeroValue23
  i51 := by kernel_rfl
  t53 := Try.underlying186
  a53 := Try.isAgg186
  z53 := Try.sizeOf186
  v53 := Try.zeroValue186
  i53 := by kernel_rfl
  t54 := Try.underlying187
  a54 := Try.isAgg187
  z54 := Try.sizeOf187
  v54 := Try.zeroValue187
  i54 := by kernel_rfl
  t58 := Try.underlying191
  a58 := Try.isAgg191
  z58 := Try.sizeOf191
  v58 := Try.zeroValue191
  i58 := by kernel_rfl
  t60 := Try.underlying198
  a60 := Try.isAgg198
  z60 := Try.sizeOf198
  v60 := Try.zeroValue198
  i60 := by kernel_rfl
  t64 := Try.underlying201
  a64 := Try.isAgg201
  z64 := Try.sizeOf201
  v64 := Try.zeroValue201
  i64 := by kernel_rfl
  t66 := Try.underlying211
  a66 := Try.isAgg211
  z66 := Try.sizeOf211
  v66 := Try.zeroValue211
  i66 := by kernel_rfl
  t67 := Try.underlying212
  a67 := Try.isAgg212
  z67 := Try.sizeOf212
  v67 := Try.zeroValue212
  i67 := by kernel_rfl
  t75 := Try.underlying226
  a75 := Try.isAgg226
  z75 := Try.sizeOf226
  v75 := Try.zeroValue226
  i75 := by kernel_rfl
  t76 := Try.underlying227
  a76 := Try.isAgg227
  z76 := Try.sizeOf227
  v76 := Try.zeroValue227
  i76 := by kernel_rfl
  t77 := Try.underlying228
  a77 := Try.isAgg228
  z77 := Try.sizeOf228
  v77 := Try.zeroValue228
  i77 := by kernel_rfl
  t78 := Try.underlying229
  a78 := Try.isAgg229
  z78 := Try.sizeOf229
  v78 := Try.zeroValue229
  i78 := by kernel_rfl
  t79 := Try.underlying230
  a79 := Try.isAgg230
  z79 := Try.sizeOf230
  v79 := Try.zeroValue230
  i79 := by kernel_rfl
  t80 := Try.underlying231
  a80 := Try.isAgg231
  z80 := Try.sizeOf231
  v80 := Try.zeroValue231
  i80 := by kernel_rfl
  t82 := Try.underlying233
  a82 := Try.isAgg233
  z82 := Try.sizeOf233
  v82 := Try.zeroValue233
  i82 := by kernel_rfl }
def Try.sortDot_ren : Go.Shelf.Ren := ⟨fun | 6 => 129 | 15 => 121 | 14 => 153 | 28 => 143 | 29 => 126 | 20 => 162 | 21 => 163 | 22 => 164 | 23 => 165 | 24 => 166 | 25 => 167 | 26 => 168 | 27 => 169 | 46 => 172 | 47 => 173 | 48 => 174 | 49 => 175 | 50 => 176 | 57 => 177 | n => n, fun | 22 => 22 | 24 => 25 | 25 => 178 | 3 => 3 | 39 => 156 | 0 => 0 | 53 => 184 | 55 => 23 | 4 => 4 | 46 => 205 | 45 => 204 | 50 => 191 | 5 => 5 | 9 => 9 | 66 => 214 | 70 => 201 | 76 => 218 | 77 => 212 | n => n, fun | n => n⟩
theorem Try.sortDot : Go.Proofs.SlLaysF0.n6 Try.prog Try.sortDot_ren := {
  mixed := by kernel_rfl
  f6 := ⟨Try.f129.name, by decide, Try.func129.trans (congrArg some (by kernel_rfl))⟩
  f14 := ⟨Try.f153.name, by decide, Try.func153.trans (congrArg some (by kernel_rfl))⟩
  f15 := Try.func121.trans (congrArg some (by kernel_rfl))
  f20 := ⟨Try.f162.name, by decide, Try.func162.trans (congrArg some (by kernel_rfl))⟩
  f21 := ⟨Try.f163.name, by decide, Try.func163.trans (congrArg some (by kernel_rfl))⟩
  f22 := ⟨Try.f164.name, by decide, Try.func164.trans (congrArg some (by kernel_rfl))⟩
  f23 := ⟨Try.f165.name, by decide, Try.func165.trans (congrArg some (by kernel_rfl))⟩
  f24 := ⟨Try.f166.name, by decide, Try.func166.trans (congrArg some (by kernel_rfl))⟩
  f25 := ⟨Try.f167.name, by decide, Try.func167.trans (congrArg some (by kernel_rfl))⟩
  f26 := ⟨Try.f168.name, by decide, Try.func168.trans (congrArg some (by kernel_rfl))⟩
  f27 := ⟨Try.f169.name, by decide, Try.func169.trans (congrArg some (by kernel_rfl))⟩
  f28 := Try.func143.trans (congrArg some (by kernel_rfl))
  f29 := Try.func126.trans (congrArg some (by kernel_rfl))
  f46 := ⟨Try.f172.name, by decide, Try.func172.trans (congrArg some (by kernel_rfl))⟩
  f47 := Try.func173.trans (congrArg some (by kernel_rfl))
  f48 := Try.func174.trans (congrArg some (by kernel_rfl))
  f49 := ⟨Try.f175.name, by decide, Try.func175.trans (congrArg some (by kernel_rfl))⟩
  f50 := ⟨Try.f176.name, by decide, Try.func176.trans (congrArg some (by kernel_rfl))⟩
  f57 := ⟨Try.f177.name, by decide, Try.func177.trans (congrArg some (by kernel_rfl))⟩
  t0 := Try.underlying0
  a0 := Try.isAgg0
  z0 := Try.sizeOf0
  v0 := Try.zeroValue0
  t3 := Try.underlying3
  a3 := Try.isAgg3
  z3 := Try.sizeOf3
  v3 := Try.zeroValue3
  t4 := Try.underlying4
  a4 := Try.isAgg4
  z4 := Try.sizeOf4
  v4 := Try.zeroValue4
  t5 := Try.underlying5
  a5 := Try.isAgg5
  z5 := Try.sizeOf5
  v5 := Try.zeroValue5
  t9 := Try.underlying9
  a9 := Try.isAgg9
  z9 := Try.sizeOf9
  v9 := Try.zeroValue9
  t22 := Try.underlying22
  a22 := Try.isAgg22
  z22 := Try.sizeOf22
  v22 := Try.zeroValue22
  t25 := Try.underlying178
  a25 := Try.isAgg178
  z25 := Try.sizeOf178
  v25 := Try.zeroValue178
  t39 := Try.underlying156
  a39 := Try.isAgg156
  z39 := Try.sizeOf156
  v39 := Try.zeroValue156
  t45 := Try.underlying204
  a45 := Try.isAgg204
  z45 := Try.sizeOf204
  v45 := Try.zeroValue204
  t46 := Try.underlying205
  a46 := Try.isAgg205
  z46 := Try.sizeOf205
  v46 := Try.zeroValue205
  t50 := Try.underlying191
  a50 := Try.isAgg191
  z50 := Try.sizeOf191
  v50 := Try.zeroValue191
  t53 := Try.underlying184
  a53 := Try.isAgg184
  z53 := Try.sizeOf184
  v53 := Try.zeroValue184
  t55 := Try.underlying23
  a55 := Try.isAgg23
  z55 := Try.sizeOf23
  v55 := Try.zeroValue23
  t66 := Try.underlying214
  a66 := Try.isAgg214
  z66 := Try.sizeOf214
  v66 := Try.zeroValue214
  t70 := Try.underlying201
  a70 := Try.isAgg201
  z70 := Try.sizeOf201
  v70 := Try.zeroValue201
  t76 := Try.underlying218
  a76 := Try.isAgg218
  z76 := Try.sizeOf218
  v76 := Try.zeroValue218
  t77 := Try.underlying212
  a77 := Try.isAgg212
  z77 := Try.sizeOf212
  v77 := Try.zeroValue212 }
def Try.lays129_ren : Go.Shelf.Ren := ⟨fun | 129 => 126 | n => n, fun | 53 => 23 | 3 => 3 | 4 => 4 | 46 => 156 | 5 => 5 | 9 => 9 | n => n, fun | n => n⟩
theorem Try.lays129 : Go.Proofs.Lays.n129 Try.prog Try.lays129_ren := {
  mixed := by kernel_rfl
  f129 := Try.func126.trans (congrArg some (by kernel_rfl))
  t3 := Try.underlying3
  a3 := Try.isAgg3
  z3 := Try.sizeOf3
  v3 := Try.zeroValue3
  t4 := Try.underlying4
  a4 := Try.isAgg4
  z4 := Try.sizeOf4
  v4 := Try.zeroValue4
  t5 := Try.underlying5
  a5 := Try.isAgg5
  z5 := Try.sizeOf5
  v5 := Try.zeroValue5
  t9 := Try.underlying9
  a9 := Try.isAgg9
  z9 := Try.sizeOf9
  v9 := Try.zeroValue9
  t46 := Try.underlying156
  a46 := Try.isAgg156
  z46 := Try.sizeOf156
  v46 := Try.zeroValue156
  t53 := Try.underlying23
  a53 := Try.isAgg23
  z53 := Try.sizeOf23
  v53 := Try.zeroValue23 }
end Go.Proofs

/- The reference's Some and Join, given its Of. -/
namespace Go.Proofs.Ytnpacjdgbmldlaa
open Go.RowKit
/-- What is to be shown of the reference's Of. -/
def OfIs (F : List Dt → List Dt) : Prop := ∀ (ls : List Dt) (c : Nat) (A : Option Addr) (w : World), Dots w (· < w.heap.size) A ls → ls.length ≤ 100000 →
  Calls Try.prog 32 #[.slice A ls.length c] w fun e w' => ∃ A' c', e = .returned (.slice A' (F ls).length c') ∧ Dots w' (· < w'.heap.size) A' (F ls) ∧ (F ls).length ≤ c' ∧ Below w.heap.size w w'
theorem Dots.loose {w : World} {A : Option Addr} {ls : List Dt} {o p : Nat → Prop} (h : Dots w o A ls) (k : ∀ b, o b → p b) : Dots w p A ls := ⟨fun hp => by
  obtain ⟨b, o', e, h1, h2⟩ := h.at_ hp
  exact ⟨b, o', e, k _ h1, h2⟩⟩
/-- The dots of one list that stand in another, or those that don't. -/
def someF (xs ys : List Dt) (q : Bool) : List Dt := xs.filter fun d => decide (d ∈ ys) == q
set_option maxRecDepth 100000 in
set_option maxHeartbeats 4000000 in
theorem some_any (F : List Dt → List Dt) (hF : OfIs F) (xs ys : List Dt) (c c' : Nat) (A B : Option Addr) (q : Bool) (w : World) (hx : Dots w (· < w.heap.size) A xs) (hy : Dots w (· < w.heap.size) B ys) (hm : xs.length ≤ 100000) (hn : ys.length ≤ 100000) :
    Calls Try.prog 36 #[.slice A xs.length c, .slice B ys.length c', .bool q] w fun e w' => ∃ A' c', e = .returned (.slice A' (F (someF xs ys q)).length c') ∧ Dots w' (· < w'.heap.size) A' (F (someF xs ys q)) ∧ (F (someF xs ys q)).length ≤ c' ∧ Below w.heap.size w w' := by
  have HV := Lib.hid hx
  have HY := Lib.hid hy
  have HM := Lib.hid hm
  have HN := Lib.hid hn
  have HOF := Lib.hid hF
  clear hx hy hm hn hF
  go_enter Try.func36, Try.ntmps36
  go_wp2
  go_loopw [7, 8] (fun u v wr => ∃ j : Nat, j ≤ xs.length ∧ v = .int .i64 j ∧ Hid (wr.ownsRow w.heap.size 35 2 u (someF (xs.take j) ys q).length (dots2 (someF (xs.take j) ys q))) ∧ Hid (Dots wr (· < w.heap.size) A xs) ∧ Hid (Dots wr (· < w.heap.size) B ys) ∧ Hid (Below w.heap.size w wr)) (fun _ v _ => xs.length - (intOf v).toNat)
  case atStart => exact ⟨0, by omega, rfl, World.ownsRow_nil _ _ _ _, HV, HY, Below.refl _ _⟩
  case round =>
    clear HV HY
    obtain ⟨j, hj, rfl, HO, HV, HY, HB⟩ := hrel
    by_cases hlt : j < xs.length
    · obtain ⟨b, o, hA⟩ := HV.out.some_ (by omega)
      subst hA
      obtain ⟨d, hd⟩ : ∃ d, d = xs.getD j (0, 0) := ⟨_, rfl⟩
      have HD := Lib.hid hd
      have hr : Hid (rangeA wr b (o + j * 2) (dotC d)) := Lib.hid (by rw [hd]; exact HV.out.at_j hlt)
      have s35 := Lib.hid (dot_size35 d)
      obtain ⟨acc, hacc⟩ : ∃ acc, acc = someF (xs.take j) ys q := ⟨_, rfl⟩
      have hT : xs.take (j + 1) = xs.take j ++ [d] := by
        rw [List.take_add_one, List.getElem?_eq_getElem hlt, hd, List.getD_eq_getElem?_getD, List.getElem?_eq_getElem hlt]
        rfl
      have HACC : Hid (someF (xs.take (j + 1)) ys q = acc ++ if (decide (d ∈ ys) == q) = true then [d] else []) := Lib.hid (by rw [hT, hacc]; unfold someF; rw [List.filter_append]; congr 1; simp [List.filter_cons])
      have HAL : Hid (acc.length ≤ 100000) := Lib.hid (by rw [hacc]; have h1 := List.length_filter_le (fun d : Dt => decide (d ∈ ys) == q) (xs.take j); unfold someF; rw [List.length_take] at h1; have := HM.out; omega)
      rw [← hacc] at HO
      have HLT := Lib.hid hlt
      have eJ : IntKind.i64.wrap ((j : Int) + 1) = (j : Int) + 1 := by have := HM.out; rw [IntKind.wrap_i64]; omega
      clear hd hacc hT
      go_wp2_with (refine wpList_load_arr rfl 35 _ rfl b (o + j * 2) rfl (dotC d) _ hr.out Try.underlying35 rfl s35.out ?_)
      refine (dhasR_any ys c' B d wr (HY.out.loose fun b h => Nat.lt_of_lt_of_le h HB.out.size) (by have := HN.out; omega)).mono ?_
      rintro e w2 ⟨rfl, hb⟩
      have HO2 := Lib.hid (own_keep HO.out fun k _ hk => hb.block k hk)
      have HV2 := Lib.hid (HV.out.below (hb.mono HB.out.size))
      have HY2 := Lib.hid (HY.out.below (hb.mono HB.out.size))
      have HB2 := Lib.hid (HB.out.trans (hb.mono HB.out.size))
      have S0 := Lib.hid HB2.out.size
      have hr2 : Hid (rangeA w2 b (o + j * 2) (dotC d)) := Lib.hid (by rw [HD.out]; exact HV2.out.at_j HLT.out)
      clear hb HO HV HB HY hr
      by_cases hin : (decide (d ∈ ys) == q) = true
      · rw [if_pos hin] at HACC
        obtain rfl : decide (d ∈ ys) = q := by simpa using hin
        clear hin
        go_wp2_with (first
          | (refine wpList_load_arr rfl 35 _ rfl b (o + j * 2) rfl (dotC d) _ hr2.out Try.underlying35 rfl s35.out ?_)
          | (refine wpList_append_dot rfl (.tmp 23) (.tmp 28) 30 rfl w.heap.size 35 (.agg #[.int .i64 0, .int .u64 0]) 16 Try.underlying30 info35 rfl _ acc.length _ rfl HO2.out d 35 rfl (by have := HAL.out; unfold maxLen; omega) (by have := HAL.out; omega) S0.out ?_; intro v1 w3 H1 B1))
        go_roundw
        all_goals clear eJ
        case rel =>
          refine ⟨j + 1, by omega, by go_num, ?_, Lib.hid (HV2.out.below B1.out), Lib.hid (HY2.out.below B1.out), Lib.hid (HB2.out.trans B1.out)⟩
          rw [HACC.out, List.length_append, List.length_singleton, dots2_append, dots2_one]
          exact H1
        case measure => simp [intOf]; omega
      · rw [if_neg hin, List.append_nil] at HACC
        have hq : q = !decide (d ∈ ys) := by revert hin; cases decide (d ∈ ys) <;> cases q <;> simp
        clear hin
        cases hdd : decide (d ∈ ys) with
        | true =>
          rw [hdd] at hq
          simp only [Bool.not_true] at hq
          subst hq
          clear hdd
          go_wp2_with fail
          go_roundw
          all_goals clear eJ
          case rel => exact ⟨j + 1, by omega, by go_num, by rw [HACC.out]; exact HO2, HV2, HY2, HB2⟩
          case measure => simp [intOf]; omega
        | false =>
          rw [hdd] at hq
          simp only [Bool.not_false] at hq
          subst hq
          clear hdd
          go_wp2_with fail
          go_roundw
          all_goals clear eJ
          case rel => exact ⟨j + 1, by omega, by go_num, by rw [HACC.out]; exact HO2, HV2, HY2, HB2⟩
          case measure => simp [intOf]; omega
    · obtain rfl : j = xs.length := by omega
      rw [List.take_length] at HO
      have HL : Hid ((someF xs ys q).length ≤ 100000) := Lib.hid (Nat.le_trans (List.length_filter_le _ _) HM.out)
      obtain ⟨A', c2, rfl, h1, _⟩ := own_dots HO.out
      have HO1 := Lib.hid (h1.loose (p := (· < wr.heap.size)) fun b h => h.2)
      clear h1
      go_wp2_with fail
      refine (HOF.out _ _ _ _ HO1.out HL.out).mono ?_
      rintro e w5 ⟨A5, c5, rfl, hd, hc, hb⟩
      have H5 := Lib.hid hd
      have HC5 := Lib.hid hc
      have HB5 := Lib.hid hb
      clear hd hb hc
      go_wp2
      go_ret
      exact ⟨_, _, rfl, H5.out, HC5.out, HB.out.trans (HB5.out.mono HB.out.size)⟩
end Go.Proofs.Ytnpacjdgbmldlaa

/- The reference's Of, given its insert. -/
namespace Go.Proofs.Ytnpacjdgbmldlaa
open Go.RowKit
/-- A dot put where it belongs, unless it is there, or is no dot. -/
def insertF (ls : List Dt) (d : Dt) : List Dt := if Vec.right d.1 d.2 = true ∧ d ∉ ls then (ls.takeWhile fun x => Vec.less x.1 x.2 d.1 d.2) ++ d :: ls.dropWhile fun x => Vec.less x.1 x.2 d.1 d.2 else ls
theorem insertF_len (ls : List Dt) (d : Dt) : (insertF ls d).length ≤ ls.length + 1 := by
  unfold insertF
  split
  · have h := congrArg List.length (List.takeWhile_append_dropWhile (p := fun x : Dt => Vec.less x.1 x.2 d.1 d.2) (l := ls))
    rw [List.length_append] at h
    rw [List.length_append, List.length_cons]
    omega
  · omega
def insAll (ls : List Dt) : List Dt := ls.foldl insertF []
theorem insAll_take (ls : List Dt) {j : Nat} (h : j < ls.length) : insAll (ls.take (j + 1)) = insertF (insAll (ls.take j)) (ls.getD j (0, 0)) := by
  rw [List.take_add_one, List.getD_eq_getElem?_getD, List.getElem?_eq_getElem h]
  unfold insAll
  rw [List.foldl_append]
  rfl
theorem insAll_len (ls : List Dt) : ∀ j, j ≤ ls.length → (insAll (ls.take j)).length ≤ j
  | 0, _ => by simp [insAll]
  | j + 1, h => by
    rw [insAll_take ls (by omega)]
    have := insertF_len (insAll (ls.take j)) (ls.getD j (0, 0))
    have := insAll_len ls j (by omega)
    omega
def ofF (ls : List Dt) : List Dt := (insAll ls).take 2000
theorem Dots.cut {w : World} {A : Option Addr} {ls : List Dt} {o : Nat → Prop} (h : Dots w o A ls) (n : Nat) : Dots w o A (ls.take n) := ⟨fun hp => by
  rw [List.length_take] at hp
  obtain ⟨b, o', e, h1, h2⟩ := h.at_ (by omega)
  refine ⟨b, o', e, h1, fun j hj => ?_⟩
  rw [List.length_take] at hj
  have h3 := h2 j (by omega)
  rwa [show (ls.take n).getD j (0, 0) = ls.getD j (0, 0) by rw [List.getD_eq_getElem?_getD, List.getD_eq_getElem?_getD, List.getElem?_take, if_pos (by omega)]]⟩
/-- What is to be shown of the reference's insert. -/
def InsertIs : Prop := ∀ (ls : List Dt) (c : Nat) (A : Option Addr) (d : Dt) (w : World), Dots w (· < w.heap.size) A ls → ls.length ≤ c → ls.length ≤ 100000 →
  Calls Try.prog 76 #[.slice A ls.length c, dotV d.1 d.2] w fun e w' => ∃ A' c', e = .returned (.slice A' (insertF ls d).length c') ∧ Dots w' (· < w'.heap.size) A' (insertF ls d) ∧ (insertF ls d).length ≤ c' ∧ Below w.heap.size w w'
set_option maxRecDepth 100000 in
set_option maxHeartbeats 4000000 in
theorem of_any (hI : InsertIs) : OfIs ofF := by
  intro ls c A w hv hm
  have HV := Lib.hid hv
  have HM := Lib.hid hm
  have HII := Lib.hid hI
  clear hv hm hI
  go_enter Try.func32, Try.ntmps32
  go_wp2
  go_loopw [3, 4] (fun u v wr => ∃ (j : Nat) (A' : Option Addr) (c' : Nat), j ≤ ls.length ∧ v = .int .i64 j ∧ u = .slice A' (insAll (ls.take j)).length c' ∧ Hid ((insAll (ls.take j)).length ≤ c') ∧ Hid (Dots wr (· < wr.heap.size) A' (insAll (ls.take j))) ∧ Hid (Dots wr (· < w.heap.size) A ls) ∧ Hid (Below w.heap.size w wr)) (fun _ v _ => ls.length - (intOf v).toNat)
  case atStart => exact ⟨0, none, 0, by omega, rfl, rfl, Lib.hid (by simp [insAll]), Lib.hid ⟨fun hp => by simp [insAll] at hp⟩, HV, Below.refl _ _⟩
  case round =>
    clear HV
    obtain ⟨j, A', c', hj, rfl, rfl, HC, HO, HV, HB⟩ := hrel
    have HAL := Lib.hid (insAll_len ls j hj)
    by_cases hlt : j < ls.length
    · obtain ⟨b, o, hA⟩ := HV.out.some_ (by omega)
      subst hA
      obtain ⟨d, hd⟩ : ∃ d, d = ls.getD j (0, 0) := ⟨_, rfl⟩
      have hr : Hid (rangeA wr b (o + j * 2) (dotC d)) := Lib.hid (by rw [hd]; exact HV.out.at_j hlt)
      have s35 := Lib.hid (dot_size35 d)
      obtain ⟨acc, hacc⟩ : ∃ acc, acc = insAll (ls.take j) := ⟨_, rfl⟩
      have HT : Hid (insAll (ls.take (j + 1)) = insertF acc d) := Lib.hid (by rw [insAll_take ls hlt, hacc, hd])
      rw [← hacc] at HO HC HAL
      have HLT := Lib.hid hlt
      have eJ : IntKind.i64.wrap ((j : Int) + 1) = (j : Int) + 1 := by have := HM.out; rw [IntKind.wrap_i64]; omega
      rw [← hacc]
      clear hd hacc
      go_wp2_with (refine wpList_load_arr rfl 35 _ rfl b (o + j * 2) rfl (dotC d) _ hr.out Try.underlying35 rfl s35.out ?_)
      refine (HII.out acc c' A' d wr HO.out HC.out (by have := HAL.out; have := HM.out; have := HLT.out; omega)).mono ?_
      rintro e w5 ⟨A5, c5, rfl, hd, hc, hb⟩
      have H5 := Lib.hid hd
      have HC5 := Lib.hid hc
      have HV5 := Lib.hid (HV.out.below (hb.mono HB.out.size))
      have HB5 := Lib.hid (HB.out.trans (hb.mono HB.out.size))
      clear hd hb hc
      go_wp2_with fail
      go_roundw
      all_goals clear eJ
      case rel => exact ⟨j + 1, A5, c5, by omega, by go_num, by rw [HT.out], by rw [HT.out]; exact HC5, by rw [HT.out]; exact H5, HV5, HB5⟩
      case measure => simp [intOf]; omega
    · obtain rfl : j = ls.length := by omega
      rw [List.take_length] at HO HC HAL
      rw [List.take_length]
      obtain ⟨acc, hacc⟩ : ∃ acc, acc = insAll ls := ⟨_, rfl⟩
      have HF : Hid (ofF ls = acc.take 2000) := Lib.hid (by rw [hacc]; rfl)
      rw [← hacc] at HO HC HAL
      rw [← hacc]
      clear hacc
      by_cases hb : 2000 < acc.length
      · have hbi : (2000 : Int) < (acc.length : Int) := by omega
        have hci : (2000 : Int) ≤ (c' : Int) := by have := HC.out; omega
        have hcn : 2000 ≤ c' := by have := HC.out; omega
        have HL : Hid ((ofF ls).length = 2000) := Lib.hid (by rw [HF.out, List.length_take]; omega)
        have HD : Hid (Dots wr (· < wr.heap.size) A' (ofF ls)) := Lib.hid (by rw [HF.out]; exact HO.out.cut 2000)
        clear hb
        go_wp2_with fail
        go_ret
        refine ⟨A', c', ?_, HD.out, by rw [HL.out]; exact hcn, HB.out⟩
        rw [HL.out]
        rfl
      · have hbi : ¬ (2000 : Int) < (acc.length : Int) := by omega
        have HE : Hid (ofF ls = acc) := Lib.hid (by rw [HF.out]; exact List.take_of_length_le (by omega))
        clear hb
        go_wp2_with fail
        go_ret
        refine ⟨A', c', ?_, by rw [HE.out]; exact HO.out, by rw [HE.out]; exact HC.out, HB.out⟩
        rw [HE.out]
        rfl
end Go.Proofs.Ytnpacjdgbmldlaa

/- Appending a slice of dots; the reference's Join, given its Of. -/
namespace Go.Proofs.Ytnpacjdgbmldlaa
open Go.RowKit
theorem wpList_append_dots {P : Program} {w : World} {ops : Array Oper} {rest : List Oper} {o : Oper} {a : Act} {Q : Exit → Act → World → Prop} (hgd : o.guard = none) (s x : Operand) (t : TypeId)
    (ho : o.op = .call { callee := .builtin .append, args := #[s, x], argTypes := #[t, t] }) (base : Nat) (e : TypeId) (z : Value) (bytes : Nat) (ht : P.underlying t = some (.slice e))
    (hinfo : (P.info? e).map (fun i => (i.zero, i.size, i.bytes)) = some (some z, 2, bytes)) (hzs : z.cells.size = 2)
    (v : Value) (n : Nat) (xs : List Value) (hs : a.eval s = v) (hown : w.ownsRow base e 2 v n xs) (ys : List Dt) (A : Option Addr) (c : Nat) (ok : Nat → Prop)
    (hx : a.eval x = .slice A ys.length c) (hA : A = none → c = 0) (hD : Dots w ok A ys) (h63 : n + ys.length ≤ maxLen) (hbytes : (n + ys.length) * bytes ≤ 140737488355328) (hbase : base ≤ w.heap.size)
    (h : ∀ v' w', Hid (w'.ownsRow base e 2 v' (n + ys.length) (xs ++ dots2 ys)) → Hid (Below base w w') → wpList P ops Q rest (a.put o.dst v') w') : wpList P ops Q (o :: rest) a w := by
  obtain ⟨i, hi, hz, hsz, hby⟩ := info_parts hinfo
  cases A with
  | none =>
    have h0 : ys = [] := by
      cases ys with
      | nil => rfl
      | cons d l =>
        obtain ⟨_, _, e, _⟩ := hD.at_ (by simp)
        cases e
    subst h0
    rw [hA rfl] at hx
    refine wpList_append_own_none hgd s x t ho base e i 2 ht hi v n xs hs hown hx ?_
    exact h v w (Lib.hid (by simpa [dots2] using hown)) (Lib.hid (Below.refl _ _))
  | some ad =>
    refine wpList_append_own _ hgd s x t ho base e i z 2 bytes ht hi hz hsz hby hzs (by decide) v n xs hs hown ad ys.length c (dots2 ys) hx (dots2_len ys) (fun j u hu => ?_) (fun y hy => ?_) h63 hbytes hbase ?_
    · have hj : j < ys.length * 2 := by
        have := (List.getElem?_eq_some_iff.1 hu).1
        rwa [dots2_len] at this
      obtain ⟨b, o', e, _, h2⟩ := hD.at_ (by omega)
      cases e
      have h3 := h2 (j / 2) (by omega)
      have hd := dots2_get ys (j / 2) (by omega)
      rw [Addr.add_mid]
      rcases (show j = j / 2 * 2 ∨ j = j / 2 * 2 + 1 by omega) with e | e
      · rw [e, hd.1] at hu
        have h4 := h3 0 u hu
        rwa [Nat.add_zero, ← e] at h4
      · rw [e, hd.2] at hu
        have h4 := h3 1 u hu
        rwa [Nat.add_assoc, ← e] at h4
    · unfold dots2 at hy
      obtain ⟨d, _, hy⟩ := List.mem_flatMap.1 hy
      simp only [dcells, List.mem_cons, List.mem_nil_iff, or_false] at hy
      rcases hy with rfl | rfl <;> rfl
    · intro v' w' hown' hg _
      exact h v' w' hown' ((Below.refl base w).grown hg hbase fun k hk => (hown.lt k hk).1)
set_option maxRecDepth 100000 in
set_option maxHeartbeats 4000000 in
theorem join_any (F : List Dt → List Dt) (hF : OfIs F) (xs ys : List Dt) (c c' : Nat) (A B : Option Addr) (w : World) (hx : Dots w (· < w.heap.size) A xs) (hy : Dots w (· < w.heap.size) B ys) (hA : A = none → c = 0) (hB : B = none → c' = 0) (hm : xs.length + ys.length ≤ 100000) :
    Calls Try.prog 34 #[.slice A xs.length c, .slice B ys.length c'] w fun e w' => ∃ A' d, e = .returned (.slice A' (F (xs ++ ys)).length d) ∧ Dots w' (· < w'.heap.size) A' (F (xs ++ ys)) ∧ (F (xs ++ ys)).length ≤ d ∧ Below w.heap.size w w' := by
  have HV := Lib.hid hx
  have HY := Lib.hid hy
  have HM := Lib.hid hm
  have HOF := Lib.hid hF
  have HA := Lib.hid hA
  have HB := Lib.hid hB
  clear hx hy hm hF hA hB
  go_enter Try.func34, Try.ntmps34
  have H0 : Hid ((w.alloc (.cells #[] 35)).ownsRow w.heap.size 35 2 (.slice (some ⟨w.heap.size, 0, none⟩) 0 0) 0 []) := Lib.hid ⟨by simp, .inr ⟨w.heap.size, 0, #[], rfl, Nat.le_refl _, heap_alloc_new _ _, by omega, by simp, by simp, by simp⟩⟩
  have HV1 := Lib.hid (HV.out.below (below1 w (.cells #[] 35)))
  have HY1 := Lib.hid (HY.out.below (below1 w (.cells #[] 35)))
  have HB1 := Lib.hid (below1 w (.cells #[] 35))
  clear HV HY
  go_wp2_with (first
    | (refine wpList_append_dots rfl (.tmp 5) (.tmp 6) 30 rfl w.heap.size 35 (.agg #[.int .i64 0, .int .u64 0]) 16 Try.underlying30 info35 rfl _ 0 _ rfl H0.out xs A c _ rfl HA.out HV1.out (by have := HM.out; unfold maxLen; omega) (by have := HM.out; omega) HB1.out.size ?_; intro v1 w3 H1 B1; have HY3 := Lib.hid (HY1.out.below B1.out); have HB3 := Lib.hid (HB1.out.trans B1.out))
    | (refine wpList_append_dots rfl (.tmp 7) (.tmp 8) 30 rfl w.heap.size 35 (.agg #[.int .i64 0, .int .u64 0]) 16 Try.underlying30 info35 rfl _ (0 + xs.length) _ rfl H1.out ys B c' _ rfl HB.out HY3.out (by have := HM.out; unfold maxLen; omega) (by have := HM.out; omega) HB3.out.size ?_; intro v2 w4 H2 B2; have HB4 := Lib.hid (HB3.out.trans B2.out); clear H1 B1 HY3; have H5 : Hid (w4.ownsRow w.heap.size 35 2 v2 (xs ++ ys).length (dots2 (xs ++ ys))) := Lib.hid (by have h := H2.out; rwa [List.nil_append, ← dots2_append, Nat.zero_add, ← List.length_append] at h); obtain ⟨A', c2, hv2, h1, _⟩ := own_dots H5.out; subst hv2; have HO1 := Lib.hid (h1.loose (p := (· < w4.heap.size)) fun b h => h.2); clear h1)
    | fail)
  have HC := Lib.hid (HOF.out (xs ++ ys) c2 A' w4 HO1.out (by rw [List.length_append]; exact HM.out))
  rw [List.length_append] at HC
  refine HC.out.mono ?_
  rintro e w5 ⟨A5, c5, rfl, hd, hc, hb⟩
  have H6 := Lib.hid hd
  have HC6 := Lib.hid hc
  have HB6 := Lib.hid hb
  clear hd hb hc
  go_wp2_with fail
  go_ret
  exact ⟨_, _, rfl, H6.out, HC6.out, HB4.out.trans (HB6.out.mono HB4.out.size)⟩
end Go.Proofs.Ytnpacjdgbmldlaa

/- Laws of a walk within a fence: loads and stores of whole rows. -/
namespace Go.Proofs.Ytnpacjdgbmldlaa
open Go.RowKit Go.Shelf
section
variable {F : Fence} {n : Nat} {P : Program} {ops : Array Oper} {rest : List Oper} {op : Oper} {a : Act} {w : World} {Q : Exit → Act → World → Prop}
theorem wpListIn_load_w (ty : TypeId) (x : Operand) (ho : op.op = .load ty x) (hwant : Region.wanted op (yielded ops a.tmps) = true)
    (b o : Nat) (hx : a.eval x = .pointer (some ⟨b, o, none⟩)) (A : Array Value) (d : TypeDesc) (hc : rangeA w b o A)
    (hu : P.underlying ty = some d) (hd : d.isRow = true) (hi : (P.info? ty).map (·.size) = some A.size)
    (h : wpListIn F n P ops Q rest (a.put op.dst (.agg A)) w) : wpListIn F n P ops Q (op :: rest) a w := by
  refine wpListIn_step fun K hK => ?_
  rw [if_pos hwant]
  unfold Oper.wpIn
  refine ⟨?_, ?_⟩
  · simp [Oper.about, ho]
  · rw [Oper.semAt_plain F _ _ (by rw [ho]; intro c hc'; cases hc')]
    unfold execOp
    simp only [ho, hx, Instr.loadAt, Instr.sureAddr, Sem.run_bind, Sem.run_pure, Result.andThen_ok, run_loadVar_arr w b o ty A d hc hu hd hi]
    exact hK _ _ h
theorem wanted_none (hg : op.guard = none) {y : Tmp → Option Bool} : Region.wanted op y = true := by simp [Region.wanted, hg]
theorem wpListIn_load_arr (hgd : op.guard = none) (ty : TypeId) (x : Operand) (ho : op.op = .load ty x)
    (b o : Nat) (hx : a.eval x = .pointer (some ⟨b, o, none⟩)) (A : Array Value) (d : TypeDesc) (hc : rangeA w b o A)
    (hu : P.underlying ty = some d) (hd : d.isRow = true) (hi : (P.info? ty).map (·.size) = some A.size)
    (h : wpListIn F n P ops Q rest (a.put op.dst (.agg A)) w) : wpListIn F n P ops Q (op :: rest) a w :=
  wpListIn_load_w ty x ho (by simp [Region.wanted, hgd]) b o hx A d hc hu hd hi h
theorem wpListIn_store_row (hgd : op.guard = none) (ty : TypeId) (x y : Operand) (ho : op.op = .store ty x y)
    (g : Nat) (cells : Array Value) (hx : a.eval x = .pointer (some ⟨g, 0, none⟩)) (hy : a.eval y = .agg cells)
    (t : TypeId) (old : Array Value) (hg : w.heap[g]? = some (.cells old t (0, 0))) (hi : (P.info? ty).map (·.size) = some cells.size)
    (hold : old.size = cells.size) (h1 : cells.all (·.oneCell') = true)
    (h : wpListIn F n P ops Q rest (a.put op.dst undef) (w.setRow g cells)) : wpListIn F n P ops Q (op :: rest) a w := by
  refine wpListIn_plain hgd fun K hK => ?_
  unfold Oper.wpIn
  refine ⟨?_, ?_⟩
  · simp [Oper.about, ho]
  · rw [Oper.semAt_plain F _ _ (by rw [ho]; intro c hc'; cases hc')]
    unfold execOp
    simp only [ho, hx, hy, Instr.storeAt, Instr.sureAddr, Sem.run_bind, Sem.run_pure, Result.andThen_ok, run_storeVar_row w g t ty old cells hg hi hold h1]
    exact hK _ _ h
end
end Go.Proofs.Ytnpacjdgbmldlaa

/- The iterator over the dots that may be, of several lists; a copy without room. -/
namespace Go.Proofs.Ytnpacjdgbmldlaa
open Go.RowKit Go.Shelf
attribute [local go_sem] Oper.semAt_some

/-- The dots of a list that may be. -/
def rt (ls : List Dt) : List Dt := ls.filter fun d => Vec.right d.1 d.2
/-- .. of several lists. -/
def rts (LL : List (List Dt)) : List Dt := LL.flatMap rt
theorem rt_take (ls : List Dt) {j : Nat} (h : j < ls.length) : rt (ls.take (j + 1)) = rt (ls.take j) ++ if Vec.right (ls.getD j (0, 0)).1 (ls.getD j (0, 0)).2 = true then [ls.getD j (0, 0)] else [] := by
  rw [List.take_add_one, List.getD_eq_getElem?_getD, List.getElem?_eq_getElem h]
  unfold rt
  rw [List.filter_append]
  simp [List.filter_cons]
theorem rts_take (LL : List (List Dt)) {i : Nat} (h : i < LL.length) : rts (LL.take (i + 1)) = rts (LL.take i) ++ rt (LL.getD i []) := by
  rw [List.take_add_one, List.getD_eq_getElem?_getD, List.getElem?_eq_getElem h]
  unfold rts
  rw [List.flatMap_append]
  simp
theorem rt_pre (ls : List Dt) (j : Nat) : rt (ls.take j) <+: rt ls := by
  conv => rhs; rw [← List.take_append_drop j ls]
  unfold rt
  rw [List.filter_append]
  exact List.prefix_append _ _
theorem rts_pre (LL : List (List Dt)) {i : Nat} (h : i < LL.length) (j : Nat) : rts (LL.take i) ++ rt ((LL.getD i []).take j) <+: rts LL := by
  have h1 : rts (LL.take (i + 1)) <+: rts LL := by
    conv => rhs; rw [← List.take_append_drop (i + 1) LL]
    unfold rts
    rw [List.flatMap_append]
    exact List.prefix_append _ _
  rw [rts_take LL h] at h1
  exact ((List.prefix_append_right_inj _).2 (rt_pre _ j)).trans h1

/-- The slice at A holds lists of dots, whose blocks lie below n₀. -/
structure Lists (w : World) (n₀ : Nat) (b o : Nat) (LL : List (List Dt)) : Prop where
  at_ : ∀ i, i < LL.length → ∃ A c, w.cell? ⟨b, o + i, none⟩ = some (.slice A (LL.getD i []).length c) ∧ Dots w (· < n₀) A (LL.getD i [])
theorem Lists.kept {w w' : World} {n₀ b o : Nat} {LL : List (List Dt)} (h : Lists w n₀ b o LL) (hb : Below n₀ w w') (hr : b < w.heap.size → w'.heap[b]? = w.heap[b]?) : Lists w' n₀ b o LL :=
  ⟨fun i hi => by
    obtain ⟨A, c, h1, h2⟩ := h.at_ i hi
    exact ⟨A, c, (World.cell?_of_block (w := w) (a := ⟨b, o + i, none⟩) (hr (World.block_lt_of_cell? w _ h1))).trans h1, h2.below hb⟩⟩
theorem Lists.below {w w' : World} {n₀ b o : Nat} {LL : List (List Dt)} (h : Lists w n₀ b o LL) (hb : Below n₀ w w') (hl : b < n₀) : Lists w' n₀ b o LL := h.kept hb fun _ => hb.block b hl
theorem Lists.grow {w w' : World} {n₀ b o : Nat} {LL : List (List Dt)} (h : Lists w n₀ b o LL) (hb : Below w.heap.size w w') : Lists w' n₀ b o LL :=
  ⟨fun i hi => by
    obtain ⟨A, c, h1, h2⟩ := h.at_ i hi
    exact ⟨A, c, (World.cell?_of_block (w := w) (a := ⟨b, o + i, none⟩) (hb.block b (World.block_lt_of_cell? w _ h1))).trans h1, h2.keep fun b' j _ hlt => World.cell?_of_block (w := w) (a := ⟨b', j, none⟩) (hb.block b' hlt)⟩⟩

set_option maxRecDepth 100000 in
set_option maxHeartbeats 4000000 in
theorem right1_in (n : Nat) (hn : 1 ≤ n) (l Bs n₀ b o c : Nat) (LL : List (List Dt)) (hll : LL.length ≤ 1000) (hm : ∀ ls ∈ LL, ls.length ≤ 1000000) (K : World → World → Prop) (hK : ∀ X Y, K X Y → Lists X n₀ b o LL → Lists Y n₀ b o LL) (hKB : ∀ X Y, K X Y → Below n₀ X Y) (J : List Dt → World → Prop) (W : World) (hJ : OwnFrom W.heap.size J)
    (hY : ∀ pre x W1, J pre W1 → pre ++ [x] <+: rts LL → YieldAt Fence.wide (n - 1) Try.prog l #[dotV x.1 x.2] W1 fun e W' => e = .returned (.bool true) ∧ J (pre ++ [x]) W' ∧ K W1 W')
    (hBs : W.cell? ⟨Bs, 0, none⟩ = some (.slice (some ⟨b, o, none⟩) LL.length c)) (hL : Lists W n₀ b o LL) (h0 : J [] W) :
    CallsIn Fence.wide n Try.prog 110 #[.func (.yield l) #[] #[], .pointer (some ⟨Bs, 0, none⟩)] W fun e W' => (∃ v, e = .returned v) ∧ J (rts LL) W' := by
  have HY := Lib.hid hY
  have HJ := Lib.hid hJ
  have HM := Lib.hid hm
  have HLL := Lib.hid hll
  have HK := Lib.hid hK
  have HKB := Lib.hid hKB
  have HL0 := Lib.hid hL
  clear hY hJ hm hll hK hKB hL
  refine callsIn_of_wp Try.func110 rfl trivial ?_ rfl
  simp only [Try.ntmps110, List.size_toArray, List.length_cons, List.length_nil, Nat.reduceAdd, Nat.reduceSub, Array.replicate_succ, Array.replicate_zero, List.push_toArray, List.append_toArray, List.nil_append, List.cons_append]
  gi_wp2
  gi_loopw [9] (fun i wr => ∃ k : Nat, k ≤ LL.length ∧ i = .int .i64 k ∧ Hid (J (rts (LL.take k)) wr) ∧ Hid (Lists wr n₀ b o LL))
    (fun i _ => LL.length - (intOf i).toNat)
  case atStart => exact ⟨0, Nat.zero_le _, rfl, Lib.hid h0, HL0⟩
  case round =>
    clear HL0
    obtain ⟨k, hk, rfl, HJs, HB⟩ := hrel
    by_cases hlt : k < LL.length
    · obtain ⟨A, c1, hc0, hD⟩ := HB.out.at_ k hlt
      have HD := Lib.hid hD
      have HC0 := Lib.hid hc0
      obtain ⟨ls, hls⟩ : ∃ ls, ls = LL.getD k [] := ⟨_, rfl⟩
      rw [← hls] at HC0 HD
      have HT : Hid (rts (LL.take (k + 1)) = rts (LL.take k) ++ rt ls) := Lib.hid (by rw [hls]; exact rts_take LL hlt)
      have HP : Hid (∀ j, rts (LL.take k) ++ rt (ls.take j) <+: rts LL) := Lib.hid (fun j => by rw [hls]; exact rts_pre LL hlt j)
      have HM1 : Hid (ls.length ≤ 1000000) := Lib.hid (HM.out _ (by rw [hls, List.getD_eq_getElem?_getD, List.getElem?_eq_getElem hlt]; exact List.getElem_mem hlt))
      obtain ⟨acc, hacc⟩ : ∃ acc, acc = rts (LL.take k) := ⟨_, rfl⟩
      rw [← hacc] at HJs HT HP
      have eK : IntKind.i64.wrap ((k : Int) + 1) = (k : Int) + 1 := by have := HLL.out; rw [IntKind.wrap_i64]; omega
      have hc := HC0.out
      clear hacc hls hD hc0
      gi_wp2
      clear hc
      gi_loopw [15] (fun i wr => ∃ j : Nat, j ≤ ls.length ∧ i = .int .i64 j ∧ Hid (J (acc ++ rt (ls.take j)) wr) ∧ Hid (Lists wr n₀ b o LL) ∧ Hid (Dots wr (· < n₀) A ls))
        (fun i _ => ls.length - (intOf i).toNat)
      case atStart => exact ⟨0, Nat.zero_le _, rfl, Lib.hid (by simpa [rt] using HJs.out), HB, HD⟩
      case round =>
        clear HB HJs HD
        obtain ⟨j, hj, rfl, HJs, HB, HD⟩ := hrel
        by_cases hlt2 : j < ls.length
        · obtain ⟨b1, o1, hA⟩ := HD.out.some_ (by omega)
          subst hA
          obtain ⟨d, hd⟩ : ∃ d, d = ls.getD j (0, 0) := ⟨_, rfl⟩
          have hr : Hid (rangeA wr b1 (o1 + j * 2) (dotC d)) := Lib.hid (by rw [hd]; exact HD.out.at_j hlt2)
          have s25 := Lib.hid (dot_size25 d)
          have HR : Hid (rt (ls.take (j + 1)) = rt (ls.take j) ++ if Vec.right d.1 d.2 = true then [d] else []) := Lib.hid (by rw [hd]; exact rt_take ls hlt2)
          obtain ⟨ac2, hac2⟩ : ∃ ac2, ac2 = acc ++ rt (ls.take j) := ⟨_, rfl⟩
          have HX : Hid (acc ++ rt (ls.take (j + 1)) = ac2 ++ if Vec.right d.1 d.2 = true then [d] else []) := Lib.hid (by rw [HR.out, hac2, List.append_assoc])
          have HPJ : Hid (ac2 ++ (if Vec.right d.1 d.2 = true then [d] else []) <+: rts LL) := Lib.hid (by rw [← HX.out]; exact HP.out (j + 1))
          rw [← hac2] at HJs
          have eJ : IntKind.i64.wrap ((j : Int) + 1) = (j : Int) + 1 := by have := HM1.out; rw [IntKind.wrap_i64]; omega
          have HN : Hid (DotAt (wr.alloc (.cells (dotC d) 25)) wr.heap.size 25 d.1 d.2) := Lib.hid (DotAt.new wr 25 d.1 d.2)
          clear hd hac2
          gi_wp2_with (first
            | (refine wpListIn_load_arr rfl 25 _ rfl b1 (o1 + j * 2) rfl (dotC d) _ hr.out Try.underlying25 rfl s25.out ?_)
            | (refine wpListIn_store_row rfl 25 _ _ rfl wr.heap.size (dotC d) rfl rfl 25 _ (heap_alloc_new _ _) s25.out rfl rfl ?_; rw [World.setRow_alloc_new])
            | (refine wpListIn_load_arr rfl 25 _ rfl wr.heap.size 0 rfl (dotC d) _ HN.out.range Try.underlying25 rfl s25.out ?_)
            | fail)
          refine ⟨trivial, (callsIn_wide.2 (right_any d.1 d.2 _)).mono ?_⟩
          rintro e w2 ⟨rfl, hb⟩
          have HJ2 : Hid (J ac2 w2) := Lib.hid (HJ.out _ _ _ none HJs.out (only_below ((below1 wr (.cells (dotC d) 25)).trans (hb.mono (below1 wr (.cells (dotC d) 25)).size)) none) (fun r e => by cases e))
          have hbb : Below wr.heap.size wr w2 := (below1 wr (.cells (dotC d) 25)).trans (hb.mono (below1 wr (.cells (dotC d) 25)).size)
          have HB2 : Hid (Lists w2 n₀ b o LL) := Lib.hid (HB.out.grow hbb)
          have HDD2 : Hid (Dots w2 (· < n₀) (some ⟨b1, o1, none⟩) ls) := Lib.hid (HD.out.keep fun b' j' _ hl => World.cell?_of_block (w := wr) (a := ⟨b', j', none⟩) (hbb.block b' hl))
          have HN2 : Hid (DotAt w2 wr.heap.size 25 d.1 d.2) := Lib.hid (HN.out.below hb HN.out.lt)
          clear hb HN HB HJs hr hbb HD
          cases hri : Vec.right d.1 d.2 with
          | false =>
            rw [hri] at HX HPJ
            gi_wp2_with fail
            refine ⟨fun _ h => (by cases h), ?_⟩
            gi_wp2_with fail
            go_roundw
            all_goals clear eJ eK
            case rel => exact ⟨j + 1, by omega, by go_num, by rw [HX.out]; simpa using HJ2, HB2, HDD2⟩
            case measure => simp [intOf]; omega
          | true =>
            rw [hri] at HX HPJ
            have HPL : Hid (ac2 ++ [d] <+: rts LL) := Lib.hid (by simpa using HPJ.out)
            obtain ⟨fn, tmps, assign, body, hy, hR⟩ := HY.out ac2 d w2 HJ2.out HPL.out
            have hy2 : (Instr.yield l #[Value.agg (dotC d)]).run Try.prog w2 = .ok (.round l fn tmps assign body) w2 := hy
            clear hy
            gi_wp2_with (first
              | (refine wpListIn_load_w 25 _ rfl rfl wr.heap.size 0 rfl (dotC d) _ HN2.out.range Try.underlying25 rfl s25.out ?_)
              | fail)
            refine hR.mono ?_
            rintro e W3 ⟨rfl, hJ3, hk3⟩
            have HJ3 : Hid (J (acc ++ rt (ls.take (j + 1))) W3) := Lib.hid (by rw [HX.out]; simpa using hJ3)
            have HB3 := Lib.hid (HK.out _ _ hk3 HB2.out)
            have HDD3 := Lib.hid (HDD2.out.below (HKB.out _ _ hk3))
            clear hJ3 hk3 hR hy2
            gi_wp2_with fail
            go_roundw
            all_goals clear eJ eK
            case rel => exact ⟨j + 1, by omega, by go_num, HJ3, HB3, HDD3⟩
            case measure => simp [intOf]; omega
        · obtain rfl : j = ls.length := by omega
          rw [List.take_length] at HJs
          gi_wp2_with fail
          go_roundw
          all_goals clear eK
          case rel => exact ⟨k + 1, by omega, by go_num, by rw [HT.out]; exact HJs, HB⟩
          case measure => simp [intOf]; omega
    · obtain rfl : k = LL.length := by omega
      rw [List.take_length] at HJs
      gi_wp2_with fail
      go_end0
      exact ⟨⟨_, rfl⟩, HJs.out⟩
end Go.Proofs.Ytnpacjdgbmldlaa

/- A range over a function whose body never leaves early; the iterator may itself range over another one. -/
namespace Go.Proofs.Ytnpacjdgbmldlaa
open Go.RowKit Go.Shelf

/-- The function value hands xs, one by one, to a yield that always says 'more'; what the caller knows between two rounds (J) may speak of whatever it likes but of blocks that are no cells and were laid since the call. -/
def Gives {α : Type} (P : Program) (gf : Nat) (lb : Array Value) (encs : α → Array Value) (Kp : Nat → World → World → Prop) (Pre : World → Prop) (xs : List α) (w : World) : Prop :=
  ∀ m, 1 ≤ m → ∀ (l : Nat) (J : List α → World → Prop) (W : World), Below w.heap.size w W → Pre W → OwnFrom W.heap.size J →
    (∀ pre x W1, J pre W1 → pre ++ [x] <+: xs → YieldAt Fence.wide (m - 1) P l (encs x) W1 fun e W' => e = .returned (.bool true) ∧ J (pre ++ [x]) W' ∧ Kp W.heap.size W1 W') →
    J [] W → CallsIn Fence.wide m P gf (#[.func (.yield l) #[] #[]] ++ lb) W fun e W' => (∃ v, e = .returned v) ∧ J xs W'
/-- The same block, or a new one. -/
def SameOrNew (N : Nat) (b b' : Option Nat) : Prop := b' = b ∨ ∀ k, b' = some k → N ≤ k
/-- What stands in two blocks below B stays there. -/
theorem ownFrom_two {β : Type} {B l k : Nat} (hl : l < B) (hk : k < B) (p q : Obj) : OwnFrom B (fun (_ : β) W => W.heap[l]? = some p ∧ W.heap[k]? = some q) := fun _ A C row hs hg hr => by
  have hne : ∀ j, j < B → some j ≠ row := fun j hj e => by
    have := (hr j e.symm).1
    omega
  exact ⟨(hg.block l (Array.getElem?_eq_some_iff.1 hs.1).1 (hne l hl)).trans hs.1, (hg.block k (Array.getElem?_eq_some_iff.1 hs.2).1 (hne k hk)).trans hs.2⟩

/-- The body's end: it goes on to the next round. -/
def goesOn {α : Type} (B : Nat) (Kp : World → World → Prop) (I : List α → World → Prop) (ys : List α) (W : World) : Exit → Act → World → Prop
  | .normal, _, W' => KeepsFrom B W W' ∧ Kp W W' ∧ I ys W'
  | _, _, _ => False

set_option maxHeartbeats 1000000 in
theorem wpIn_range_gives {α : Type} {P : Program} {n : Nat} (h1 : 1 ≤ n - 1) {g : Operand} {ps : Array Tmp} {assign body : Code} {Q : Exit → Act → World → Prop} {a : Act} {w : World}
    {gf : Nat} {lb : Array Value} (hg : a.eval g = .func (.func gf) #[] lb) (eg : ∀ args w, (callFunc gf args).run P w = .ok (.enter gf args) w)
    {encs : α → Array Value} {Kp : Nat → World → World → Prop} {Pre : World → Prop} {xs : List α} {w0 : World} (hseq : Gives P gf lb encs Kp Pre xs w0) (hPre : ∀ W, Below w.heap.size w W → Pre W)
    (hKt : ∀ {A B C : World}, Kp (w.heap.size + 2) A B → Kp (w.heap.size + 2) B C → Kp (w.heap.size + 2) A C) (hKb : ∀ (W : World) (l : Nat) (o o' : Obj), w.heap.size ≤ l → l < w.heap.size + 2 → W.heap[l]? = some o → o.isCells = false → Kp (w.heap.size + 2) W (W.putObj l o'))
    (hb0 : Below w0.heap.size w0 w) (hps : ∀ x, (encs x).size = ps.size)
    (I : List α → World → Prop) (hI : OwnFrom w.heap.size I) (h0 : I [] w) (Ax : α → Act → World → Prop) (hAx : ∀ x a', OwnFrom w.heap.size (fun (_ : Unit) W => Ax x a' W))
    (hassign : ∀ (l : Nat) (pre : List α) (x : α) (W : World) (K : Act → World → Prop), I pre W → (∀ a' W', KeepsFrom w.heap.size W W' → Kp (w.heap.size + 2) W W' → I pre W' → Ax x a' W' → K a' W') →
      assign.wpIn (Fence.wide.inRound l) (n - 1 - 1) P (Exit.then K (fun _ _ _ => False)) { tmps := (ps.zip (encs x)).foldl (fun t (p, v) => t.setIfInBounds p v) a.tmps, defers := [] } W)
    (hbody : ∀ (l : Nat) (pre : List α) (x : α) (a' : Act) (W : World), I pre W → Ax x a' W → pre ++ [x] <+: xs →
      body.wpIn (Fence.wide.inRound l) (n - 1 - 1) P (goesOn w.heap.size (Kp (w.heap.size + 2)) I (pre ++ [x]) W) a' W)
    (hdone : ∀ (D : Nat) (W : World), w.heap.size ≤ D → I xs W → W.heap[D]? = some (.deferred (some [])) → Q .normal { a with defers := { target := .collected D, args := #[] } :: a.defers } W) :
    (Code.rangeFunc g ps assign body).wpIn Fence.wide n P Q a w := by
  refine wpIn_rangeFunc fun fn hfn => ?_
  -- the two blocks of the loop's own: D, for deferred calls; D + 1, its record
  obtain ⟨D, hD⟩ : ∃ D, D = w.heap.size := ⟨_, rfl⟩
  obtain ⟨rec, hrec⟩ : ∃ rec : LoopState → Loop, ∀ s, rec s = { state := s, pending := none, fn, tmps := a.tmps, params := ps, assign, body, defers := D } := ⟨_, fun _ => rfl⟩
  have hlaid := run_enterLoop_outer (P := P) (w := w) fn a.tmps ps assign body
  rw [← hD, ← hrec .ready] at hlaid
  obtain ⟨W1, hW1⟩ : ∃ W1, W1 = (w.alloc (.deferred (some []))).alloc (.loop (rec .ready)) := ⟨_, rfl⟩
  rw [← hW1] at hlaid
  have hsz : W1.heap.size = D + 2 := by rw [hW1, World.size_alloc, World.size_alloc, hD]
  have hdef : W1.heap[D]? = some (.deferred (some [])) := by
    rw [hW1, Below.heap_alloc _ _ _ (by rw [World.size_alloc, hD]; omega), hD]
    exact World.alloc_heap_new w _
  have hlp : W1.heap[D + 1]? = some (.loop (rec .ready)) := by
    have h := World.alloc_heap_new (w.alloc (.deferred (some []))) (.loop (rec .ready))
    rwa [World.size_alloc, ← hW1, ← hD] at h
  have hbl : Below w.heap.size w W1 := by
    rw [hW1]
    exact ((Below.refl _ w).alloc (Nat.le_refl _) _).alloc (by rw [World.size_alloc]; omega) _
  have hi1 : I [] W1 := by rw [hW1]; exact hI.alloc _ (hI.alloc _ h0)
  rw [← hD] at hI hAx hassign hbody hdone hKb hKt hbl
  have hres : (resolve a.eval (rangeCall g (D + 1)) 0).run P W1 = .ok { target := .fn (.func gf) lb, args := #[.func (.yield (D + 1)) #[] #[]] } W1 := by
    simp only [resolve, hg]
    simp [go_sem]
  refine ⟨D + 1, [{ target := .collected D, args := #[] }], W1, _, W1, gf, #[.func (.yield (D + 1)) #[] #[]] ++ lb, W1, hlaid, hres, fun _ _ => trivial, by simp [invoke, go_sem, eg], fun _ => by omega, ?_⟩
  refine (hseq (n - 1) h1 (D + 1) (fun pre W => I pre W ∧ (W.heap[D + 1]? = some (.loop (rec .ready)) ∧ W.heap[D]? = some (.deferred (some [])))) W1 (hb0.trans (hbl.mono (by rw [hD]; exact hb0.size))) (hPre W1 (by rw [← hD]; exact hbl))
    (OwnFrom.and (fun s A B row hs hg' hr => hI s A B row hs hg' fun r e => ⟨by have := (hr r e).1; omega, (hr r e).2⟩) (ownFrom_two (by omega) (by omega) _ _)) ?_ ⟨hi1, hlp, hdef⟩).mono ?_
  · -- a round
    rintro pre x W ⟨hi, hl, hk⟩ hlen
    have hy := run_yield (P := P) (args := encs x) hl (by rw [hrec]; exact hps x)
    rw [hrec .ready] at hy
    refine ⟨_, _, _, _, hy, ?_⟩
    refine roundIn_of_wpIn trivial (hassign _ pre x W _ hi fun a' Wa hka hpa hia hax => ?_)
    have hla : Wa.heap[D + 1]? = some (.loop (rec .ready)) := hka.same _ _ (by omega) hl rfl
    have hda : Wa.heap[D]? = some (.deferred (some [])) := hka.same _ _ (Nat.le_refl _) hk rfl
    have hbeg := run_beginRound (P := P) hla (by rw [hrec])
    have hbusy : ({ rec .ready with state := .busy } : Loop) = rec .busy := by rw [hrec, hrec]
    rw [hbusy] at hbeg
    refine ⟨_, hbeg, ?_⟩
    have hla2 : (Wa.putObj (D + 1) (.loop (rec .busy))).heap[D + 1]? = some (.loop (rec .busy)) := World.putObj_heap_same (Array.getElem?_eq_some_iff.1 hla).1
    have hda2 : (Wa.putObj (D + 1) (.loop (rec .busy))).heap[D]? = some (.deferred (some [])) := (World.putObj_heap_other (by omega)).trans hda
    refine wpIn_mono (hbody _ pre x a' _ (hI.putObj _ hia (by omega) hla rfl) ((hAx x a').putObj (s := ()) _ hax (by omega) hla rfl) hlen) ?_
    intro e a3 W3 hpost
    obtain ⟨rfl, hk3, hp3, hi3⟩ : e = .normal ∧ KeepsFrom D (Wa.putObj (D + 1) (.loop (rec .busy))) W3 ∧ Kp (D + 2) (Wa.putObj (D + 1) (.loop (rec .busy))) W3 ∧ I (pre ++ [x]) W3 := by
      cases e <;> first
        | exact ⟨rfl, hpost⟩
        | exact hpost.elim
    have hl3 := hk3.same _ _ (by omega) hla2 rfl
    have hd3 := hk3.same _ _ (Nat.le_refl _) hda2 rfl
    have hend := run_endRound (P := P) none hl3
    have hready : ({ rec .busy with state := if (none : Option Code).isNone then .ready else .done, pending := none } : Loop) = rec .ready := by rw [hrec, hrec]; rfl
    rw [hready] at hend
    refine ⟨_, _, hend, rfl, ⟨hI.putObj _ hi3 (by omega) hl3 rfl, World.putObj_heap_same (Array.getElem?_eq_some_iff.1 hl3).1, (World.putObj_heap_other (by omega)).trans hd3⟩, ?_⟩
    rw [hsz]
    exact hKt hpa (hKt (hKt (hKb _ _ _ _ (by omega) (by omega) hla rfl) hp3) (hKb _ _ _ _ (by omega) (by omega) hl3 rfl))
  · rintro e W2 ⟨⟨v, rfl⟩, hi, hl, hk⟩
    have hend := run_endLoop (P := P) hl (by rw [hrec]; simp)
    rw [hrec .ready] at hend
    exact ⟨none, _, hend, hdone D _ (Nat.le_refl _) (hI.putObj _ hi (by omega) hl rfl) ((World.putObj_heap_other (by omega)).trans hk)⟩
end Go.Proofs.Ytnpacjdgbmldlaa

/- From a law's contract to its row: whatever is read reads the same behind the call, where nothing that was there has turned. -/
namespace Go.Proofs.Ytnpacjdgbmldlaa
open Go.RowKit Go.WideShapes Go.ChangeShapes

section
variable {H : Type} {enc : TypeId × Value → H} {P : Program}
theorem trodAll_stays (hl : laidOutB P = true) {W W' : World} (hb : Below W.heap.size W W') {sp : Nat → Bool} : ∀ (ts : List TypeId) (vs : List Value) (ds : List (DataW H)) (ps : List MemPlace), (∀ t ∈ ts, P.readableRec t = true ∧ t < P.types.size) →
    DataW.TrodAll enc P W 0 (fun _ => true) true ts vs ds ps → (∀ x ∈ ps, x.block < W.heap.size) → (∀ x ∈ ps, sp x.block = true) → DataW.TrodAll enc P W' 0 sp true ts vs ds ps
  | [], [], [], _, _, h, _, _ => h
  | t :: ts, v :: vs, d :: ds, _, hr, ⟨p, q, h1, h2, e⟩, hlt, hsp => by
    subst e
    obtain ⟨r1, r2⟩ := hr t (by simp)
    exact ⟨p, q, WideElems.Trod_stays hl r1 r2 h1 (fun x hx => hb.same (hlt x (List.mem_append_left _ hx))) (fun x hx => hsp x (List.mem_append_left _ hx)),
      trodAll_stays hl hb ts vs ds q (fun u hu => hr u (List.mem_cons_of_mem _ hu)) h2 (fun x hx => hlt x (List.mem_append_right _ hx)) (fun x hx => hsp x (List.mem_append_right _ hx)), rfl⟩
  | [], _ :: _, _, _, _, h, _, _ => by cases h
  | [], [], _ :: _, _, _, h, _, _ => by cases h
  | _ :: _, [], _, _, _, h, _, _ => by cases h
  | _ :: _, _ :: _, [], _, _, h, _, _ => by cases h

/-- A law that returned true, all that was there as it was: what the row asks. -/
theorem law_post {f : Func} {s : ChangeSpec} {W W' : World} {args : Array Value} {ds : List (DataW H)} {before : List MemPlace} {tb : TypeId}
    (hW : DataW.Whole enc P f.params.toList s.vars false W args.toList ds [] before) (hv : s.vars = []) (hres : (s.fn H ds).results = [.lit (.bool true)]) (hargs : (s.fn H ds).args = ds) (hvars : (s.fn H ds).vars = [])
    (hrt : f.resultTypes = #[tb]) (hub : P.underlying tb = some .bool) (hl : laidOutB P = true) (hpar : ∀ t ∈ f.params.toList, P.readableRec t = true ∧ t < P.types.size) (hb : Below W.heap.size W W') :
    s.post enc P f false true false false W args (.bool true) W' := by
  have hlt : ∀ p ∈ before, p.block < W.heap.size := fun p hp => hW.lt p hp
  have hW' := hW
  obtain ⟨p, q, hA, hV, rfl, hz, _⟩ := hW'
  rw [hv] at hV
  obtain rfl : q = [] := hV
  rw [List.append_nil] at hlt hz hW
  have hr : (Value.bool true).resultList f.resultTypes.size = [.bool true] := by rw [hrt]; rfl
  have bool_at : ∀ (b : Nat) (sp : Nat → Bool) (hd : Bool), DataW.TrodAll enc P W' b sp hd f.resultTypes.toList ((Value.bool true).resultList f.resultTypes.size) (s.fn H (ds ++ [])).results [] := fun b sp hd => by
    rw [hr, hrt, List.append_nil, hres]
    exact trodAll_mk1 (shut_bool hub true)
  have args_at : ∀ sp : Nat → Bool, (∀ x ∈ p, sp x.block = true) → DataW.TrodAll enc P W' 0 sp true f.params.toList args.toList (s.fn H (ds ++ [])).args p := fun sp hsp => by
    rw [List.append_nil, hargs]
    exact trodAll_stays hl hb _ _ _ _ hpar hA hlt hsp
  have vars_at : ∀ sp : Nat → Bool, DataW.TrodVars enc P W' sp s.vars (s.fn H (ds ++ [])).vars [] := fun sp => by
    rw [List.append_nil, hvars, hv]; rfl
  refine ⟨ds, [], p, [], p, [], hW, bool_at _ _ _, args_at _ fun x hx => by simpa using hlt x hx, vars_at _, World.keptBut_mono (fun x hx => ⟨hx, .inr (.inl hx)⟩) (hb.frame (· ∈ p)), fun h => by cases h⟩
end
end Go.Proofs.Ytnpacjdgbmldlaa
