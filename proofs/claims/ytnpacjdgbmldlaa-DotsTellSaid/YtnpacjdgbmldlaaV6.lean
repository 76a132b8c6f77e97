/- As, Next and the reference's With. -/
import Derived.Test.YtnpacjdgbmldlaaV4
namespace Go.Proofs.Ytnpacjdgbmldlaa
open Go.RowKit

theorem results_cell_tmp {P : Program} {fn : Func} {p q : Tmp} {ty : TypeId} (h : fn.results = #[.cell p ty, .tmp q]) (tmps : Array Value) (w : World) (g : Nat) (t : TypeId) (cs : Array Value) (fr : Nat × Nat) (d : TypeDesc)
    (hp : tmps.getD p undef = .pointer (some ⟨g, 0, none⟩)) (hg : w.heap[g]? = some (.cells cs t fr))
    (hu : P.underlying ty = some d) (hd : (match d with | .struct _ | .array _ _ => true | _ => false) = true) (hi : (P.info? ty).map (·.size) = some cs.size) {v : Value} (hv : tmps.getD q undef = v) :
    (results fn tmps).run P w = .ok (.tuple #[.agg cs, v]) w := by
  have hp' : tmps[p]?.getD undef = .pointer (some ⟨g, 0, none⟩) := by simpa using hp
  have hv' : tmps[q]?.getD undef = v := by simpa using hv
  simp [results, h, hp', hv', asAddr, run_loadVar_row w g t ty cs fr d hg hu hd hi]

theorem DotAt.second (w : World) (o : Obj) (t : TypeId) (n : Int) (k : Nat) : DotAt ((w.alloc o).alloc (.cells #[.int .i64 n, .int .u64 (k : Int)] t)) (w.heap.size + 1) t n k := by
  have h := DotAt.new (w.alloc o) t n k
  simpa using h
set_option maxHeartbeats 400000 in
theorem as_any (n : Int) (k : Nat) (w : World) : Calls Try.prog 26 #[dotV n k] w fun e w' => e = .returned (dotV n k) ∧ Below w.heap.size w w' := by
  go_enter Try.func26, Try.ntmps26
  go_wp2
  exact bodyPost_ret (results_cell_row Try.results26 _ _ (w.heap.size + 1) 35 _ (0, 0) _ rfl (DotAt.second w _ 35 n k) Try.underlying35 rfl size35) rfl ⟨rfl, below2 _ _ _⟩

namespace Vec
/-- The next dot of a node, and the error. -/
def next (f : Nat → Nat) (n : Int) : Int × Nat × Int := if Vec.isNode n = true then (if Vec.get f n = 18446744073709551615 then (0, 0, 13) else (n, Vec.get f n + 1, 0)) else (0, 0, 11)
end Vec
abbrev nextV (p : Int × Nat × Int) : Value := .tuple #[dotV p.1 p.2.1, .int .i64 p.2.2]
theorem two_one (x : Value) (y : Value) (hx : x.oneCell' = true) (hy : y.oneCell' = true) : (#[x, y] : Array Value).all (·.oneCell') = true := by simp [hx, hy]
theorem dot_one (n : Int) (k : Nat) : (#[.int .i64 n, .int .u64 (k : Int)] : Array Value).all (·.oneCell') = true := two_one _ _ rfl rfl

set_option maxRecDepth 100000 in
set_option maxHeartbeats 1000000 in
theorem next_any (f : Nat → Nat) (n : Int) (w : World) (hf : Vec.get f n < 18446744073709551616) : Calls Try.prog 69 #[vecV f, .int .i64 n] w fun e w' => e = .returned (nextV (Vec.next f n)) ∧ Below w.heap.size w w' := by
  have s27 : ∀ {f : Nat → Nat}, Hid ((Try.prog.info? 27).map (·.size) = some (arrOf .u64 8 f).size) := fun {f} => by rw [arrOf_size]; exact size27
  have hl := Lib.hid (row27 ((vec_row w f).alloc (.cells #[.int .i64 0, .int .u64 ((0 : Nat) : Int)] 25)))
  by_cases h1 : Vec.isNode n = true
  · have hn : 1 ≤ n ∧ n ≤ 8 := by simpa [Vec.isNode] using h1
    obtain ⟨hn1, hn2⟩ := hn
    obtain ⟨G, hG⟩ : ∃ G, G = Vec.get f n := ⟨_, rfl⟩
    rw [← hG] at hf
    have HG := Lib.hid hG
    clear hG
    by_cases eG : G = 18446744073709551615
    · have eI : (G : Int) = 18446744073709551615 := by omega
      have hfz := hf
      have s2 : Hid ((Try.prog.info? 25).map (·.size) = some (#[.int .i64 0, .int .u64 (0)] : Array Value).size) := size25
      have o2 : Hid ((#[.int .i64 0, .int .u64 (0)] : Array Value).all (·.oneCell') = true) := two_one _ _ rfl rfl
      have z2 : Hid ((#[.int .i64 0, .int .u64 ((0 : Nat) : Int)] : Array Value).size = (#[.int .i64 0, .int .u64 (0)] : Array Value).size) := rfl
      go_enter Try.func69, Try.ntmps69
      go_wp2_with (first
        | (go_at_call 80; refine (isNode_any _ _).mono ?_; rintro e w' ⟨rfl, rfl⟩)
        | (refine wpList_load_row rfl 27 _ rfl w.heap.size rfl 27 _ (0, 0) _ hl.out Try.underlying27 rfl s27.out ?_)
        | (go_at_call 81; refine (get_any f n _).mono ?_; rintro e w1 ⟨rfl, hb⟩; have HB := Lib.hid ((below2 _ _ _).trans (hb.mono (below2 w _ _).size)); have HD : Hid (DotAt w1 (w.heap.size + 1) 25 0 0) := (DotAt.second w _ 25 0 0).below hb (DotAt.second w _ 25 0 0).lt; clear hb; rw [← HG.out])
        | (refine wpList_store_row rfl 25 _ _ rfl (w.heap.size + 1) #[.int .i64 0, .int .u64 (0)] rfl rfl 25 _ HD.out s2.out z2.out o2.out ?_))
      refine bodyPost_ret (results_cell_tmp Try.results69 _ _ (w.heap.size + 1) 25 _ (0, 0) _ rfl (setRow_heap _ _ _ _ _ _ HD.out) Try.underlying25 rfl s2.out rfl) rfl ⟨?_, below_setRow' HB.out (by omega) _⟩
      rw [Vec.next, if_pos h1, ← HG.out, if_pos eG]; rfl
    · have eI : ¬ (G : Int) = 18446744073709551615 := by omega
      have hfz : IntKind.u64.wrap ((G : Int) + 1) = (G : Int) + 1 := by rw [IntKind.wrap_u64]; omega
      have EG := Lib.hid eG
      clear eG hf
      have s2 : Hid ((Try.prog.info? 25).map (·.size) = some (#[.int .i64 n, .int .u64 ((G : Int) + 1)] : Array Value).size) := size25
      have o2 : Hid ((#[.int .i64 n, .int .u64 ((G : Int) + 1)] : Array Value).all (·.oneCell') = true) := two_one _ _ rfl rfl
      have z2 : Hid ((#[.int .i64 0, .int .u64 ((0 : Nat) : Int)] : Array Value).size = (#[.int .i64 n, .int .u64 ((G : Int) + 1)] : Array Value).size) := rfl
      go_enter Try.func69, Try.ntmps69
      go_wp2_with (first
        | (go_at_call 80; refine (isNode_any _ _).mono ?_; rintro e w' ⟨rfl, rfl⟩)
        | (refine wpList_load_row rfl 27 _ rfl w.heap.size rfl 27 _ (0, 0) _ hl.out Try.underlying27 rfl s27.out ?_)
        | (go_at_call 81; refine (get_any f n _).mono ?_; rintro e w1 ⟨rfl, hb⟩; have HB := Lib.hid ((below2 _ _ _).trans (hb.mono (below2 w _ _).size)); have HD : Hid (DotAt w1 (w.heap.size + 1) 25 0 0) := (DotAt.second w _ 25 0 0).below hb (DotAt.second w _ 25 0 0).lt; clear hb; rw [← HG.out])
        | (refine wpList_store_row rfl 25 _ _ rfl (w.heap.size + 1) #[.int .i64 n, .int .u64 ((G : Int) + 1)] rfl rfl 25 _ HD.out s2.out z2.out o2.out ?_))
      refine bodyPost_ret (results_cell_tmp Try.results69 _ _ (w.heap.size + 1) 25 _ (0, 0) _ rfl (setRow_heap _ _ _ _ _ _ HD.out) Try.underlying25 rfl s2.out rfl) rfl ⟨?_, below_setRow' HB.out (by omega) _⟩
      rw [Vec.next, if_pos h1, ← HG.out, if_neg EG.out]; rfl
  · have h1' : Vec.isNode n = false := by simpa using h1
    have hn : ¬ (1 ≤ n ∧ n ≤ 8) := by simpa [Vec.isNode] using h1
    by_cases hn1 : n < 1
    · go_enter Try.func69, Try.ntmps69
      go_wp2_with (first
        | (go_at_call 80; refine (isNode_any _ _).mono ?_; rintro e w' ⟨rfl, rfl⟩)
      )
      refine bodyPost_ret (results_cell_tmp Try.results69 _ _ (w.heap.size + 1) 25 _ (0, 0) _ rfl (DotAt.second w _ 25 0 0) Try.underlying25 rfl size25 rfl) rfl ⟨?_, below2 _ _ _⟩
      rw [Vec.next, if_neg h1]; rfl
    · have hn2 : 8 < n := by omega
      go_enter Try.func69, Try.ntmps69
      go_wp2_with (first
        | (go_at_call 80; refine (isNode_any _ _).mono ?_; rintro e w' ⟨rfl, rfl⟩)
      )
      refine bodyPost_ret (results_cell_tmp Try.results69 _ _ (w.heap.size + 1) 25 _ (0, 0) _ rfl (DotAt.second w _ 25 0 0) Try.underlying25 rfl size25 rfl) rfl ⟨?_, below2 _ _ _⟩
      rw [Vec.next, if_neg h1]; rfl
end Go.Proofs.Ytnpacjdgbmldlaa
