/- The contracts of Sum, Point. -/
import Derived.Test.YtdbhboglccggdaaGreatDoorSA5
set_option linter.unusedVariables false
set_option linter.unusedSimpArgs false
namespace Go.Proofs.YtdbhboglccggdaaGreatDoor
open Go.RowKit

theorem results_row_one {P : Program} {fn : Func} {p : Tmp} {ty : TypeId} (h : fn.results = #[.cell p ty]) (tmps : Array Value) (w : World) (g : Nat) (t : TypeId) (cs : Array Value) (fr : Nat × Nat) (d : TypeDesc)
    (hp : tmps.getD p undef = .pointer (some ⟨g, 0, none⟩)) (hg : w.heap[g]? = some (.cells cs t fr))
    (hu : P.underlying ty = some d) (hd : (match d with | .struct _ | .array _ _ => true | _ => false) = true) (hi : (P.info? ty).map (·.size) = some cs.size) :
    (results fn tmps).run P w = .ok (.agg cs) w := results_cell_row h tmps w g t cs fr d hp hg hu hd hi

set_option maxRecDepth 100000 in
set_option maxHeartbeats 1000000 in
theorem sum_any (ls : List Piece) (c : Nat) (A : Option Addr) (w : World) (ht : Tabs w) (hp : Pieces w (· < w.heap.size) A ls) (hm : ls.length ≤ maxLen) :
    Calls Tryz.prog 85 #[.slice A ls.length c] w fun e w' => e = .returned (.agg (arrOf .u8 32 (sha (allOf ls)))) ∧ Below w.heap.size w w' := by
  have HT := Lib.hid ht
  have HP := Lib.hid hp
  have HM := Lib.hid hm
  clear ht hp hm
  have hz := (zero_of_info info25).1
  obtain ⟨Z, hZ⟩ : ∃ Z, Z = arrOf .u8 32 (fun _ => 0) := ⟨_, rfl⟩
  rw [← hZ] at hz
  have HZ := Lib.hid hZ
  have ZS : Hid (Z.size = 32) := by rw [hZ]; exact arrOf_size _ _ _
  clear hZ
  have s25 : ∀ {f : Nat → Nat}, Hid ((Tryz.prog.info? 119).map (·.size) = some (arrOf .u8 32 f).size) := fun {f} => by rw [arrOf_size]; exact size25
  have zs : ∀ {f : Nat → Nat}, Hid (Z.size = (arrOf .u8 32 f).size) := fun {f} => by rw [arrOf_size]; exact ZS
  have hb0 := Below.alloc (Below.refl w.heap.size w) (Nat.le_refl _) (.cells Z 119)
  have hb1 := Lib.hid (Below.alloc (Below.refl w.heap.size w) (Nat.le_refl _) (.cells Z 119))
  have HC : Hid (Calls Tryz.prog 104 #[.slice A ls.length c] (w.alloc (.cells Z 119)) fun e w' => e = .returned (.tuple #[.agg (arrOf .u8 32 (sha (allOf ls))), .int .u64 (((shaFin (allOf ls)).k : Nat) : Int)]) ∧ Below (w.heap.size + 1) (w.alloc (.cells Z 119)) w') := by
    have h := digest2_any ls c A (w.alloc (.cells Z 119)) (HT.out.below hb0) ((HP.out.below hb0).weak fun b hb _ => by simp; omega) HM.out
    rw [World.size_alloc] at h
    exact h
  clear hb0
  go_enter Tryz.func85, Tryz.ntmps85
  obtain ⟨S, hS⟩ : ∃ S, S = arrOf .u8 32 (sha (allOf ls)) := ⟨_, rfl⟩
  rw [← hS] at HC ⊢
  have sS : Hid ((Tryz.prog.info? 119).map (·.size) = some S.size) := by rw [hS]; exact s25.out
  have zS : Hid (Z.size = S.size) := by rw [hS]; exact zs.out
  have oS : Hid (S.all (·.oneCell') = true) := by rw [hS]; exact arrOf_one _ _ _
  clear hS s25 zs
  go_wp2_with (first
    | (go_at_call 104
       refine HC.out.mono ?_
       rintro e w1 ⟨rfl, hb2⟩
       have Z1 : Hid ((w1.alloc (.cells S 119)).heap[w.heap.size]? = some (.cells Z 119 (0, 0))) := by
         have h1 := hb2.size
         rw [World.size_alloc] at h1
         have e := Below.heap_alloc w1 (.cells S 119) w.heap.size (by omega)
         exact e.trans ((hb2.block _ (by omega)).trans (heap_alloc_new w _))
       have B1 : Hid (Below w.heap.size w ((w1.alloc (.cells S 119)).setRow w.heap.size S)) := by
         have h1 := hb2.size
         rw [World.size_alloc] at h1
         exact below_setRow' ((hb1.out.trans (hb2.mono (by omega))).alloc (by omega) _) (Nat.le_refl _) _
       clear hb2)
    | (refine wpList_store_row rfl 119 _ _ rfl w1.heap.size S rfl rfl 119 _ (heap_alloc_new w1 _) sS.out zS.out oS.out ?_
       rw [World.setRow_alloc_new])
    | (refine wpList_load_row rfl 119 _ rfl w1.heap.size rfl 119 S (0, 0) _ (heap_alloc_new w1 _) Tryz.underlying119 rfl sS.out ?_)
    | (refine wpList_store_row rfl 119 _ _ rfl w.heap.size S rfl rfl 119 _ Z1.out sS.out zS.out oS.out ?_)
    | (refine bodyPost_ret (results_row_one Tryz.results85 _ _ w.heap.size 119 S (0, 0) _ rfl (setRow_heap _ _ _ _ _ _ Z1.out) Tryz.underlying119 rfl sS.out) rfl ⟨rfl, B1.out⟩))

/-- The first i bytes as a number, the greatest first. -/
def pt (d : Nat → Nat) : Nat → Nat
  | 0 => 0
  | i + 1 => pt d i * 256 + d i
theorem bytesOf_lt (h : Nat → Nat) (i : Nat) : bytesOf h i < 256 := by unfold bytesOf; omega
theorem pt_lt {d : Nat → Nat} (hd : ∀ i, d i < 256) (i : Nat) : pt d i < 256 ^ i := by
  induction i with
  | zero => simp [pt]
  | succ i ih =>
    have := hd i
    simp only [pt, Nat.pow_succ]
    omega
theorem pt_or (p x : Nat) (hp : p < 72057594037927936) (hx : x < 256) : bits BinOp.or IntKind.u64 ((p : Int) * 256) (x : Int) = ((p * 256 + x : Nat) : Int) := by
  rw [show (p : Int) * 256 = ((p * 256 : Nat) : Int) by omega, u64_or_nat _ _ (by omega) (by omega), nat_join 8 _ _ (by omega) (by omega)]
theorem one_piece {w : World} {A : Option Addr} {c : Nat} {xs : List Nat} (hx : Bytes w (· < w.heap.size) A xs) (hc : xs.length ≤ c) (hm : xs.length ≤ maxLen) :
    Pieces (w.alloc (.cells #[.slice A xs.length c] 95)) (· < (w.alloc (.cells #[.slice A xs.length c] 95)).heap.size) (some ⟨w.heap.size, 0, none⟩) [⟨A, c, xs⟩] := by
  have hb := Below.alloc (Below.refl w.heap.size w) (Nat.le_refl _) (.cells #[.slice A xs.length c] 95)
  refine ⟨fun p hp => ?_, fun _ => ⟨_, _, rfl, by simp, fun j p hj => ?_⟩⟩
  · simp only [List.mem_singleton] at hp
    subst hp
    exact ⟨(hx.below hb).weak fun b h _ => by simp; omega, hc, hm⟩
  · cases j with
    | zero =>
      simp only [List.getElem?_cons_zero, Option.some.injEq] at hj
      subst hj
      rw [Nat.add_zero, World.cell?_alloc_at _ _ _ _ rfl]
      rfl
    | succ j => simp at hj

set_option maxRecDepth 100000 in
set_option maxHeartbeats 1000000 in
theorem point_any (xs : List Nat) (c : Nat) (A : Option Addr) (w : World) (ht : Tabs w) (hx : Bytes w (· < w.heap.size) A xs) (hc : xs.length ≤ c) (hm : xs.length ≤ maxLen) :
    Calls Tryz.prog 65 #[.slice A xs.length c] w fun e w' => e = .returned (.int .u64 ((pt (sha xs) 8 : Nat) : Int)) ∧ Below w.heap.size w w' := by
  have hz := (zero_of_info info25).1
  obtain ⟨Z, hZ⟩ : ∃ Z, Z = arrOf .u8 32 (fun _ => 0) := ⟨_, rfl⟩
  rw [← hZ] at hz
  have ZS : Hid (Z.size = 32) := by rw [hZ]; exact arrOf_size _ _ _
  clear hZ
  have hb0 := Below.alloc (Below.refl w.heap.size w) (Nat.le_refl _) (.cells #[.slice A xs.length c] 95)
  have HB0 := Lib.hid hb0
  obtain ⟨S, hS⟩ : ∃ S, S = arrOf .u8 32 (sha xs) := ⟨_, rfl⟩
  have HC : Hid (Calls Tryz.prog 85 #[.slice (some ⟨w.heap.size, 0, none⟩) 1 1] (w.alloc (.cells #[.slice A xs.length c] 95)) fun e w' => e = .returned (.agg S) ∧ Below (w.heap.size + 1) (w.alloc (.cells #[.slice A xs.length c] 95)) w') := by
    have h := sum_any [⟨A, c, xs⟩] 1 (some ⟨w.heap.size, 0, none⟩) (w.alloc (.cells #[.slice A xs.length c] 95)) (ht.below hb0) (one_piece hx hc hm) (by unfold maxLen; simp)
    rw [World.size_alloc, show allOf [⟨A, c, xs⟩] = xs by simp [allOf], ← hS] at h
    exact h
  have sS : Hid ((Tryz.prog.info? 119).map (·.size) = some S.size) := by rw [hS, arrOf_size]; exact size25
  have zS : Hid (Z.size = S.size) := by rw [hS, arrOf_size]; exact ZS
  have oS : Hid (S.all (·.oneCell') = true) := by rw [hS]; exact arrOf_one _ _ _
  have hd : ∀ i, sha xs i < 256 := fun i => bytesOf_lt _ i
  have HD := Lib.hid hd
  have HS := Lib.hid hS
  clear hS ZS ht hx hc hm hb0 hd
  go_enter Tryz.func65, Tryz.ntmps65
  go_wp2_with (first
    | (go_at_call 85; refine HC.out.mono ?_; rintro e w1 ⟨rfl, hb2⟩; have HB2 := Lib.hid hb2; clear hb2)
    | (refine wpList_store_row rfl 119 _ _ rfl w1.heap.size S rfl rfl 119 _ (heap_alloc_new w1 _) sS.out zS.out oS.out ?_
       rw [World.setRow_alloc_new]))
  have HR : Hid ((w1.alloc (.cells S 119)).rowIs w1.heap.size 119 32 (fun i => .int .u8 ((sha xs i : Nat) : Int))) := by
    rw [HS.out]; exact arr_row (heap_alloc_new _ _)
  have HB : Hid (Below w.heap.size w (w1.alloc (.cells S 119))) := (HB0.out.trans (HB2.out.mono (by omega))).alloc (by have := HB2.out.size; rw [World.size_alloc] at this; omega) _
  clear HB2 HB0 HC HS sS zS oS hz
  generalize w1.alloc (.cells S 119) = w2 at *
  generalize w1.heap.size = g at *
  go_loop [4, 5] (fun p v => ∃ i : Nat, i ≤ 8 ∧ v = .int .i64 i ∧ p = .int .u64 ((pt (sha xs) i : Nat) : Int)) (fun _ v => 8 - (intOf v).toNat)
  case atStart => exact ⟨0, by omega, rfl, rfl⟩
  case round =>
    obtain ⟨i, hi, rfl, rfl⟩ := hrel
    by_cases hlt : i < 8
    · have hc := HR.out.cell (i := i) (by omega)
      have hb := HD.out i
      have hp : pt (sha xs) i < 72057594037927936 := by
        have := pt_lt HD.out i
        have h2 : 256 ^ i ≤ 256 ^ 7 := Nat.pow_le_pow_right (by decide) (by omega)
        exact Nat.lt_of_lt_of_le this h2
      generalize hP : pt (sha xs) i = p at *
      generalize hX : sha xs i = x at *
      have HP := Lib.hid hP
      have HX := Lib.hid hX
      clear hP hX
      go_wp2
      go_round
      case rel => exact ⟨i + 1, by omega, by go_num, int_arg (by rw [pt_or p x hp hb]; simp only [pt, HP.out, HX.out])⟩
      case measure => simp [intOf]; omega
    · obtain rfl : i = 8 := by omega
      clear hi hlt
      go_wp2
      go_ret
      exact ⟨rfl, HB.out⟩
end Go.Proofs.YtdbhboglccggdaaGreatDoor
