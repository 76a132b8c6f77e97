/- The contracts of digest, Sum, Point. -/
import Derived.Test.YtdbhboglccggdaaGreatDoorSA4
import Derived.Test.YtdbhboglccggdaaGreatDoorMono
set_option linter.unusedVariables false
set_option linter.unusedSimpArgs false
namespace Go.Proofs.YtdbhboglccggdaaGreatDoor
open Go.RowKit

def initSt : Sha.St := ⟨fun i => Sha.I.getD i 0, fun _ => 0, 0, 0⟩
def shaSt (xs : List Nat) : Sha.St := xs.foldl Sha.absorb initSt
def shaFin (xs : List Nat) : Sha.St := (padTail (shaSt xs).f (xs.length % 18446744073709551616)).foldl Sha.absorb (shaSt xs)
/-- SHA-256 of the bytes xs: the i-th byte of it. -/
def sha (xs : List Nat) : Nat → Nat := bytesOf (shaFin xs).h

theorem init_ok : initSt.Ok := by
  refine ⟨fun i => ?_, fun _ => show 0 < 256 by decide, show 0 < 64 by decide⟩
  rcases Nat.lt_or_ge i 8 with h | h
  · have : ∀ t : Fin 8, Sha.I.getD t.1 0 < 4294967296 := by decide
    exact this ⟨i, h⟩
  · show Sha.I.getD i 0 < _
    rw [List.getD_eq_getElem?_getD, List.getElem?_eq_none (by simpa [Sha.I] using h)]; decide

/-- A slice of slices of bytes. -/
structure Piece where
  A : Option Addr
  c : Nat
  xs : List Nat
structure Pieces (w : World) (ok : Nat → Prop) (A : Option Addr) (ls : List Piece) : Prop where
  each : ∀ p, p ∈ ls → Bytes w ok p.A p.xs ∧ p.xs.length ≤ p.c ∧ p.xs.length ≤ maxLen
  at_ : 0 < ls.length → ∃ b o, A = some ⟨b, o, none⟩ ∧ ok b ∧ ∀ j p, ls[j]? = some p → w.cell? ⟨b, o + j, none⟩ = some (.slice p.A p.xs.length p.c)
theorem Pieces.keep {w w' : World} {ok : Nat → Prop} {A : Option Addr} {ls : List Piece} (h : Pieces w ok A ls) (hk : ∀ b j, ok b → b < w.heap.size → w'.cell? ⟨b, j, none⟩ = w.cell? ⟨b, j, none⟩) : Pieces w' ok A ls :=
  ⟨fun p hp => ⟨(h.each p hp).1.keep hk, (h.each p hp).2⟩, fun hp => by
    obtain ⟨b, o, e, hb, hc⟩ := h.at_ hp
    refine ⟨b, o, e, hb, fun j p hj => ?_⟩
    rw [hk b _ hb (World.block_lt_of_cell? w _ (hc j p hj))]
    exact hc j p hj⟩
theorem Pieces.only {w w' : World} {g : Nat} {A : Option Addr} {ls : List Piece} (h : Pieces w (· ≠ g) A ls) (hg : w.grownBy w' (some g)) : Pieces w' (· ≠ g) A ls :=
  h.keep fun b j hb hlt => World.cell?_of_block (w := w) (a := ⟨b, j, none⟩) (hg.block b hlt (fun e => hb (by injection e)))
theorem Pieces.below {w w' : World} {B : Nat} {A : Option Addr} {ls : List Piece} (h : Pieces w (· < B) A ls) (hg : Below B w w') : Pieces w' (· < B) A ls :=
  h.keep fun b j hb _ => World.cell?_of_block (w := w) (a := ⟨b, j, none⟩) (hg.block b hb)
theorem Pieces.weak {w : World} {P Q : Nat → Prop} {A : Option Addr} {ls : List Piece} (h : Pieces w P A ls) (hq : ∀ b, P b → b < w.heap.size → Q b) : Pieces w Q A ls :=
  ⟨fun p hp => ⟨(h.each p hp).1.weak hq, (h.each p hp).2⟩, fun hp => by
    obtain ⟨b, o, e, hb, hc⟩ := h.at_ hp
    obtain ⟨p, hp0⟩ : ∃ p, ls[0]? = some p := ⟨_, List.getElem?_eq_getElem hp⟩
    exact ⟨b, o, e, hq b hb (World.block_lt_of_cell? w _ (hc 0 p hp0)), hc⟩⟩
def allOf (ls : List Piece) : List Nat := ls.flatMap (·.xs)

structure GInv (w : World) (Bl : Nat) (ls : List Piece) (A : Option Addr) (i : Nat) (wr : World) : Prop where
  run : RunAt wr Bl (shaSt (allOf (ls.take i))) ((allOf (ls.take i)).length % 18446744073709551616)
  pieces : Pieces wr (· < w.heap.size) A ls
  zero : wr.rowIs w.heap.size 119 32 (fun _ => .int .u8 ((0 : Nat) : Int))
  below : Below w.heap.size w wr

theorem wpList_built {P : Program} {ops : Array Oper} {rest : List Oper} {o : Oper} {a : Act} {w : World} {Q : Exit → Act → World → Prop} (hg : o.guard = none) (t : TypeId) (parts : Array (Nat × Operand)) (ho : o.op = .build t parts)
    (vals : List (Nat × Value)) (hv : parts.toList.map (fun (i, x) => (i, a.eval x)) = vals) (R : Array Value) (hR : P.built t vals = some R)
    (h : wpList P ops Q rest (a.put o.dst (.agg R)) w) : wpList P ops Q (o :: rest) a w := by
  have e : (parts.map fun (i, x) => (i, a.eval x)).toList = vals := by rw [Array.toList_map]; exact hv
  refine wpList_build hg t parts ho (by rw [e, hR]; rfl) ?_
  rw [e, hR]
  exact h
theorem exec_store_row {P : Program} {ev : Operand → Value} {o : Oper} {w : World} (ty : TypeId) (x y : Operand) (ho : o.op = .store ty x y)
    (g : Nat) (cells : Array Value) (hx : ev x = .pointer (some ⟨g, 0, none⟩)) (hy : ev y = .agg cells)
    (t : TypeId) (old : Array Value) (hg : w.heap[g]? = some (.cells old t (0, 0))) (hi : (P.info? ty).map (·.size) = some cells.size)
    (hold : old.size = cells.size) (h1 : cells.all (·.oneCell') = true) : (execOp ev o).run P w = .ok .skip (w.setRow g cells) := by
  unfold execOp
  simp only [ho, hx, hy, Instr.storeAt, Instr.sureAddr, Sem.run_bind, Sem.run_pure, Result.andThen_ok, run_storeVar_row w g t ty old cells hg hi hold h1]
theorem results_row_tmp {P : Program} {fn : Func} {p q : Tmp} {ty : TypeId} (h : fn.results = #[.cell p ty, .tmp q]) (tmps : Array Value) (w : World) (g : Nat) (t : TypeId) (cs : Array Value) (fr : Nat × Nat) (d : TypeDesc)
    (hp : tmps.getD p undef = .pointer (some ⟨g, 0, none⟩)) (hg : w.heap[g]? = some (.cells cs t fr))
    (hu : P.underlying ty = some d) (hd : (match d with | .struct _ | .array _ _ => true | _ => false) = true) (hi : (P.info? ty).map (·.size) = some cs.size) :
    (results fn tmps).run P w = .ok (.tuple #[.agg cs, tmps.getD q undef]) w := by
  have hp' : tmps[p]?.getD undef = .pointer (some ⟨g, 0, none⟩) := by simpa using hp
  simp [results, h, hp', asAddr, run_loadVar_row w g t ty cs fr d hg hu hd hi]
def runArr (f : Nat → Nat) : Array Value := ((List.range 75).map (runF f (fun _ => 0) 0 0 0)).toArray
theorem built55 (f : Nat → Nat) : Tryz.prog.built 154 [(0, .agg (arrOf .u32 8 f))] = some (runArr f) := by kernel_rfl
theorem info55 : (Tryz.prog.info? 154).map (fun i => (i.zero, i.size)) = some (some (.agg (runArr fun _ => 0)), 75) := by kernel_rfl
theorem size55 : (Tryz.prog.info? 154).map (·.size) = some 75 := by kernel_rfl
theorem runArr_size (f : Nat → Nat) : (runArr f).size = 75 := by simp [runArr]
theorem runArr_get (f : Nat → Nat) {i : Nat} (hi : i < 75) : (runArr f)[i]? = some (runF f (fun _ => 0) 0 0 0 i) := by simp [runArr, hi]
theorem runArr_one (f : Nat → Nat) : (runArr f).all (·.oneCell') = true :=
  Array.all_eq_true_iff_forall_mem.2 fun v hv => by
    simp only [runArr, List.mem_toArray, List.mem_map] at hv
    obtain ⟨i, _, rfl⟩ := hv
    unfold runF
    split <;> (try split) <;> (try split) <;> (try split) <;> rfl

theorem allOf_step {ls : List Piece} {i : Nat} (hi : i < ls.length) : allOf (ls.take (i + 1)) = allOf (ls.take i) ++ ls[i].xs := by
  unfold allOf
  rw [List.take_succ_eq_append_getElem hi, List.flatMap_append]
  simp
theorem shaSt_ok {xs : List Nat} (h : ∀ x, x ∈ xs → x < 256) : (shaSt xs).Ok := Sha.absorbs_ok _ _ init_ok h
theorem allOf_lt {w : World} {ok : Nat → Prop} {A : Option Addr} {ls : List Piece} (h : Pieces w ok A ls) (i : Nat) : ∀ x, x ∈ allOf (ls.take i) → x < 256 := by
  intro x hx
  unfold allOf at hx
  obtain ⟨p, hp, hx⟩ := List.mem_flatMap.1 hx
  exact (h.each p (List.mem_of_mem_take hp)).1.lt x hx
theorem GInv.start {w : World} {ls : List Piece} {A : Option Addr} {Z Z5 : Array Value} (hp : Pieces w (· < w.heap.size) A ls) (hZ : Z = arrOf .u8 32 fun _ => 0) :
    GInv w (w.heap.size + 1) ls A 0 (((w.alloc (.cells Z 119)).alloc (.cells Z5 154)).setRow (w.heap.size + 1) (runArr initSt.h)) := by
  subst hZ
  have hb : Below w.heap.size w (((w.alloc (.cells (arrOf .u8 32 fun _ => 0) 119)).alloc (.cells Z5 154)).setRow (w.heap.size + 1) (runArr initSt.h)) :=
    below_setRow' (((Below.refl _ _).alloc (Nat.le_refl _) _).alloc (by simp) _) (by omega) _
  have h2 := heap_alloc2_new w (.cells (arrOf .u8 32 fun _ => 0) 119) (.cells Z5 154)
  refine ⟨⟨runArr initSt.h, setRow_heap _ _ _ _ _ _ h2, runArr_size _, fun i hi => runArr_get _ hi⟩, hp.below hb, ?_, hb⟩
  have h3 := arr_row (f := fun _ => 0) (heap_alloc2_old w (.cells (arrOf .u8 32 fun _ => 0) 119) (.cells Z5 154))
  exact h3.of_block (setRow_other _ _ _ _ (by omega))
theorem GInv.step {w : World} {Bl : Nat} {ls : List Piece} {A : Option Addr} {i : Nat} {wr w' : World} (I : GInv w Bl ls A i wr) (hB : w.heap.size < Bl) (hi : i < ls.length)
    (hr : RunAt w' Bl (ls[i].xs.foldl Sha.absorb (shaSt (allOf (ls.take i)))) (((allOf (ls.take i)).length % 18446744073709551616 + ls[i].xs.length) % 18446744073709551616)) (hg : wr.grownBy w' (some Bl)) :
    GInv w Bl ls A (i + 1) w' := by
  have hb : Below w.heap.size w w' := below_only I.below hg I.below.size (Nat.le_of_lt hB)
  refine ⟨?_, I.pieces.below (below_only (Below.refl _ _) hg I.below.size (Nat.le_of_lt hB)), row_only I.zero hg (by omega), hb⟩
  rw [allOf_step hi]
  have e1 : shaSt (allOf (ls.take i) ++ ls[i].xs) = ls[i].xs.foldl Sha.absorb (shaSt (allOf (ls.take i))) := by unfold shaSt; rw [List.foldl_append]
  rw [e1, List.length_append, Nat.add_mod, ← Nat.add_mod]
  rw [show ((allOf (ls.take i)).length % 18446744073709551616 + ls[i].xs.length) % 18446744073709551616 = ((allOf (ls.take i)).length + ls[i].xs.length) % 18446744073709551616 by omega] at hr
  exact hr

set_option maxRecDepth 100000 in
set_option maxHeartbeats 2000000 in
theorem digest2_any (ls : List Piece) (c : Nat) (A : Option Addr) (w : World) (ht : Tabs w) (hp : Pieces w (· < w.heap.size) A ls) (hm : ls.length ≤ maxLen) :
    Calls Tryz.prog 104 #[.slice A ls.length c] w fun e w' => e = .returned (.tuple #[.agg (arrOf .u8 32 (sha (allOf ls))), .int .u64 (((shaFin (allOf ls)).k : Nat) : Int)]) ∧ Below w.heap.size w w' := by
  unfold maxLen at hm
  have HT := Lib.hid ht
  have HP := Lib.hid hp
  have L2 := ht.two
  clear ht hp
  have hz := (zero_of_info info25).1
  obtain ⟨Z, hZ⟩ : ∃ Z, Z = arrOf .u8 32 (fun _ => 0) := ⟨_, rfl⟩
  rw [← hZ] at hz
  have HZ := Lib.hid hZ
  clear hZ
  have hrange : Hid (∀ w2, Tabs w2 → rangeA w2 0 0 (arrOf .u32 8 initSt.h)) := fun w2 hw2 => rangeA_arr fun j hj => by
    rw [Nat.zero_add]; exact hw2.i j hj
  have s52 : ∀ {f : Nat → Nat}, Hid ((Tryz.prog.info? 151).map (·.size) = some (arrOf .u32 8 f).size) := fun {f} => by rw [arrOf_size]; exact size52
  have s25 : ∀ {f : Nat → Nat}, Hid ((Tryz.prog.info? 119).map (·.size) = some (arrOf .u8 32 f).size) := fun {f} => by rw [arrOf_size]; exact size25
  go_enter Tryz.func104, Tryz.ntmps104
  have hz55 := (zero_of_info info55).1
  obtain ⟨Z5, hZ5⟩ : ∃ Z5, Z5 = runArr fun _ => 0 := ⟨_, rfl⟩
  rw [← hZ5] at hz55
  have Z5s : Hid (Z5.size = (runArr initSt.h).size) := by rw [hZ5, runArr_size, runArr_size]; exact rfl
  have s55 : ∀ {f : Nat → Nat}, Hid ((Tryz.prog.info? 154).map (·.size) = some (runArr f).size) := fun {f} => by rw [runArr_size]; exact size55
  clear hZ5
  go_wp2_with (first
    | (refine wpList_load_arr rfl 151 _ rfl 0 0 rfl (arrOf .u32 8 initSt.h) _ (hrange.out _ (HT.out.below (Below.alloc (Below.refl _ _) (Nat.le_refl _) _))) Tryz.underlying151 rfl s52.out ?_)
    | (refine wpList_built rfl 154 #[(0, .tmp 7)] rfl [(0, .agg (arrOf .u32 8 initSt.h))] rfl (runArr initSt.h) (built55 _) ?_)
    | (refine wpList_store_row rfl 154 _ _ rfl (w.heap.size + 1) (runArr initSt.h) rfl rfl 154 _ (heap_alloc2_new w _ _) s55.out Z5s.out (runArr_one _) ?_))
  have HI : Hid (GInv w (w.heap.size + 1) ls A 0 (((w.alloc (.cells Z 119)).alloc (.cells Z5 154)).setRow (w.heap.size + 1) (runArr initSt.h))) := GInv.start HP.out HZ.out
  clear hz hz55 hrange
  go_loopw [11] (fun v wr => ∃ i : Nat, i ≤ ls.length ∧ v = .int .i64 i ∧ Hid (GInv w (w.heap.size + 1) ls A i wr)) (fun v _ => ls.length - (intOf v).toNat)
  case atStart => exact ⟨0, by omega, rfl, HI⟩
  case round =>
    clear HI
    obtain ⟨i, hi, rfl, HI⟩ := hrel
    by_cases hlt : i < ls.length
    · obtain ⟨bb, oo, hA, hbb, hcell⟩ := HI.out.pieces.at_ (by omega)
      subst hA
      have hc := hcell i ls[i] (List.getElem?_eq_getElem hlt)
      have hpe := HI.out.pieces.each ls[i] (List.getElem_mem hlt)
      have HPE := Lib.hid hpe
      clear hcell hpe hbb
      go_wp2_with fail
      refine (add_any (w.heap.size + 1) ((allOf (ls.take i)).length % 18446744073709551616) ls[i].c (shaSt (allOf (ls.take i))) ls[i].xs ls[i].A _ (HT.out.below HI.out.below) (by omega) HI.out.run (shaSt_ok (allOf_lt HI.out.pieces i))
        (HPE.out.1.weak fun b hb _ => by omega) HPE.out.2.1 HPE.out.2.2).mono ?_
      rintro e w1 ⟨rfl, hr1, hg1⟩
      have HI1 := Lib.hid (HI.out.step (by omega) hlt hr1 hg1)
      clear hr1 hg1
      go_wp2_with fail
      go_roundw
      case rel => exact ⟨i + 1, by omega, by go_num, HI1⟩
      case measure => simp [intOf]; omega
    · obtain rfl : i = ls.length := by omega
      clear hi hlt
      go_wp2_with fail
      have hrun := HI.out.run
      have hok := shaSt_ok (allOf_lt HI.out.pieces ls.length)
      rw [List.take_length] at hrun hok
      have HRUN := Lib.hid hrun
      have HOK := Lib.hid hok
      have HB := Lib.hid HI.out.below
      have HZ0 := Lib.hid HI.out.zero
      clear hrun hok HI
      refine (end_any (w.heap.size + 1) ((allOf ls).length % 18446744073709551616) (shaSt (allOf ls)) _ (HT.out.below HB.out) (by omega) HRUN.out HOK.out (Nat.mod_lt _ (by decide))).mono ?_
      rintro e w1 ⟨rfl, hr1, hg1⟩
      have HR1 := Lib.hid hr1
      have HB1 := Lib.hid (below_only HB.out hg1 HB.out.size (by omega))
      have HZ1 := Lib.hid (row_only HZ0.out hg1 (by omega))
      clear hr1 hg1
      go_wp2_with fail
      have c74 : ∀ W, RunAt W (w.heap.size + 1) (shaFin (allOf ls)) ((allOf ls).length % 18446744073709551616) → W.cell? ⟨w.heap.size + 1, 74, none⟩ = some (.int .u64 (((shaFin (allOf ls)).k : Nat) : Int)) := fun W hW => by
        rw [hW.cell (i := 74) (by omega)]
        simp only [runF, Nat.reduceLT, Nat.reduceEqDiff, if_false]
      have HC := Lib.hid c74
      have HS1 : Hid (∀ i, (shaFin (allOf ls)).h i < 4294967296) := (Sha.absorbs_ok _ _ HOK.out fun y hy => by
        obtain ⟨j, _, rfl⟩ := List.mem_map.1 hy
        exact tailF_lt _ _ _ _).h
      clear c74
      refine wp_region_kinds (fun x y => x.grownBy y (some w.heap.size) ∧ (y.heap[w.heap.size]? = x.heap[w.heap.size]? ∨ y.heap[w.heap.size]? = some (.cells (arrOf .u8 32 (sha (allOf ls))) 119 (0, 0))))
        (fun x => RunAt x (w.heap.size + 1) (shaFin (allOf ls)) ((allOf ls).length % 18446744073709551616) ∧ Below w.heap.size w x ∧ ∃ f, x.heap[w.heap.size]? = some (.cells (arrOf .u8 32 f) 119 (0, 0)))
        [(0, .val (.agg (arrOf .u8 32 (sha (allOf ls)))) fun _ => True), (2, .val (.int .u64 (((shaFin (allOf ls)).k : Nat) : Int)) fun _ => True), (3, .val undef fun x => x.heap[w.heap.size]? = some (.cells (arrOf .u8 32 (sha (allOf ls))) 119 (0, 0)))]
        (by kernel_rfl) (by kernel_rfl) ?_ ?_ ?_ ?_
      · rintro x y ⟨h1, h2⟩ ⟨d1, d2, f, d3⟩
        have hs := d2.size
        have hl := d1.lt
        refine ⟨d1.of_block (h1.block _ hl (by simp)), d2.trans ⟨h1.os, h1.tape, h1.output, h1.size, fun k hk => h1.block k (by omega) (fun e => by injection e; omega)⟩, ?_⟩
        rcases h2 with h2 | h2
        · exact ⟨f, h2.trans d3⟩
        · exact ⟨_, h2⟩
      · intro k hk
        simp only [List.mem_cons, List.mem_nil_iff, or_false] at hk
        rcases hk with rfl | rfl | rfl
        · exact fun _ _ _ _ => trivial
        · exact fun _ _ _ _ => trivial
        · rintro x y ⟨h1, h2⟩ hx
          rcases h2 with h2 | h2
          · exact h2.trans hx
          · exact h2
      · exact ⟨HR1.out, HB1.out.drew, _, row_arr HZ1.out⟩
      · refine mono_val rfl rfl (fun x hD hF => ?_) ?_
        · go_simp
          refine (digest_any (w.heap.size + 1) _ _ _ hD.1 HS1.out).mono ?_
          rintro e y ⟨rfl, hb⟩
          exact ⟨_, rfl, ⟨only_below hb _, .inl (hb.block _ (by have := hD.1.lt; omega))⟩, rfl⟩
        apply Exists.intro
        refine ⟨by simp only [Act.put, List.setIfInBounds_toArray, List.set_cons_succ, List.set_cons_zero]; rfl, ?_⟩
        refine mono_pure rfl rfl ?_
        apply Exists.intro
        refine ⟨fun x => ?_, ?_⟩
        · go_simp
          rfl
        apply Exists.intro
        refine ⟨by simp only [Act.put, List.setIfInBounds_toArray, List.set_cons_succ, List.set_cons_zero]; rfl, ?_⟩
        refine mono_val rfl rfl (fun x hD hF => ?_) ?_
        · have hc := HC.out x hD.1
          go_simp
          exact ⟨⟨only_refl _ _, .inl rfl⟩, rfl⟩
        apply Exists.intro
        refine ⟨by simp only [Act.put, List.setIfInBounds_toArray, List.set_cons_succ, List.set_cons_zero]; rfl, ?_⟩
        refine mono_val rfl rfl (fun x hD hF => ?_) ?_
        · obtain ⟨f, hf⟩ := hD.2.2
          have hb := hD.2.1.size
          rw [exec_store_row 119 (.tmp 2) (.tmp 19) rfl w.heap.size (arrOf .u8 32 (sha (allOf ls))) rfl rfl 119 _ hf s25.out (by rw [arrOf_size, arrOf_size]) (arrOf_one _ _ _)]
          exact ⟨⟨⟨rfl, rfl, rfl, by simp, fun i hi hne => setRow_other x w.heap.size i _ (fun e => hne (by rw [e]))⟩, .inr (setRow_heap _ _ _ _ _ _ hf)⟩, rfl, setRow_heap _ _ _ _ _ _ hf⟩
        apply Exists.intro
        refine ⟨by simp only [Act.put, List.setIfInBounds_toArray, List.set_cons_succ, List.set_cons_zero]; rfl, ?_⟩
        refine mono_pure rfl rfl ?_
        apply Exists.intro
        refine ⟨fun x => ?_, ?_⟩
        · go_simp
          rfl
        apply Exists.intro
        refine ⟨by simp only [Act.put, List.setIfInBounds_toArray, List.set_cons_succ, List.set_cons_zero]; rfl, ?_⟩
        refine mono_nil ?_
        intro w3 hD hF
        have h3 := hF 3
        simp only [updF, Nat.reduceEqDiff, if_false, if_true] at h3
        have H3 := Lib.hid h3.1
        have HD := Lib.hid hD
        clear h3 hF hD
        go_simp
        go_wp2_with (refine bodyPost_ret (results_row_tmp Tryz.results104 _ _ w.heap.size 119 _ (0, 0) _ rfl H3.out Tryz.underlying119 rfl s25.out) rfl ⟨rfl, HD.out.2.1⟩)
end Go.Proofs.YtdbhboglccggdaaGreatDoor
