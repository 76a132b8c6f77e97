/- One dot, written and read. -/
import Derived.Test.YtnpacjdgbmldlaaE4
import Derived.Test.YtnpacjdgbmldlaaWD
namespace Go.Proofs.Ytnpacjdgbmldlaa
open Go.RowKit Go.Shelf Go.Lib Go.Sort Wr

theorem alloc_turn (x : World) (W : Nat) (b : Option Nat) (o : Obj) : Turn x (x.alloc o) W b b := Turn.of_below (below1 x o)
set_option maxRecDepth 100000 in
set_option maxHeartbeats 1000000 in
theorem vput1 (w : World) (base W : Nat) (v : Value) (xs : List Nat) (hw : WAt w base W v xs) (hs : xs.length ≤ 100000) :
    Calls Try.prog 103 #[.pointer (some ⟨W, 0, none⟩), .agg (dotC (1, 1))] w fun e w' => e = .returned (.tuple #[]) ∧ ∃ v', WAt w' base W v' (xs ++ numB 1 ++ numB 1) ∧ Turn w w' W v.ownBlock v'.ownBlock := by
  have HW := Lib.hid (hw.below (below1 w (.cells (dotC (1, 1)) 25)))
  have HS := Lib.hid hs
  have hWl := hw.lt
  have hne := hw.blk
  have hown : v.ownBlock ≠ some w.heap.size := fun e => by have := (hw.own.lt _ e).2; omega
  have HN := Lib.hid hown
  have HWL := Lib.hid hWl
  have hd1 : DotAt (w.alloc (.cells (dotC (1, 1)) 25)) w.heap.size 25 1 1 := DotAt.new w 25 1 1
  have HD := Lib.hid hd1
  have HC := Lib.hid (num_any 1 (w.alloc (.cells (dotC (1, 1)) 25)) base W v xs (by omega) HW.out (by omega))
  clear hw hs hWl hne hown hd1
  go_enter Try.func103, Try.ntmps103
  go_wp2_with fail
  refine HC.out.mono ?_
  rintro e w1 ⟨rfl, v1, hw1, ht1⟩
  have HW1 := Lib.hid hw1
  have HT1 := Lib.hid ht1
  have hd2 : DotAt w1 w.heap.size 25 1 1 := (ht1.block w.heap.size (by simp) (by have := HWL.out; omega) HN.out).trans HD.out
  have c1 := hd2.num
  have HC2 := Lib.hid (num_any 1 w1 base W v1 (xs ++ numB 1) (by omega) hw1 (by have := HS.out; simp [numB, be, beF]; omega))
  clear hw1 ht1 hd2 HC
  go_wp2_with fail
  refine HC2.out.mono ?_
  rintro e w2 ⟨rfl, v2, hw2, ht2⟩
  have HW2 := Lib.hid hw2
  have HT2 := Lib.hid ht2
  clear hw2 ht2 HC2 c1
  go_wp2_with fail
  go_end0
  exact ⟨rfl, v2, HW2.out, (alloc_turn w W _ _).trans (HT1.out.trans HT2.out)⟩

theorem rest_wrap (j : Nat) (h : j ≤ 1000) : IntKind.i64.wrap ((j : Int) + 1) = (j : Int) + 1 := by rw [IntKind.wrap_i64]; omega
set_option maxRecDepth 100000 in
set_option maxHeartbeats 1000000 in
theorem dput1 (w : World) (base W g c : Nat) (v : Value) (xs : List Nat) (hw : WAt w base W v xs) (hs : xs.length ≤ 90000) (hg : g < base) (hd : w.heap[g]? = some (.cells (dots2 [(1, 1)]).toArray 25 (0, 0))) :
    Calls Try.prog 62 #[.pointer (some ⟨W, 0, none⟩), .slice (some ⟨g, 0, none⟩) 1 c] w fun e w' => e = .returned (.tuple #[]) ∧ ∃ v', WAt w' base W v' (xs ++ numB 1 ++ (numB 1 ++ numB 1)) ∧ Turn w w' W v.ownBlock v'.ownBlock := by
  have HC := Lib.hid (num_any 1 w base W v xs (by omega) hw (by omega))
  have hgk : ∀ {x y : World} {u u' : Value} {zs : List Nat}, WAt x base W u zs → Turn x y W u.ownBlock u'.ownBlock → x.heap[g]? = some (.cells (dots2 [(1, 1)]).toArray 25 (0, 0)) → y.heap[g]? = some (.cells (dots2 [(1, 1)]).toArray 25 (0, 0)) := fun hx ht h =>
    (ht.block g (lt_of_row h) (by have := hx.le; omega) (fun e => by have := hx.blk _ e; omega)).trans h
  have HGK : Hid (∀ (x y : World) (u u' : Value) (zs : List Nat), WAt x base W u zs → Turn x y W u.ownBlock u'.ownBlock → x.heap[g]? = some (.cells (dots2 [(1, 1)]).toArray 25 (0, 0)) → y.heap[g]? = some (.cells (dots2 [(1, 1)]).toArray 25 (0, 0))) := Lib.hid (fun x y u u' zs a b h => hgk a b h)
  have HW := Lib.hid hw
  have HS := Lib.hid hs
  have HD := Lib.hid hd
  clear hgk hw hs hd
  have s25 := Lib.hid (dot_size25 (1, 1))
  go_enter Try.func62, Try.ntmps62
  go_wp2_with fail
  refine HC.out.mono ?_
  rintro e w1 ⟨rfl, v1, hw1, ht1⟩
  have HD1 := Lib.hid (HGK.out _ _ _ _ _ HW.out ht1 HD.out)
  have HW1 := Lib.hid hw1
  have HT1 := Lib.hid ht1
  clear hw1 ht1 HC
  go_wp2
  go_loopw [13] (fun u wr => ∃ (j : Nat) (v2 : Value), j ≤ 1 ∧ u = .int .i64 j ∧ Hid (WAt wr base W v2 (xs ++ numB 1 ++ if j = 0 then [] else numB 1 ++ numB 1)) ∧ Hid (Turn w wr W v.ownBlock v2.ownBlock) ∧ Hid (wr.heap[g]? = some (.cells (dots2 [(1, 1)]).toArray 25 (0, 0)))) (fun u _ => 1 - (intOf u).toNat)
  case atStart => exact ⟨0, v1, by omega, rfl, Lib.hid (by rw [if_pos rfl, List.append_nil]; exact HW1.out), HT1, HD1⟩
  case round =>
    clear HW1 HT1 HD1
    obtain ⟨j, v2, hj, rfl, HW2, HT2, HD2⟩ := hrel
    rcases (show j = 0 ∨ j = 1 by omega) with rfl | rfl
    · rw [if_pos rfl, List.append_nil] at HW2
      have hr : Hid (rangeA wr g 0 (dotC (1, 1))) := Lib.hid (fun j v hv => by rw [cell_of_row _ _ _ _ _ _ HD2.out, Nat.zero_add]; exact hv)
      have HWA := Lib.hid (HW2.out.below (below1 wr (.cells (dotC (1, 1)) 25)))
      have HDA : Hid ((wr.alloc (.cells (dotC (1, 1)) 25)).heap[g]? = some (.cells (dots2 [(1, 1)]).toArray 25 (0, 0))) := Lib.hid ((Below.heap_alloc _ _ _ (lt_of_row HD2.out)).trans HD2.out)
      have HN : Hid (DotAt (wr.alloc (.cells (dotC (1, 1)) 25)) wr.heap.size 25 1 1) := Lib.hid (DotAt.new wr 25 1 1)
      have HC3 := Lib.hid (vput1 (wr.alloc (.cells (dotC (1, 1)) 25)) base W v2 (xs ++ numB 1) HWA.out (by have := HS.out; simp [numB, be, beF]; omega))
      go_wp2_with (first
        | (refine wpList_load_arr rfl 25 _ rfl g 0 rfl (dotC (1, 1)) _ hr.out Try.underlying25 rfl s25.out ?_)
        | (refine wpList_store_row rfl 25 _ _ rfl wr.heap.size (dotC (1, 1)) rfl rfl 25 _ (heap_alloc_new _ _) s25.out rfl rfl ?_; rw [World.setRow_alloc_new])
        | (refine wpList_load_arr rfl 25 _ rfl wr.heap.size 0 rfl (dotC (1, 1)) _ HN.out.range Try.underlying25 rfl s25.out ?_)
        | fail)
      refine HC3.out.mono ?_
      rintro e w3 ⟨rfl, v3, hw3, ht3⟩
      have HW3 := Lib.hid hw3
      have HT3 := Lib.hid (HT2.out.trans ((alloc_turn wr W v2.ownBlock (.cells (dotC (1, 1)) 25)).trans ht3))
      have HD3 := Lib.hid (HGK.out _ _ _ _ _ HWA.out ht3 HDA.out)
      clear hw3 ht3 HC3 HWA HDA HN hr
      go_wp2_with fail
      go_roundw
      case rel => exact ⟨1, v3, by omega, by go_num, Lib.hid (by rw [if_neg (by omega), ← List.append_assoc]; exact HW3.out), HT3, HD3⟩
      case measure => simp [intOf]
    · rw [if_neg (by omega)] at HW2
      go_wp2_with fail
      go_end0
      exact ⟨rfl, v2, HW2.out, HT2.out⟩

/-! ### A dot read -/
theorem dotC_one (d : Dt) : (dotC d).all (·.oneCell') = true := by simp [dotC, Value.oneCell']
theorem only_below_trans' {a b c : World} {row : Option Nat} (h : a.grownBy b row) (k : Below a.heap.size b c) : a.grownBy c row :=
  ⟨k.os.trans h.os, k.tape.trans h.tape, k.output.trans h.output, Nat.le_trans h.size k.size, fun i hi hne => (k.block i hi).trans (h.block i hi hne)⟩
theorem only_setRow {a w : World} {row : Option Nat} {g : Nat} (h : a.grownBy w row) (hg : a.heap.size ≤ g) (cs : Array Value) : a.grownBy (w.setRow g cs) row :=
  ⟨h.os, h.tape, h.output, by simpa using h.size, fun i hi hne => (setRow_other w g i cs (by omega)).trans (h.block i hi hne)⟩
set_option maxRecDepth 100000 in
set_option maxHeartbeats 400000 in
theorem must_true (p : Value) (w : World) : Calls Try.prog 107 #[p, .bool true] w fun e w' => e = .returned (.tuple #[]) ∧ w' = w := by
  go_enter Try.func107, Try.ntmps107
  go_wp2
  go_end0
  exact ⟨rfl, rfl⟩

set_option maxRecDepth 100000 in
set_option maxHeartbeats 2000000 in
theorem vtake1 (w : World) (R : Nat) (A : Option Addr) (c : Nat) (bs rest : List Nat) (at_ : Nat) (h : RAt w R A c bs at_ 0) (hs : bs.length ≤ 1000000) (hb : bs.drop at_ = numB 1 ++ (numB 1 ++ rest)) :
    Calls Try.prog 106 #[.pointer (some ⟨R, 0, none⟩)] w fun e w' => e = .returned (.agg (dotC (1, 1))) ∧ RAt w' R A c bs (at_ + 4) 0 ∧ w.grownBy w' (some R) := by
  have HS := Lib.hid hs
  have HBY := Lib.hid h.by_
  have hRl : R < w.heap.size := h.row.lt
  have h0 := h.only (below1 w (.cells #[.int .i64 0, .int .u64 0] 25))
  have HC := Lib.hid (rsmall_ok 1 8 _ R A c bs _ at_ (by omega) (by omega) h0 hs hb)
  have hb2 : bs.drop (at_ + (numB 1).length) = numB 1 ++ rest := by rw [← List.drop_drop, hb]; simp
  have HB2 := Lib.hid hb2
  have HRL := Lib.hid hRl
  have l1 : (numB 1).length = 2 := by decide
  have HL1 := Lib.hid l1
  have z0 : (w.alloc (.cells #[.int .i64 0, .int .u64 0] 25)).heap[w.heap.size]? = some (.cells #[.int .i64 0, .int .u64 0] 25 (0, 0)) := heap_alloc_new _ _
  have Z0 := Lib.hid z0
  have s25 := Lib.hid (dot_size25 (1, 1))
  clear h hs hb h0 hb2 hRl l1 z0
  go_enter Try.func106, Try.ntmps106
  go_wp2_with fail
  refine HC.out.mono ?_
  rintro e w1 ⟨rfl, hr1, hg1⟩
  have HR1 := Lib.hid hr1
  have HG1 := Lib.hid (only_alloc (only_refl w (some R)) (.cells #[.int .i64 0, .int .u64 0] 25))
  have HG1' := Lib.hid (only_trans HG1.out ⟨hg1.os, hg1.tape, hg1.output, hg1.size, hg1.block⟩)
  have Z1 : Hid (w1.heap[w.heap.size]? = some (.cells #[.int .i64 0, .int .u64 0] 25 (0, 0))) := Lib.hid ((hg1.block _ (by simp) (fun e => by injection e with e; have := HRL.out; omega)).trans Z0.out)
  have HC2 := Lib.hid (rnum_ok 1 w1 R A c bs rest _ (by omega) hr1 HS.out HB2.out)
  clear hr1 hg1 HC HG1 Z0
  go_wp2_with fail
  refine HC2.out.mono ?_
  rintro e w2 ⟨rfl, hr2, hg2⟩
  have HR2 : Hid (RAt w2 R A c bs (at_ + 4) 0) := Lib.hid (by have h := hr2; rw [HL1.out] at h; rwa [show at_ + 2 + 2 = at_ + 4 by omega] at h)
  have HG2 := Lib.hid (only_trans HG1'.out hg2)
  have Z2 : Hid (w2.heap[w.heap.size]? = some (.cells #[.int .i64 0, .int .u64 0] 25 (0, 0))) := Lib.hid ((hg2.block _ (lt_of_row Z1.out) (fun e => by injection e with e; have := HRL.out; omega)).trans Z1.out)
  clear hr2 hg2 HC2 HG1' Z1
  have HR3 := Lib.hid (HR2.out.only (below1 w2 (.cells (dotC (1, 1)) 25)))
  have HG3 := Lib.hid (only_alloc HG2.out (.cells (dotC (1, 1)) 25))
  have Z3 : Hid ((w2.alloc (.cells (dotC (1, 1)) 25)).heap[w.heap.size]? = some (.cells #[.int .i64 0, .int .u64 0] 25 (0, 0))) := Lib.hid ((Below.heap_alloc _ _ _ (lt_of_row Z2.out)).trans Z2.out)
  have D3 : Hid (DotAt (w2.alloc (.cells (dotC (1, 1)) 25)) w2.heap.size 25 1 1) := Lib.hid (DotAt.new w2 25 1 1)
  have HZL := Lib.hid (lt_of_row Z2.out)
  clear HR2 HG2 Z2
  go_wp2_with (first
    | (refine wpList_store_row rfl 25 _ _ rfl w2.heap.size (dotC (1, 1)) rfl rfl 25 _ (heap_alloc_new _ _) s25.out rfl rfl ?_; rw [World.setRow_alloc_new])
    | (refine wpList_load_arr rfl 25 _ rfl w2.heap.size 0 rfl (dotC (1, 1)) _ D3.out.range Try.underlying25 rfl s25.out ?_)
    | fail)
  refine (right_any 1 1 _).mono ?_
  rintro e w4 ⟨rfl, hb4⟩
  rw [show Vec.right 1 1 = true by decide]
  have HR4 := Lib.hid (HR3.out.only hb4)
  have HG4 := Lib.hid (only_below_trans HG3.out hb4)
  have Z4 : Hid (w4.heap[w.heap.size]? = some (.cells #[.int .i64 0, .int .u64 0] 25 (0, 0))) := Lib.hid ((hb4.block _ (lt_of_row Z3.out)).trans Z3.out)
  have D4 : Hid (DotAt w4 w2.heap.size 25 1 1) := Lib.hid (D3.out.below hb4 D3.out.lt)
  clear hb4 HR3 HG3 Z3 D3
  go_wp2_with fail
  refine (must_true _ _).mono ?_
  rintro e w5 ⟨rfl, rfl⟩
  go_wp2_with fail
  refine (err_any w5 R A c bs _ 0 HR4.out).mono ?_
  rintro e w6 ⟨rfl, rfl⟩
  have hne : w6.heap.size ≠ w6.heap.size + 1 := by omega
  have hRz : R ≠ w.heap.size := by have := HRL.out; omega
  go_wp2_with (first
    | (refine wpList_load_arr rfl 25 _ rfl w2.heap.size 0 rfl (dotC (1, 1)) _ D4.out.range Try.underlying25 rfl s25.out ?_)
    | (refine wpList_store_row rfl 25 _ _ rfl w.heap.size (dotC (1, 1)) rfl rfl 25 _ Z4.out s25.out rfl (dotC_one (1, 1)) ?_)
    | fail)
  have hG : w.grownBy (w6.setRow w.heap.size (dotC (1, 1))) (some R) := only_setRow HG4.out (Nat.le_refl _) _
  exact bodyPost_ret (results_cell_row Try.results106 _ _ w.heap.size 25 (dotC (1, 1)) (0, 0) _ rfl (setRow_heap _ _ _ _ _ _ Z4.out) Try.underlying25 rfl s25.out) rfl
    ⟨rfl, ⟨HR4.out.row.of_block (setRow_other _ _ _ _ hRz), HBY.out.only hG, HR4.out.le, HR4.out.cap, HR4.out.some_⟩, hG⟩

theorem RAt_carry {w x y : World} {R : Nat} {A : Option Addr} {c : Nat} {bs : List Nat} {at_ : Nat} {e : Int} (h0 : Bytes w (· ≠ R) A bs) (h : RAt x R A c bs at_ e) (hg : w.grownBy y (some R)) (hr : y.heap[R]? = x.heap[R]?) : RAt y R A c bs at_ e :=
  ⟨h.row.of_block hr, h0.only hg, h.le, h.cap, h.some_⟩
theorem isSet_one : isSet [(1, 1)] = true := by decide
set_option maxRecDepth 100000 in
set_option maxHeartbeats 2000000 in
theorem dtake1 (w : World) (R : Nat) (A : Option Addr) (c : Nat) (bs rest : List Nat) (at_ : Nat) (h : RAt w R A c bs at_ 0) (hs : bs.length ≤ 1000000) (hb : bs.drop at_ = numB 1 ++ (numB 1 ++ (numB 1 ++ rest))) :
    Calls Try.prog 63 #[.pointer (some ⟨R, 0, none⟩)] w fun e w' => ∃ g, e = .returned (.slice (some ⟨g, 0, none⟩) 1 1) ∧ w.heap.size ≤ g ∧ w'.heap[g]? = some (.cells (dots2 [(1, 1)]).toArray 25 (0, 0)) ∧ w.grownBy w' (some R) := by
  have HS := Lib.hid hs
  have HBY := Lib.hid h.by_
  have hRl : R < w.heap.size := h.row.lt
  have HRL := Lib.hid hRl
  have HC := Lib.hid (rsmall_ok 1 2000 w R A c bs _ at_ (by omega) (by omega) h hs hb)
  have hb2 : bs.drop (at_ + (numB 1).length) = numB 1 ++ (numB 1 ++ rest) := by rw [← List.drop_drop, hb]; simp
  have HB2 := Lib.hid hb2
  obtain ⟨at2, hat2⟩ : ∃ at2, at2 = at_ + (numB 1).length := ⟨_, rfl⟩
  rw [← hat2] at HC HB2
  clear h hs hb hRl hb2 hat2
  go_enter Try.func63, Try.ntmps63
  go_wp2_with fail
  refine HC.out.mono ?_
  rintro e w1 ⟨rfl, hr1, hg1⟩
  have HR1 := Lib.hid hr1
  have HG1 := Lib.hid hg1
  clear hr1 hg1 HC
  go_wp2
  go_loopw [4, 5] (fun u v wr => Hid (w.grownBy wr (some R)) ∧ ((v = .int .i64 0 ∧ u = .slice none 0 0 ∧ Hid (RAt wr R A c bs at2 0)) ∨ (v = .int .i64 1 ∧ Hid (wr.ownsRow w.heap.size 25 2 u 1 (dots2 [(1, 1)])) ∧ ∃ a, Hid (RAt wr R A c bs a 0)))) (fun _ v _ => 1 - (intOf v).toNat)
  case atStart => exact ⟨HG1, .inl ⟨rfl, rfl, HR1⟩⟩
  case round =>
    clear HR1 HG1
    obtain ⟨HG, hrel⟩ := hrel
    rcases hrel with ⟨rfl, rfl, HR⟩ | ⟨rfl, HO, a, HR⟩
    · have HE := Lib.hid (err_any wr R A c bs at2 0 HR.out)
      have HT := Lib.hid (vtake1 wr R A c bs rest at2 HR.out HS.out HB2.out)
      go_wp2_with fail
      refine HE.out.mono ?_
      rintro e w2 ⟨rfl, rfl⟩
      clear HE
      go_wp2_with fail
      refine HT.out.mono ?_
      rintro e w3 ⟨rfl, hr3, hg3⟩
      have HR3 := Lib.hid hr3
      have HG3 := Lib.hid (only_trans HG.out hg3)
      have S3 : Hid (w.heap.size ≤ w3.heap.size) := Lib.hid HG3.out.size
      clear hr3 hg3 HT
      go_wp2_with (first
        | (refine wpList_append_dot rfl (.tmp 18) (.tmp 21) 22 rfl w.heap.size 25 (.agg #[.int .i64 0, .int .u64 0]) 16 Try.underlying22 info25 rfl _ 0 [] rfl (World.ownsRow_nil _ _ _ _) (1, 1) 25 rfl (by unfold maxLen; omega) (by omega) S3.out ?_; intro v1 w4 H1 B1)
        | fail)
      go_roundw
      case rel =>
        have hG4 : w.grownBy w4 (some R) := only_below_trans' HG3.out B1.out
        exact ⟨Lib.hid hG4, .inr ⟨rfl, H1, _, Lib.hid (RAt_carry HBY.out HR3.out hG4 (B1.out.block R HRL.out))⟩⟩
      case measure => simp [intOf]
    · obtain ⟨Ax, cx, rfl, hd, hcx, hnx⟩ := own_dots (ls := [(1, 1)]) HO.out
      have HE := Lib.hid (fun x (hx : RAt x R A c bs a 0) => err_any x R A c bs a 0 hx)
      have hds : Dots wr (· < wr.heap.size) Ax [(1, 1)] := hd.loose fun b h => h.2
      have HRT := Lib.hid (dright_any [(1, 1)] cx Ax wr hds (by simp))
      rw [isSet_one] at HRT
      have HDS := Lib.hid hds
      clear hd hcx hnx hds
      go_wp2_with fail
      refine HRT.out.mono ?_
      rintro e w5 ⟨rfl, hb5⟩
      have HR5 := Lib.hid (HR.out.only hb5)
      have HG5 := Lib.hid (only_below_trans HG.out hb5)
      have HD5 : Hid (Dots w5 (· < w5.heap.size) Ax [(1, 1)]) := Lib.hid ((HDS.out.below hb5).loose fun b h => Nat.lt_of_lt_of_le h hb5.size)
      clear hb5 HRT
      go_wp2_with fail
      refine (must_true _ _).mono ?_
      rintro e w6 ⟨rfl, rfl⟩
      go_wp2_with fail
      refine (HE.out _ HR5.out).mono ?_
      rintro e w7 ⟨rfl, rfl⟩
      have HF := Lib.hid (fresh_any [(1, 1)] cx Ax w7 HD5.out (by simp))
      have HG7 := Lib.hid HG5.out
      go_wp2_with fail
      refine HF.out.mono ?_
      rintro e w8 ⟨rfl, hw8⟩
      have HX8 : Hid (w8.heap[w7.heap.size]? = some (.cells (dots2 [(1, 1)]).toArray 25 (0, 0))) := Lib.hid (by rw [hw8]; exact heap_alloc_new _ _)
      have HG8 : Hid (w.grownBy w8 (some R)) := Lib.hid (by rw [hw8]; exact only_alloc HG7.out _)
      clear hw8
      go_wp2_with fail
      go_ret
      exact ⟨w7.heap.size, rfl, HG7.out.size, HX8.out, HG8.out⟩
end Go.Proofs.Ytnpacjdgbmldlaa
