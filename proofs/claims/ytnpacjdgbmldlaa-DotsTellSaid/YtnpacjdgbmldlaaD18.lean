/- A copy into new memory; dots.fresh, dots.set, dots.Of. -/
import Derived.Test.YtnpacjdgbmldlaaD17
import Derived.Laws.MakeOwn
namespace Go.Proofs.Ytnpacjdgbmldlaa
open Go.RowKit Go.Shelf Go.Lib Go.Sort

theorem run_make_new {P : Program} (w : World) (t e : TypeId) (z : Value) (s by_ : Nat) (ht : P.underlying t = some (.slice e)) (hinfo : (P.info? e).map (fun i => (i.zero, i.size, i.bytes)) = some (some z, s, by_)) (n : Nat) (hb : by_ * n ≤ 281474976710656) (hn : n ≤ 1000000000000) :
    (Instr.makeSlice t (.int .i64 (n : Int)) (.int .i64 (n : Int))).run P w = .ok (.slice (some ⟨w.heap.size, 0, none⟩) n n) (w.alloc (.cells (madeCells z.cells (n * s)) e)) := by
  obtain ⟨i, hi, hz, hs, hby⟩ := info_parts hinfo
  have hb' : (i.bytes : Int) * (n : Int) ≤ 281474976710656 := by
    have h3 : ((by_ * n : Nat) : Int) ≤ 281474976710656 := by omega
    rw [hby]
    rwa [Int.natCast_mul] at h3
  have h := run_make (P := P) w t e i z ht hi hz .i64 .i64 (n : Int) (n : Int) (by omega) (Int.le_refl _) hb' (by omega)
  rw [Int.toNat_natCast, hs] at h
  exact h
theorem run_copy_fresh {P : Program} (w : World) (dT sT ty elem : TypeId) (s n cap c' : Nat) (A : Option Addr) (Z : Array Value) (e : TypeId) (cs : List Value) (hu : P.underlying dT = some (.slice elem)) (hs : (P.info? elem).map (·.size) = some s)
    (hZ : Z.size = n * s) (hcs : cs.length = n * s) (hsrc : 0 < n → ∃ a, A = some a ∧ ∀ j v, cs[j]? = some v → w.cell? (a.add j) = some v) (h1 : ∀ v ∈ cs, v.oneCell' = true) :
    (Builtin.copy_ #[dT, sT] ty #[.slice (some ⟨w.heap.size, 0, none⟩) n cap, .slice A n c']).run P (w.alloc (.cells Z e)) = .ok (goInt n) (w.alloc (.cells cs.toArray e)) := by
  cases hq : P.info? elem with
  | none => simp [hq] at hs
  | some i =>
    have hi : i.size = s := by simpa [hq] using hs
    have hst := run_storeCells_at P w.heap.size 0 e cs 0 Z (w.alloc (.cells Z e)) (heap_alloc_new _ _) (by rw [hcs, hZ]; omega) h1
    have hst2 : (storeCells ⟨w.heap.size, 0, none⟩ cs 0).run P (w.alloc (.cells Z e)) = .ok () (w.alloc (.cells cs.toArray e)) := by
      rw [hst, World.setRow_alloc_new]
      congr 3
      simp [hcs, hZ]
    rcases Nat.eq_zero_or_pos n with h0 | hp
    · have hz : cs = [] := List.length_eq_zero_iff.1 (by rw [hcs, h0]; omega)
      subst hz
      subst h0
      cases A with
      | none => simp [Builtin.copy_, run_underlying hu, Builtin.lenOf, Builtin.firstCells, sizeOf, typeInfo, hq, hi, hst2]
      | some a =>
        have hl := run_loadCells_list (P := P) (w.alloc (.cells Z e)) a [] (fun j v hv => by simp at hv)
        simp only [List.length_nil] at hl
        simp [Builtin.copy_, run_underlying hu, Builtin.lenOf, Builtin.firstCells, sizeOf, typeInfo, hq, hi, hl, hst2]
    · obtain ⟨a, rfl, hc⟩ := hsrc hp
      have hl := run_loadCells_list (P := P) (w.alloc (.cells Z e)) a cs (fun j v hv => Lib.cell?_alloc_some _ (hc j v hv))
      rw [hcs] at hl
      simp [Builtin.copy_, run_underlying hu, Builtin.lenOf, Builtin.firstCells, sizeOf, typeInfo, hq, hi, hl, hst2]

theorem dots2_one' {ls : List Dt} : ∀ v ∈ dots2 ls, v.oneCell' = true := fun v hv => by
  unfold dots2 at hv
  obtain ⟨d, _, hv⟩ := List.mem_flatMap.1 hv
  simp only [dcells, List.mem_cons, List.mem_nil_iff, or_false] at hv
  rcases hv with rfl | rfl <;> rfl
theorem Dots.flat {w : World} {ok : Nat → Prop} {A : Option Addr} {ls : List Dt} (h : Dots w ok A ls) (hp : 0 < ls.length) : ∃ a, A = some a ∧ ∀ j v, (dots2 ls)[j]? = some v → w.cell? (a.add j) = some v := by
  obtain ⟨b, o, rfl, _, hc⟩ := h.at_ hp
  refine ⟨_, rfl, fun j u hu => ?_⟩
  have hj : j < ls.length * 2 := by
    have := (List.getElem?_eq_some_iff.1 hu).1
    rwa [dots2_len] at this
  have h3 := hc (j / 2) (by omega)
  have hd := dots2_get ls (j / 2) (by omega)
  rw [Addr.add_mid]
  rcases (show j = j / 2 * 2 ∨ j = j / 2 * 2 + 1 by omega) with e | e
  · rw [e, hd.1] at hu
    have h4 := h3 0 u hu
    rwa [Nat.add_zero, ← e] at h4
  · rw [e, hd.2] at hu
    have h4 := h3 1 u hu
    rwa [Nat.add_assoc, ← e] at h4
theorem block_dots {w : World} {g : Nat} {t : TypeId} {ls : List Dt} (h : w.heap[g]? = some (.cells (dots2 ls).toArray t (0, 0))) {ok : Nat → Prop} (hg : ok g) : Dots w ok (some ⟨g, 0, none⟩) ls := ⟨fun hp => by
  refine ⟨g, 0, rfl, hg, fun j hj i v hi => ?_⟩
  have hi2 : i < 2 := by
    have := (Array.getElem?_eq_some_iff.1 hi).1
    simpa using this
  have hd := dots2_get ls j hj
  rw [Nat.zero_add, cell_of_row _ _ _ _ _ _ h, List.getElem?_toArray]
  rcases (show i = 0 ∨ i = 1 by omega) with rfl | rfl
  · rw [Nat.add_zero, hd.1]; exact hi
  · rw [hd.2]; exact hi⟩

set_option maxRecDepth 100000 in
set_option maxHeartbeats 1000000 in
theorem fresh_any (ls : List Dt) (c : Nat) (A : Option Addr) (w : World) (hv : Dots w (· < w.heap.size) A ls) (hm : ls.length ≤ 1000000) :
    Calls Try.prog 78 #[.slice A ls.length c] w fun e w' => e = .returned (.slice (some ⟨w.heap.size, 0, none⟩) ls.length ls.length) ∧ w' = w.alloc (.cells (dots2 ls).toArray 25) := by
  have hmk := run_make_new (P := Try.prog) w 22 25 (.agg #[.int .i64 0, .int .u64 0]) 2 16 Try.underlying22 info25 ls.length (by omega) (by omega)
  have hcp : ∀ ty, (Builtin.copy_ #[22, 22] ty #[.slice (some ⟨w.heap.size, 0, none⟩) ls.length ls.length, .slice A ls.length c]).run Try.prog (w.alloc (.cells (madeCells (Value.agg #[.int .i64 0, .int .u64 0]).cells (ls.length * 2)) 25)) = .ok (goInt ls.length) (w.alloc (.cells (dots2 ls).toArray 25)) := fun ty =>
    run_copy_fresh w 22 22 ty 25 2 ls.length ls.length c A _ 25 (dots2 ls) Try.underlying22 size25 (size_madeCells _ _) (dots2_len _) (fun hp => hv.flat hp) dots2_one'
  obtain ⟨Z, hZ⟩ : ∃ Z, Z = madeCells (Value.agg #[.int .i64 0, .int .u64 0]).cells (ls.length * 2) := ⟨_, rfl⟩
  rw [← hZ] at hmk hcp
  obtain ⟨L, hL⟩ : ∃ L, L = (dots2 ls).toArray := ⟨_, rfl⟩
  rw [← hL] at hcp ⊢
  clear hv hm hZ hL
  go_enter Try.func78, Try.ntmps78
  go_wp2
  go_ret
  exact ⟨rfl, rfl⟩

def setF (zs : List Dt) : List Dt := (sortD zs).take 2000
theorem sortD_len (zs : List Dt) : (sortD zs).length ≤ zs.length := by
  unfold sortD Lib.compact Lib.compactUpTo
  rw [List.length_map]
  refine Nat.le_trans (List.length_filter_le _ _) ?_
  simp

set_option maxRecDepth 100000 in
set_option maxHeartbeats 1000000 in
theorem set_any (gf : Nat) (lb : Array Value) (zs : List Dt) (w : World) (hE : Enters gf) (hS : Yields gf lb zs w.heap.size w) (hm : zs.length ≤ 1000000) :
    Calls Try.prog 75 #[.func (.func gf) #[] lb] w fun e w' => ∃ g, e = .returned (.slice (some ⟨g, 0, none⟩) (setF zs).length (setF zs).length) ∧ w.heap.size ≤ g ∧ w'.heap[g]? = some (.cells (dots2 (setF zs)).toArray 25 (0, 0)) ∧ Below w.heap.size w w' := by
  have HC := Lib.hid (sorted_any gf lb zs w hE hS hm)
  have HM := Lib.hid hm
  clear hE hS hm
  go_enter Try.func75, Try.ntmps75
  go_wp2_with fail
  refine HC.out.mono ?_
  rintro e w1 ⟨A, c, rfl, hD, hc, hb⟩
  have HD := Lib.hid hD
  have HCC := Lib.hid hc
  have HB := Lib.hid hb
  have HL := Lib.hid (sortD_len zs)
  obtain ⟨so, hso⟩ : ∃ so, so = sortD zs := ⟨_, rfl⟩
  have HS : Hid (setF zs = so.take 2000) := Lib.hid (by unfold setF; rw [hso])
  rw [← hso] at HD HCC HL ⊢
  clear hD hc hb HC hso
  have fin : ∀ (r : List Dt) (c' : Nat), r = so.take 2000 → Calls Try.prog 78 #[.slice A r.length c'] w1 fun e w' => e = .returned (.slice (some ⟨w1.heap.size, 0, none⟩) r.length r.length) ∧ w' = w1.alloc (.cells (dots2 r).toArray 25) := fun r c' hr =>
    fresh_any r c' A w1 (by rw [hr]; exact (HD.out.loose fun b h => h.2).cut 2000) (by rw [hr, List.length_take]; have := HL.out; have := HM.out; omega)
  have HF := Lib.hid fin
  clear fin
  have post : ∀ (r : List Dt), r = so.take 2000 → ∃ g, Ending.returned (.slice (some ⟨w1.heap.size, 0, none⟩) r.length r.length) = .returned (.slice (some ⟨g, 0, none⟩) (setF zs).length (setF zs).length) ∧ w.heap.size ≤ g ∧ (w1.alloc (.cells (dots2 r).toArray 25)).heap[g]? = some (.cells (dots2 (setF zs)).toArray 25 (0, 0)) ∧ Below w.heap.size w (w1.alloc (.cells (dots2 r).toArray 25)) := fun r hr =>
    ⟨w1.heap.size, by rw [HS.out, hr], HB.out.size, by rw [HS.out, hr]; exact heap_alloc_new _ _, HB.out.trans ((below1 w1 _).mono HB.out.size)⟩
  have HP := Lib.hid post
  clear post
  obtain ⟨r, hr⟩ : ∃ r, r = so.take 2000 := ⟨_, rfl⟩
  have hmn : (min (so.length : Int) 2000).toNat = r.length := by rw [hr, List.length_take]; omega
  have HMN := Lib.hid hmn
  have HC2 := Lib.hid (fun c' => HF.out r c' hr)
  have HP2 := Lib.hid (HP.out r hr)
  have hci : (min (so.length : Int) 2000) ≤ (c : Int) := by have := HCC.out; omega
  have hc0 : (0 : Int) ≤ min (so.length : Int) 2000 := by omega
  clear hr hmn HF HP
  go_wp2_with fail
  rw [HMN.out]
  refine (HC2.out c).mono ?_
  rintro e w2 ⟨rfl, rfl⟩
  go_wp2_with fail
  go_ret
  exact HP2.out
end Go.Proofs.Ytnpacjdgbmldlaa
