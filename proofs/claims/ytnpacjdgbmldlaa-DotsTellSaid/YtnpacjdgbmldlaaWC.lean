/- A reader's take. -/
import Derived.Test.YtnpacjdgbmldlaaWB
namespace Go.Proofs.Ytnpacjdgbmldlaa.Wr
open Go.RowKit
theorem run_sliceAt_three {P : Program} (t e : TypeId) (hu : P.underlying t = some (.slice e)) (hs : (P.info? e).map (·.size) = some 1) (A : Option Addr) (n c i j : Nat) (hi : i ≤ j) (hj : j ≤ c) (w : World) :
    (Instr.sliceAt t (.slice A n c) (some (.int .i64 (i : Int))) (some (.int .i64 (j : Int))) (some (.int .i64 (j : Int)))).run P w = .ok (.slice (if j = i then A else A.map (·.add i)) (j - i) (j - i)) w := by
  have h : (Instr.slice t (.slice A n c) (some (.int .i64 (i : Int))) (some (.int .i64 (j : Int))) (some (.int .i64 (j : Int)))).run P w = .ok (.slice (if j = i then A else A.map (·.add i)) (j - i) (j - i)) w := by
    cases hq : P.info? e with
    | none => simp [hq] at hs
    | some x =>
      have hx : x.size = 1 := by simpa [hq] using hs
      have h1 : (j : Int) ≤ (c : Int) := by omega
      have h2 : (i : Int) ≤ (j : Int) := by omega
      simp [Instr.slice, Instr.sliceBounds, Instr.sliceBound, asIntOf, Sem.run_bind, run_underlying hu w, sizeOf, typeInfo, hq, hx, h1, h2, Result.andThen, hi, hj]
  simp only [Instr.sliceAt, Sem.run_bind, run_underlying hu w, Result.andThen, h]

end Go.Proofs.Ytnpacjdgbmldlaa.Wr
namespace Go.Proofs.Ytnpacjdgbmldlaa
theorem Bytes.sub {w : World} {P : Nat → Prop} {A : Option Addr} {xs : List Nat} (h : Bytes w P A xs) {k n : Nat} (hn : n ≤ xs.length - k) (h0 : 0 < n) : Bytes w P (A.map (·.add k)) ((xs.drop k).take n) := by
  obtain ⟨b, o, rfl, hb, hc⟩ := h.at_ (by omega)
  refine ⟨fun x hx => h.lt x (List.mem_of_mem_drop (List.mem_of_mem_take hx)), fun _ => ⟨b, o + k, by rw [Option.map_some, Addr.add_mid], hb, fun j hj => ?_⟩⟩
  rw [List.length_take, List.length_drop] at hj
  rw [Nat.add_assoc, hc (k + j) (by omega), List.getD_eq_getElem?_getD, List.getD_eq_getElem?_getD, List.getElem?_take, if_pos (by omega), List.getElem?_drop]
end Go.Proofs.Ytnpacjdgbmldlaa
namespace Go.Proofs.Ytnpacjdgbmldlaa.Wr
open Go.RowKit

/-- The cells of a reader. -/
def rF (s : Value) (at_ e : Int) (i : Nat) : Value := if i = 0 then .bool true else if i = 1 then s else if i = 2 then .int .i64 at_ else .int .i64 e
/-- A reader: block R; its bytes bs, its place, its fault. -/
structure RAt (x : World) (R : Nat) (A : Option Addr) (c : Nat) (bs : List Nat) (at_ : Nat) (e : Int) : Prop where
  row : x.rowIs R 147 4 (rF (.slice A bs.length c) at_ e)
  by_ : Bytes x (· ≠ R) A bs
  le : at_ ≤ bs.length
  cap : bs.length ≤ c
  some_ : A = none → c = 0
theorem RAt.only {x y : World} {R : Nat} {A : Option Addr} {c : Nat} {bs : List Nat} {at_ : Nat} {e : Int} (h : RAt x R A c bs at_ e) (hb : Below x.heap.size x y) : RAt y R A c bs at_ e :=
  ⟨row_below h.row hb h.row.lt, h.by_.keep fun b j _ hl => World.cell?_of_block (w := x) (a := ⟨b, j, none⟩) (hb.block b hl), h.le, h.cap, h.some_⟩
theorem RAt.setAt {x : World} {R : Nat} {A : Option Addr} {c : Nat} {bs : List Nat} {at_ at' : Nat} {e : Int} (h : RAt x R A c bs at_ e) (hl : at' ≤ bs.length) : RAt (x.setCell ⟨R, 2, none⟩ (.int .i64 (at' : Int))) R A c bs at' e ∧ x.grownBy (x.setCell ⟨R, 2, none⟩ (.int .i64 (at' : Int))) (some R) := by
  refine ⟨⟨(h.row.set 2 _).congr fun i hi => ?_, h.by_.only (only_setCell (only_refl x (some R)) (.inl rfl) _), hl, h.cap, h.some_⟩, only_setCell (only_refl x (some R)) (.inl rfl) _⟩
  by_cases h2 : i = 2
  · subst h2; rfl
  · simp only [if_neg h2, rF]
theorem RAt.setE {x : World} {R : Nat} {A : Option Addr} {c : Nat} {bs : List Nat} {at_ : Nat} {e e' : Int} (h : RAt x R A c bs at_ e) : RAt (x.setCell ⟨R, 3, none⟩ (.int .i64 e')) R A c bs at_ e' ∧ x.grownBy (x.setCell ⟨R, 3, none⟩ (.int .i64 e')) (some R) := by
  refine ⟨⟨(h.row.set 3 _).congr fun i hi => ?_, h.by_.only (only_setCell (only_refl x (some R)) (.inl rfl) _), h.le, h.cap, h.some_⟩, only_setCell (only_refl x (some R)) (.inl rfl) _⟩
  by_cases h2 : i = 3
  · subst h2; rfl
  · by_cases h1 : i = 2
    · subst h1; simp [rF]
    · simp only [if_neg h2, rF, if_neg h1]
      by_cases h0 : i = 0
      · simp [h0]
      · have : i = 1 := by omega
        subst this; rfl
theorem size59 : (Try.prog.info? 147).map (·.size) = some 4 := by kernel_rfl

theorem err_any (w : World) (R : Nat) (A : Option Addr) (c : Nat) (bs : List Nat) (at_ : Nat) (e : Int) (h : RAt w R A c bs at_ e) : Calls Try.prog 105 #[.pointer (some ⟨R, 0, none⟩)] w fun r w' => r = .returned (.int .i64 e) ∧ w' = w := by
  have c0 := h.row.cell (i := 0) (by omega)
  have c3 := h.row.cell (i := 3) (by omega)
  simp only [rF, Nat.reduceEqDiff, if_false, if_true] at c0 c3
  clear h
  go_enter Try.func105, Try.ntmps105
  go_wp2
  go_ret
  exact ⟨rfl, rfl⟩
set_option maxHeartbeats 1000000 in
theorem left_any (w : World) (R : Nat) (A : Option Addr) (c : Nat) (bs : List Nat) (at_ : Nat) (e : Int) (h : RAt w R A c bs at_ e) (hs : bs.length ≤ 1000000) :
    Calls Try.prog 161 #[.pointer (some ⟨R, 0, none⟩)] w fun r w' => r = .returned (.int .i64 (if e = 0 then ((bs.length - at_ : Nat) : Int) else 0)) ∧ Below w.heap.size w w' := by
  have HC := Lib.hid (err_any w R A c bs at_ e h)
  have c1 := h.row.cell (i := 1) (by omega)
  have c2 := h.row.cell (i := 2) (by omega)
  have hle := h.le
  simp only [rF, Nat.reduceEqDiff, if_false, if_true] at c1 c2
  clear h
  by_cases he : e = 0
  · subst he
    go_enter Try.func161, Try.ntmps161
    go_wp2_with (go_at_call 105; refine HC.out.mono ?_; rintro r w' ⟨rfl, ew⟩; obtain rfl := ew.symm)
    go_region
    go_wp2_with fail
    go_ret
    exact ⟨ret_int (by omega), (Below.refl _ _).drew⟩
  · have he' : (e != 0) = true := by simpa using he
    go_enter Try.func161, Try.ntmps161
    go_wp2_with (go_at_call 105; refine HC.out.mono ?_; rintro r w' ⟨rfl, ew⟩; obtain rfl := ew.symm)
    go_ret
    exact ⟨rfl, Below.refl _ _⟩
set_option maxHeartbeats 1000000 in
theorem fail_any (w : World) (R : Nat) (A : Option Addr) (c : Nat) (bs : List Nat) (at_ : Nat) (e x : Int) (h : RAt w R A c bs at_ e) :
    Calls Try.prog 128 #[.pointer (some ⟨R, 0, none⟩), .int .i64 x] w fun r w' => r = .returned (.tuple #[]) ∧ RAt w' R A c bs at_ (if e = 0 then x else e) ∧ w.grownBy w' (some R) := by
  have HC := Lib.hid (err_any w R A c bs at_ e h)
  have HR := Lib.hid h
  have c3 := h.row.cell (i := 3) (by omega)
  have f3 := h.row.frozen 3
  simp only [rF, Nat.reduceEqDiff, if_false, if_true] at c3
  clear h
  by_cases he : e = 0
  · subst he
    go_enter Try.func128, Try.ntmps128
    go_wp2_with (go_at_call 105; refine HC.out.mono ?_; rintro r w' ⟨rfl, ew⟩; obtain rfl := ew.symm)
    go_end0
    exact ⟨rfl, HR.out.setE⟩
  · have he' : (e == 0) = false := by simpa using he
    go_enter Try.func128, Try.ntmps128
    go_wp2_with (go_at_call 105; refine HC.out.mono ?_; rintro r w' ⟨rfl, ew⟩; obtain rfl := ew.symm)
    go_end0
    exact ⟨rfl, HR.out, only_refl _ _⟩

theorem take_err (w : World) (R : Nat) (A : Option Addr) (c : Nat) (bs : List Nat) (at_ : Nat) (e : Int) (n : Nat) (h : RAt w R A c bs at_ e) (he : e ≠ 0) :
    Calls Try.prog 152 #[.pointer (some ⟨R, 0, none⟩), .int .u64 (n : Int)] w fun r w' => r = .returned (.slice none 0 0) ∧ w' = w := by
  have HC := Lib.hid (err_any w R A c bs at_ e h)
  have he' : (e != 0) = true := by simpa using he
  clear h
  go_enter Try.func152, Try.ntmps152
  go_wp2_with (go_at_call 105; refine HC.out.mono ?_; rintro r w' ⟨rfl, ew⟩; obtain rfl := ew.symm)
  go_ret
  exact ⟨rfl, rfl⟩
set_option maxHeartbeats 1000000 in
theorem take_short (w : World) (R : Nat) (A : Option Addr) (c : Nat) (bs : List Nat) (at_ n : Nat) (h : RAt w R A c bs at_ 0) (hs : bs.length ≤ 1000000) (hn : bs.length - at_ < n) (hn2 : n < 18446744073709551616) :
    Calls Try.prog 152 #[.pointer (some ⟨R, 0, none⟩), .int .u64 (n : Int)] w fun r w' => r = .returned (.slice none 0 0) ∧ RAt w' R A c bs at_ 8 ∧ w.grownBy w' (some R) := by
  have HC := Lib.hid (err_any w R A c bs at_ 0 h)
  obtain ⟨d, hd⟩ : ∃ d, d = bs.length - at_ := ⟨_, rfl⟩
  have HL := Lib.hid (left_any w R A c bs at_ 0 h hs)
  rw [if_pos rfl, ← hd] at HL
  rw [← hd] at hn
  have HR := Lib.hid h
  have dl : d ≤ 1000000 := by omega
  have ud : IntKind.u64.wrap (d : Int) = (d : Int) := by rw [IntKind.wrap_u64]; omega
  have hlt : (d : Int) < (n : Int) := by omega
  clear h hd
  go_enter Try.func152, Try.ntmps152
  go_wp2_with (first
    | (go_at_call 105; refine HC.out.mono ?_; rintro r w' ⟨rfl, ew⟩; obtain rfl := ew.symm)
    | (go_at_call 161; refine HL.out.mono ?_; rintro r w1 ⟨rfl, hb⟩; have HB := Lib.hid hb; have HF := Lib.hid (fail_any w1 R A c bs at_ 0 8 (HR.out.only hb)); clear hb)
    | (go_at_call 128; refine HF.out.mono ?_; rintro r w2 ⟨rfl, hr2, hg2⟩; have HR2 := Lib.hid hr2; have HG2 := Lib.hid hg2; clear hr2 hg2))
  go_ret
  have h2 := HR2.out
  simp only [if_true] at h2
  exact ⟨rfl, h2, only_trans (only_below HB.out _) HG2.out⟩
set_option maxHeartbeats 2000000 in
theorem take_ok (w : World) (R : Nat) (A : Option Addr) (c : Nat) (bs : List Nat) (at_ n : Nat) (h : RAt w R A c bs at_ 0) (hs : bs.length ≤ 1000000) (hn : n ≤ bs.length - at_) :
    Calls Try.prog 152 #[.pointer (some ⟨R, 0, none⟩), .int .u64 (n : Int)] w fun r w' => ∃ A', r = .returned (.slice A' n n) ∧ Bytes w' (· ≠ R) A' ((bs.drop at_).take n) ∧ (A' = none → n = 0) ∧ RAt w' R A c bs (at_ + n) 0 ∧ w.grownBy w' (some R) := by
  have HC := Lib.hid (err_any w R A c bs at_ 0 h)
  obtain ⟨d, hd⟩ : ∃ d, d = bs.length - at_ := ⟨_, rfl⟩
  have HL := Lib.hid (left_any w R A c bs at_ 0 h hs)
  rw [if_pos rfl, ← hd] at HL
  have HR := Lib.hid h
  have hle := h.le
  have hcap := h.cap
  have dl : d ≤ 1000000 := by omega
  have ud : IntKind.u64.wrap (d : Int) = (d : Int) := by rw [IntKind.wrap_u64]; omega
  have hlt : (n : Int) ≤ (d : Int) := by omega
  have un : IntKind.i64.wrap (n : Int) = (n : Int) := IntWalk.i64_in _ (by omega)
  obtain ⟨q, hq⟩ : ∃ q, q = at_ + n := ⟨_, rfl⟩
  have uq : (at_ : Int) + (n : Int) = (q : Int) := by omega
  have hql : q ≤ bs.length := by omega
  have hsl := fun x => run_sliceAt_three (P := Try.prog) 94 5 Try.underlying94 size5 A bs.length c at_ q (by omega) (by omega) x
  have HQ := Lib.hid hq
  clear hq
  clear h hd
  go_enter Try.func152, Try.ntmps152
  go_wp2_with (first
    | (go_at_call 105; refine HC.out.mono ?_; rintro r w' ⟨rfl, ew⟩; obtain rfl := ew.symm)
    | (go_at_call 161; refine HL.out.mono ?_; rintro r w1 ⟨rfl, hb⟩; have HB := Lib.hid hb; have HR1 := Lib.hid (HR.out.only hb)
       have c1 : w1.cell? ⟨R, 2, none⟩ = some (.int .i64 (at_ : Int)) := by simpa [rF] using HR1.out.row.cell (i := 2) (by omega)
       have f1 := HR1.out.row.frozen 2
       clear hb))
  obtain ⟨w2, hw2⟩ : ∃ w2, w2 = w1.setCell ⟨R, 2, none⟩ (.int .i64 (q : Int)) := ⟨_, rfl⟩
  rw [← hw2]
  have HS : Hid (RAt w2 R A c bs q 0 ∧ w1.grownBy w2 (some R)) := by rw [hw2]; exact HR1.out.setAt hql
  clear hw2 f1 c1
  have c1 : w2.cell? ⟨R, 1, none⟩ = some (.slice A bs.length c) := by simpa [rF] using HS.out.1.row.cell (i := 1) (by omega)
  have c2 : w2.cell? ⟨R, 2, none⟩ = some (.int .i64 (q : Int)) := by simpa [rF] using HS.out.1.row.cell (i := 2) (by omega)
  go_region
  go_wp2_with fail
  · have hn0 : n = 0 := by have := HQ.out; omega
    subst hn0
    go_ret
    refine ⟨A, rfl, ?_, by simp, ?_, ?_⟩
    · rw [List.take_zero]
      exact ⟨fun _ h => (by cases h), fun h => (by cases h)⟩
    · have h := HS.out.1
      rw [HQ.out] at h
      exact ⟨h.row, ⟨h.by_.lt, h.by_.at_⟩, h.le, h.cap, h.some_⟩
    · exact only_drew (only_trans (only_below HB.out _) HS.out.2)
  · have hqn : q - at_ = n := by have := HQ.out; omega
    have hq0 : 0 < n := by have := HQ.out; omega
    rw [hqn]
    go_ret
    refine ⟨_, rfl, ?_, ?_, ?_, ?_⟩
    · have h := (HS.out.1.by_).sub (k := at_) (n := n) (by omega) hq0
      exact ⟨h.lt, h.at_⟩
    · intro e
      obtain ⟨b, o, eA, _⟩ := HS.out.1.by_.at_ (by omega)
      rw [eA] at e
      cases e
    · have h := HS.out.1
      rw [HQ.out] at h
      exact ⟨h.row, ⟨h.by_.lt, h.by_.at_⟩, h.le, h.cap, h.some_⟩
    · exact only_drew (only_trans (only_below HB.out _) HS.out.2)
end Go.Proofs.Ytnpacjdgbmldlaa.Wr
