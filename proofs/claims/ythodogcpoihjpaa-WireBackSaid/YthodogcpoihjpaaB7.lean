/- The law WireBack of layer 2, walked. -/
import Derived.Test.YthodogcpoihjpaaB2
import Derived.Test.YthodogcpoihjpaaWm
namespace Go.Proofs.Ythodogcpoihjpaa
open Go.RowKit
theorem exec_load_b {P : Program} {ev : Operand → Value} {o : Oper} {w w' : World} {v : Value} (ty : TypeId) (x : Operand) (ho : o.op = .load ty x) (b off : Nat) (hx : ev x = .pointer (some ⟨b, off, none⟩))
    (hl : (loadVar ty ⟨b, off, none⟩).run P w = .ok v w') : (execOp ev o).run P w = .ok (.value v) w' := by
  unfold execOp
  simp only [ho, hx, Instr.loadAt, Instr.sureAddr, Sem.run_bind, Sem.run_pure, Result.andThen_ok, hl]
/-- What region 5 keeps. -/
structure L5 (w : World) (xs : List Nat) (b o : Nat) (C : Array Value) (x : World) : Prop where
  li : LI w xs x
  c : rangeA x b o C
  lt : b < w.heap.size
theorem L5.then_ {w x y : World} {xs : List Nat} {b o : Nat} {C : Array Value} (h : L5 w xs b o C x) (hb : Below x.heap.size x y) : L5 w xs b o C y :=
  ⟨h.li.below_ hb, fun j v hv => (World.cell?_of_block (w := x) (a := ⟨b, o + j, none⟩) (hb.block b (Nat.lt_of_lt_of_le h.lt h.li.below.size))).trans (h.c j v hv), h.lt⟩
theorem L5.drew {w x : World} {xs : List Nat} {b o : Nat} {C : Array Value} (h : L5 w xs b o C x) : L5 w xs b o C x.drew := h.then_ ⟨rfl, rfl, rfl, Nat.le_refl _, fun _ _ => rfl⟩
theorem bytes0 {p : PartR} (h : p.k = 0) : p.bytes = numB p.n := by unfold PartR.bytes partB; rw [if_pos (.inl h)]
theorem bytes1 {p : PartR} (h : p.k = 1) : p.bytes = numB (zz p.i) := by unfold PartR.bytes partB; rw [if_neg (by omega), if_pos h]
theorem bytes2 {p : PartR} (h : p.k = 2) : p.bytes = textB p.ts := by unfold PartR.bytes partB; rw [if_neg (by omega), if_neg (by omega), if_pos h]
theorem bytes3 {p : PartR} (h : p.k = 3) : p.bytes = digB p.d := by unfold PartR.bytes partB; rw [if_neg (by omega), if_neg (by omega), if_neg (by omega), if_pos h]
theorem bytes4 {p : PartR} (h : p.k = 4) : p.bytes = vecB p.f 8 := by unfold PartR.bytes partB; rw [if_neg (by omega), if_neg (by omega), if_neg (by omega), if_neg (by omega), if_pos h]
theorem BI.start {w wr w1 w2 : World} {R : Nat} {A2 : Option Addr} {c2 : Nat} {XS zs : List Nat} (hI : LI w zs wr) (hb1 : Below wr.heap.size wr w1) (hb2 : Below w1.heap.size w1 w2) (hr : RAt w2 R A2 c2 XS 0 0) (hR : w1.heap.size ≤ R) :
    BI w w2 (w.heap.size + 1) R A2 c2 XS 0 (.slice none 0 0) [] w2 ∧ (w.heap.size ≤ R ∧ R < w2.heap.size ∧ R ≠ w.heap.size + 1) ∧ w.heap.size + 1 < w2.heap.size := by
  have hl : w.heap.size + 1 < wr.heap.size := (Array.getElem?_eq_some_iff.1 hI.again).1
  have h1 := hb1.size
  have h2 := hb2.size
  have ha1 := (hb1.block _ hl).trans hI.again
  have ha2 := (hb2.block _ (by omega)).trans ha1
  have hB1 : Below w.heap.size w w1 := hI.below.trans (hb1.mono hI.below.size)
  refine ⟨⟨hr, ⟨ha2, World.ownsRow_nil _ _ _ _, by omega⟩, fun k hk => (by cases hk), fun _ _ _ _ => rfl, Nat.le_refl _, hB1.trans (hb2.mono hB1.size)⟩, ⟨by omega, hr.row.lt, by omega⟩, by omega⟩
/-- What stands behind loop 2. -/
structure B24 (w wo : World) (u : Value) (R : Nat) (A : Option Addr) (c : Nat) (XS : List Nat) (x : World) : Prop where
  rd : RAt x R A c XS XS.length 0
  wt : ∃ v, WAt x w.heap.size (w.heap.size + 1) v XS
  own : x.ownsRow wo.heap.size 5 1 u XS.length (ints8 XS)
  below : Below w.heap.size w x
theorem B24.then_ {w wo x y : World} {u : Value} {R : Nat} {A : Option Addr} {c : Nat} {XS : List Nat} (hb : Below x.heap.size x y) (I : B24 w wo u R A c XS x) : B24 w wo u R A c XS y := by
  obtain ⟨v, hv⟩ := I.wt
  exact ⟨I.rd.only hb, ⟨v, hv.below hb⟩, own_keep I.own fun k _ hk => hb.block k hk, I.below.trans (hb.mono I.below.size)⟩
theorem B24.drew {w wo x : World} {u : Value} {R : Nat} {A : Option Addr} {c : Nat} {XS : List Nat} (I : B24 w wo u R A c XS x) : B24 w wo u R A c XS x.drew := B24.then_ (x := x) (y := x.drew) ⟨rfl, rfl, rfl, Nat.le_refl _, fun _ _ => rfl⟩ I
def PO (xs : List Nat) (v : Value) (x : World) : Prop := ∃ q : Nat, x.ownsRow q 5 1 v xs.length (ints8 xs)
theorem PO.up {xs : List Nat} {v : Value} {x y : World} (h : Below x.heap.size x y) : PO xs v x → PO xs v y := fun ⟨q, ho⟩ => ⟨q, own_keep ho fun k _ hk => h.block k hk⟩
theorem own_cap {w : World} {base : Nat} {A : Option Addr} {n c : Nat} {l : List Value} (h : w.ownsRow base 5 1 (.slice A n c) n l) : n ≤ c := by
  rcases h.2 with ⟨hv, h0⟩ | ⟨g, cap, cur, hv, _, _, hle, _⟩
  · omega
  · injection hv with _ _ hc
    omega
theorem Bytes.take {w : World} {ok : Nat → Prop} {A : Option Addr} {xs : List Nat} (h : Bytes w ok A xs) {q : Nat} (hq : q ≤ xs.length) : Bytes w ok A (xs.take q) :=
  ⟨fun x hx => h.lt x (List.mem_of_mem_take hx), fun hp => by
    rw [List.length_take] at hp
    obtain ⟨b, o, e, hb, hcell⟩ := h.at_ (by omega)
    refine ⟨b, o, e, hb, fun j hj => ?_⟩
    rw [List.length_take] at hj
    rw [hcell j (by omega)]
    simp [List.getD_eq_getElem?_getD, List.getElem?_take, show j < q by omega]⟩
theorem got_all (p : PartR) (w : World) (B R : Nat) (A0 : Option Addr) (c0 : Nat) (bs T : List Nat) (h : PartC p.C p.k p.i p.m p.n p.A p.ts p.c p.d p.f) (ho : PartOk w B p.i p.n p.A p.ts p.c p.d p.f) (hF : Fine p) (hm : p.m ≤ 9223372036854775807) (hc : Cut R A0 c0 bs (p.bytes ++ T) w) (hs : bs.length ≤ 1000000) :
    Calls Try.prog 21 #[.pointer (some ⟨R, 0, none⟩), .agg p.C] w fun e w' => (∃ s, e = .returned (.string s)) ∧ Cut R A0 c0 bs T w' ∧ w.grownBy w' (some R) := by
  obtain ⟨h1, h2, h3, h4, h5⟩ := hF
  rcases (show p.k = 0 ∨ p.k = 1 ∨ p.k = 2 ∨ p.k = 3 ∨ p.k = 4 by omega) with e | e | e | e | e
  · rw [bytes0 e] at hc
    rw [e] at h
    exact got_num p.C w B R A0 c0 bs T h ho hc hs
  · rw [bytes1 e] at hc
    rw [e] at h
    exact got_int p.C w B R A0 c0 bs T h ho (h4 e).1 (h4 e).2 hc hs
  · rw [bytes2 e] at hc
    rw [e] at h
    exact got_text p.C w B R A0 c0 bs T h ho h1 (h5 e) hm hc hs
  · rw [bytes3 e] at hc
    rw [e] at h
    exact got_dig p.C w B R A0 c0 bs T h ho hc hs
  · rw [bytes4 e] at hc
    rw [e] at h
    exact got_vec p.C w B R A0 c0 bs T h ho hc hs
set_option maxRecDepth 100000 in
set_option maxHeartbeats 8000000 in
theorem law_back (N c : Nat) (A : Option Addr) (P : Nat → PartR) (cut : Int) (w : World) (hp : PartsAt w w.heap.size N A P) (hN : N ≤ 9223372036854775807) (hm : ∀ j, j < N → (P j).m ≤ 9223372036854775807) (hc1 : -9223372036854775808 ≤ cut) (hc2 : cut ≤ 9223372036854775807) :
    Calls Try.prog 4 #[.slice A N c, .int .i64 cut] w fun e w' => e = .returned (.bool true) ∧ Below w.heap.size w w' := by
  have HP := Lib.hid hp
  have HM := Lib.hid hm
  clear hp hm
  have HI0 := Lib.hid (li_start w)
  go_enter Try.func4, Try.ntmps4
  go_wp2_with fail
  generalize ((w.alloc (.cells #[.slice none 0 0] 26)).alloc (.cells #[.slice none 0 0] 26)) = w0 at *
  go_loopw [7] (fun v wr => ∃ i : Nat, i ≤ N ∧ (0 < i → N ≤ 40) ∧ v = .int .i64 i ∧ Hid (∀ j, j < i → Fine (P j)) ∧ Hid (LI w (allB P i) wr)) (fun v _ => N - (intOf v).toNat)
  case atStart => exact ⟨0, by omega, fun h => by omega, rfl, Lib.hid (fun j hj => by omega), HI0⟩
  case round =>
    clear HI0
    obtain ⟨i, hi, h40, rfl, HF, HI⟩ := hrel
    by_cases hlt : i < N
    · obtain ⟨b, o, hA, hb5, hr⟩ : ∃ b o, A = some ⟨b, o, none⟩ ∧ b < w.heap.size ∧ Hid (rangeA wr b (o + i * 45) (P i).C) := by
        obtain ⟨b, o, e, hb, hr⟩ := (HP.out.below HI.out.below).at_ (by omega)
        exact ⟨b, o, e, hb, Lib.hid (hr i hlt)⟩
      subst hA
      have s34 : Hid ((Try.prog.info? 34).map (·.size) = some (P i).C.size) := Lib.hid (by rw [(HP.out.cells i hlt).size]; exact size34)
      have HCE := Lib.hid (HP.out.cells i hlt)
      have HLE := Lib.hid (HP.out.len i hlt)
      have HID : Hid (L5 w (allB P i) b (o + i * 45) (P i).C wr.drew) := Lib.hid (L5.drew ⟨HI.out, hr.out, hb5⟩)
      have HL := Lib.hid (allB_len P i (fun j hj => partB_len _ _ _ _ _ _ (HF.out j hj).1))
      clear HI hr hb5
      go_wp2_with fail
      apply WM.relist
      · simp only [WM.app_cons, WM.app_nil]
        rfl
      refine WM.with_lex (by kernel_rfl) (fun hLX => ?_)
      have HLX := Lib.hid hLX
      clear hLX
      by_cases hN40 : (40 : Int) < (N : Int)
      · refine WM.wp_region_kinds (fun _ x y => Below x.heap.size x y) (fun _ x => L5 w (allB P i) b (o + i * 45) (P i).C x) (fun x => L5 w (allB P i) b (o + i * 45) (P i).C x)
          [] (by kernel_rfl) HLX.out (fun _ _ _ hb h => L5.then_ h hb) (fun _ _ _ _ _ hb h => L5.then_ h hb) ?_ HID.out (fun _ => HID.out) ?_
        · intro z hz
          cases hz
        iterate 2
          refine WM.mono_pure rfl rfl ?_
          apply Exists.intro
          refine ⟨fun x => ?_, ?_⟩
          · go_simp
            rfl
          apply Exists.intro
          refine ⟨by simp only [Act.put, List.setIfInBounds_toArray, List.set_cons_succ, List.set_cons_zero]; rfl, ?_⟩
        refine WM.mono_pure rfl rfl ?_
        refine ⟨.bool true, fun x => ?_, ?_⟩
        · go_simp
        apply Exists.intro
        refine ⟨by simp only [Act.put, List.setIfInBounds_toArray, List.set_cons_succ, List.set_cons_zero]; rfl, ?_⟩
        refine WM.mono_pure rfl rfl ?_
        refine ⟨.bool true, fun x => ?_, ?_⟩
        · go_simp
        apply Exists.intro
        refine ⟨by simp only [Act.put, List.setIfInBounds_toArray, List.set_cons_succ, List.set_cons_zero]; rfl, ?_⟩
        refine WM.mono_skip rfl ?_
        apply Exists.intro
        refine ⟨by simp only [Act.put, List.setIfInBounds_toArray, List.set_cons_succ, List.set_cons_zero]; rfl, ?_⟩
        refine WM.mono_skip rfl ?_
        apply Exists.intro
        refine ⟨by simp only [Act.put, List.setIfInBounds_toArray, List.set_cons_succ, List.set_cons_zero]; rfl, ?_⟩
        refine WM.mono_skip rfl ?_
        apply Exists.intro
        refine ⟨by simp only [Act.put, List.setIfInBounds_toArray, List.set_cons_succ, List.set_cons_zero]; rfl, ?_⟩
        refine WM.mono_skip rfl ?_
        apply Exists.intro
        refine ⟨by simp only [Act.put, List.setIfInBounds_toArray, List.set_cons_succ, List.set_cons_zero]; rfl, ?_⟩
        refine WM.mono_skip rfl ?_
        apply Exists.intro
        refine ⟨by simp only [Act.put, List.setIfInBounds_toArray, List.set_cons_succ, List.set_cons_zero]; rfl, ?_⟩
        refine WM.mono_pure rfl rfl ?_
        refine ⟨.bool true, fun x => ?_, ?_⟩
        · go_simp
        apply Exists.intro
        refine ⟨by simp only [Act.put, List.setIfInBounds_toArray, List.set_cons_succ, List.set_cons_zero]; rfl, ?_⟩
        refine WM.mono_pure rfl rfl ?_
        refine ⟨.bool true, fun x => ?_, ?_⟩
        · go_simp
        apply Exists.intro
        refine ⟨by simp only [Act.put, List.setIfInBounds_toArray, List.set_cons_succ, List.set_cons_zero]; rfl, ?_⟩
        refine WM.mono_skip rfl ?_
        apply Exists.intro
        refine ⟨by simp only [Act.put, List.setIfInBounds_toArray, List.set_cons_succ, List.set_cons_zero]; rfl, ?_⟩
        refine WM.mono_skip rfl ?_
        apply Exists.intro
        refine ⟨by simp only [Act.put, List.setIfInBounds_toArray, List.set_cons_succ, List.set_cons_zero]; rfl, ?_⟩
        refine WM.mono_skip rfl ?_
        apply Exists.intro
        refine ⟨by simp only [Act.put, List.setIfInBounds_toArray, List.set_cons_succ, List.set_cons_zero]; rfl, ?_⟩
        refine WM.mono_skip rfl ?_
        apply Exists.intro
        refine ⟨by simp only [Act.put, List.setIfInBounds_toArray, List.set_cons_succ, List.set_cons_zero]; rfl, ?_⟩
        refine WM.mono_skip rfl ?_
        apply Exists.intro
        refine ⟨by simp only [Act.put, List.setIfInBounds_toArray, List.set_cons_succ, List.set_cons_zero]; rfl, ?_⟩
        refine WM.mono_skip rfl ?_
        apply Exists.intro
        refine ⟨by simp only [Act.put, List.setIfInBounds_toArray, List.set_cons_succ, List.set_cons_zero]; rfl, ?_⟩
        refine WM.mono_pure rfl rfl ?_
        refine ⟨.bool true, fun x => ?_, ?_⟩
        · go_simp
        apply Exists.intro
        refine ⟨by simp only [Act.put, List.setIfInBounds_toArray, List.set_cons_succ, List.set_cons_zero]; rfl, ?_⟩
        refine WM.mono_pure rfl rfl ?_
        refine ⟨.bool true, fun x => ?_, ?_⟩
        · go_simp
        apply Exists.intro
        refine ⟨by simp only [Act.put, List.setIfInBounds_toArray, List.set_cons_succ, List.set_cons_zero]; rfl, ?_⟩
        refine WM.mono_skip rfl ?_
        apply Exists.intro
        refine ⟨by simp only [Act.put, List.setIfInBounds_toArray, List.set_cons_succ, List.set_cons_zero]; rfl, ?_⟩
        refine WM.mono_skip rfl ?_
        apply Exists.intro
        refine ⟨by simp only [Act.put, List.setIfInBounds_toArray, List.set_cons_succ, List.set_cons_zero]; rfl, ?_⟩
        refine WM.mono_skip rfl ?_
        apply Exists.intro
        refine ⟨by simp only [Act.put, List.setIfInBounds_toArray, List.set_cons_succ, List.set_cons_zero]; rfl, ?_⟩
        refine WM.mono_skip rfl ?_
        apply Exists.intro
        refine ⟨by simp only [Act.put, List.setIfInBounds_toArray, List.set_cons_succ, List.set_cons_zero]; rfl, ?_⟩
        refine WM.mono_skip rfl ?_
        apply Exists.intro
        refine ⟨by simp only [Act.put, List.setIfInBounds_toArray, List.set_cons_succ, List.set_cons_zero]; rfl, ?_⟩
        refine WM.mono_skip rfl ?_
        apply Exists.intro
        refine ⟨by simp only [Act.put, List.setIfInBounds_toArray, List.set_cons_succ, List.set_cons_zero]; rfl, ?_⟩
        refine WM.mono_pure rfl rfl ?_
        refine ⟨.bool true, fun x => ?_, ?_⟩
        · go_simp
        apply Exists.intro
        refine ⟨by simp only [Act.put, List.setIfInBounds_toArray, List.set_cons_succ, List.set_cons_zero]; rfl, ?_⟩
        refine WM.mono_pure rfl rfl ?_
        refine ⟨.bool true, fun x => ?_, ?_⟩
        · go_simp
        apply Exists.intro
        refine ⟨by simp only [Act.put, List.setIfInBounds_toArray, List.set_cons_succ, List.set_cons_zero]; rfl, ?_⟩
        refine WM.mono_skip rfl ?_
        apply Exists.intro
        refine ⟨by simp only [Act.put, List.setIfInBounds_toArray, List.set_cons_succ, List.set_cons_zero]; rfl, ?_⟩
        refine WM.mono_skip rfl ?_
        apply Exists.intro
        refine ⟨by simp only [Act.put, List.setIfInBounds_toArray, List.set_cons_succ, List.set_cons_zero]; rfl, ?_⟩
        refine WM.mono_skip rfl ?_
        apply Exists.intro
        refine ⟨by simp only [Act.put, List.setIfInBounds_toArray, List.set_cons_succ, List.set_cons_zero]; rfl, ?_⟩
        refine WM.mono_skip rfl ?_
        apply Exists.intro
        refine ⟨by simp only [Act.put, List.setIfInBounds_toArray, List.set_cons_succ, List.set_cons_zero]; rfl, ?_⟩
        refine WM.mono_skip rfl ?_
        apply Exists.intro
        refine ⟨by simp only [Act.put, List.setIfInBounds_toArray, List.set_cons_succ, List.set_cons_zero]; rfl, ?_⟩
        refine WM.mono_skip rfl ?_
        apply Exists.intro
        refine ⟨by simp only [Act.put, List.setIfInBounds_toArray, List.set_cons_succ, List.set_cons_zero]; rfl, ?_⟩
        refine WM.mono_skip rfl ?_
        apply Exists.intro
        refine ⟨by simp only [Act.put, List.setIfInBounds_toArray, List.set_cons_succ, List.set_cons_zero]; rfl, ?_⟩
        refine WM.mono_skip rfl ?_
        apply Exists.intro
        refine ⟨by simp only [Act.put, List.setIfInBounds_toArray, List.set_cons_succ, List.set_cons_zero]; rfl, ?_⟩
        refine WM.mono_skip rfl ?_
        apply Exists.intro
        refine ⟨by simp only [Act.put, List.setIfInBounds_toArray, List.set_cons_succ, List.set_cons_zero]; rfl, ?_⟩
        refine WM.mono_skip rfl ?_
        apply Exists.intro
        refine ⟨by simp only [Act.put, List.setIfInBounds_toArray, List.set_cons_succ, List.set_cons_zero]; rfl, ?_⟩
        refine WM.mono_skip rfl ?_
        apply Exists.intro
        refine ⟨by simp only [Act.put, List.setIfInBounds_toArray, List.set_cons_succ, List.set_cons_zero]; rfl, ?_⟩
        refine WM.mono_skip rfl ?_
        apply Exists.intro
        refine ⟨by simp only [Act.put, List.setIfInBounds_toArray, List.set_cons_succ, List.set_cons_zero]; rfl, ?_⟩
        refine WM.mono_skip rfl ?_
        apply Exists.intro
        refine ⟨by simp only [Act.put, List.setIfInBounds_toArray, List.set_cons_succ, List.set_cons_zero]; rfl, ?_⟩
        refine WM.mono_skip rfl ?_
        apply Exists.intro
        refine ⟨by simp only [Act.put, List.setIfInBounds_toArray, List.set_cons_succ, List.set_cons_zero]; rfl, ?_⟩
        refine WM.mono_skip rfl ?_
        apply Exists.intro
        refine ⟨by simp only [Act.put, List.setIfInBounds_toArray, List.set_cons_succ, List.set_cons_zero]; rfl, ?_⟩
        refine WM.mono_skip rfl ?_
        apply Exists.intro
        refine ⟨by simp only [Act.put, List.setIfInBounds_toArray, List.set_cons_succ, List.set_cons_zero]; rfl, ?_⟩
        refine WM.mono_skip rfl ?_
        apply Exists.intro
        refine ⟨by simp only [Act.put, List.setIfInBounds_toArray, List.set_cons_succ, List.set_cons_zero]; rfl, ?_⟩
        refine WM.mono_skip rfl ?_
        apply Exists.intro
        refine ⟨by simp only [Act.put, List.setIfInBounds_toArray, List.set_cons_succ, List.set_cons_zero]; rfl, ?_⟩
        refine WM.mono_skip rfl ?_
        apply Exists.intro
        refine ⟨by simp only [Act.put, List.setIfInBounds_toArray, List.set_cons_succ, List.set_cons_zero]; rfl, ?_⟩
        refine WM.mono_skip rfl ?_
        apply Exists.intro
        refine ⟨by simp only [Act.put, List.setIfInBounds_toArray, List.set_cons_succ, List.set_cons_zero]; rfl, ?_⟩
        refine WM.mono_skip rfl ?_
        apply Exists.intro
        refine ⟨by simp only [Act.put, List.setIfInBounds_toArray, List.set_cons_succ, List.set_cons_zero]; rfl, ?_⟩
        refine WM.mono_skip rfl ?_
        apply Exists.intro
        refine ⟨by simp only [Act.put, List.setIfInBounds_toArray, List.set_cons_succ, List.set_cons_zero]; rfl, ?_⟩
        refine WM.mono_pure rfl rfl ?_
        refine ⟨.bool true, fun x => ?_, ?_⟩
        · go_simp
        apply Exists.intro
        refine ⟨by simp only [Act.put, List.setIfInBounds_toArray, List.set_cons_succ, List.set_cons_zero]; rfl, ?_⟩
        refine WM.mono_pure rfl rfl ?_
        refine ⟨.bool true, fun x => ?_, ?_⟩
        · go_simp
        apply Exists.intro
        refine ⟨by simp only [Act.put, List.setIfInBounds_toArray, List.set_cons_succ, List.set_cons_zero]; rfl, ?_⟩
        refine WM.mono_skip rfl ?_
        apply Exists.intro
        refine ⟨by simp only [Act.put, List.setIfInBounds_toArray, List.set_cons_succ, List.set_cons_zero]; rfl, ?_⟩
        refine WM.mono_skip rfl ?_
        apply Exists.intro
        refine ⟨by simp only [Act.put, List.setIfInBounds_toArray, List.set_cons_succ, List.set_cons_zero]; rfl, ?_⟩
        refine WM.mono_skip rfl ?_
        apply Exists.intro
        refine ⟨by simp only [Act.put, List.setIfInBounds_toArray, List.set_cons_succ, List.set_cons_zero]; rfl, ?_⟩
        refine WM.mono_skip rfl ?_
        apply Exists.intro
        refine ⟨by simp only [Act.put, List.setIfInBounds_toArray, List.set_cons_succ, List.set_cons_zero]; rfl, ?_⟩
        refine WM.mono_skip rfl ?_
        apply Exists.intro
        refine ⟨by simp only [Act.put, List.setIfInBounds_toArray, List.set_cons_succ, List.set_cons_zero]; rfl, ?_⟩
        refine WM.mono_skip rfl ?_
        apply Exists.intro
        refine ⟨by simp only [Act.put, List.setIfInBounds_toArray, List.set_cons_succ, List.set_cons_zero]; rfl, ?_⟩
        refine WM.mono_skip rfl ?_
        apply Exists.intro
        refine ⟨by simp only [Act.put, List.setIfInBounds_toArray, List.set_cons_succ, List.set_cons_zero]; rfl, ?_⟩
        refine WM.mono_skip rfl ?_
        apply Exists.intro
        refine ⟨by simp only [Act.put, List.setIfInBounds_toArray, List.set_cons_succ, List.set_cons_zero]; rfl, ?_⟩
        refine WM.mono_skip rfl ?_
        apply Exists.intro
        refine ⟨by simp only [Act.put, List.setIfInBounds_toArray, List.set_cons_succ, List.set_cons_zero]; rfl, ?_⟩
        refine WM.mono_skip rfl ?_
        apply Exists.intro
        refine ⟨by simp only [Act.put, List.setIfInBounds_toArray, List.set_cons_succ, List.set_cons_zero]; rfl, ?_⟩
        refine WM.mono_skip rfl ?_
        apply Exists.intro
        refine ⟨by simp only [Act.put, List.setIfInBounds_toArray, List.set_cons_succ, List.set_cons_zero]; rfl, ?_⟩
        refine WM.mono_skip rfl ?_
        apply Exists.intro
        refine ⟨by simp only [Act.put, List.setIfInBounds_toArray, List.set_cons_succ, List.set_cons_zero]; rfl, ?_⟩
        refine WM.mono_skip rfl ?_
        apply Exists.intro
        refine ⟨by simp only [Act.put, List.setIfInBounds_toArray, List.set_cons_succ, List.set_cons_zero]; rfl, ?_⟩
        refine WM.mono_skip rfl ?_
        apply Exists.intro
        refine ⟨by simp only [Act.put, List.setIfInBounds_toArray, List.set_cons_succ, List.set_cons_zero]; rfl, ?_⟩
        refine WM.mono_skip rfl ?_
        apply Exists.intro
        refine ⟨by simp only [Act.put, List.setIfInBounds_toArray, List.set_cons_succ, List.set_cons_zero]; rfl, ?_⟩
        refine WM.mono_skip rfl ?_
        apply Exists.intro
        refine ⟨by simp only [Act.put, List.setIfInBounds_toArray, List.set_cons_succ, List.set_cons_zero]; rfl, ?_⟩
        refine WM.mono_skip rfl ?_
        apply Exists.intro
        refine ⟨by simp only [Act.put, List.setIfInBounds_toArray, List.set_cons_succ, List.set_cons_zero]; rfl, ?_⟩
        refine WM.mono_skip rfl ?_
        apply Exists.intro
        refine ⟨by simp only [Act.put, List.setIfInBounds_toArray, List.set_cons_succ, List.set_cons_zero]; rfl, ?_⟩
        refine WM.mono_skip rfl ?_
        apply Exists.intro
        refine ⟨by simp only [Act.put, List.setIfInBounds_toArray, List.set_cons_succ, List.set_cons_zero]; rfl, ?_⟩
        refine WM.mono_skip rfl ?_
        apply Exists.intro
        refine ⟨by simp only [Act.put, List.setIfInBounds_toArray, List.set_cons_succ, List.set_cons_zero]; rfl, ?_⟩
        refine WM.mono_pure rfl rfl ?_
        refine ⟨.bool true, fun x => ?_, ?_⟩
        · go_simp
        apply Exists.intro
        refine ⟨by simp only [Act.put, List.setIfInBounds_toArray, List.set_cons_succ, List.set_cons_zero]; rfl, ?_⟩
        refine WM.mono_nil ?_
        intro w1 hD hF
        have HI1 := Lib.hid hD.li
        have hr1 : Hid (rangeA w1 b (o + i * 45) (P i).C) := Lib.hid hD.c
        clear hD hF
        go_simp
        go_wp2_with fail
        refine (alive_any w1).mono ?_
        rintro e w2 ⟨rfl, hb2⟩
        have HB2 := Lib.hid (HI1.out.below.trans (hb2.mono HI1.out.below.size))
        clear hb2
        go_wp2_with fail
        go_ret
        exact ⟨rfl, HB2.out⟩
      by_cases hg : 500 < (P i).ts.length
      · have hgd : decide (500 < (P i).ts.length) = true := decide_eq_true hg
        refine WM.wp_region_kinds (fun _ x y => Below x.heap.size x y) (fun _ x => L5 w (allB P i) b (o + i * 45) (P i).C x) (fun x => L5 w (allB P i) b (o + i * 45) (P i).C x)
          [(7, .val (.agg (P i).C) fun _ => True), (8, .val (.bool true) fun _ => True)] (by kernel_rfl) HLX.out (fun _ _ _ hb h => L5.then_ h hb) (fun _ _ _ _ _ hb h => L5.then_ h hb) ?_ HID.out (fun _ => HID.out) ?_
        · intro z hz
          simp only [List.mem_cons, List.mem_nil_iff, or_false] at hz
          rcases hz with rfl | rfl <;> exact fun _ _ _ _ _ _ => trivial
        iterate 2
          refine WM.mono_pure rfl rfl ?_
          apply Exists.intro
          refine ⟨fun x => ?_, ?_⟩
          · go_simp
            rfl
          apply Exists.intro
          refine ⟨by simp only [Act.put, List.setIfInBounds_toArray, List.set_cons_succ, List.set_cons_zero]; rfl, ?_⟩
        refine WM.mono_pure rfl rfl ?_
        refine ⟨.bool false, fun x => ?_, ?_⟩
        · go_simp
        apply Exists.intro
        refine ⟨by simp only [Act.put, List.setIfInBounds_toArray, List.set_cons_succ, List.set_cons_zero]; rfl, ?_⟩
        refine WM.mono_pure rfl rfl ?_
        refine ⟨.bool false, fun x => ?_, ?_⟩
        · go_simp
        apply Exists.intro
        refine ⟨by simp only [Act.put, List.setIfInBounds_toArray, List.set_cons_succ, List.set_cons_zero]; rfl, ?_⟩
        iterate 3
          refine WM.mono_pure rfl rfl ?_
          apply Exists.intro
          refine ⟨fun x => ?_, ?_⟩
          · go_simp
            rfl
          apply Exists.intro
          refine ⟨by simp only [Act.put, List.setIfInBounds_toArray, List.set_cons_succ, List.set_cons_zero]; rfl, ?_⟩
        refine WM.mono_val rfl rfl (fun x hD hF => ?_) ?_
        · have hl := run_loadVar_arr (P := Try.prog) x b (o + i * 45) 34 (P i).C _ hD.c Try.underlying34 rfl s34.out
          rw [exec_load_b 34 (.tmp 29) rfl b (o + i * 45) rfl hl]
          exact ⟨Below.refl _ _, rfl, trivial⟩
        apply Exists.intro
        refine ⟨by simp only [Act.put, List.setIfInBounds_toArray, List.set_cons_succ, List.set_cons_zero]; rfl, ?_⟩
        refine WM.mono_val rfl rfl (fun x hD hF => ?_) ?_
        · go_simp
          refine (great_any (P i).C x HCE.out HLE.out).mono ?_
          rintro e y ⟨rfl, hgr⟩
          exact ⟨_, rfl, hgr, by rw [hgd]⟩
        apply Exists.intro
        refine ⟨by simp only [Act.put, List.setIfInBounds_toArray, List.set_cons_succ, List.set_cons_zero]; rfl, ?_⟩
        refine WM.mono_pure rfl rfl ?_
        refine ⟨.bool true, fun x => ?_, ?_⟩
        · go_simp
        apply Exists.intro
        refine ⟨by simp only [Act.put, List.setIfInBounds_toArray, List.set_cons_succ, List.set_cons_zero]; rfl, ?_⟩
        refine WM.mono_pure rfl rfl ?_
        refine ⟨.bool true, fun x => ?_, ?_⟩
        · go_simp
        apply Exists.intro
        refine ⟨by simp only [Act.put, List.setIfInBounds_toArray, List.set_cons_succ, List.set_cons_zero]; rfl, ?_⟩
        refine WM.mono_skip rfl ?_
        apply Exists.intro
        refine ⟨by simp only [Act.put, List.setIfInBounds_toArray, List.set_cons_succ, List.set_cons_zero]; rfl, ?_⟩
        refine WM.mono_skip rfl ?_
        apply Exists.intro
        refine ⟨by simp only [Act.put, List.setIfInBounds_toArray, List.set_cons_succ, List.set_cons_zero]; rfl, ?_⟩
        refine WM.mono_skip rfl ?_
        apply Exists.intro
        refine ⟨by simp only [Act.put, List.setIfInBounds_toArray, List.set_cons_succ, List.set_cons_zero]; rfl, ?_⟩
        refine WM.mono_skip rfl ?_
        apply Exists.intro
        refine ⟨by simp only [Act.put, List.setIfInBounds_toArray, List.set_cons_succ, List.set_cons_zero]; rfl, ?_⟩
        refine WM.mono_skip rfl ?_
        apply Exists.intro
        refine ⟨by simp only [Act.put, List.setIfInBounds_toArray, List.set_cons_succ, List.set_cons_zero]; rfl, ?_⟩
        refine WM.mono_skip rfl ?_
        apply Exists.intro
        refine ⟨by simp only [Act.put, List.setIfInBounds_toArray, List.set_cons_succ, List.set_cons_zero]; rfl, ?_⟩
        refine WM.mono_pure rfl rfl ?_
        refine ⟨.bool true, fun x => ?_, ?_⟩
        · go_simp
        apply Exists.intro
        refine ⟨by simp only [Act.put, List.setIfInBounds_toArray, List.set_cons_succ, List.set_cons_zero]; rfl, ?_⟩
        refine WM.mono_pure rfl rfl ?_
        refine ⟨.bool true, fun x => ?_, ?_⟩
        · go_simp
        apply Exists.intro
        refine ⟨by simp only [Act.put, List.setIfInBounds_toArray, List.set_cons_succ, List.set_cons_zero]; rfl, ?_⟩
        refine WM.mono_skip rfl ?_
        apply Exists.intro
        refine ⟨by simp only [Act.put, List.setIfInBounds_toArray, List.set_cons_succ, List.set_cons_zero]; rfl, ?_⟩
        refine WM.mono_skip rfl ?_
        apply Exists.intro
        refine ⟨by simp only [Act.put, List.setIfInBounds_toArray, List.set_cons_succ, List.set_cons_zero]; rfl, ?_⟩
        refine WM.mono_skip rfl ?_
        apply Exists.intro
        refine ⟨by simp only [Act.put, List.setIfInBounds_toArray, List.set_cons_succ, List.set_cons_zero]; rfl, ?_⟩
        refine WM.mono_skip rfl ?_
        apply Exists.intro
        refine ⟨by simp only [Act.put, List.setIfInBounds_toArray, List.set_cons_succ, List.set_cons_zero]; rfl, ?_⟩
        refine WM.mono_skip rfl ?_
        apply Exists.intro
        refine ⟨by simp only [Act.put, List.setIfInBounds_toArray, List.set_cons_succ, List.set_cons_zero]; rfl, ?_⟩
        refine WM.mono_skip rfl ?_
        apply Exists.intro
        refine ⟨by simp only [Act.put, List.setIfInBounds_toArray, List.set_cons_succ, List.set_cons_zero]; rfl, ?_⟩
        refine WM.mono_pure rfl rfl ?_
        refine ⟨.bool true, fun x => ?_, ?_⟩
        · go_simp
        apply Exists.intro
        refine ⟨by simp only [Act.put, List.setIfInBounds_toArray, List.set_cons_succ, List.set_cons_zero]; rfl, ?_⟩
        refine WM.mono_pure rfl rfl ?_
        refine ⟨.bool true, fun x => ?_, ?_⟩
        · go_simp
        apply Exists.intro
        refine ⟨by simp only [Act.put, List.setIfInBounds_toArray, List.set_cons_succ, List.set_cons_zero]; rfl, ?_⟩
        refine WM.mono_skip rfl ?_
        apply Exists.intro
        refine ⟨by simp only [Act.put, List.setIfInBounds_toArray, List.set_cons_succ, List.set_cons_zero]; rfl, ?_⟩
        refine WM.mono_skip rfl ?_
        apply Exists.intro
        refine ⟨by simp only [Act.put, List.setIfInBounds_toArray, List.set_cons_succ, List.set_cons_zero]; rfl, ?_⟩
        refine WM.mono_skip rfl ?_
        apply Exists.intro
        refine ⟨by simp only [Act.put, List.setIfInBounds_toArray, List.set_cons_succ, List.set_cons_zero]; rfl, ?_⟩
        refine WM.mono_skip rfl ?_
        apply Exists.intro
        refine ⟨by simp only [Act.put, List.setIfInBounds_toArray, List.set_cons_succ, List.set_cons_zero]; rfl, ?_⟩
        refine WM.mono_skip rfl ?_
        apply Exists.intro
        refine ⟨by simp only [Act.put, List.setIfInBounds_toArray, List.set_cons_succ, List.set_cons_zero]; rfl, ?_⟩
        refine WM.mono_skip rfl ?_
        apply Exists.intro
        refine ⟨by simp only [Act.put, List.setIfInBounds_toArray, List.set_cons_succ, List.set_cons_zero]; rfl, ?_⟩
        refine WM.mono_skip rfl ?_
        apply Exists.intro
        refine ⟨by simp only [Act.put, List.setIfInBounds_toArray, List.set_cons_succ, List.set_cons_zero]; rfl, ?_⟩
        refine WM.mono_skip rfl ?_
        apply Exists.intro
        refine ⟨by simp only [Act.put, List.setIfInBounds_toArray, List.set_cons_succ, List.set_cons_zero]; rfl, ?_⟩
        refine WM.mono_skip rfl ?_
        apply Exists.intro
        refine ⟨by simp only [Act.put, List.setIfInBounds_toArray, List.set_cons_succ, List.set_cons_zero]; rfl, ?_⟩
        refine WM.mono_skip rfl ?_
        apply Exists.intro
        refine ⟨by simp only [Act.put, List.setIfInBounds_toArray, List.set_cons_succ, List.set_cons_zero]; rfl, ?_⟩
        refine WM.mono_skip rfl ?_
        apply Exists.intro
        refine ⟨by simp only [Act.put, List.setIfInBounds_toArray, List.set_cons_succ, List.set_cons_zero]; rfl, ?_⟩
        refine WM.mono_skip rfl ?_
        apply Exists.intro
        refine ⟨by simp only [Act.put, List.setIfInBounds_toArray, List.set_cons_succ, List.set_cons_zero]; rfl, ?_⟩
        refine WM.mono_skip rfl ?_
        apply Exists.intro
        refine ⟨by simp only [Act.put, List.setIfInBounds_toArray, List.set_cons_succ, List.set_cons_zero]; rfl, ?_⟩
        refine WM.mono_skip rfl ?_
        apply Exists.intro
        refine ⟨by simp only [Act.put, List.setIfInBounds_toArray, List.set_cons_succ, List.set_cons_zero]; rfl, ?_⟩
        refine WM.mono_skip rfl ?_
        apply Exists.intro
        refine ⟨by simp only [Act.put, List.setIfInBounds_toArray, List.set_cons_succ, List.set_cons_zero]; rfl, ?_⟩
        refine WM.mono_skip rfl ?_
        apply Exists.intro
        refine ⟨by simp only [Act.put, List.setIfInBounds_toArray, List.set_cons_succ, List.set_cons_zero]; rfl, ?_⟩
        refine WM.mono_skip rfl ?_
        apply Exists.intro
        refine ⟨by simp only [Act.put, List.setIfInBounds_toArray, List.set_cons_succ, List.set_cons_zero]; rfl, ?_⟩
        refine WM.mono_skip rfl ?_
        apply Exists.intro
        refine ⟨by simp only [Act.put, List.setIfInBounds_toArray, List.set_cons_succ, List.set_cons_zero]; rfl, ?_⟩
        refine WM.mono_skip rfl ?_
        apply Exists.intro
        refine ⟨by simp only [Act.put, List.setIfInBounds_toArray, List.set_cons_succ, List.set_cons_zero]; rfl, ?_⟩
        refine WM.mono_skip rfl ?_
        apply Exists.intro
        refine ⟨by simp only [Act.put, List.setIfInBounds_toArray, List.set_cons_succ, List.set_cons_zero]; rfl, ?_⟩
        refine WM.mono_skip rfl ?_
        apply Exists.intro
        refine ⟨by simp only [Act.put, List.setIfInBounds_toArray, List.set_cons_succ, List.set_cons_zero]; rfl, ?_⟩
        refine WM.mono_skip rfl ?_
        apply Exists.intro
        refine ⟨by simp only [Act.put, List.setIfInBounds_toArray, List.set_cons_succ, List.set_cons_zero]; rfl, ?_⟩
        refine WM.mono_pure rfl rfl ?_
        refine ⟨.bool true, fun x => ?_, ?_⟩
        · go_simp
        apply Exists.intro
        refine ⟨by simp only [Act.put, List.setIfInBounds_toArray, List.set_cons_succ, List.set_cons_zero]; rfl, ?_⟩
        refine WM.mono_pure rfl rfl ?_
        refine ⟨.bool true, fun x => ?_, ?_⟩
        · go_simp
        apply Exists.intro
        refine ⟨by simp only [Act.put, List.setIfInBounds_toArray, List.set_cons_succ, List.set_cons_zero]; rfl, ?_⟩
        refine WM.mono_skip rfl ?_
        apply Exists.intro
        refine ⟨by simp only [Act.put, List.setIfInBounds_toArray, List.set_cons_succ, List.set_cons_zero]; rfl, ?_⟩
        refine WM.mono_skip rfl ?_
        apply Exists.intro
        refine ⟨by simp only [Act.put, List.setIfInBounds_toArray, List.set_cons_succ, List.set_cons_zero]; rfl, ?_⟩
        refine WM.mono_skip rfl ?_
        apply Exists.intro
        refine ⟨by simp only [Act.put, List.setIfInBounds_toArray, List.set_cons_succ, List.set_cons_zero]; rfl, ?_⟩
        refine WM.mono_skip rfl ?_
        apply Exists.intro
        refine ⟨by simp only [Act.put, List.setIfInBounds_toArray, List.set_cons_succ, List.set_cons_zero]; rfl, ?_⟩
        refine WM.mono_skip rfl ?_
        apply Exists.intro
        refine ⟨by simp only [Act.put, List.setIfInBounds_toArray, List.set_cons_succ, List.set_cons_zero]; rfl, ?_⟩
        refine WM.mono_skip rfl ?_
        apply Exists.intro
        refine ⟨by simp only [Act.put, List.setIfInBounds_toArray, List.set_cons_succ, List.set_cons_zero]; rfl, ?_⟩
        refine WM.mono_skip rfl ?_
        apply Exists.intro
        refine ⟨by simp only [Act.put, List.setIfInBounds_toArray, List.set_cons_succ, List.set_cons_zero]; rfl, ?_⟩
        refine WM.mono_skip rfl ?_
        apply Exists.intro
        refine ⟨by simp only [Act.put, List.setIfInBounds_toArray, List.set_cons_succ, List.set_cons_zero]; rfl, ?_⟩
        refine WM.mono_skip rfl ?_
        apply Exists.intro
        refine ⟨by simp only [Act.put, List.setIfInBounds_toArray, List.set_cons_succ, List.set_cons_zero]; rfl, ?_⟩
        refine WM.mono_skip rfl ?_
        apply Exists.intro
        refine ⟨by simp only [Act.put, List.setIfInBounds_toArray, List.set_cons_succ, List.set_cons_zero]; rfl, ?_⟩
        refine WM.mono_skip rfl ?_
        apply Exists.intro
        refine ⟨by simp only [Act.put, List.setIfInBounds_toArray, List.set_cons_succ, List.set_cons_zero]; rfl, ?_⟩
        refine WM.mono_skip rfl ?_
        apply Exists.intro
        refine ⟨by simp only [Act.put, List.setIfInBounds_toArray, List.set_cons_succ, List.set_cons_zero]; rfl, ?_⟩
        refine WM.mono_skip rfl ?_
        apply Exists.intro
        refine ⟨by simp only [Act.put, List.setIfInBounds_toArray, List.set_cons_succ, List.set_cons_zero]; rfl, ?_⟩
        refine WM.mono_skip rfl ?_
        apply Exists.intro
        refine ⟨by simp only [Act.put, List.setIfInBounds_toArray, List.set_cons_succ, List.set_cons_zero]; rfl, ?_⟩
        refine WM.mono_skip rfl ?_
        apply Exists.intro
        refine ⟨by simp only [Act.put, List.setIfInBounds_toArray, List.set_cons_succ, List.set_cons_zero]; rfl, ?_⟩
        refine WM.mono_skip rfl ?_
        apply Exists.intro
        refine ⟨by simp only [Act.put, List.setIfInBounds_toArray, List.set_cons_succ, List.set_cons_zero]; rfl, ?_⟩
        refine WM.mono_skip rfl ?_
        apply Exists.intro
        refine ⟨by simp only [Act.put, List.setIfInBounds_toArray, List.set_cons_succ, List.set_cons_zero]; rfl, ?_⟩
        refine WM.mono_skip rfl ?_
        apply Exists.intro
        refine ⟨by simp only [Act.put, List.setIfInBounds_toArray, List.set_cons_succ, List.set_cons_zero]; rfl, ?_⟩
        refine WM.mono_skip rfl ?_
        apply Exists.intro
        refine ⟨by simp only [Act.put, List.setIfInBounds_toArray, List.set_cons_succ, List.set_cons_zero]; rfl, ?_⟩
        refine WM.mono_skip rfl ?_
        apply Exists.intro
        refine ⟨by simp only [Act.put, List.setIfInBounds_toArray, List.set_cons_succ, List.set_cons_zero]; rfl, ?_⟩
        refine WM.mono_pure rfl rfl ?_
        refine ⟨.bool true, fun x => ?_, ?_⟩
        · go_simp
        apply Exists.intro
        refine ⟨by simp only [Act.put, List.setIfInBounds_toArray, List.set_cons_succ, List.set_cons_zero]; rfl, ?_⟩
        refine WM.mono_nil ?_
        intro w1 hD hF
        have HI1 := Lib.hid hD.li
        have hr1 : Hid (rangeA w1 b (o + i * 45) (P i).C) := Lib.hid hD.c
        clear hD hF
        go_simp
        go_wp2_with fail
        refine (alive_any w1).mono ?_
        rintro e w2 ⟨rfl, hb2⟩
        have HB2 := Lib.hid (HI1.out.below.trans (hb2.mono HI1.out.below.size))
        clear hb2
        go_wp2_with fail
        go_ret
        exact ⟨rfl, HB2.out⟩
      have hgd : decide (500 < (P i).ts.length) = false := decide_eq_false hg
      by_cases h4 : 4 < (P i).k
      · refine WM.wp_region_kinds (fun _ x y => Below x.heap.size x y) (fun _ x => L5 w (allB P i) b (o + i * 45) (P i).C x) (fun x => L5 w (allB P i) b (o + i * 45) (P i).C x)
          [(7, .val (.agg (P i).C) fun _ => True), (8, .val (.bool false) fun _ => True), (15, .val (.int .i64 (P i).k) fun _ => True)] (by kernel_rfl) HLX.out (fun _ _ _ hb h => L5.then_ h hb) (fun _ _ _ _ _ hb h => L5.then_ h hb) ?_ HID.out (fun _ => HID.out) ?_
        · intro z hz
          simp only [List.mem_cons, List.mem_nil_iff, or_false] at hz
          rcases hz with rfl | rfl | rfl <;> exact fun _ _ _ _ _ _ => trivial
        iterate 2
          refine WM.mono_pure rfl rfl ?_
          apply Exists.intro
          refine ⟨fun x => ?_, ?_⟩
          · go_simp
            rfl
          apply Exists.intro
          refine ⟨by simp only [Act.put, List.setIfInBounds_toArray, List.set_cons_succ, List.set_cons_zero]; rfl, ?_⟩
        refine WM.mono_pure rfl rfl ?_
        refine ⟨.bool false, fun x => ?_, ?_⟩
        · go_simp
        apply Exists.intro
        refine ⟨by simp only [Act.put, List.setIfInBounds_toArray, List.set_cons_succ, List.set_cons_zero]; rfl, ?_⟩
        refine WM.mono_pure rfl rfl ?_
        refine ⟨.bool false, fun x => ?_, ?_⟩
        · go_simp
        apply Exists.intro
        refine ⟨by simp only [Act.put, List.setIfInBounds_toArray, List.set_cons_succ, List.set_cons_zero]; rfl, ?_⟩
        iterate 3
          refine WM.mono_pure rfl rfl ?_
          apply Exists.intro
          refine ⟨fun x => ?_, ?_⟩
          · go_simp
            rfl
          apply Exists.intro
          refine ⟨by simp only [Act.put, List.setIfInBounds_toArray, List.set_cons_succ, List.set_cons_zero]; rfl, ?_⟩
        refine WM.mono_val rfl rfl (fun x hD hF => ?_) ?_
        · have hl := run_loadVar_arr (P := Try.prog) x b (o + i * 45) 34 (P i).C _ hD.c Try.underlying34 rfl s34.out
          rw [exec_load_b 34 (.tmp 29) rfl b (o + i * 45) rfl hl]
          exact ⟨Below.refl _ _, rfl, trivial⟩
        apply Exists.intro
        refine ⟨by simp only [Act.put, List.setIfInBounds_toArray, List.set_cons_succ, List.set_cons_zero]; rfl, ?_⟩
        refine WM.mono_val rfl rfl (fun x hD hF => ?_) ?_
        · go_simp
          refine (great_any (P i).C x HCE.out HLE.out).mono ?_
          rintro e y ⟨rfl, hgr⟩
          exact ⟨_, rfl, hgr, by rw [hgd]⟩
        apply Exists.intro
        refine ⟨by simp only [Act.put, List.setIfInBounds_toArray, List.set_cons_succ, List.set_cons_zero]; rfl, ?_⟩
        refine WM.mono_pure rfl rfl ?_
        refine ⟨.bool false, fun x => ?_, ?_⟩
        · go_simp
        apply Exists.intro
        refine ⟨by simp only [Act.put, List.setIfInBounds_toArray, List.set_cons_succ, List.set_cons_zero]; rfl, ?_⟩
        refine WM.mono_pure rfl rfl ?_
        refine ⟨.bool false, fun x => ?_, ?_⟩
        · go_simp
        apply Exists.intro
        refine ⟨by simp only [Act.put, List.setIfInBounds_toArray, List.set_cons_succ, List.set_cons_zero]; rfl, ?_⟩
        iterate 4
          refine WM.mono_pure rfl rfl ?_
          apply Exists.intro
          refine ⟨fun x => ?_, ?_⟩
          · go_simp
            rfl
          apply Exists.intro
          refine ⟨by simp only [Act.put, List.setIfInBounds_toArray, List.set_cons_succ, List.set_cons_zero]; rfl, ?_⟩
        refine WM.mono_val rfl rfl (fun x hD hF => ?_) ?_
        · have hc : x.cell? ⟨b, o + i * 45, none⟩ = some (.int .i64 (P i).k) := hD.c 0 _ HCE.out.kind
          go_simp
          exact ⟨Below.refl _ _, rfl⟩
        apply Exists.intro
        refine ⟨by simp only [Act.put, List.setIfInBounds_toArray, List.set_cons_succ, List.set_cons_zero]; rfl, ?_⟩
        refine WM.mono_pure rfl rfl ?_
        refine ⟨.bool true, fun x => ?_, ?_⟩
        · go_simp
        apply Exists.intro
        refine ⟨by simp only [Act.put, List.setIfInBounds_toArray, List.set_cons_succ, List.set_cons_zero]; rfl, ?_⟩
        refine WM.mono_pure rfl rfl ?_
        refine ⟨.bool true, fun x => ?_, ?_⟩
        · go_simp
        apply Exists.intro
        refine ⟨by simp only [Act.put, List.setIfInBounds_toArray, List.set_cons_succ, List.set_cons_zero]; rfl, ?_⟩
        refine WM.mono_pure rfl rfl ?_
        refine ⟨.bool true, fun x => ?_, ?_⟩
        · go_simp
        apply Exists.intro
        refine ⟨by simp only [Act.put, List.setIfInBounds_toArray, List.set_cons_succ, List.set_cons_zero]; rfl, ?_⟩
        refine WM.mono_skip rfl ?_
        apply Exists.intro
        refine ⟨by simp only [Act.put, List.setIfInBounds_toArray, List.set_cons_succ, List.set_cons_zero]; rfl, ?_⟩
        refine WM.mono_skip rfl ?_
        apply Exists.intro
        refine ⟨by simp only [Act.put, List.setIfInBounds_toArray, List.set_cons_succ, List.set_cons_zero]; rfl, ?_⟩
        refine WM.mono_skip rfl ?_
        apply Exists.intro
        refine ⟨by simp only [Act.put, List.setIfInBounds_toArray, List.set_cons_succ, List.set_cons_zero]; rfl, ?_⟩
        refine WM.mono_skip rfl ?_
        apply Exists.intro
        refine ⟨by simp only [Act.put, List.setIfInBounds_toArray, List.set_cons_succ, List.set_cons_zero]; rfl, ?_⟩
        refine WM.mono_skip rfl ?_
        apply Exists.intro
        refine ⟨by simp only [Act.put, List.setIfInBounds_toArray, List.set_cons_succ, List.set_cons_zero]; rfl, ?_⟩
        refine WM.mono_skip rfl ?_
        apply Exists.intro
        refine ⟨by simp only [Act.put, List.setIfInBounds_toArray, List.set_cons_succ, List.set_cons_zero]; rfl, ?_⟩
        refine WM.mono_pure rfl rfl ?_
        refine ⟨.bool true, fun x => ?_, ?_⟩
        · go_simp
        apply Exists.intro
        refine ⟨by simp only [Act.put, List.setIfInBounds_toArray, List.set_cons_succ, List.set_cons_zero]; rfl, ?_⟩
        refine WM.mono_pure rfl rfl ?_
        refine ⟨.bool true, fun x => ?_, ?_⟩
        · go_simp
        apply Exists.intro
        refine ⟨by simp only [Act.put, List.setIfInBounds_toArray, List.set_cons_succ, List.set_cons_zero]; rfl, ?_⟩
        refine WM.mono_skip rfl ?_
        apply Exists.intro
        refine ⟨by simp only [Act.put, List.setIfInBounds_toArray, List.set_cons_succ, List.set_cons_zero]; rfl, ?_⟩
        refine WM.mono_skip rfl ?_
        apply Exists.intro
        refine ⟨by simp only [Act.put, List.setIfInBounds_toArray, List.set_cons_succ, List.set_cons_zero]; rfl, ?_⟩
        refine WM.mono_skip rfl ?_
        apply Exists.intro
        refine ⟨by simp only [Act.put, List.setIfInBounds_toArray, List.set_cons_succ, List.set_cons_zero]; rfl, ?_⟩
        refine WM.mono_skip rfl ?_
        apply Exists.intro
        refine ⟨by simp only [Act.put, List.setIfInBounds_toArray, List.set_cons_succ, List.set_cons_zero]; rfl, ?_⟩
        refine WM.mono_skip rfl ?_
        apply Exists.intro
        refine ⟨by simp only [Act.put, List.setIfInBounds_toArray, List.set_cons_succ, List.set_cons_zero]; rfl, ?_⟩
        refine WM.mono_skip rfl ?_
        apply Exists.intro
        refine ⟨by simp only [Act.put, List.setIfInBounds_toArray, List.set_cons_succ, List.set_cons_zero]; rfl, ?_⟩
        refine WM.mono_skip rfl ?_
        apply Exists.intro
        refine ⟨by simp only [Act.put, List.setIfInBounds_toArray, List.set_cons_succ, List.set_cons_zero]; rfl, ?_⟩
        refine WM.mono_skip rfl ?_
        apply Exists.intro
        refine ⟨by simp only [Act.put, List.setIfInBounds_toArray, List.set_cons_succ, List.set_cons_zero]; rfl, ?_⟩
        refine WM.mono_skip rfl ?_
        apply Exists.intro
        refine ⟨by simp only [Act.put, List.setIfInBounds_toArray, List.set_cons_succ, List.set_cons_zero]; rfl, ?_⟩
        refine WM.mono_skip rfl ?_
        apply Exists.intro
        refine ⟨by simp only [Act.put, List.setIfInBounds_toArray, List.set_cons_succ, List.set_cons_zero]; rfl, ?_⟩
        refine WM.mono_skip rfl ?_
        apply Exists.intro
        refine ⟨by simp only [Act.put, List.setIfInBounds_toArray, List.set_cons_succ, List.set_cons_zero]; rfl, ?_⟩
        refine WM.mono_skip rfl ?_
        apply Exists.intro
        refine ⟨by simp only [Act.put, List.setIfInBounds_toArray, List.set_cons_succ, List.set_cons_zero]; rfl, ?_⟩
        refine WM.mono_skip rfl ?_
        apply Exists.intro
        refine ⟨by simp only [Act.put, List.setIfInBounds_toArray, List.set_cons_succ, List.set_cons_zero]; rfl, ?_⟩
        refine WM.mono_skip rfl ?_
        apply Exists.intro
        refine ⟨by simp only [Act.put, List.setIfInBounds_toArray, List.set_cons_succ, List.set_cons_zero]; rfl, ?_⟩
        refine WM.mono_skip rfl ?_
        apply Exists.intro
        refine ⟨by simp only [Act.put, List.setIfInBounds_toArray, List.set_cons_succ, List.set_cons_zero]; rfl, ?_⟩
        refine WM.mono_skip rfl ?_
        apply Exists.intro
        refine ⟨by simp only [Act.put, List.setIfInBounds_toArray, List.set_cons_succ, List.set_cons_zero]; rfl, ?_⟩
        refine WM.mono_skip rfl ?_
        apply Exists.intro
        refine ⟨by simp only [Act.put, List.setIfInBounds_toArray, List.set_cons_succ, List.set_cons_zero]; rfl, ?_⟩
        refine WM.mono_skip rfl ?_
        apply Exists.intro
        refine ⟨by simp only [Act.put, List.setIfInBounds_toArray, List.set_cons_succ, List.set_cons_zero]; rfl, ?_⟩
        refine WM.mono_skip rfl ?_
        apply Exists.intro
        refine ⟨by simp only [Act.put, List.setIfInBounds_toArray, List.set_cons_succ, List.set_cons_zero]; rfl, ?_⟩
        refine WM.mono_skip rfl ?_
        apply Exists.intro
        refine ⟨by simp only [Act.put, List.setIfInBounds_toArray, List.set_cons_succ, List.set_cons_zero]; rfl, ?_⟩
        refine WM.mono_skip rfl ?_
        apply Exists.intro
        refine ⟨by simp only [Act.put, List.setIfInBounds_toArray, List.set_cons_succ, List.set_cons_zero]; rfl, ?_⟩
        refine WM.mono_skip rfl ?_
        apply Exists.intro
        refine ⟨by simp only [Act.put, List.setIfInBounds_toArray, List.set_cons_succ, List.set_cons_zero]; rfl, ?_⟩
        refine WM.mono_pure rfl rfl ?_
        refine ⟨.bool true, fun x => ?_, ?_⟩
        · go_simp
        apply Exists.intro
        refine ⟨by simp only [Act.put, List.setIfInBounds_toArray, List.set_cons_succ, List.set_cons_zero]; rfl, ?_⟩
        refine WM.mono_pure rfl rfl ?_
        refine ⟨.bool true, fun x => ?_, ?_⟩
        · go_simp
        apply Exists.intro
        refine ⟨by simp only [Act.put, List.setIfInBounds_toArray, List.set_cons_succ, List.set_cons_zero]; rfl, ?_⟩
        refine WM.mono_skip rfl ?_
        apply Exists.intro
        refine ⟨by simp only [Act.put, List.setIfInBounds_toArray, List.set_cons_succ, List.set_cons_zero]; rfl, ?_⟩
        refine WM.mono_skip rfl ?_
        apply Exists.intro
        refine ⟨by simp only [Act.put, List.setIfInBounds_toArray, List.set_cons_succ, List.set_cons_zero]; rfl, ?_⟩
        refine WM.mono_skip rfl ?_
        apply Exists.intro
        refine ⟨by simp only [Act.put, List.setIfInBounds_toArray, List.set_cons_succ, List.set_cons_zero]; rfl, ?_⟩
        refine WM.mono_skip rfl ?_
        apply Exists.intro
        refine ⟨by simp only [Act.put, List.setIfInBounds_toArray, List.set_cons_succ, List.set_cons_zero]; rfl, ?_⟩
        refine WM.mono_skip rfl ?_
        apply Exists.intro
        refine ⟨by simp only [Act.put, List.setIfInBounds_toArray, List.set_cons_succ, List.set_cons_zero]; rfl, ?_⟩
        refine WM.mono_skip rfl ?_
        apply Exists.intro
        refine ⟨by simp only [Act.put, List.setIfInBounds_toArray, List.set_cons_succ, List.set_cons_zero]; rfl, ?_⟩
        refine WM.mono_skip rfl ?_
        apply Exists.intro
        refine ⟨by simp only [Act.put, List.setIfInBounds_toArray, List.set_cons_succ, List.set_cons_zero]; rfl, ?_⟩
        refine WM.mono_skip rfl ?_
        apply Exists.intro
        refine ⟨by simp only [Act.put, List.setIfInBounds_toArray, List.set_cons_succ, List.set_cons_zero]; rfl, ?_⟩
        refine WM.mono_skip rfl ?_
        apply Exists.intro
        refine ⟨by simp only [Act.put, List.setIfInBounds_toArray, List.set_cons_succ, List.set_cons_zero]; rfl, ?_⟩
        refine WM.mono_skip rfl ?_
        apply Exists.intro
        refine ⟨by simp only [Act.put, List.setIfInBounds_toArray, List.set_cons_succ, List.set_cons_zero]; rfl, ?_⟩
        refine WM.mono_skip rfl ?_
        apply Exists.intro
        refine ⟨by simp only [Act.put, List.setIfInBounds_toArray, List.set_cons_succ, List.set_cons_zero]; rfl, ?_⟩
        refine WM.mono_skip rfl ?_
        apply Exists.intro
        refine ⟨by simp only [Act.put, List.setIfInBounds_toArray, List.set_cons_succ, List.set_cons_zero]; rfl, ?_⟩
        refine WM.mono_skip rfl ?_
        apply Exists.intro
        refine ⟨by simp only [Act.put, List.setIfInBounds_toArray, List.set_cons_succ, List.set_cons_zero]; rfl, ?_⟩
        refine WM.mono_skip rfl ?_
        apply Exists.intro
        refine ⟨by simp only [Act.put, List.setIfInBounds_toArray, List.set_cons_succ, List.set_cons_zero]; rfl, ?_⟩
        refine WM.mono_skip rfl ?_
        apply Exists.intro
        refine ⟨by simp only [Act.put, List.setIfInBounds_toArray, List.set_cons_succ, List.set_cons_zero]; rfl, ?_⟩
        refine WM.mono_skip rfl ?_
        apply Exists.intro
        refine ⟨by simp only [Act.put, List.setIfInBounds_toArray, List.set_cons_succ, List.set_cons_zero]; rfl, ?_⟩
        refine WM.mono_skip rfl ?_
        apply Exists.intro
        refine ⟨by simp only [Act.put, List.setIfInBounds_toArray, List.set_cons_succ, List.set_cons_zero]; rfl, ?_⟩
        refine WM.mono_skip rfl ?_
        apply Exists.intro
        refine ⟨by simp only [Act.put, List.setIfInBounds_toArray, List.set_cons_succ, List.set_cons_zero]; rfl, ?_⟩
        refine WM.mono_skip rfl ?_
        apply Exists.intro
        refine ⟨by simp only [Act.put, List.setIfInBounds_toArray, List.set_cons_succ, List.set_cons_zero]; rfl, ?_⟩
        refine WM.mono_skip rfl ?_
        apply Exists.intro
        refine ⟨by simp only [Act.put, List.setIfInBounds_toArray, List.set_cons_succ, List.set_cons_zero]; rfl, ?_⟩
        refine WM.mono_pure rfl rfl ?_
        refine ⟨.bool true, fun x => ?_, ?_⟩
        · go_simp
        apply Exists.intro
        refine ⟨by simp only [Act.put, List.setIfInBounds_toArray, List.set_cons_succ, List.set_cons_zero]; rfl, ?_⟩
        refine WM.mono_nil ?_
        intro w1 hD hF
        have HI1 := Lib.hid hD.li
        have hr1 : Hid (rangeA w1 b (o + i * 45) (P i).C) := Lib.hid hD.c
        clear hD hF
        go_simp
        go_wp2_with fail
        refine (alive_any w1).mono ?_
        rintro e w2 ⟨rfl, hb2⟩
        have HB2 := Lib.hid (HI1.out.below.trans (hb2.mono HI1.out.below.size))
        clear hb2
        go_wp2_with fail
        go_ret
        exact ⟨rfl, HB2.out⟩
      by_cases h0 : (P i).k < 0
      · refine WM.wp_region_kinds (fun _ x y => Below x.heap.size x y) (fun _ x => L5 w (allB P i) b (o + i * 45) (P i).C x) (fun x => L5 w (allB P i) b (o + i * 45) (P i).C x)
          [(7, .val (.agg (P i).C) fun _ => True), (8, .val (.bool false) fun _ => True), (15, .val (.int .i64 (P i).k) fun _ => True), (23, .val (.int .i64 (P i).k) fun _ => True)] (by kernel_rfl) HLX.out (fun _ _ _ hb h => L5.then_ h hb) (fun _ _ _ _ _ hb h => L5.then_ h hb) ?_ HID.out (fun _ => HID.out) ?_
        · intro z hz
          simp only [List.mem_cons, List.mem_nil_iff, or_false] at hz
          rcases hz with rfl | rfl | rfl | rfl <;> exact fun _ _ _ _ _ _ => trivial
        iterate 2
          refine WM.mono_pure rfl rfl ?_
          apply Exists.intro
          refine ⟨fun x => ?_, ?_⟩
          · go_simp
            rfl
          apply Exists.intro
          refine ⟨by simp only [Act.put, List.setIfInBounds_toArray, List.set_cons_succ, List.set_cons_zero]; rfl, ?_⟩
        refine WM.mono_pure rfl rfl ?_
        refine ⟨.bool false, fun x => ?_, ?_⟩
        · go_simp
        apply Exists.intro
        refine ⟨by simp only [Act.put, List.setIfInBounds_toArray, List.set_cons_succ, List.set_cons_zero]; rfl, ?_⟩
        refine WM.mono_pure rfl rfl ?_
        refine ⟨.bool false, fun x => ?_, ?_⟩
        · go_simp
        apply Exists.intro
        refine ⟨by simp only [Act.put, List.setIfInBounds_toArray, List.set_cons_succ, List.set_cons_zero]; rfl, ?_⟩
        iterate 3
          refine WM.mono_pure rfl rfl ?_
          apply Exists.intro
          refine ⟨fun x => ?_, ?_⟩
          · go_simp
            rfl
          apply Exists.intro
          refine ⟨by simp only [Act.put, List.setIfInBounds_toArray, List.set_cons_succ, List.set_cons_zero]; rfl, ?_⟩
        refine WM.mono_val rfl rfl (fun x hD hF => ?_) ?_
        · have hl := run_loadVar_arr (P := Try.prog) x b (o + i * 45) 34 (P i).C _ hD.c Try.underlying34 rfl s34.out
          rw [exec_load_b 34 (.tmp 29) rfl b (o + i * 45) rfl hl]
          exact ⟨Below.refl _ _, rfl, trivial⟩
        apply Exists.intro
        refine ⟨by simp only [Act.put, List.setIfInBounds_toArray, List.set_cons_succ, List.set_cons_zero]; rfl, ?_⟩
        refine WM.mono_val rfl rfl (fun x hD hF => ?_) ?_
        · go_simp
          refine (great_any (P i).C x HCE.out HLE.out).mono ?_
          rintro e y ⟨rfl, hgr⟩
          exact ⟨_, rfl, hgr, by rw [hgd]⟩
        apply Exists.intro
        refine ⟨by simp only [Act.put, List.setIfInBounds_toArray, List.set_cons_succ, List.set_cons_zero]; rfl, ?_⟩
        refine WM.mono_pure rfl rfl ?_
        refine ⟨.bool false, fun x => ?_, ?_⟩
        · go_simp
        apply Exists.intro
        refine ⟨by simp only [Act.put, List.setIfInBounds_toArray, List.set_cons_succ, List.set_cons_zero]; rfl, ?_⟩
        refine WM.mono_pure rfl rfl ?_
        refine ⟨.bool false, fun x => ?_, ?_⟩
        · go_simp
        apply Exists.intro
        refine ⟨by simp only [Act.put, List.setIfInBounds_toArray, List.set_cons_succ, List.set_cons_zero]; rfl, ?_⟩
        iterate 4
          refine WM.mono_pure rfl rfl ?_
          apply Exists.intro
          refine ⟨fun x => ?_, ?_⟩
          · go_simp
            rfl
          apply Exists.intro
          refine ⟨by simp only [Act.put, List.setIfInBounds_toArray, List.set_cons_succ, List.set_cons_zero]; rfl, ?_⟩
        refine WM.mono_val rfl rfl (fun x hD hF => ?_) ?_
        · have hc : x.cell? ⟨b, o + i * 45, none⟩ = some (.int .i64 (P i).k) := hD.c 0 _ HCE.out.kind
          go_simp
          exact ⟨Below.refl _ _, rfl⟩
        apply Exists.intro
        refine ⟨by simp only [Act.put, List.setIfInBounds_toArray, List.set_cons_succ, List.set_cons_zero]; rfl, ?_⟩
        refine WM.mono_pure rfl rfl ?_
        refine ⟨.bool false, fun x => ?_, ?_⟩
        · go_simp
        apply Exists.intro
        refine ⟨by simp only [Act.put, List.setIfInBounds_toArray, List.set_cons_succ, List.set_cons_zero]; rfl, ?_⟩
        refine WM.mono_pure rfl rfl ?_
        refine ⟨.bool false, fun x => ?_, ?_⟩
        · go_simp
        apply Exists.intro
        refine ⟨by simp only [Act.put, List.setIfInBounds_toArray, List.set_cons_succ, List.set_cons_zero]; rfl, ?_⟩
        refine WM.mono_pure rfl rfl ?_
        refine ⟨.bool false, fun x => ?_, ?_⟩
        · go_simp
        apply Exists.intro
        refine ⟨by simp only [Act.put, List.setIfInBounds_toArray, List.set_cons_succ, List.set_cons_zero]; rfl, ?_⟩
        iterate 4
          refine WM.mono_pure rfl rfl ?_
          apply Exists.intro
          refine ⟨fun x => ?_, ?_⟩
          · go_simp
            rfl
          apply Exists.intro
          refine ⟨by simp only [Act.put, List.setIfInBounds_toArray, List.set_cons_succ, List.set_cons_zero]; rfl, ?_⟩
        refine WM.mono_val rfl rfl (fun x hD hF => ?_) ?_
        · have hc : x.cell? ⟨b, o + i * 45, none⟩ = some (.int .i64 (P i).k) := hD.c 0 _ HCE.out.kind
          go_simp
          exact ⟨Below.refl _ _, rfl⟩
        apply Exists.intro
        refine ⟨by simp only [Act.put, List.setIfInBounds_toArray, List.set_cons_succ, List.set_cons_zero]; rfl, ?_⟩
        refine WM.mono_pure rfl rfl ?_
        refine ⟨.bool true, fun x => ?_, ?_⟩
        · go_simp
        apply Exists.intro
        refine ⟨by simp only [Act.put, List.setIfInBounds_toArray, List.set_cons_succ, List.set_cons_zero]; rfl, ?_⟩
        refine WM.mono_pure rfl rfl ?_
        refine ⟨.bool true, fun x => ?_, ?_⟩
        · go_simp
        apply Exists.intro
        refine ⟨by simp only [Act.put, List.setIfInBounds_toArray, List.set_cons_succ, List.set_cons_zero]; rfl, ?_⟩
        refine WM.mono_pure rfl rfl ?_
        refine ⟨.bool true, fun x => ?_, ?_⟩
        · go_simp
        apply Exists.intro
        refine ⟨by simp only [Act.put, List.setIfInBounds_toArray, List.set_cons_succ, List.set_cons_zero]; rfl, ?_⟩
        refine WM.mono_skip rfl ?_
        apply Exists.intro
        refine ⟨by simp only [Act.put, List.setIfInBounds_toArray, List.set_cons_succ, List.set_cons_zero]; rfl, ?_⟩
        refine WM.mono_skip rfl ?_
        apply Exists.intro
        refine ⟨by simp only [Act.put, List.setIfInBounds_toArray, List.set_cons_succ, List.set_cons_zero]; rfl, ?_⟩
        refine WM.mono_skip rfl ?_
        apply Exists.intro
        refine ⟨by simp only [Act.put, List.setIfInBounds_toArray, List.set_cons_succ, List.set_cons_zero]; rfl, ?_⟩
        refine WM.mono_skip rfl ?_
        apply Exists.intro
        refine ⟨by simp only [Act.put, List.setIfInBounds_toArray, List.set_cons_succ, List.set_cons_zero]; rfl, ?_⟩
        refine WM.mono_skip rfl ?_
        apply Exists.intro
        refine ⟨by simp only [Act.put, List.setIfInBounds_toArray, List.set_cons_succ, List.set_cons_zero]; rfl, ?_⟩
        refine WM.mono_skip rfl ?_
        apply Exists.intro
        refine ⟨by simp only [Act.put, List.setIfInBounds_toArray, List.set_cons_succ, List.set_cons_zero]; rfl, ?_⟩
        refine WM.mono_skip rfl ?_
        apply Exists.intro
        refine ⟨by simp only [Act.put, List.setIfInBounds_toArray, List.set_cons_succ, List.set_cons_zero]; rfl, ?_⟩
        refine WM.mono_skip rfl ?_
        apply Exists.intro
        refine ⟨by simp only [Act.put, List.setIfInBounds_toArray, List.set_cons_succ, List.set_cons_zero]; rfl, ?_⟩
        refine WM.mono_skip rfl ?_
        apply Exists.intro
        refine ⟨by simp only [Act.put, List.setIfInBounds_toArray, List.set_cons_succ, List.set_cons_zero]; rfl, ?_⟩
        refine WM.mono_skip rfl ?_
        apply Exists.intro
        refine ⟨by simp only [Act.put, List.setIfInBounds_toArray, List.set_cons_succ, List.set_cons_zero]; rfl, ?_⟩
        refine WM.mono_skip rfl ?_
        apply Exists.intro
        refine ⟨by simp only [Act.put, List.setIfInBounds_toArray, List.set_cons_succ, List.set_cons_zero]; rfl, ?_⟩
        refine WM.mono_skip rfl ?_
        apply Exists.intro
        refine ⟨by simp only [Act.put, List.setIfInBounds_toArray, List.set_cons_succ, List.set_cons_zero]; rfl, ?_⟩
        refine WM.mono_skip rfl ?_
        apply Exists.intro
        refine ⟨by simp only [Act.put, List.setIfInBounds_toArray, List.set_cons_succ, List.set_cons_zero]; rfl, ?_⟩
        refine WM.mono_skip rfl ?_
        apply Exists.intro
        refine ⟨by simp only [Act.put, List.setIfInBounds_toArray, List.set_cons_succ, List.set_cons_zero]; rfl, ?_⟩
        refine WM.mono_skip rfl ?_
        apply Exists.intro
        refine ⟨by simp only [Act.put, List.setIfInBounds_toArray, List.set_cons_succ, List.set_cons_zero]; rfl, ?_⟩
        refine WM.mono_skip rfl ?_
        apply Exists.intro
        refine ⟨by simp only [Act.put, List.setIfInBounds_toArray, List.set_cons_succ, List.set_cons_zero]; rfl, ?_⟩
        refine WM.mono_skip rfl ?_
        apply Exists.intro
        refine ⟨by simp only [Act.put, List.setIfInBounds_toArray, List.set_cons_succ, List.set_cons_zero]; rfl, ?_⟩
        refine WM.mono_skip rfl ?_
        apply Exists.intro
        refine ⟨by simp only [Act.put, List.setIfInBounds_toArray, List.set_cons_succ, List.set_cons_zero]; rfl, ?_⟩
        refine WM.mono_skip rfl ?_
        apply Exists.intro
        refine ⟨by simp only [Act.put, List.setIfInBounds_toArray, List.set_cons_succ, List.set_cons_zero]; rfl, ?_⟩
        refine WM.mono_skip rfl ?_
        apply Exists.intro
        refine ⟨by simp only [Act.put, List.setIfInBounds_toArray, List.set_cons_succ, List.set_cons_zero]; rfl, ?_⟩
        refine WM.mono_skip rfl ?_
        apply Exists.intro
        refine ⟨by simp only [Act.put, List.setIfInBounds_toArray, List.set_cons_succ, List.set_cons_zero]; rfl, ?_⟩
        refine WM.mono_skip rfl ?_
        apply Exists.intro
        refine ⟨by simp only [Act.put, List.setIfInBounds_toArray, List.set_cons_succ, List.set_cons_zero]; rfl, ?_⟩
        refine WM.mono_pure rfl rfl ?_
        refine ⟨.bool true, fun x => ?_, ?_⟩
        · go_simp
        apply Exists.intro
        refine ⟨by simp only [Act.put, List.setIfInBounds_toArray, List.set_cons_succ, List.set_cons_zero]; rfl, ?_⟩
        refine WM.mono_pure rfl rfl ?_
        refine ⟨.bool true, fun x => ?_, ?_⟩
        · go_simp
        apply Exists.intro
        refine ⟨by simp only [Act.put, List.setIfInBounds_toArray, List.set_cons_succ, List.set_cons_zero]; rfl, ?_⟩
        refine WM.mono_skip rfl ?_
        apply Exists.intro
        refine ⟨by simp only [Act.put, List.setIfInBounds_toArray, List.set_cons_succ, List.set_cons_zero]; rfl, ?_⟩
        refine WM.mono_skip rfl ?_
        apply Exists.intro
        refine ⟨by simp only [Act.put, List.setIfInBounds_toArray, List.set_cons_succ, List.set_cons_zero]; rfl, ?_⟩
        refine WM.mono_skip rfl ?_
        apply Exists.intro
        refine ⟨by simp only [Act.put, List.setIfInBounds_toArray, List.set_cons_succ, List.set_cons_zero]; rfl, ?_⟩
        refine WM.mono_skip rfl ?_
        apply Exists.intro
        refine ⟨by simp only [Act.put, List.setIfInBounds_toArray, List.set_cons_succ, List.set_cons_zero]; rfl, ?_⟩
        refine WM.mono_skip rfl ?_
        apply Exists.intro
        refine ⟨by simp only [Act.put, List.setIfInBounds_toArray, List.set_cons_succ, List.set_cons_zero]; rfl, ?_⟩
        refine WM.mono_skip rfl ?_
        apply Exists.intro
        refine ⟨by simp only [Act.put, List.setIfInBounds_toArray, List.set_cons_succ, List.set_cons_zero]; rfl, ?_⟩
        refine WM.mono_skip rfl ?_
        apply Exists.intro
        refine ⟨by simp only [Act.put, List.setIfInBounds_toArray, List.set_cons_succ, List.set_cons_zero]; rfl, ?_⟩
        refine WM.mono_skip rfl ?_
        apply Exists.intro
        refine ⟨by simp only [Act.put, List.setIfInBounds_toArray, List.set_cons_succ, List.set_cons_zero]; rfl, ?_⟩
        refine WM.mono_skip rfl ?_
        apply Exists.intro
        refine ⟨by simp only [Act.put, List.setIfInBounds_toArray, List.set_cons_succ, List.set_cons_zero]; rfl, ?_⟩
        refine WM.mono_skip rfl ?_
        apply Exists.intro
        refine ⟨by simp only [Act.put, List.setIfInBounds_toArray, List.set_cons_succ, List.set_cons_zero]; rfl, ?_⟩
        refine WM.mono_skip rfl ?_
        apply Exists.intro
        refine ⟨by simp only [Act.put, List.setIfInBounds_toArray, List.set_cons_succ, List.set_cons_zero]; rfl, ?_⟩
        refine WM.mono_skip rfl ?_
        apply Exists.intro
        refine ⟨by simp only [Act.put, List.setIfInBounds_toArray, List.set_cons_succ, List.set_cons_zero]; rfl, ?_⟩
        refine WM.mono_skip rfl ?_
        apply Exists.intro
        refine ⟨by simp only [Act.put, List.setIfInBounds_toArray, List.set_cons_succ, List.set_cons_zero]; rfl, ?_⟩
        refine WM.mono_skip rfl ?_
        apply Exists.intro
        refine ⟨by simp only [Act.put, List.setIfInBounds_toArray, List.set_cons_succ, List.set_cons_zero]; rfl, ?_⟩
        refine WM.mono_skip rfl ?_
        apply Exists.intro
        refine ⟨by simp only [Act.put, List.setIfInBounds_toArray, List.set_cons_succ, List.set_cons_zero]; rfl, ?_⟩
        refine WM.mono_skip rfl ?_
        apply Exists.intro
        refine ⟨by simp only [Act.put, List.setIfInBounds_toArray, List.set_cons_succ, List.set_cons_zero]; rfl, ?_⟩
        refine WM.mono_skip rfl ?_
        apply Exists.intro
        refine ⟨by simp only [Act.put, List.setIfInBounds_toArray, List.set_cons_succ, List.set_cons_zero]; rfl, ?_⟩
        refine WM.mono_skip rfl ?_
        apply Exists.intro
        refine ⟨by simp only [Act.put, List.setIfInBounds_toArray, List.set_cons_succ, List.set_cons_zero]; rfl, ?_⟩
        refine WM.mono_skip rfl ?_
        apply Exists.intro
        refine ⟨by simp only [Act.put, List.setIfInBounds_toArray, List.set_cons_succ, List.set_cons_zero]; rfl, ?_⟩
        refine WM.mono_skip rfl ?_
        apply Exists.intro
        refine ⟨by simp only [Act.put, List.setIfInBounds_toArray, List.set_cons_succ, List.set_cons_zero]; rfl, ?_⟩
        refine WM.mono_pure rfl rfl ?_
        refine ⟨.bool true, fun x => ?_, ?_⟩
        · go_simp
        apply Exists.intro
        refine ⟨by simp only [Act.put, List.setIfInBounds_toArray, List.set_cons_succ, List.set_cons_zero]; rfl, ?_⟩
        refine WM.mono_nil ?_
        intro w1 hD hF
        have HI1 := Lib.hid hD.li
        have hr1 : Hid (rangeA w1 b (o + i * 45) (P i).C) := Lib.hid hD.c
        clear hD hF
        go_simp
        go_wp2_with fail
        refine (alive_any w1).mono ?_
        rintro e w2 ⟨rfl, hb2⟩
        have HB2 := Lib.hid (HI1.out.below.trans (hb2.mono HI1.out.below.size))
        clear hb2
        go_wp2_with fail
        go_ret
        exact ⟨rfl, HB2.out⟩
      by_cases h1 : (P i).k = 1
      · have h2 : ¬ (P i).k = 2 := by omega
        by_cases ha : 4611686018427387904 < (P i).i
        · refine WM.wp_region_kinds (fun _ x y => Below x.heap.size x y) (fun _ x => L5 w (allB P i) b (o + i * 45) (P i).C x) (fun x => L5 w (allB P i) b (o + i * 45) (P i).C x)
            [(7, .val (.agg (P i).C) fun _ => True), (8, .val (.bool false) fun _ => True), (15, .val (.int .i64 (P i).k) fun _ => True), (23, .val (.int .i64 (P i).k) fun _ => True), (31, .val (.int .i64 (P i).k) fun _ => True), (38, .val (.int .i64 (P i).i) fun _ => True)] (by kernel_rfl) HLX.out (fun _ _ _ hb h => L5.then_ h hb) (fun _ _ _ _ _ hb h => L5.then_ h hb) ?_ HID.out (fun _ => HID.out) ?_
          · intro z hz
            simp only [List.mem_cons, List.mem_nil_iff, or_false] at hz
            rcases hz with rfl | rfl | rfl | rfl | rfl | rfl <;> exact fun _ _ _ _ _ _ => trivial
          iterate 2
            refine WM.mono_pure rfl rfl ?_
            apply Exists.intro
            refine ⟨fun x => ?_, ?_⟩
            · go_simp
              rfl
            apply Exists.intro
            refine ⟨by simp only [Act.put, List.setIfInBounds_toArray, List.set_cons_succ, List.set_cons_zero]; rfl, ?_⟩
          refine WM.mono_pure rfl rfl ?_
          refine ⟨.bool false, fun x => ?_, ?_⟩
          · go_simp
          apply Exists.intro
          refine ⟨by simp only [Act.put, List.setIfInBounds_toArray, List.set_cons_succ, List.set_cons_zero]; rfl, ?_⟩
          refine WM.mono_pure rfl rfl ?_
          refine ⟨.bool false, fun x => ?_, ?_⟩
          · go_simp
          apply Exists.intro
          refine ⟨by simp only [Act.put, List.setIfInBounds_toArray, List.set_cons_succ, List.set_cons_zero]; rfl, ?_⟩
          iterate 3
            refine WM.mono_pure rfl rfl ?_
            apply Exists.intro
            refine ⟨fun x => ?_, ?_⟩
            · go_simp
              rfl
            apply Exists.intro
            refine ⟨by simp only [Act.put, List.setIfInBounds_toArray, List.set_cons_succ, List.set_cons_zero]; rfl, ?_⟩
          refine WM.mono_val rfl rfl (fun x hD hF => ?_) ?_
          · have hl := run_loadVar_arr (P := Try.prog) x b (o + i * 45) 34 (P i).C _ hD.c Try.underlying34 rfl s34.out
            rw [exec_load_b 34 (.tmp 29) rfl b (o + i * 45) rfl hl]
            exact ⟨Below.refl _ _, rfl, trivial⟩
          apply Exists.intro
          refine ⟨by simp only [Act.put, List.setIfInBounds_toArray, List.set_cons_succ, List.set_cons_zero]; rfl, ?_⟩
          refine WM.mono_val rfl rfl (fun x hD hF => ?_) ?_
          · go_simp
            refine (great_any (P i).C x HCE.out HLE.out).mono ?_
            rintro e y ⟨rfl, hgr⟩
            exact ⟨_, rfl, hgr, by rw [hgd]⟩
          apply Exists.intro
          refine ⟨by simp only [Act.put, List.setIfInBounds_toArray, List.set_cons_succ, List.set_cons_zero]; rfl, ?_⟩
          refine WM.mono_pure rfl rfl ?_
          refine ⟨.bool false, fun x => ?_, ?_⟩
          · go_simp
          apply Exists.intro
          refine ⟨by simp only [Act.put, List.setIfInBounds_toArray, List.set_cons_succ, List.set_cons_zero]; rfl, ?_⟩
          refine WM.mono_pure rfl rfl ?_
          refine ⟨.bool false, fun x => ?_, ?_⟩
          · go_simp
          apply Exists.intro
          refine ⟨by simp only [Act.put, List.setIfInBounds_toArray, List.set_cons_succ, List.set_cons_zero]; rfl, ?_⟩
          iterate 4
            refine WM.mono_pure rfl rfl ?_
            apply Exists.intro
            refine ⟨fun x => ?_, ?_⟩
            · go_simp
              rfl
            apply Exists.intro
            refine ⟨by simp only [Act.put, List.setIfInBounds_toArray, List.set_cons_succ, List.set_cons_zero]; rfl, ?_⟩
          refine WM.mono_val rfl rfl (fun x hD hF => ?_) ?_
          · have hc : x.cell? ⟨b, o + i * 45, none⟩ = some (.int .i64 (P i).k) := hD.c 0 _ HCE.out.kind
            go_simp
            exact ⟨Below.refl _ _, rfl⟩
          apply Exists.intro
          refine ⟨by simp only [Act.put, List.setIfInBounds_toArray, List.set_cons_succ, List.set_cons_zero]; rfl, ?_⟩
          refine WM.mono_pure rfl rfl ?_
          refine ⟨.bool false, fun x => ?_, ?_⟩
          · go_simp
          apply Exists.intro
          refine ⟨by simp only [Act.put, List.setIfInBounds_toArray, List.set_cons_succ, List.set_cons_zero]; rfl, ?_⟩
          refine WM.mono_pure rfl rfl ?_
          refine ⟨.bool false, fun x => ?_, ?_⟩
          · go_simp
          apply Exists.intro
          refine ⟨by simp only [Act.put, List.setIfInBounds_toArray, List.set_cons_succ, List.set_cons_zero]; rfl, ?_⟩
          refine WM.mono_pure rfl rfl ?_
          refine ⟨.bool false, fun x => ?_, ?_⟩
          · go_simp
          apply Exists.intro
          refine ⟨by simp only [Act.put, List.setIfInBounds_toArray, List.set_cons_succ, List.set_cons_zero]; rfl, ?_⟩
          iterate 4
            refine WM.mono_pure rfl rfl ?_
            apply Exists.intro
            refine ⟨fun x => ?_, ?_⟩
            · go_simp
              rfl
            apply Exists.intro
            refine ⟨by simp only [Act.put, List.setIfInBounds_toArray, List.set_cons_succ, List.set_cons_zero]; rfl, ?_⟩
          refine WM.mono_val rfl rfl (fun x hD hF => ?_) ?_
          · have hc : x.cell? ⟨b, o + i * 45, none⟩ = some (.int .i64 (P i).k) := hD.c 0 _ HCE.out.kind
            go_simp
            exact ⟨Below.refl _ _, rfl⟩
          apply Exists.intro
          refine ⟨by simp only [Act.put, List.setIfInBounds_toArray, List.set_cons_succ, List.set_cons_zero]; rfl, ?_⟩
          refine WM.mono_pure rfl rfl ?_
          refine ⟨.bool false, fun x => ?_, ?_⟩
          · go_simp
          apply Exists.intro
          refine ⟨by simp only [Act.put, List.setIfInBounds_toArray, List.set_cons_succ, List.set_cons_zero]; rfl, ?_⟩
          refine WM.mono_pure rfl rfl ?_
          refine ⟨.bool false, fun x => ?_, ?_⟩
          · go_simp
          apply Exists.intro
          refine ⟨by simp only [Act.put, List.setIfInBounds_toArray, List.set_cons_succ, List.set_cons_zero]; rfl, ?_⟩
          refine WM.mono_pure rfl rfl ?_
          refine ⟨.bool false, fun x => ?_, ?_⟩
          · go_simp
          apply Exists.intro
          refine ⟨by simp only [Act.put, List.setIfInBounds_toArray, List.set_cons_succ, List.set_cons_zero]; rfl, ?_⟩
          iterate 4
            refine WM.mono_pure rfl rfl ?_
            apply Exists.intro
            refine ⟨fun x => ?_, ?_⟩
            · go_simp
              rfl
            apply Exists.intro
            refine ⟨by simp only [Act.put, List.setIfInBounds_toArray, List.set_cons_succ, List.set_cons_zero]; rfl, ?_⟩
          refine WM.mono_val rfl rfl (fun x hD hF => ?_) ?_
          · have hc : x.cell? ⟨b, o + i * 45, none⟩ = some (.int .i64 (P i).k) := hD.c 0 _ HCE.out.kind
            go_simp
            exact ⟨Below.refl _ _, rfl⟩
          apply Exists.intro
          refine ⟨by simp only [Act.put, List.setIfInBounds_toArray, List.set_cons_succ, List.set_cons_zero]; rfl, ?_⟩
          refine WM.mono_pure rfl rfl ?_
          refine ⟨.bool true, fun x => ?_, ?_⟩
          · go_simp
          apply Exists.intro
          refine ⟨by simp only [Act.put, List.setIfInBounds_toArray, List.set_cons_succ, List.set_cons_zero]; rfl, ?_⟩
          refine WM.mono_pure rfl rfl ?_
          refine ⟨.bool true, fun x => ?_, ?_⟩
          · go_simp
          apply Exists.intro
          refine ⟨by simp only [Act.put, List.setIfInBounds_toArray, List.set_cons_succ, List.set_cons_zero]; rfl, ?_⟩
          iterate 4
            refine WM.mono_pure rfl rfl ?_
            apply Exists.intro
            refine ⟨fun x => ?_, ?_⟩
            · go_simp
              rfl
            apply Exists.intro
            refine ⟨by simp only [Act.put, List.setIfInBounds_toArray, List.set_cons_succ, List.set_cons_zero]; rfl, ?_⟩
          refine WM.mono_val rfl rfl (fun x hD hF => ?_) ?_
          · have hc : x.cell? ⟨b, o + i * 45 + 1, none⟩ = some (.int .i64 (P i).i) := hD.c 1 _ HCE.out.int_
            go_simp
            exact ⟨Below.refl _ _, rfl⟩
          apply Exists.intro
          refine ⟨by simp only [Act.put, List.setIfInBounds_toArray, List.set_cons_succ, List.set_cons_zero]; rfl, ?_⟩
          refine WM.mono_pure rfl rfl ?_
          refine ⟨.bool true, fun x => ?_, ?_⟩
          · go_simp
          apply Exists.intro
          refine ⟨by simp only [Act.put, List.setIfInBounds_toArray, List.set_cons_succ, List.set_cons_zero]; rfl, ?_⟩
          refine WM.mono_pure rfl rfl ?_
          refine ⟨.bool true, fun x => ?_, ?_⟩
          · go_simp
          apply Exists.intro
          refine ⟨by simp only [Act.put, List.setIfInBounds_toArray, List.set_cons_succ, List.set_cons_zero]; rfl, ?_⟩
          refine WM.mono_skip rfl ?_
          apply Exists.intro
          refine ⟨by simp only [Act.put, List.setIfInBounds_toArray, List.set_cons_succ, List.set_cons_zero]; rfl, ?_⟩
          refine WM.mono_skip rfl ?_
          apply Exists.intro
          refine ⟨by simp only [Act.put, List.setIfInBounds_toArray, List.set_cons_succ, List.set_cons_zero]; rfl, ?_⟩
          refine WM.mono_skip rfl ?_
          apply Exists.intro
          refine ⟨by simp only [Act.put, List.setIfInBounds_toArray, List.set_cons_succ, List.set_cons_zero]; rfl, ?_⟩
          refine WM.mono_skip rfl ?_
          apply Exists.intro
          refine ⟨by simp only [Act.put, List.setIfInBounds_toArray, List.set_cons_succ, List.set_cons_zero]; rfl, ?_⟩
          refine WM.mono_skip rfl ?_
          apply Exists.intro
          refine ⟨by simp only [Act.put, List.setIfInBounds_toArray, List.set_cons_succ, List.set_cons_zero]; rfl, ?_⟩
          refine WM.mono_skip rfl ?_
          apply Exists.intro
          refine ⟨by simp only [Act.put, List.setIfInBounds_toArray, List.set_cons_succ, List.set_cons_zero]; rfl, ?_⟩
          refine WM.mono_pure rfl rfl ?_
          refine ⟨.bool true, fun x => ?_, ?_⟩
          · go_simp
          apply Exists.intro
          refine ⟨by simp only [Act.put, List.setIfInBounds_toArray, List.set_cons_succ, List.set_cons_zero]; rfl, ?_⟩
          refine WM.mono_pure rfl rfl ?_
          refine ⟨.bool true, fun x => ?_, ?_⟩
          · go_simp
          apply Exists.intro
          refine ⟨by simp only [Act.put, List.setIfInBounds_toArray, List.set_cons_succ, List.set_cons_zero]; rfl, ?_⟩
          refine WM.mono_pure rfl rfl ?_
          refine ⟨.bool true, fun x => ?_, ?_⟩
          · go_simp
          apply Exists.intro
          refine ⟨by simp only [Act.put, List.setIfInBounds_toArray, List.set_cons_succ, List.set_cons_zero]; rfl, ?_⟩
          refine WM.mono_pure rfl rfl ?_
          refine ⟨.bool true, fun x => ?_, ?_⟩
          · go_simp
          apply Exists.intro
          refine ⟨by simp only [Act.put, List.setIfInBounds_toArray, List.set_cons_succ, List.set_cons_zero]; rfl, ?_⟩
          refine WM.mono_skip rfl ?_
          apply Exists.intro
          refine ⟨by simp only [Act.put, List.setIfInBounds_toArray, List.set_cons_succ, List.set_cons_zero]; rfl, ?_⟩
          refine WM.mono_skip rfl ?_
          apply Exists.intro
          refine ⟨by simp only [Act.put, List.setIfInBounds_toArray, List.set_cons_succ, List.set_cons_zero]; rfl, ?_⟩
          refine WM.mono_skip rfl ?_
          apply Exists.intro
          refine ⟨by simp only [Act.put, List.setIfInBounds_toArray, List.set_cons_succ, List.set_cons_zero]; rfl, ?_⟩
          refine WM.mono_skip rfl ?_
          apply Exists.intro
          refine ⟨by simp only [Act.put, List.setIfInBounds_toArray, List.set_cons_succ, List.set_cons_zero]; rfl, ?_⟩
          refine WM.mono_skip rfl ?_
          apply Exists.intro
          refine ⟨by simp only [Act.put, List.setIfInBounds_toArray, List.set_cons_succ, List.set_cons_zero]; rfl, ?_⟩
          refine WM.mono_skip rfl ?_
          apply Exists.intro
          refine ⟨by simp only [Act.put, List.setIfInBounds_toArray, List.set_cons_succ, List.set_cons_zero]; rfl, ?_⟩
          refine WM.mono_skip rfl ?_
          apply Exists.intro
          refine ⟨by simp only [Act.put, List.setIfInBounds_toArray, List.set_cons_succ, List.set_cons_zero]; rfl, ?_⟩
          refine WM.mono_skip rfl ?_
          apply Exists.intro
          refine ⟨by simp only [Act.put, List.setIfInBounds_toArray, List.set_cons_succ, List.set_cons_zero]; rfl, ?_⟩
          refine WM.mono_skip rfl ?_
          apply Exists.intro
          refine ⟨by simp only [Act.put, List.setIfInBounds_toArray, List.set_cons_succ, List.set_cons_zero]; rfl, ?_⟩
          refine WM.mono_skip rfl ?_
          apply Exists.intro
          refine ⟨by simp only [Act.put, List.setIfInBounds_toArray, List.set_cons_succ, List.set_cons_zero]; rfl, ?_⟩
          refine WM.mono_skip rfl ?_
          apply Exists.intro
          refine ⟨by simp only [Act.put, List.setIfInBounds_toArray, List.set_cons_succ, List.set_cons_zero]; rfl, ?_⟩
          refine WM.mono_skip rfl ?_
          apply Exists.intro
          refine ⟨by simp only [Act.put, List.setIfInBounds_toArray, List.set_cons_succ, List.set_cons_zero]; rfl, ?_⟩
          refine WM.mono_skip rfl ?_
          apply Exists.intro
          refine ⟨by simp only [Act.put, List.setIfInBounds_toArray, List.set_cons_succ, List.set_cons_zero]; rfl, ?_⟩
          refine WM.mono_skip rfl ?_
          apply Exists.intro
          refine ⟨by simp only [Act.put, List.setIfInBounds_toArray, List.set_cons_succ, List.set_cons_zero]; rfl, ?_⟩
          refine WM.mono_skip rfl ?_
          apply Exists.intro
          refine ⟨by simp only [Act.put, List.setIfInBounds_toArray, List.set_cons_succ, List.set_cons_zero]; rfl, ?_⟩
          refine WM.mono_skip rfl ?_
          apply Exists.intro
          refine ⟨by simp only [Act.put, List.setIfInBounds_toArray, List.set_cons_succ, List.set_cons_zero]; rfl, ?_⟩
          refine WM.mono_skip rfl ?_
          apply Exists.intro
          refine ⟨by simp only [Act.put, List.setIfInBounds_toArray, List.set_cons_succ, List.set_cons_zero]; rfl, ?_⟩
          refine WM.mono_skip rfl ?_
          apply Exists.intro
          refine ⟨by simp only [Act.put, List.setIfInBounds_toArray, List.set_cons_succ, List.set_cons_zero]; rfl, ?_⟩
          refine WM.mono_skip rfl ?_
          apply Exists.intro
          refine ⟨by simp only [Act.put, List.setIfInBounds_toArray, List.set_cons_succ, List.set_cons_zero]; rfl, ?_⟩
          refine WM.mono_skip rfl ?_
          apply Exists.intro
          refine ⟨by simp only [Act.put, List.setIfInBounds_toArray, List.set_cons_succ, List.set_cons_zero]; rfl, ?_⟩
          refine WM.mono_pure rfl rfl ?_
          refine ⟨.bool true, fun x => ?_, ?_⟩
          · go_simp
          apply Exists.intro
          refine ⟨by simp only [Act.put, List.setIfInBounds_toArray, List.set_cons_succ, List.set_cons_zero]; rfl, ?_⟩
          refine WM.mono_nil ?_
          intro w1 hD hF
          have HI1 := Lib.hid hD.li
          have hr1 : Hid (rangeA w1 b (o + i * 45) (P i).C) := Lib.hid hD.c
          clear hD hF
          go_simp
          go_wp2_with fail
          refine (alive_any w1).mono ?_
          rintro e w2 ⟨rfl, hb2⟩
          have HB2 := Lib.hid (HI1.out.below.trans (hb2.mono HI1.out.below.size))
          clear hb2
          go_wp2_with fail
          go_ret
          exact ⟨rfl, HB2.out⟩
        by_cases hb : (P i).i < -4611686018427387904
        · refine WM.wp_region_kinds (fun _ x y => Below x.heap.size x y) (fun _ x => L5 w (allB P i) b (o + i * 45) (P i).C x) (fun x => L5 w (allB P i) b (o + i * 45) (P i).C x)
            [(7, .val (.agg (P i).C) fun _ => True), (8, .val (.bool false) fun _ => True), (15, .val (.int .i64 (P i).k) fun _ => True), (23, .val (.int .i64 (P i).k) fun _ => True), (31, .val (.int .i64 (P i).k) fun _ => True), (38, .val (.int .i64 (P i).i) fun _ => True), (45, .val (.int .i64 (P i).i) fun _ => True)] (by kernel_rfl) HLX.out (fun _ _ _ hb h => L5.then_ h hb) (fun _ _ _ _ _ hb h => L5.then_ h hb) ?_ HID.out (fun _ => HID.out) ?_
          · intro z hz
            simp only [List.mem_cons, List.mem_nil_iff, or_false] at hz
            rcases hz with rfl | rfl | rfl | rfl | rfl | rfl | rfl <;> exact fun _ _ _ _ _ _ => trivial
          iterate 2
            refine WM.mono_pure rfl rfl ?_
            apply Exists.intro
            refine ⟨fun x => ?_, ?_⟩
            · go_simp
              rfl
            apply Exists.intro
            refine ⟨by simp only [Act.put, List.setIfInBounds_toArray, List.set_cons_succ, List.set_cons_zero]; rfl, ?_⟩
          refine WM.mono_pure rfl rfl ?_
          refine ⟨.bool false, fun x => ?_, ?_⟩
          · go_simp
          apply Exists.intro
          refine ⟨by simp only [Act.put, List.setIfInBounds_toArray, List.set_cons_succ, List.set_cons_zero]; rfl, ?_⟩
          refine WM.mono_pure rfl rfl ?_
          refine ⟨.bool false, fun x => ?_, ?_⟩
          · go_simp
          apply Exists.intro
          refine ⟨by simp only [Act.put, List.setIfInBounds_toArray, List.set_cons_succ, List.set_cons_zero]; rfl, ?_⟩
          iterate 3
            refine WM.mono_pure rfl rfl ?_
            apply Exists.intro
            refine ⟨fun x => ?_, ?_⟩
            · go_simp
              rfl
            apply Exists.intro
            refine ⟨by simp only [Act.put, List.setIfInBounds_toArray, List.set_cons_succ, List.set_cons_zero]; rfl, ?_⟩
          refine WM.mono_val rfl rfl (fun x hD hF => ?_) ?_
          · have hl := run_loadVar_arr (P := Try.prog) x b (o + i * 45) 34 (P i).C _ hD.c Try.underlying34 rfl s34.out
            rw [exec_load_b 34 (.tmp 29) rfl b (o + i * 45) rfl hl]
            exact ⟨Below.refl _ _, rfl, trivial⟩
          apply Exists.intro
          refine ⟨by simp only [Act.put, List.setIfInBounds_toArray, List.set_cons_succ, List.set_cons_zero]; rfl, ?_⟩
          refine WM.mono_val rfl rfl (fun x hD hF => ?_) ?_
          · go_simp
            refine (great_any (P i).C x HCE.out HLE.out).mono ?_
            rintro e y ⟨rfl, hgr⟩
            exact ⟨_, rfl, hgr, by rw [hgd]⟩
          apply Exists.intro
          refine ⟨by simp only [Act.put, List.setIfInBounds_toArray, List.set_cons_succ, List.set_cons_zero]; rfl, ?_⟩
          refine WM.mono_pure rfl rfl ?_
          refine ⟨.bool false, fun x => ?_, ?_⟩
          · go_simp
          apply Exists.intro
          refine ⟨by simp only [Act.put, List.setIfInBounds_toArray, List.set_cons_succ, List.set_cons_zero]; rfl, ?_⟩
          refine WM.mono_pure rfl rfl ?_
          refine ⟨.bool false, fun x => ?_, ?_⟩
          · go_simp
          apply Exists.intro
          refine ⟨by simp only [Act.put, List.setIfInBounds_toArray, List.set_cons_succ, List.set_cons_zero]; rfl, ?_⟩
          iterate 4
            refine WM.mono_pure rfl rfl ?_
            apply Exists.intro
            refine ⟨fun x => ?_, ?_⟩
            · go_simp
              rfl
            apply Exists.intro
            refine ⟨by simp only [Act.put, List.setIfInBounds_toArray, List.set_cons_succ, List.set_cons_zero]; rfl, ?_⟩
          refine WM.mono_val rfl rfl (fun x hD hF => ?_) ?_
          · have hc : x.cell? ⟨b, o + i * 45, none⟩ = some (.int .i64 (P i).k) := hD.c 0 _ HCE.out.kind
            go_simp
            exact ⟨Below.refl _ _, rfl⟩
          apply Exists.intro
          refine ⟨by simp only [Act.put, List.setIfInBounds_toArray, List.set_cons_succ, List.set_cons_zero]; rfl, ?_⟩
          refine WM.mono_pure rfl rfl ?_
          refine ⟨.bool false, fun x => ?_, ?_⟩
          · go_simp
          apply Exists.intro
          refine ⟨by simp only [Act.put, List.setIfInBounds_toArray, List.set_cons_succ, List.set_cons_zero]; rfl, ?_⟩
          refine WM.mono_pure rfl rfl ?_
          refine ⟨.bool false, fun x => ?_, ?_⟩
          · go_simp
          apply Exists.intro
          refine ⟨by simp only [Act.put, List.setIfInBounds_toArray, List.set_cons_succ, List.set_cons_zero]; rfl, ?_⟩
          refine WM.mono_pure rfl rfl ?_
          refine ⟨.bool false, fun x => ?_, ?_⟩
          · go_simp
          apply Exists.intro
          refine ⟨by simp only [Act.put, List.setIfInBounds_toArray, List.set_cons_succ, List.set_cons_zero]; rfl, ?_⟩
          iterate 4
            refine WM.mono_pure rfl rfl ?_
            apply Exists.intro
            refine ⟨fun x => ?_, ?_⟩
            · go_simp
              rfl
            apply Exists.intro
            refine ⟨by simp only [Act.put, List.setIfInBounds_toArray, List.set_cons_succ, List.set_cons_zero]; rfl, ?_⟩
          refine WM.mono_val rfl rfl (fun x hD hF => ?_) ?_
          · have hc : x.cell? ⟨b, o + i * 45, none⟩ = some (.int .i64 (P i).k) := hD.c 0 _ HCE.out.kind
            go_simp
            exact ⟨Below.refl _ _, rfl⟩
          apply Exists.intro
          refine ⟨by simp only [Act.put, List.setIfInBounds_toArray, List.set_cons_succ, List.set_cons_zero]; rfl, ?_⟩
          refine WM.mono_pure rfl rfl ?_
          refine ⟨.bool false, fun x => ?_, ?_⟩
          · go_simp
          apply Exists.intro
          refine ⟨by simp only [Act.put, List.setIfInBounds_toArray, List.set_cons_succ, List.set_cons_zero]; rfl, ?_⟩
          refine WM.mono_pure rfl rfl ?_
          refine ⟨.bool false, fun x => ?_, ?_⟩
          · go_simp
          apply Exists.intro
          refine ⟨by simp only [Act.put, List.setIfInBounds_toArray, List.set_cons_succ, List.set_cons_zero]; rfl, ?_⟩
          refine WM.mono_pure rfl rfl ?_
          refine ⟨.bool false, fun x => ?_, ?_⟩
          · go_simp
          apply Exists.intro
          refine ⟨by simp only [Act.put, List.setIfInBounds_toArray, List.set_cons_succ, List.set_cons_zero]; rfl, ?_⟩
          iterate 4
            refine WM.mono_pure rfl rfl ?_
            apply Exists.intro
            refine ⟨fun x => ?_, ?_⟩
            · go_simp
              rfl
            apply Exists.intro
            refine ⟨by simp only [Act.put, List.setIfInBounds_toArray, List.set_cons_succ, List.set_cons_zero]; rfl, ?_⟩
          refine WM.mono_val rfl rfl (fun x hD hF => ?_) ?_
          · have hc : x.cell? ⟨b, o + i * 45, none⟩ = some (.int .i64 (P i).k) := hD.c 0 _ HCE.out.kind
            go_simp
            exact ⟨Below.refl _ _, rfl⟩
          apply Exists.intro
          refine ⟨by simp only [Act.put, List.setIfInBounds_toArray, List.set_cons_succ, List.set_cons_zero]; rfl, ?_⟩
          refine WM.mono_pure rfl rfl ?_
          refine ⟨.bool true, fun x => ?_, ?_⟩
          · go_simp
          apply Exists.intro
          refine ⟨by simp only [Act.put, List.setIfInBounds_toArray, List.set_cons_succ, List.set_cons_zero]; rfl, ?_⟩
          refine WM.mono_pure rfl rfl ?_
          refine ⟨.bool true, fun x => ?_, ?_⟩
          · go_simp
          apply Exists.intro
          refine ⟨by simp only [Act.put, List.setIfInBounds_toArray, List.set_cons_succ, List.set_cons_zero]; rfl, ?_⟩
          iterate 4
            refine WM.mono_pure rfl rfl ?_
            apply Exists.intro
            refine ⟨fun x => ?_, ?_⟩
            · go_simp
              rfl
            apply Exists.intro
            refine ⟨by simp only [Act.put, List.setIfInBounds_toArray, List.set_cons_succ, List.set_cons_zero]; rfl, ?_⟩
          refine WM.mono_val rfl rfl (fun x hD hF => ?_) ?_
          · have hc : x.cell? ⟨b, o + i * 45 + 1, none⟩ = some (.int .i64 (P i).i) := hD.c 1 _ HCE.out.int_
            go_simp
            exact ⟨Below.refl _ _, rfl⟩
          apply Exists.intro
          refine ⟨by simp only [Act.put, List.setIfInBounds_toArray, List.set_cons_succ, List.set_cons_zero]; rfl, ?_⟩
          refine WM.mono_pure rfl rfl ?_
          refine ⟨.bool false, fun x => ?_, ?_⟩
          · go_simp
          apply Exists.intro
          refine ⟨by simp only [Act.put, List.setIfInBounds_toArray, List.set_cons_succ, List.set_cons_zero]; rfl, ?_⟩
          refine WM.mono_pure rfl rfl ?_
          refine ⟨.bool false, fun x => ?_, ?_⟩
          · go_simp
          apply Exists.intro
          refine ⟨by simp only [Act.put, List.setIfInBounds_toArray, List.set_cons_succ, List.set_cons_zero]; rfl, ?_⟩
          iterate 4
            refine WM.mono_pure rfl rfl ?_
            apply Exists.intro
            refine ⟨fun x => ?_, ?_⟩
            · go_simp
              rfl
            apply Exists.intro
            refine ⟨by simp only [Act.put, List.setIfInBounds_toArray, List.set_cons_succ, List.set_cons_zero]; rfl, ?_⟩
          refine WM.mono_val rfl rfl (fun x hD hF => ?_) ?_
          · have hc : x.cell? ⟨b, o + i * 45 + 1, none⟩ = some (.int .i64 (P i).i) := hD.c 1 _ HCE.out.int_
            go_simp
            exact ⟨Below.refl _ _, rfl⟩
          apply Exists.intro
          refine ⟨by simp only [Act.put, List.setIfInBounds_toArray, List.set_cons_succ, List.set_cons_zero]; rfl, ?_⟩
          refine WM.mono_pure rfl rfl ?_
          refine ⟨.bool true, fun x => ?_, ?_⟩
          · go_simp
          apply Exists.intro
          refine ⟨by simp only [Act.put, List.setIfInBounds_toArray, List.set_cons_succ, List.set_cons_zero]; rfl, ?_⟩
          refine WM.mono_pure rfl rfl ?_
          refine ⟨.bool true, fun x => ?_, ?_⟩
          · go_simp
          apply Exists.intro
          refine ⟨by simp only [Act.put, List.setIfInBounds_toArray, List.set_cons_succ, List.set_cons_zero]; rfl, ?_⟩
          refine WM.mono_pure rfl rfl ?_
          refine ⟨.bool true, fun x => ?_, ?_⟩
          · go_simp
          apply Exists.intro
          refine ⟨by simp only [Act.put, List.setIfInBounds_toArray, List.set_cons_succ, List.set_cons_zero]; rfl, ?_⟩
          refine WM.mono_pure rfl rfl ?_
          refine ⟨.bool true, fun x => ?_, ?_⟩
          · go_simp
          apply Exists.intro
          refine ⟨by simp only [Act.put, List.setIfInBounds_toArray, List.set_cons_succ, List.set_cons_zero]; rfl, ?_⟩
          refine WM.mono_pure rfl rfl ?_
          refine ⟨.bool true, fun x => ?_, ?_⟩
          · go_simp
          apply Exists.intro
          refine ⟨by simp only [Act.put, List.setIfInBounds_toArray, List.set_cons_succ, List.set_cons_zero]; rfl, ?_⟩
          refine WM.mono_skip rfl ?_
          apply Exists.intro
          refine ⟨by simp only [Act.put, List.setIfInBounds_toArray, List.set_cons_succ, List.set_cons_zero]; rfl, ?_⟩
          refine WM.mono_skip rfl ?_
          apply Exists.intro
          refine ⟨by simp only [Act.put, List.setIfInBounds_toArray, List.set_cons_succ, List.set_cons_zero]; rfl, ?_⟩
          refine WM.mono_skip rfl ?_
          apply Exists.intro
          refine ⟨by simp only [Act.put, List.setIfInBounds_toArray, List.set_cons_succ, List.set_cons_zero]; rfl, ?_⟩
          refine WM.mono_skip rfl ?_
          apply Exists.intro
          refine ⟨by simp only [Act.put, List.setIfInBounds_toArray, List.set_cons_succ, List.set_cons_zero]; rfl, ?_⟩
          refine WM.mono_skip rfl ?_
          apply Exists.intro
          refine ⟨by simp only [Act.put, List.setIfInBounds_toArray, List.set_cons_succ, List.set_cons_zero]; rfl, ?_⟩
          refine WM.mono_skip rfl ?_
          apply Exists.intro
          refine ⟨by simp only [Act.put, List.setIfInBounds_toArray, List.set_cons_succ, List.set_cons_zero]; rfl, ?_⟩
          refine WM.mono_skip rfl ?_
          apply Exists.intro
          refine ⟨by simp only [Act.put, List.setIfInBounds_toArray, List.set_cons_succ, List.set_cons_zero]; rfl, ?_⟩
          refine WM.mono_skip rfl ?_
          apply Exists.intro
          refine ⟨by simp only [Act.put, List.setIfInBounds_toArray, List.set_cons_succ, List.set_cons_zero]; rfl, ?_⟩
          refine WM.mono_skip rfl ?_
          apply Exists.intro
          refine ⟨by simp only [Act.put, List.setIfInBounds_toArray, List.set_cons_succ, List.set_cons_zero]; rfl, ?_⟩
          refine WM.mono_skip rfl ?_
          apply Exists.intro
          refine ⟨by simp only [Act.put, List.setIfInBounds_toArray, List.set_cons_succ, List.set_cons_zero]; rfl, ?_⟩
          refine WM.mono_skip rfl ?_
          apply Exists.intro
          refine ⟨by simp only [Act.put, List.setIfInBounds_toArray, List.set_cons_succ, List.set_cons_zero]; rfl, ?_⟩
          refine WM.mono_skip rfl ?_
          apply Exists.intro
          refine ⟨by simp only [Act.put, List.setIfInBounds_toArray, List.set_cons_succ, List.set_cons_zero]; rfl, ?_⟩
          refine WM.mono_skip rfl ?_
          apply Exists.intro
          refine ⟨by simp only [Act.put, List.setIfInBounds_toArray, List.set_cons_succ, List.set_cons_zero]; rfl, ?_⟩
          refine WM.mono_skip rfl ?_
          apply Exists.intro
          refine ⟨by simp only [Act.put, List.setIfInBounds_toArray, List.set_cons_succ, List.set_cons_zero]; rfl, ?_⟩
          refine WM.mono_skip rfl ?_
          apply Exists.intro
          refine ⟨by simp only [Act.put, List.setIfInBounds_toArray, List.set_cons_succ, List.set_cons_zero]; rfl, ?_⟩
          refine WM.mono_skip rfl ?_
          apply Exists.intro
          refine ⟨by simp only [Act.put, List.setIfInBounds_toArray, List.set_cons_succ, List.set_cons_zero]; rfl, ?_⟩
          refine WM.mono_skip rfl ?_
          apply Exists.intro
          refine ⟨by simp only [Act.put, List.setIfInBounds_toArray, List.set_cons_succ, List.set_cons_zero]; rfl, ?_⟩
          refine WM.mono_skip rfl ?_
          apply Exists.intro
          refine ⟨by simp only [Act.put, List.setIfInBounds_toArray, List.set_cons_succ, List.set_cons_zero]; rfl, ?_⟩
          refine WM.mono_skip rfl ?_
          apply Exists.intro
          refine ⟨by simp only [Act.put, List.setIfInBounds_toArray, List.set_cons_succ, List.set_cons_zero]; rfl, ?_⟩
          refine WM.mono_skip rfl ?_
          apply Exists.intro
          refine ⟨by simp only [Act.put, List.setIfInBounds_toArray, List.set_cons_succ, List.set_cons_zero]; rfl, ?_⟩
          refine WM.mono_pure rfl rfl ?_
          refine ⟨.bool true, fun x => ?_, ?_⟩
          · go_simp
          apply Exists.intro
          refine ⟨by simp only [Act.put, List.setIfInBounds_toArray, List.set_cons_succ, List.set_cons_zero]; rfl, ?_⟩
          refine WM.mono_nil ?_
          intro w1 hD hF
          have HI1 := Lib.hid hD.li
          have hr1 : Hid (rangeA w1 b (o + i * 45) (P i).C) := Lib.hid hD.c
          clear hD hF
          go_simp
          go_wp2_with fail
          refine (alive_any w1).mono ?_
          rintro e w2 ⟨rfl, hb2⟩
          have HB2 := Lib.hid (HI1.out.below.trans (hb2.mono HI1.out.below.size))
          clear hb2
          go_wp2_with fail
          go_ret
          exact ⟨rfl, HB2.out⟩
        refine WM.wp_region_kinds (fun _ x y => Below x.heap.size x y) (fun _ x => L5 w (allB P i) b (o + i * 45) (P i).C x) (fun x => L5 w (allB P i) b (o + i * 45) (P i).C x)
          [(7, .val (.agg (P i).C) fun _ => True), (8, .val (.bool false) fun _ => True), (15, .val (.int .i64 (P i).k) fun _ => True), (23, .val (.int .i64 (P i).k) fun _ => True), (31, .val (.int .i64 (P i).k) fun _ => True), (38, .val (.int .i64 (P i).i) fun _ => True), (45, .val (.int .i64 (P i).i) fun _ => True), (55, .val (.int .i64 (P i).k) fun _ => True)] (by kernel_rfl) HLX.out (fun _ _ _ hb h => L5.then_ h hb) (fun _ _ _ _ _ hb h => L5.then_ h hb) ?_ HID.out (fun _ => HID.out) ?_
        · intro z hz
          simp only [List.mem_cons, List.mem_nil_iff, or_false] at hz
          rcases hz with rfl | rfl | rfl | rfl | rfl | rfl | rfl | rfl <;> exact fun _ _ _ _ _ _ => trivial
        iterate 2
          refine WM.mono_pure rfl rfl ?_
          apply Exists.intro
          refine ⟨fun x => ?_, ?_⟩
          · go_simp
            rfl
          apply Exists.intro
          refine ⟨by simp only [Act.put, List.setIfInBounds_toArray, List.set_cons_succ, List.set_cons_zero]; rfl, ?_⟩
        refine WM.mono_pure rfl rfl ?_
        refine ⟨.bool false, fun x => ?_, ?_⟩
        · go_simp
        apply Exists.intro
        refine ⟨by simp only [Act.put, List.setIfInBounds_toArray, List.set_cons_succ, List.set_cons_zero]; rfl, ?_⟩
        refine WM.mono_pure rfl rfl ?_
        refine ⟨.bool false, fun x => ?_, ?_⟩
        · go_simp
        apply Exists.intro
        refine ⟨by simp only [Act.put, List.setIfInBounds_toArray, List.set_cons_succ, List.set_cons_zero]; rfl, ?_⟩
        iterate 3
          refine WM.mono_pure rfl rfl ?_
          apply Exists.intro
          refine ⟨fun x => ?_, ?_⟩
          · go_simp
            rfl
          apply Exists.intro
          refine ⟨by simp only [Act.put, List.setIfInBounds_toArray, List.set_cons_succ, List.set_cons_zero]; rfl, ?_⟩
        refine WM.mono_val rfl rfl (fun x hD hF => ?_) ?_
        · have hl := run_loadVar_arr (P := Try.prog) x b (o + i * 45) 34 (P i).C _ hD.c Try.underlying34 rfl s34.out
          rw [exec_load_b 34 (.tmp 29) rfl b (o + i * 45) rfl hl]
          exact ⟨Below.refl _ _, rfl, trivial⟩
        apply Exists.intro
        refine ⟨by simp only [Act.put, List.setIfInBounds_toArray, List.set_cons_succ, List.set_cons_zero]; rfl, ?_⟩
        refine WM.mono_val rfl rfl (fun x hD hF => ?_) ?_
        · go_simp
          refine (great_any (P i).C x HCE.out HLE.out).mono ?_
          rintro e y ⟨rfl, hgr⟩
          exact ⟨_, rfl, hgr, by rw [hgd]⟩
        apply Exists.intro
        refine ⟨by simp only [Act.put, List.setIfInBounds_toArray, List.set_cons_succ, List.set_cons_zero]; rfl, ?_⟩
        refine WM.mono_pure rfl rfl ?_
        refine ⟨.bool false, fun x => ?_, ?_⟩
        · go_simp
        apply Exists.intro
        refine ⟨by simp only [Act.put, List.setIfInBounds_toArray, List.set_cons_succ, List.set_cons_zero]; rfl, ?_⟩
        refine WM.mono_pure rfl rfl ?_
        refine ⟨.bool false, fun x => ?_, ?_⟩
        · go_simp
        apply Exists.intro
        refine ⟨by simp only [Act.put, List.setIfInBounds_toArray, List.set_cons_succ, List.set_cons_zero]; rfl, ?_⟩
        iterate 4
          refine WM.mono_pure rfl rfl ?_
          apply Exists.intro
          refine ⟨fun x => ?_, ?_⟩
          · go_simp
            rfl
          apply Exists.intro
          refine ⟨by simp only [Act.put, List.setIfInBounds_toArray, List.set_cons_succ, List.set_cons_zero]; rfl, ?_⟩
        refine WM.mono_val rfl rfl (fun x hD hF => ?_) ?_
        · have hc : x.cell? ⟨b, o + i * 45, none⟩ = some (.int .i64 (P i).k) := hD.c 0 _ HCE.out.kind
          go_simp
          exact ⟨Below.refl _ _, rfl⟩
        apply Exists.intro
        refine ⟨by simp only [Act.put, List.setIfInBounds_toArray, List.set_cons_succ, List.set_cons_zero]; rfl, ?_⟩
        refine WM.mono_pure rfl rfl ?_
        refine ⟨.bool false, fun x => ?_, ?_⟩
        · go_simp
        apply Exists.intro
        refine ⟨by simp only [Act.put, List.setIfInBounds_toArray, List.set_cons_succ, List.set_cons_zero]; rfl, ?_⟩
        refine WM.mono_pure rfl rfl ?_
        refine ⟨.bool false, fun x => ?_, ?_⟩
        · go_simp
        apply Exists.intro
        refine ⟨by simp only [Act.put, List.setIfInBounds_toArray, List.set_cons_succ, List.set_cons_zero]; rfl, ?_⟩
        refine WM.mono_pure rfl rfl ?_
        refine ⟨.bool false, fun x => ?_, ?_⟩
        · go_simp
        apply Exists.intro
        refine ⟨by simp only [Act.put, List.setIfInBounds_toArray, List.set_cons_succ, List.set_cons_zero]; rfl, ?_⟩
        iterate 4
          refine WM.mono_pure rfl rfl ?_
          apply Exists.intro
          refine ⟨fun x => ?_, ?_⟩
          · go_simp
            rfl
          apply Exists.intro
          refine ⟨by simp only [Act.put, List.setIfInBounds_toArray, List.set_cons_succ, List.set_cons_zero]; rfl, ?_⟩
        refine WM.mono_val rfl rfl (fun x hD hF => ?_) ?_
        · have hc : x.cell? ⟨b, o + i * 45, none⟩ = some (.int .i64 (P i).k) := hD.c 0 _ HCE.out.kind
          go_simp
          exact ⟨Below.refl _ _, rfl⟩
        apply Exists.intro
        refine ⟨by simp only [Act.put, List.setIfInBounds_toArray, List.set_cons_succ, List.set_cons_zero]; rfl, ?_⟩
        refine WM.mono_pure rfl rfl ?_
        refine ⟨.bool false, fun x => ?_, ?_⟩
        · go_simp
        apply Exists.intro
        refine ⟨by simp only [Act.put, List.setIfInBounds_toArray, List.set_cons_succ, List.set_cons_zero]; rfl, ?_⟩
        refine WM.mono_pure rfl rfl ?_
        refine ⟨.bool false, fun x => ?_, ?_⟩
        · go_simp
        apply Exists.intro
        refine ⟨by simp only [Act.put, List.setIfInBounds_toArray, List.set_cons_succ, List.set_cons_zero]; rfl, ?_⟩
        refine WM.mono_pure rfl rfl ?_
        refine ⟨.bool false, fun x => ?_, ?_⟩
        · go_simp
        apply Exists.intro
        refine ⟨by simp only [Act.put, List.setIfInBounds_toArray, List.set_cons_succ, List.set_cons_zero]; rfl, ?_⟩
        iterate 4
          refine WM.mono_pure rfl rfl ?_
          apply Exists.intro
          refine ⟨fun x => ?_, ?_⟩
          · go_simp
            rfl
          apply Exists.intro
          refine ⟨by simp only [Act.put, List.setIfInBounds_toArray, List.set_cons_succ, List.set_cons_zero]; rfl, ?_⟩
        refine WM.mono_val rfl rfl (fun x hD hF => ?_) ?_
        · have hc : x.cell? ⟨b, o + i * 45, none⟩ = some (.int .i64 (P i).k) := hD.c 0 _ HCE.out.kind
          go_simp
          exact ⟨Below.refl _ _, rfl⟩
        apply Exists.intro
        refine ⟨by simp only [Act.put, List.setIfInBounds_toArray, List.set_cons_succ, List.set_cons_zero]; rfl, ?_⟩
        refine WM.mono_pure rfl rfl ?_
        refine ⟨.bool true, fun x => ?_, ?_⟩
        · go_simp
        apply Exists.intro
        refine ⟨by simp only [Act.put, List.setIfInBounds_toArray, List.set_cons_succ, List.set_cons_zero]; rfl, ?_⟩
        refine WM.mono_pure rfl rfl ?_
        refine ⟨.bool true, fun x => ?_, ?_⟩
        · go_simp
        apply Exists.intro
        refine ⟨by simp only [Act.put, List.setIfInBounds_toArray, List.set_cons_succ, List.set_cons_zero]; rfl, ?_⟩
        iterate 4
          refine WM.mono_pure rfl rfl ?_
          apply Exists.intro
          refine ⟨fun x => ?_, ?_⟩
          · go_simp
            rfl
          apply Exists.intro
          refine ⟨by simp only [Act.put, List.setIfInBounds_toArray, List.set_cons_succ, List.set_cons_zero]; rfl, ?_⟩
        refine WM.mono_val rfl rfl (fun x hD hF => ?_) ?_
        · have hc : x.cell? ⟨b, o + i * 45 + 1, none⟩ = some (.int .i64 (P i).i) := hD.c 1 _ HCE.out.int_
          go_simp
          exact ⟨Below.refl _ _, rfl⟩
        apply Exists.intro
        refine ⟨by simp only [Act.put, List.setIfInBounds_toArray, List.set_cons_succ, List.set_cons_zero]; rfl, ?_⟩
        refine WM.mono_pure rfl rfl ?_
        refine ⟨.bool false, fun x => ?_, ?_⟩
        · go_simp
        apply Exists.intro
        refine ⟨by simp only [Act.put, List.setIfInBounds_toArray, List.set_cons_succ, List.set_cons_zero]; rfl, ?_⟩
        refine WM.mono_pure rfl rfl ?_
        refine ⟨.bool false, fun x => ?_, ?_⟩
        · go_simp
        apply Exists.intro
        refine ⟨by simp only [Act.put, List.setIfInBounds_toArray, List.set_cons_succ, List.set_cons_zero]; rfl, ?_⟩
        iterate 4
          refine WM.mono_pure rfl rfl ?_
          apply Exists.intro
          refine ⟨fun x => ?_, ?_⟩
          · go_simp
            rfl
          apply Exists.intro
          refine ⟨by simp only [Act.put, List.setIfInBounds_toArray, List.set_cons_succ, List.set_cons_zero]; rfl, ?_⟩
        refine WM.mono_val rfl rfl (fun x hD hF => ?_) ?_
        · have hc : x.cell? ⟨b, o + i * 45 + 1, none⟩ = some (.int .i64 (P i).i) := hD.c 1 _ HCE.out.int_
          go_simp
          exact ⟨Below.refl _ _, rfl⟩
        apply Exists.intro
        refine ⟨by simp only [Act.put, List.setIfInBounds_toArray, List.set_cons_succ, List.set_cons_zero]; rfl, ?_⟩
        refine WM.mono_pure rfl rfl ?_
        refine ⟨.bool false, fun x => ?_, ?_⟩
        · go_simp
        apply Exists.intro
        refine ⟨by simp only [Act.put, List.setIfInBounds_toArray, List.set_cons_succ, List.set_cons_zero]; rfl, ?_⟩
        refine WM.mono_pure rfl rfl ?_
        refine ⟨.bool false, fun x => ?_, ?_⟩
        · go_simp
        apply Exists.intro
        refine ⟨by simp only [Act.put, List.setIfInBounds_toArray, List.set_cons_succ, List.set_cons_zero]; rfl, ?_⟩
        refine WM.mono_pure rfl rfl ?_
        refine ⟨.bool false, fun x => ?_, ?_⟩
        · go_simp
        apply Exists.intro
        refine ⟨by simp only [Act.put, List.setIfInBounds_toArray, List.set_cons_succ, List.set_cons_zero]; rfl, ?_⟩
        refine WM.mono_pure rfl rfl ?_
        refine ⟨.bool false, fun x => ?_, ?_⟩
        · go_simp
        apply Exists.intro
        refine ⟨by simp only [Act.put, List.setIfInBounds_toArray, List.set_cons_succ, List.set_cons_zero]; rfl, ?_⟩
        refine WM.mono_pure rfl rfl ?_
        refine ⟨.bool false, fun x => ?_, ?_⟩
        · go_simp
        apply Exists.intro
        refine ⟨by simp only [Act.put, List.setIfInBounds_toArray, List.set_cons_succ, List.set_cons_zero]; rfl, ?_⟩
        iterate 4
          refine WM.mono_pure rfl rfl ?_
          apply Exists.intro
          refine ⟨fun x => ?_, ?_⟩
          · go_simp
            rfl
          apply Exists.intro
          refine ⟨by simp only [Act.put, List.setIfInBounds_toArray, List.set_cons_succ, List.set_cons_zero]; rfl, ?_⟩
        refine WM.mono_val rfl rfl (fun x hD hF => ?_) ?_
        · have hc : x.cell? ⟨b, o + i * 45, none⟩ = some (.int .i64 (P i).k) := hD.c 0 _ HCE.out.kind
          go_simp
          exact ⟨Below.refl _ _, rfl⟩
        apply Exists.intro
        refine ⟨by simp only [Act.put, List.setIfInBounds_toArray, List.set_cons_succ, List.set_cons_zero]; rfl, ?_⟩
        refine WM.mono_pure rfl rfl ?_
        refine ⟨.bool false, fun x => ?_, ?_⟩
        · go_simp
        apply Exists.intro
        refine ⟨by simp only [Act.put, List.setIfInBounds_toArray, List.set_cons_succ, List.set_cons_zero]; rfl, ?_⟩
        refine WM.mono_pure rfl rfl ?_
        refine ⟨.bool false, fun x => ?_, ?_⟩
        · go_simp
        apply Exists.intro
        refine ⟨by simp only [Act.put, List.setIfInBounds_toArray, List.set_cons_succ, List.set_cons_zero]; rfl, ?_⟩
        refine WM.mono_skip rfl ?_
        apply Exists.intro
        refine ⟨by simp only [Act.put, List.setIfInBounds_toArray, List.set_cons_succ, List.set_cons_zero]; rfl, ?_⟩
        refine WM.mono_skip rfl ?_
        apply Exists.intro
        refine ⟨by simp only [Act.put, List.setIfInBounds_toArray, List.set_cons_succ, List.set_cons_zero]; rfl, ?_⟩
        refine WM.mono_skip rfl ?_
        apply Exists.intro
        refine ⟨by simp only [Act.put, List.setIfInBounds_toArray, List.set_cons_succ, List.set_cons_zero]; rfl, ?_⟩
        refine WM.mono_skip rfl ?_
        apply Exists.intro
        refine ⟨by simp only [Act.put, List.setIfInBounds_toArray, List.set_cons_succ, List.set_cons_zero]; rfl, ?_⟩
        refine WM.mono_skip rfl ?_
        apply Exists.intro
        refine ⟨by simp only [Act.put, List.setIfInBounds_toArray, List.set_cons_succ, List.set_cons_zero]; rfl, ?_⟩
        refine WM.mono_skip rfl ?_
        apply Exists.intro
        refine ⟨by simp only [Act.put, List.setIfInBounds_toArray, List.set_cons_succ, List.set_cons_zero]; rfl, ?_⟩
        refine WM.mono_skip rfl ?_
        apply Exists.intro
        refine ⟨by simp only [Act.put, List.setIfInBounds_toArray, List.set_cons_succ, List.set_cons_zero]; rfl, ?_⟩
        refine WM.mono_skip rfl ?_
        apply Exists.intro
        refine ⟨by simp only [Act.put, List.setIfInBounds_toArray, List.set_cons_succ, List.set_cons_zero]; rfl, ?_⟩
        refine WM.mono_skip rfl ?_
        apply Exists.intro
        refine ⟨by simp only [Act.put, List.setIfInBounds_toArray, List.set_cons_succ, List.set_cons_zero]; rfl, ?_⟩
        refine WM.mono_skip rfl ?_
        apply Exists.intro
        refine ⟨by simp only [Act.put, List.setIfInBounds_toArray, List.set_cons_succ, List.set_cons_zero]; rfl, ?_⟩
        refine WM.mono_skip rfl ?_
        apply Exists.intro
        refine ⟨by simp only [Act.put, List.setIfInBounds_toArray, List.set_cons_succ, List.set_cons_zero]; rfl, ?_⟩
        refine WM.mono_skip rfl ?_
        apply Exists.intro
        refine ⟨by simp only [Act.put, List.setIfInBounds_toArray, List.set_cons_succ, List.set_cons_zero]; rfl, ?_⟩
        refine WM.mono_pure rfl rfl ?_
        refine ⟨.bool false, fun x => ?_, ?_⟩
        · go_simp
        apply Exists.intro
        refine ⟨by simp only [Act.put, List.setIfInBounds_toArray, List.set_cons_succ, List.set_cons_zero]; rfl, ?_⟩
        refine WM.mono_pure rfl rfl ?_
        refine ⟨.bool false, fun x => ?_, ?_⟩
        · go_simp
        apply Exists.intro
        refine ⟨by simp only [Act.put, List.setIfInBounds_toArray, List.set_cons_succ, List.set_cons_zero]; rfl, ?_⟩
        refine WM.mono_nil ?_
        intro w1 hD hF
        have HI1 := Lib.hid hD.li
        have hr1 : Hid (rangeA w1 b (o + i * 45) (P i).C) := Lib.hid hD.c
        clear hD hF
        go_simp
        have HFine : Hid (Fine (P i)) := Lib.hid ⟨by omega, by omega, by omega, fun _ => by omega, fun _ => by omega⟩
        obtain ⟨v, hv⟩ := HI1.out.wt
        have HP1 := Lib.hid (HP.out.below HI1.out.below)
        have HV := Lib.hid hv
        clear hv
        go_wp2_with (refine wpList_load_arr rfl 34 _ rfl b (o + i * 45) rfl (P i).C _ hr1.out Try.underlying34 rfl s34.out ?_)
        refine (put_any (P i).k (P i).C w1 w.heap.size w.heap.size v (allB P i) (HP1.out.cells i hlt) (HP1.out.ok i hlt) HI1.out.below.size HFine.out.1 HV.out (by have := HL.out; omega)).mono ?_
        rintro e w2 ⟨⟨A2, c2, rfl, _, _⟩, v2, hv2, ht2⟩
        have HN : Hid (LI w (allB P (i + 1)) w2) := Lib.hid (by rw [allB_succ]; exact HI1.out.next HV.out hv2 ht2)
        have HF2 : Hid (∀ j, j < i + 1 → Fine (P j)) := Lib.hid (fun j hj => by
          by_cases e : j = i
          · rw [e]; exact HFine.out
          · exact HF.out j (by omega))
        clear hv2 ht2
        go_wp2_with fail
        go_roundw
        case rel => exact ⟨i + 1, by omega, fun _ => by omega, by go_num, HF2, HN⟩
        case measure => simp [intOf]; omega
      by_cases h2 : (P i).k = 2
      · by_cases ha : (P i).m < ((P i).ts.length : Int)
        · refine WM.wp_region_kinds (fun _ x y => Below x.heap.size x y) (fun _ x => L5 w (allB P i) b (o + i * 45) (P i).C x) (fun x => L5 w (allB P i) b (o + i * 45) (P i).C x)
            [(7, .val (.agg (P i).C) fun _ => True), (8, .val (.bool false) fun _ => True), (15, .val (.int .i64 (P i).k) fun _ => True), (23, .val (.int .i64 (P i).k) fun _ => True), (31, .val (.int .i64 (P i).k) fun _ => True), (55, .val (.int .i64 (P i).k) fun _ => True), (62, .val (.int .i64 (P i).m) fun _ => True), (67, .val (.slice (P i).A (P i).ts.length (P i).c) fun _ => True)] (by kernel_rfl) HLX.out (fun _ _ _ hb h => L5.then_ h hb) (fun _ _ _ _ _ hb h => L5.then_ h hb) ?_ HID.out (fun _ => HID.out) ?_
          · intro z hz
            simp only [List.mem_cons, List.mem_nil_iff, or_false] at hz
            rcases hz with rfl | rfl | rfl | rfl | rfl | rfl | rfl | rfl <;> exact fun _ _ _ _ _ _ => trivial
          iterate 2
            refine WM.mono_pure rfl rfl ?_
            apply Exists.intro
            refine ⟨fun x => ?_, ?_⟩
            · go_simp
              rfl
            apply Exists.intro
            refine ⟨by simp only [Act.put, List.setIfInBounds_toArray, List.set_cons_succ, List.set_cons_zero]; rfl, ?_⟩
          refine WM.mono_pure rfl rfl ?_
          refine ⟨.bool false, fun x => ?_, ?_⟩
          · go_simp
          apply Exists.intro
          refine ⟨by simp only [Act.put, List.setIfInBounds_toArray, List.set_cons_succ, List.set_cons_zero]; rfl, ?_⟩
          refine WM.mono_pure rfl rfl ?_
          refine ⟨.bool false, fun x => ?_, ?_⟩
          · go_simp
          apply Exists.intro
          refine ⟨by simp only [Act.put, List.setIfInBounds_toArray, List.set_cons_succ, List.set_cons_zero]; rfl, ?_⟩
          iterate 3
            refine WM.mono_pure rfl rfl ?_
            apply Exists.intro
            refine ⟨fun x => ?_, ?_⟩
            · go_simp
              rfl
            apply Exists.intro
            refine ⟨by simp only [Act.put, List.setIfInBounds_toArray, List.set_cons_succ, List.set_cons_zero]; rfl, ?_⟩
          refine WM.mono_val rfl rfl (fun x hD hF => ?_) ?_
          · have hl := run_loadVar_arr (P := Try.prog) x b (o + i * 45) 34 (P i).C _ hD.c Try.underlying34 rfl s34.out
            rw [exec_load_b 34 (.tmp 29) rfl b (o + i * 45) rfl hl]
            exact ⟨Below.refl _ _, rfl, trivial⟩
          apply Exists.intro
          refine ⟨by simp only [Act.put, List.setIfInBounds_toArray, List.set_cons_succ, List.set_cons_zero]; rfl, ?_⟩
          refine WM.mono_val rfl rfl (fun x hD hF => ?_) ?_
          · go_simp
            refine (great_any (P i).C x HCE.out HLE.out).mono ?_
            rintro e y ⟨rfl, hgr⟩
            exact ⟨_, rfl, hgr, by rw [hgd]⟩
          apply Exists.intro
          refine ⟨by simp only [Act.put, List.setIfInBounds_toArray, List.set_cons_succ, List.set_cons_zero]; rfl, ?_⟩
          refine WM.mono_pure rfl rfl ?_
          refine ⟨.bool false, fun x => ?_, ?_⟩
          · go_simp
          apply Exists.intro
          refine ⟨by simp only [Act.put, List.setIfInBounds_toArray, List.set_cons_succ, List.set_cons_zero]; rfl, ?_⟩
          refine WM.mono_pure rfl rfl ?_
          refine ⟨.bool false, fun x => ?_, ?_⟩
          · go_simp
          apply Exists.intro
          refine ⟨by simp only [Act.put, List.setIfInBounds_toArray, List.set_cons_succ, List.set_cons_zero]; rfl, ?_⟩
          iterate 4
            refine WM.mono_pure rfl rfl ?_
            apply Exists.intro
            refine ⟨fun x => ?_, ?_⟩
            · go_simp
              rfl
            apply Exists.intro
            refine ⟨by simp only [Act.put, List.setIfInBounds_toArray, List.set_cons_succ, List.set_cons_zero]; rfl, ?_⟩
          refine WM.mono_val rfl rfl (fun x hD hF => ?_) ?_
          · have hc : x.cell? ⟨b, o + i * 45, none⟩ = some (.int .i64 (P i).k) := hD.c 0 _ HCE.out.kind
            go_simp
            exact ⟨Below.refl _ _, rfl⟩
          apply Exists.intro
          refine ⟨by simp only [Act.put, List.setIfInBounds_toArray, List.set_cons_succ, List.set_cons_zero]; rfl, ?_⟩
          refine WM.mono_pure rfl rfl ?_
          refine ⟨.bool false, fun x => ?_, ?_⟩
          · go_simp
          apply Exists.intro
          refine ⟨by simp only [Act.put, List.setIfInBounds_toArray, List.set_cons_succ, List.set_cons_zero]; rfl, ?_⟩
          refine WM.mono_pure rfl rfl ?_
          refine ⟨.bool false, fun x => ?_, ?_⟩
          · go_simp
          apply Exists.intro
          refine ⟨by simp only [Act.put, List.setIfInBounds_toArray, List.set_cons_succ, List.set_cons_zero]; rfl, ?_⟩
          refine WM.mono_pure rfl rfl ?_
          refine ⟨.bool false, fun x => ?_, ?_⟩
          · go_simp
          apply Exists.intro
          refine ⟨by simp only [Act.put, List.setIfInBounds_toArray, List.set_cons_succ, List.set_cons_zero]; rfl, ?_⟩
          iterate 4
            refine WM.mono_pure rfl rfl ?_
            apply Exists.intro
            refine ⟨fun x => ?_, ?_⟩
            · go_simp
              rfl
            apply Exists.intro
            refine ⟨by simp only [Act.put, List.setIfInBounds_toArray, List.set_cons_succ, List.set_cons_zero]; rfl, ?_⟩
          refine WM.mono_val rfl rfl (fun x hD hF => ?_) ?_
          · have hc : x.cell? ⟨b, o + i * 45, none⟩ = some (.int .i64 (P i).k) := hD.c 0 _ HCE.out.kind
            go_simp
            exact ⟨Below.refl _ _, rfl⟩
          apply Exists.intro
          refine ⟨by simp only [Act.put, List.setIfInBounds_toArray, List.set_cons_succ, List.set_cons_zero]; rfl, ?_⟩
          refine WM.mono_pure rfl rfl ?_
          refine ⟨.bool false, fun x => ?_, ?_⟩
          · go_simp
          apply Exists.intro
          refine ⟨by simp only [Act.put, List.setIfInBounds_toArray, List.set_cons_succ, List.set_cons_zero]; rfl, ?_⟩
          refine WM.mono_pure rfl rfl ?_
          refine ⟨.bool false, fun x => ?_, ?_⟩
          · go_simp
          apply Exists.intro
          refine ⟨by simp only [Act.put, List.setIfInBounds_toArray, List.set_cons_succ, List.set_cons_zero]; rfl, ?_⟩
          refine WM.mono_pure rfl rfl ?_
          refine ⟨.bool false, fun x => ?_, ?_⟩
          · go_simp
          apply Exists.intro
          refine ⟨by simp only [Act.put, List.setIfInBounds_toArray, List.set_cons_succ, List.set_cons_zero]; rfl, ?_⟩
          iterate 4
            refine WM.mono_pure rfl rfl ?_
            apply Exists.intro
            refine ⟨fun x => ?_, ?_⟩
            · go_simp
              rfl
            apply Exists.intro
            refine ⟨by simp only [Act.put, List.setIfInBounds_toArray, List.set_cons_succ, List.set_cons_zero]; rfl, ?_⟩
          refine WM.mono_val rfl rfl (fun x hD hF => ?_) ?_
          · have hc : x.cell? ⟨b, o + i * 45, none⟩ = some (.int .i64 (P i).k) := hD.c 0 _ HCE.out.kind
            go_simp
            exact ⟨Below.refl _ _, rfl⟩
          apply Exists.intro
          refine ⟨by simp only [Act.put, List.setIfInBounds_toArray, List.set_cons_succ, List.set_cons_zero]; rfl, ?_⟩
          refine WM.mono_pure rfl rfl ?_
          refine ⟨.bool false, fun x => ?_, ?_⟩
          · go_simp
          apply Exists.intro
          refine ⟨by simp only [Act.put, List.setIfInBounds_toArray, List.set_cons_succ, List.set_cons_zero]; rfl, ?_⟩
          refine WM.mono_pure rfl rfl ?_
          refine ⟨.bool false, fun x => ?_, ?_⟩
          · go_simp
          apply Exists.intro
          refine ⟨by simp only [Act.put, List.setIfInBounds_toArray, List.set_cons_succ, List.set_cons_zero]; rfl, ?_⟩
          refine WM.mono_skip rfl ?_
          apply Exists.intro
          refine ⟨by simp only [Act.put, List.setIfInBounds_toArray, List.set_cons_succ, List.set_cons_zero]; rfl, ?_⟩
          refine WM.mono_skip rfl ?_
          apply Exists.intro
          refine ⟨by simp only [Act.put, List.setIfInBounds_toArray, List.set_cons_succ, List.set_cons_zero]; rfl, ?_⟩
          refine WM.mono_skip rfl ?_
          apply Exists.intro
          refine ⟨by simp only [Act.put, List.setIfInBounds_toArray, List.set_cons_succ, List.set_cons_zero]; rfl, ?_⟩
          refine WM.mono_skip rfl ?_
          apply Exists.intro
          refine ⟨by simp only [Act.put, List.setIfInBounds_toArray, List.set_cons_succ, List.set_cons_zero]; rfl, ?_⟩
          refine WM.mono_skip rfl ?_
          apply Exists.intro
          refine ⟨by simp only [Act.put, List.setIfInBounds_toArray, List.set_cons_succ, List.set_cons_zero]; rfl, ?_⟩
          refine WM.mono_skip rfl ?_
          apply Exists.intro
          refine ⟨by simp only [Act.put, List.setIfInBounds_toArray, List.set_cons_succ, List.set_cons_zero]; rfl, ?_⟩
          refine WM.mono_skip rfl ?_
          apply Exists.intro
          refine ⟨by simp only [Act.put, List.setIfInBounds_toArray, List.set_cons_succ, List.set_cons_zero]; rfl, ?_⟩
          refine WM.mono_skip rfl ?_
          apply Exists.intro
          refine ⟨by simp only [Act.put, List.setIfInBounds_toArray, List.set_cons_succ, List.set_cons_zero]; rfl, ?_⟩
          refine WM.mono_skip rfl ?_
          apply Exists.intro
          refine ⟨by simp only [Act.put, List.setIfInBounds_toArray, List.set_cons_succ, List.set_cons_zero]; rfl, ?_⟩
          refine WM.mono_skip rfl ?_
          apply Exists.intro
          refine ⟨by simp only [Act.put, List.setIfInBounds_toArray, List.set_cons_succ, List.set_cons_zero]; rfl, ?_⟩
          refine WM.mono_skip rfl ?_
          apply Exists.intro
          refine ⟨by simp only [Act.put, List.setIfInBounds_toArray, List.set_cons_succ, List.set_cons_zero]; rfl, ?_⟩
          refine WM.mono_skip rfl ?_
          apply Exists.intro
          refine ⟨by simp only [Act.put, List.setIfInBounds_toArray, List.set_cons_succ, List.set_cons_zero]; rfl, ?_⟩
          refine WM.mono_skip rfl ?_
          apply Exists.intro
          refine ⟨by simp only [Act.put, List.setIfInBounds_toArray, List.set_cons_succ, List.set_cons_zero]; rfl, ?_⟩
          refine WM.mono_skip rfl ?_
          apply Exists.intro
          refine ⟨by simp only [Act.put, List.setIfInBounds_toArray, List.set_cons_succ, List.set_cons_zero]; rfl, ?_⟩
          refine WM.mono_pure rfl rfl ?_
          refine ⟨.bool false, fun x => ?_, ?_⟩
          · go_simp
          apply Exists.intro
          refine ⟨by simp only [Act.put, List.setIfInBounds_toArray, List.set_cons_succ, List.set_cons_zero]; rfl, ?_⟩
          refine WM.mono_pure rfl rfl ?_
          refine ⟨.bool false, fun x => ?_, ?_⟩
          · go_simp
          apply Exists.intro
          refine ⟨by simp only [Act.put, List.setIfInBounds_toArray, List.set_cons_succ, List.set_cons_zero]; rfl, ?_⟩
          refine WM.mono_pure rfl rfl ?_
          refine ⟨.bool false, fun x => ?_, ?_⟩
          · go_simp
          apply Exists.intro
          refine ⟨by simp only [Act.put, List.setIfInBounds_toArray, List.set_cons_succ, List.set_cons_zero]; rfl, ?_⟩
          iterate 4
            refine WM.mono_pure rfl rfl ?_
            apply Exists.intro
            refine ⟨fun x => ?_, ?_⟩
            · go_simp
              rfl
            apply Exists.intro
            refine ⟨by simp only [Act.put, List.setIfInBounds_toArray, List.set_cons_succ, List.set_cons_zero]; rfl, ?_⟩
          refine WM.mono_val rfl rfl (fun x hD hF => ?_) ?_
          · have hc : x.cell? ⟨b, o + i * 45, none⟩ = some (.int .i64 (P i).k) := hD.c 0 _ HCE.out.kind
            go_simp
            exact ⟨Below.refl _ _, rfl⟩
          apply Exists.intro
          refine ⟨by simp only [Act.put, List.setIfInBounds_toArray, List.set_cons_succ, List.set_cons_zero]; rfl, ?_⟩
          refine WM.mono_pure rfl rfl ?_
          refine ⟨.bool true, fun x => ?_, ?_⟩
          · go_simp
          apply Exists.intro
          refine ⟨by simp only [Act.put, List.setIfInBounds_toArray, List.set_cons_succ, List.set_cons_zero]; rfl, ?_⟩
          refine WM.mono_pure rfl rfl ?_
          refine ⟨.bool true, fun x => ?_, ?_⟩
          · go_simp
          apply Exists.intro
          refine ⟨by simp only [Act.put, List.setIfInBounds_toArray, List.set_cons_succ, List.set_cons_zero]; rfl, ?_⟩
          iterate 4
            refine WM.mono_pure rfl rfl ?_
            apply Exists.intro
            refine ⟨fun x => ?_, ?_⟩
            · go_simp
              rfl
            apply Exists.intro
            refine ⟨by simp only [Act.put, List.setIfInBounds_toArray, List.set_cons_succ, List.set_cons_zero]; rfl, ?_⟩
          refine WM.mono_val rfl rfl (fun x hD hF => ?_) ?_
          · have hc : x.cell? ⟨b, o + i * 45 + 2, none⟩ = some (.int .i64 (P i).m) := hD.c 2 _ HCE.out.most
            go_simp
            exact ⟨Below.refl _ _, rfl⟩
          apply Exists.intro
          refine ⟨by simp only [Act.put, List.setIfInBounds_toArray, List.set_cons_succ, List.set_cons_zero]; rfl, ?_⟩
          iterate 4
            refine WM.mono_pure rfl rfl ?_
            apply Exists.intro
            refine ⟨fun x => ?_, ?_⟩
            · go_simp
              rfl
            apply Exists.intro
            refine ⟨by simp only [Act.put, List.setIfInBounds_toArray, List.set_cons_succ, List.set_cons_zero]; rfl, ?_⟩
          refine WM.mono_val rfl rfl (fun x hD hF => ?_) ?_
          · have hc : x.cell? ⟨b, o + i * 45 + 4, none⟩ = some (.slice (P i).A (P i).ts.length (P i).c) := hD.c 4 _ HCE.out.text
            go_simp
            exact ⟨Below.refl _ _, rfl⟩
          apply Exists.intro
          refine ⟨by simp only [Act.put, List.setIfInBounds_toArray, List.set_cons_succ, List.set_cons_zero]; rfl, ?_⟩
          iterate 1
            refine WM.mono_pure rfl rfl ?_
            apply Exists.intro
            refine ⟨fun x => ?_, ?_⟩
            · go_simp
              rfl
            apply Exists.intro
            refine ⟨by simp only [Act.put, List.setIfInBounds_toArray, List.set_cons_succ, List.set_cons_zero]; rfl, ?_⟩
          refine WM.mono_pure rfl rfl ?_
          refine ⟨.bool true, fun x => ?_, ?_⟩
          · go_simp
          apply Exists.intro
          refine ⟨by simp only [Act.put, List.setIfInBounds_toArray, List.set_cons_succ, List.set_cons_zero]; rfl, ?_⟩
          refine WM.mono_pure rfl rfl ?_
          refine ⟨.bool true, fun x => ?_, ?_⟩
          · go_simp
          apply Exists.intro
          refine ⟨by simp only [Act.put, List.setIfInBounds_toArray, List.set_cons_succ, List.set_cons_zero]; rfl, ?_⟩
          refine WM.mono_pure rfl rfl ?_
          refine ⟨.bool true, fun x => ?_, ?_⟩
          · go_simp
          apply Exists.intro
          refine ⟨by simp only [Act.put, List.setIfInBounds_toArray, List.set_cons_succ, List.set_cons_zero]; rfl, ?_⟩
          refine WM.mono_nil ?_
          intro w1 hD hF
          have HI1 := Lib.hid hD.li
          have hr1 : Hid (rangeA w1 b (o + i * 45) (P i).C) := Lib.hid hD.c
          clear hD hF
          go_simp
          go_wp2_with fail
          refine (alive_any w1).mono ?_
          rintro e w2 ⟨rfl, hb2⟩
          have HB2 := Lib.hid (HI1.out.below.trans (hb2.mono HI1.out.below.size))
          clear hb2
          go_wp2_with fail
          go_ret
          exact ⟨rfl, HB2.out⟩
        refine WM.wp_region_kinds (fun _ x y => Below x.heap.size x y) (fun _ x => L5 w (allB P i) b (o + i * 45) (P i).C x) (fun x => L5 w (allB P i) b (o + i * 45) (P i).C x)
          [(7, .val (.agg (P i).C) fun _ => True), (8, .val (.bool false) fun _ => True), (15, .val (.int .i64 (P i).k) fun _ => True), (23, .val (.int .i64 (P i).k) fun _ => True), (31, .val (.int .i64 (P i).k) fun _ => True), (55, .val (.int .i64 (P i).k) fun _ => True), (62, .val (.int .i64 (P i).m) fun _ => True), (67, .val (.slice (P i).A (P i).ts.length (P i).c) fun _ => True)] (by kernel_rfl) HLX.out (fun _ _ _ hb h => L5.then_ h hb) (fun _ _ _ _ _ hb h => L5.then_ h hb) ?_ HID.out (fun _ => HID.out) ?_
        · intro z hz
          simp only [List.mem_cons, List.mem_nil_iff, or_false] at hz
          rcases hz with rfl | rfl | rfl | rfl | rfl | rfl | rfl | rfl <;> exact fun _ _ _ _ _ _ => trivial
        iterate 2
          refine WM.mono_pure rfl rfl ?_
          apply Exists.intro
          refine ⟨fun x => ?_, ?_⟩
          · go_simp
            rfl
          apply Exists.intro
          refine ⟨by simp only [Act.put, List.setIfInBounds_toArray, List.set_cons_succ, List.set_cons_zero]; rfl, ?_⟩
        refine WM.mono_pure rfl rfl ?_
        refine ⟨.bool false, fun x => ?_, ?_⟩
        · go_simp
        apply Exists.intro
        refine ⟨by simp only [Act.put, List.setIfInBounds_toArray, List.set_cons_succ, List.set_cons_zero]; rfl, ?_⟩
        refine WM.mono_pure rfl rfl ?_
        refine ⟨.bool false, fun x => ?_, ?_⟩
        · go_simp
        apply Exists.intro
        refine ⟨by simp only [Act.put, List.setIfInBounds_toArray, List.set_cons_succ, List.set_cons_zero]; rfl, ?_⟩
        iterate 3
          refine WM.mono_pure rfl rfl ?_
          apply Exists.intro
          refine ⟨fun x => ?_, ?_⟩
          · go_simp
            rfl
          apply Exists.intro
          refine ⟨by simp only [Act.put, List.setIfInBounds_toArray, List.set_cons_succ, List.set_cons_zero]; rfl, ?_⟩
        refine WM.mono_val rfl rfl (fun x hD hF => ?_) ?_
        · have hl := run_loadVar_arr (P := Try.prog) x b (o + i * 45) 34 (P i).C _ hD.c Try.underlying34 rfl s34.out
          rw [exec_load_b 34 (.tmp 29) rfl b (o + i * 45) rfl hl]
          exact ⟨Below.refl _ _, rfl, trivial⟩
        apply Exists.intro
        refine ⟨by simp only [Act.put, List.setIfInBounds_toArray, List.set_cons_succ, List.set_cons_zero]; rfl, ?_⟩
        refine WM.mono_val rfl rfl (fun x hD hF => ?_) ?_
        · go_simp
          refine (great_any (P i).C x HCE.out HLE.out).mono ?_
          rintro e y ⟨rfl, hgr⟩
          exact ⟨_, rfl, hgr, by rw [hgd]⟩
        apply Exists.intro
        refine ⟨by simp only [Act.put, List.setIfInBounds_toArray, List.set_cons_succ, List.set_cons_zero]; rfl, ?_⟩
        refine WM.mono_pure rfl rfl ?_
        refine ⟨.bool false, fun x => ?_, ?_⟩
        · go_simp
        apply Exists.intro
        refine ⟨by simp only [Act.put, List.setIfInBounds_toArray, List.set_cons_succ, List.set_cons_zero]; rfl, ?_⟩
        refine WM.mono_pure rfl rfl ?_
        refine ⟨.bool false, fun x => ?_, ?_⟩
        · go_simp
        apply Exists.intro
        refine ⟨by simp only [Act.put, List.setIfInBounds_toArray, List.set_cons_succ, List.set_cons_zero]; rfl, ?_⟩
        iterate 4
          refine WM.mono_pure rfl rfl ?_
          apply Exists.intro
          refine ⟨fun x => ?_, ?_⟩
          · go_simp
            rfl
          apply Exists.intro
          refine ⟨by simp only [Act.put, List.setIfInBounds_toArray, List.set_cons_succ, List.set_cons_zero]; rfl, ?_⟩
        refine WM.mono_val rfl rfl (fun x hD hF => ?_) ?_
        · have hc : x.cell? ⟨b, o + i * 45, none⟩ = some (.int .i64 (P i).k) := hD.c 0 _ HCE.out.kind
          go_simp
          exact ⟨Below.refl _ _, rfl⟩
        apply Exists.intro
        refine ⟨by simp only [Act.put, List.setIfInBounds_toArray, List.set_cons_succ, List.set_cons_zero]; rfl, ?_⟩
        refine WM.mono_pure rfl rfl ?_
        refine ⟨.bool false, fun x => ?_, ?_⟩
        · go_simp
        apply Exists.intro
        refine ⟨by simp only [Act.put, List.setIfInBounds_toArray, List.set_cons_succ, List.set_cons_zero]; rfl, ?_⟩
        refine WM.mono_pure rfl rfl ?_
        refine ⟨.bool false, fun x => ?_, ?_⟩
        · go_simp
        apply Exists.intro
        refine ⟨by simp only [Act.put, List.setIfInBounds_toArray, List.set_cons_succ, List.set_cons_zero]; rfl, ?_⟩
        refine WM.mono_pure rfl rfl ?_
        refine ⟨.bool false, fun x => ?_, ?_⟩
        · go_simp
        apply Exists.intro
        refine ⟨by simp only [Act.put, List.setIfInBounds_toArray, List.set_cons_succ, List.set_cons_zero]; rfl, ?_⟩
        iterate 4
          refine WM.mono_pure rfl rfl ?_
          apply Exists.intro
          refine ⟨fun x => ?_, ?_⟩
          · go_simp
            rfl
          apply Exists.intro
          refine ⟨by simp only [Act.put, List.setIfInBounds_toArray, List.set_cons_succ, List.set_cons_zero]; rfl, ?_⟩
        refine WM.mono_val rfl rfl (fun x hD hF => ?_) ?_
        · have hc : x.cell? ⟨b, o + i * 45, none⟩ = some (.int .i64 (P i).k) := hD.c 0 _ HCE.out.kind
          go_simp
          exact ⟨Below.refl _ _, rfl⟩
        apply Exists.intro
        refine ⟨by simp only [Act.put, List.setIfInBounds_toArray, List.set_cons_succ, List.set_cons_zero]; rfl, ?_⟩
        refine WM.mono_pure rfl rfl ?_
        refine ⟨.bool false, fun x => ?_, ?_⟩
        · go_simp
        apply Exists.intro
        refine ⟨by simp only [Act.put, List.setIfInBounds_toArray, List.set_cons_succ, List.set_cons_zero]; rfl, ?_⟩
        refine WM.mono_pure rfl rfl ?_
        refine ⟨.bool false, fun x => ?_, ?_⟩
        · go_simp
        apply Exists.intro
        refine ⟨by simp only [Act.put, List.setIfInBounds_toArray, List.set_cons_succ, List.set_cons_zero]; rfl, ?_⟩
        refine WM.mono_pure rfl rfl ?_
        refine ⟨.bool false, fun x => ?_, ?_⟩
        · go_simp
        apply Exists.intro
        refine ⟨by simp only [Act.put, List.setIfInBounds_toArray, List.set_cons_succ, List.set_cons_zero]; rfl, ?_⟩
        iterate 4
          refine WM.mono_pure rfl rfl ?_
          apply Exists.intro
          refine ⟨fun x => ?_, ?_⟩
          · go_simp
            rfl
          apply Exists.intro
          refine ⟨by simp only [Act.put, List.setIfInBounds_toArray, List.set_cons_succ, List.set_cons_zero]; rfl, ?_⟩
        refine WM.mono_val rfl rfl (fun x hD hF => ?_) ?_
        · have hc : x.cell? ⟨b, o + i * 45, none⟩ = some (.int .i64 (P i).k) := hD.c 0 _ HCE.out.kind
          go_simp
          exact ⟨Below.refl _ _, rfl⟩
        apply Exists.intro
        refine ⟨by simp only [Act.put, List.setIfInBounds_toArray, List.set_cons_succ, List.set_cons_zero]; rfl, ?_⟩
        refine WM.mono_pure rfl rfl ?_
        refine ⟨.bool false, fun x => ?_, ?_⟩
        · go_simp
        apply Exists.intro
        refine ⟨by simp only [Act.put, List.setIfInBounds_toArray, List.set_cons_succ, List.set_cons_zero]; rfl, ?_⟩
        refine WM.mono_pure rfl rfl ?_
        refine ⟨.bool false, fun x => ?_, ?_⟩
        · go_simp
        apply Exists.intro
        refine ⟨by simp only [Act.put, List.setIfInBounds_toArray, List.set_cons_succ, List.set_cons_zero]; rfl, ?_⟩
        refine WM.mono_skip rfl ?_
        apply Exists.intro
        refine ⟨by simp only [Act.put, List.setIfInBounds_toArray, List.set_cons_succ, List.set_cons_zero]; rfl, ?_⟩
        refine WM.mono_skip rfl ?_
        apply Exists.intro
        refine ⟨by simp only [Act.put, List.setIfInBounds_toArray, List.set_cons_succ, List.set_cons_zero]; rfl, ?_⟩
        refine WM.mono_skip rfl ?_
        apply Exists.intro
        refine ⟨by simp only [Act.put, List.setIfInBounds_toArray, List.set_cons_succ, List.set_cons_zero]; rfl, ?_⟩
        refine WM.mono_skip rfl ?_
        apply Exists.intro
        refine ⟨by simp only [Act.put, List.setIfInBounds_toArray, List.set_cons_succ, List.set_cons_zero]; rfl, ?_⟩
        refine WM.mono_skip rfl ?_
        apply Exists.intro
        refine ⟨by simp only [Act.put, List.setIfInBounds_toArray, List.set_cons_succ, List.set_cons_zero]; rfl, ?_⟩
        refine WM.mono_skip rfl ?_
        apply Exists.intro
        refine ⟨by simp only [Act.put, List.setIfInBounds_toArray, List.set_cons_succ, List.set_cons_zero]; rfl, ?_⟩
        refine WM.mono_skip rfl ?_
        apply Exists.intro
        refine ⟨by simp only [Act.put, List.setIfInBounds_toArray, List.set_cons_succ, List.set_cons_zero]; rfl, ?_⟩
        refine WM.mono_skip rfl ?_
        apply Exists.intro
        refine ⟨by simp only [Act.put, List.setIfInBounds_toArray, List.set_cons_succ, List.set_cons_zero]; rfl, ?_⟩
        refine WM.mono_skip rfl ?_
        apply Exists.intro
        refine ⟨by simp only [Act.put, List.setIfInBounds_toArray, List.set_cons_succ, List.set_cons_zero]; rfl, ?_⟩
        refine WM.mono_skip rfl ?_
        apply Exists.intro
        refine ⟨by simp only [Act.put, List.setIfInBounds_toArray, List.set_cons_succ, List.set_cons_zero]; rfl, ?_⟩
        refine WM.mono_skip rfl ?_
        apply Exists.intro
        refine ⟨by simp only [Act.put, List.setIfInBounds_toArray, List.set_cons_succ, List.set_cons_zero]; rfl, ?_⟩
        refine WM.mono_skip rfl ?_
        apply Exists.intro
        refine ⟨by simp only [Act.put, List.setIfInBounds_toArray, List.set_cons_succ, List.set_cons_zero]; rfl, ?_⟩
        refine WM.mono_skip rfl ?_
        apply Exists.intro
        refine ⟨by simp only [Act.put, List.setIfInBounds_toArray, List.set_cons_succ, List.set_cons_zero]; rfl, ?_⟩
        refine WM.mono_skip rfl ?_
        apply Exists.intro
        refine ⟨by simp only [Act.put, List.setIfInBounds_toArray, List.set_cons_succ, List.set_cons_zero]; rfl, ?_⟩
        refine WM.mono_pure rfl rfl ?_
        refine ⟨.bool false, fun x => ?_, ?_⟩
        · go_simp
        apply Exists.intro
        refine ⟨by simp only [Act.put, List.setIfInBounds_toArray, List.set_cons_succ, List.set_cons_zero]; rfl, ?_⟩
        refine WM.mono_pure rfl rfl ?_
        refine ⟨.bool false, fun x => ?_, ?_⟩
        · go_simp
        apply Exists.intro
        refine ⟨by simp only [Act.put, List.setIfInBounds_toArray, List.set_cons_succ, List.set_cons_zero]; rfl, ?_⟩
        refine WM.mono_pure rfl rfl ?_
        refine ⟨.bool false, fun x => ?_, ?_⟩
        · go_simp
        apply Exists.intro
        refine ⟨by simp only [Act.put, List.setIfInBounds_toArray, List.set_cons_succ, List.set_cons_zero]; rfl, ?_⟩
        iterate 4
          refine WM.mono_pure rfl rfl ?_
          apply Exists.intro
          refine ⟨fun x => ?_, ?_⟩
          · go_simp
            rfl
          apply Exists.intro
          refine ⟨by simp only [Act.put, List.setIfInBounds_toArray, List.set_cons_succ, List.set_cons_zero]; rfl, ?_⟩
        refine WM.mono_val rfl rfl (fun x hD hF => ?_) ?_
        · have hc : x.cell? ⟨b, o + i * 45, none⟩ = some (.int .i64 (P i).k) := hD.c 0 _ HCE.out.kind
          go_simp
          exact ⟨Below.refl _ _, rfl⟩
        apply Exists.intro
        refine ⟨by simp only [Act.put, List.setIfInBounds_toArray, List.set_cons_succ, List.set_cons_zero]; rfl, ?_⟩
        refine WM.mono_pure rfl rfl ?_
        refine ⟨.bool true, fun x => ?_, ?_⟩
        · go_simp
        apply Exists.intro
        refine ⟨by simp only [Act.put, List.setIfInBounds_toArray, List.set_cons_succ, List.set_cons_zero]; rfl, ?_⟩
        refine WM.mono_pure rfl rfl ?_
        refine ⟨.bool true, fun x => ?_, ?_⟩
        · go_simp
        apply Exists.intro
        refine ⟨by simp only [Act.put, List.setIfInBounds_toArray, List.set_cons_succ, List.set_cons_zero]; rfl, ?_⟩
        iterate 4
          refine WM.mono_pure rfl rfl ?_
          apply Exists.intro
          refine ⟨fun x => ?_, ?_⟩
          · go_simp
            rfl
          apply Exists.intro
          refine ⟨by simp only [Act.put, List.setIfInBounds_toArray, List.set_cons_succ, List.set_cons_zero]; rfl, ?_⟩
        refine WM.mono_val rfl rfl (fun x hD hF => ?_) ?_
        · have hc : x.cell? ⟨b, o + i * 45 + 2, none⟩ = some (.int .i64 (P i).m) := hD.c 2 _ HCE.out.most
          go_simp
          exact ⟨Below.refl _ _, rfl⟩
        apply Exists.intro
        refine ⟨by simp only [Act.put, List.setIfInBounds_toArray, List.set_cons_succ, List.set_cons_zero]; rfl, ?_⟩
        iterate 4
          refine WM.mono_pure rfl rfl ?_
          apply Exists.intro
          refine ⟨fun x => ?_, ?_⟩
          · go_simp
            rfl
          apply Exists.intro
          refine ⟨by simp only [Act.put, List.setIfInBounds_toArray, List.set_cons_succ, List.set_cons_zero]; rfl, ?_⟩
        refine WM.mono_val rfl rfl (fun x hD hF => ?_) ?_
        · have hc : x.cell? ⟨b, o + i * 45 + 4, none⟩ = some (.slice (P i).A (P i).ts.length (P i).c) := hD.c 4 _ HCE.out.text
          go_simp
          exact ⟨Below.refl _ _, rfl⟩
        apply Exists.intro
        refine ⟨by simp only [Act.put, List.setIfInBounds_toArray, List.set_cons_succ, List.set_cons_zero]; rfl, ?_⟩
        iterate 1
          refine WM.mono_pure rfl rfl ?_
          apply Exists.intro
          refine ⟨fun x => ?_, ?_⟩
          · go_simp
            rfl
          apply Exists.intro
          refine ⟨by simp only [Act.put, List.setIfInBounds_toArray, List.set_cons_succ, List.set_cons_zero]; rfl, ?_⟩
        refine WM.mono_pure rfl rfl ?_
        refine ⟨.bool false, fun x => ?_, ?_⟩
        · go_simp
        apply Exists.intro
        refine ⟨by simp only [Act.put, List.setIfInBounds_toArray, List.set_cons_succ, List.set_cons_zero]; rfl, ?_⟩
        refine WM.mono_pure rfl rfl ?_
        refine ⟨.bool false, fun x => ?_, ?_⟩
        · go_simp
        apply Exists.intro
        refine ⟨by simp only [Act.put, List.setIfInBounds_toArray, List.set_cons_succ, List.set_cons_zero]; rfl, ?_⟩
        refine WM.mono_pure rfl rfl ?_
        refine ⟨.bool false, fun x => ?_, ?_⟩
        · go_simp
        apply Exists.intro
        refine ⟨by simp only [Act.put, List.setIfInBounds_toArray, List.set_cons_succ, List.set_cons_zero]; rfl, ?_⟩
        refine WM.mono_nil ?_
        intro w1 hD hF
        have HI1 := Lib.hid hD.li
        have hr1 : Hid (rangeA w1 b (o + i * 45) (P i).C) := Lib.hid hD.c
        clear hD hF
        go_simp
        have HFine : Hid (Fine (P i)) := Lib.hid ⟨by omega, by omega, by omega, fun _ => by omega, fun _ => by omega⟩
        obtain ⟨v, hv⟩ := HI1.out.wt
        have HP1 := Lib.hid (HP.out.below HI1.out.below)
        have HV := Lib.hid hv
        clear hv
        go_wp2_with (refine wpList_load_arr rfl 34 _ rfl b (o + i * 45) rfl (P i).C _ hr1.out Try.underlying34 rfl s34.out ?_)
        refine (put_any (P i).k (P i).C w1 w.heap.size w.heap.size v (allB P i) (HP1.out.cells i hlt) (HP1.out.ok i hlt) HI1.out.below.size HFine.out.1 HV.out (by have := HL.out; omega)).mono ?_
        rintro e w2 ⟨⟨A2, c2, rfl, _, _⟩, v2, hv2, ht2⟩
        have HN : Hid (LI w (allB P (i + 1)) w2) := Lib.hid (by rw [allB_succ]; exact HI1.out.next HV.out hv2 ht2)
        have HF2 : Hid (∀ j, j < i + 1 → Fine (P j)) := Lib.hid (fun j hj => by
          by_cases e : j = i
          · rw [e]; exact HFine.out
          · exact HF.out j (by omega))
        clear hv2 ht2
        go_wp2_with fail
        go_roundw
        case rel => exact ⟨i + 1, by omega, fun _ => by omega, by go_num, HF2, HN⟩
        case measure => simp [intOf]; omega
      refine WM.wp_region_kinds (fun _ x y => Below x.heap.size x y) (fun _ x => L5 w (allB P i) b (o + i * 45) (P i).C x) (fun x => L5 w (allB P i) b (o + i * 45) (P i).C x)
        [(7, .val (.agg (P i).C) fun _ => True), (8, .val (.bool false) fun _ => True), (15, .val (.int .i64 (P i).k) fun _ => True), (23, .val (.int .i64 (P i).k) fun _ => True), (31, .val (.int .i64 (P i).k) fun _ => True), (55, .val (.int .i64 (P i).k) fun _ => True)] (by kernel_rfl) HLX.out (fun _ _ _ hb h => L5.then_ h hb) (fun _ _ _ _ _ hb h => L5.then_ h hb) ?_ HID.out (fun _ => HID.out) ?_
      · intro z hz
        simp only [List.mem_cons, List.mem_nil_iff, or_false] at hz
        rcases hz with rfl | rfl | rfl | rfl | rfl | rfl <;> exact fun _ _ _ _ _ _ => trivial
      iterate 2
        refine WM.mono_pure rfl rfl ?_
        apply Exists.intro
        refine ⟨fun x => ?_, ?_⟩
        · go_simp
          rfl
        apply Exists.intro
        refine ⟨by simp only [Act.put, List.setIfInBounds_toArray, List.set_cons_succ, List.set_cons_zero]; rfl, ?_⟩
      refine WM.mono_pure rfl rfl ?_
      refine ⟨.bool false, fun x => ?_, ?_⟩
      · go_simp
      apply Exists.intro
      refine ⟨by simp only [Act.put, List.setIfInBounds_toArray, List.set_cons_succ, List.set_cons_zero]; rfl, ?_⟩
      refine WM.mono_pure rfl rfl ?_
      refine ⟨.bool false, fun x => ?_, ?_⟩
      · go_simp
      apply Exists.intro
      refine ⟨by simp only [Act.put, List.setIfInBounds_toArray, List.set_cons_succ, List.set_cons_zero]; rfl, ?_⟩
      iterate 3
        refine WM.mono_pure rfl rfl ?_
        apply Exists.intro
        refine ⟨fun x => ?_, ?_⟩
        · go_simp
          rfl
        apply Exists.intro
        refine ⟨by simp only [Act.put, List.setIfInBounds_toArray, List.set_cons_succ, List.set_cons_zero]; rfl, ?_⟩
      refine WM.mono_val rfl rfl (fun x hD hF => ?_) ?_
      · have hl := run_loadVar_arr (P := Try.prog) x b (o + i * 45) 34 (P i).C _ hD.c Try.underlying34 rfl s34.out
        rw [exec_load_b 34 (.tmp 29) rfl b (o + i * 45) rfl hl]
        exact ⟨Below.refl _ _, rfl, trivial⟩
      apply Exists.intro
      refine ⟨by simp only [Act.put, List.setIfInBounds_toArray, List.set_cons_succ, List.set_cons_zero]; rfl, ?_⟩
      refine WM.mono_val rfl rfl (fun x hD hF => ?_) ?_
      · go_simp
        refine (great_any (P i).C x HCE.out HLE.out).mono ?_
        rintro e y ⟨rfl, hgr⟩
        exact ⟨_, rfl, hgr, by rw [hgd]⟩
      apply Exists.intro
      refine ⟨by simp only [Act.put, List.setIfInBounds_toArray, List.set_cons_succ, List.set_cons_zero]; rfl, ?_⟩
      refine WM.mono_pure rfl rfl ?_
      refine ⟨.bool false, fun x => ?_, ?_⟩
      · go_simp
      apply Exists.intro
      refine ⟨by simp only [Act.put, List.setIfInBounds_toArray, List.set_cons_succ, List.set_cons_zero]; rfl, ?_⟩
      refine WM.mono_pure rfl rfl ?_
      refine ⟨.bool false, fun x => ?_, ?_⟩
      · go_simp
      apply Exists.intro
      refine ⟨by simp only [Act.put, List.setIfInBounds_toArray, List.set_cons_succ, List.set_cons_zero]; rfl, ?_⟩
      iterate 4
        refine WM.mono_pure rfl rfl ?_
        apply Exists.intro
        refine ⟨fun x => ?_, ?_⟩
        · go_simp
          rfl
        apply Exists.intro
        refine ⟨by simp only [Act.put, List.setIfInBounds_toArray, List.set_cons_succ, List.set_cons_zero]; rfl, ?_⟩
      refine WM.mono_val rfl rfl (fun x hD hF => ?_) ?_
      · have hc : x.cell? ⟨b, o + i * 45, none⟩ = some (.int .i64 (P i).k) := hD.c 0 _ HCE.out.kind
        go_simp
        exact ⟨Below.refl _ _, rfl⟩
      apply Exists.intro
      refine ⟨by simp only [Act.put, List.setIfInBounds_toArray, List.set_cons_succ, List.set_cons_zero]; rfl, ?_⟩
      refine WM.mono_pure rfl rfl ?_
      refine ⟨.bool false, fun x => ?_, ?_⟩
      · go_simp
      apply Exists.intro
      refine ⟨by simp only [Act.put, List.setIfInBounds_toArray, List.set_cons_succ, List.set_cons_zero]; rfl, ?_⟩
      refine WM.mono_pure rfl rfl ?_
      refine ⟨.bool false, fun x => ?_, ?_⟩
      · go_simp
      apply Exists.intro
      refine ⟨by simp only [Act.put, List.setIfInBounds_toArray, List.set_cons_succ, List.set_cons_zero]; rfl, ?_⟩
      refine WM.mono_pure rfl rfl ?_
      refine ⟨.bool false, fun x => ?_, ?_⟩
      · go_simp
      apply Exists.intro
      refine ⟨by simp only [Act.put, List.setIfInBounds_toArray, List.set_cons_succ, List.set_cons_zero]; rfl, ?_⟩
      iterate 4
        refine WM.mono_pure rfl rfl ?_
        apply Exists.intro
        refine ⟨fun x => ?_, ?_⟩
        · go_simp
          rfl
        apply Exists.intro
        refine ⟨by simp only [Act.put, List.setIfInBounds_toArray, List.set_cons_succ, List.set_cons_zero]; rfl, ?_⟩
      refine WM.mono_val rfl rfl (fun x hD hF => ?_) ?_
      · have hc : x.cell? ⟨b, o + i * 45, none⟩ = some (.int .i64 (P i).k) := hD.c 0 _ HCE.out.kind
        go_simp
        exact ⟨Below.refl _ _, rfl⟩
      apply Exists.intro
      refine ⟨by simp only [Act.put, List.setIfInBounds_toArray, List.set_cons_succ, List.set_cons_zero]; rfl, ?_⟩
      refine WM.mono_pure rfl rfl ?_
      refine ⟨.bool false, fun x => ?_, ?_⟩
      · go_simp
      apply Exists.intro
      refine ⟨by simp only [Act.put, List.setIfInBounds_toArray, List.set_cons_succ, List.set_cons_zero]; rfl, ?_⟩
      refine WM.mono_pure rfl rfl ?_
      refine ⟨.bool false, fun x => ?_, ?_⟩
      · go_simp
      apply Exists.intro
      refine ⟨by simp only [Act.put, List.setIfInBounds_toArray, List.set_cons_succ, List.set_cons_zero]; rfl, ?_⟩
      refine WM.mono_pure rfl rfl ?_
      refine ⟨.bool false, fun x => ?_, ?_⟩
      · go_simp
      apply Exists.intro
      refine ⟨by simp only [Act.put, List.setIfInBounds_toArray, List.set_cons_succ, List.set_cons_zero]; rfl, ?_⟩
      iterate 4
        refine WM.mono_pure rfl rfl ?_
        apply Exists.intro
        refine ⟨fun x => ?_, ?_⟩
        · go_simp
          rfl
        apply Exists.intro
        refine ⟨by simp only [Act.put, List.setIfInBounds_toArray, List.set_cons_succ, List.set_cons_zero]; rfl, ?_⟩
      refine WM.mono_val rfl rfl (fun x hD hF => ?_) ?_
      · have hc : x.cell? ⟨b, o + i * 45, none⟩ = some (.int .i64 (P i).k) := hD.c 0 _ HCE.out.kind
        go_simp
        exact ⟨Below.refl _ _, rfl⟩
      apply Exists.intro
      refine ⟨by simp only [Act.put, List.setIfInBounds_toArray, List.set_cons_succ, List.set_cons_zero]; rfl, ?_⟩
      refine WM.mono_pure rfl rfl ?_
      refine ⟨.bool false, fun x => ?_, ?_⟩
      · go_simp
      apply Exists.intro
      refine ⟨by simp only [Act.put, List.setIfInBounds_toArray, List.set_cons_succ, List.set_cons_zero]; rfl, ?_⟩
      refine WM.mono_pure rfl rfl ?_
      refine ⟨.bool false, fun x => ?_, ?_⟩
      · go_simp
      apply Exists.intro
      refine ⟨by simp only [Act.put, List.setIfInBounds_toArray, List.set_cons_succ, List.set_cons_zero]; rfl, ?_⟩
      refine WM.mono_skip rfl ?_
      apply Exists.intro
      refine ⟨by simp only [Act.put, List.setIfInBounds_toArray, List.set_cons_succ, List.set_cons_zero]; rfl, ?_⟩
      refine WM.mono_skip rfl ?_
      apply Exists.intro
      refine ⟨by simp only [Act.put, List.setIfInBounds_toArray, List.set_cons_succ, List.set_cons_zero]; rfl, ?_⟩
      refine WM.mono_skip rfl ?_
      apply Exists.intro
      refine ⟨by simp only [Act.put, List.setIfInBounds_toArray, List.set_cons_succ, List.set_cons_zero]; rfl, ?_⟩
      refine WM.mono_skip rfl ?_
      apply Exists.intro
      refine ⟨by simp only [Act.put, List.setIfInBounds_toArray, List.set_cons_succ, List.set_cons_zero]; rfl, ?_⟩
      refine WM.mono_skip rfl ?_
      apply Exists.intro
      refine ⟨by simp only [Act.put, List.setIfInBounds_toArray, List.set_cons_succ, List.set_cons_zero]; rfl, ?_⟩
      refine WM.mono_skip rfl ?_
      apply Exists.intro
      refine ⟨by simp only [Act.put, List.setIfInBounds_toArray, List.set_cons_succ, List.set_cons_zero]; rfl, ?_⟩
      refine WM.mono_skip rfl ?_
      apply Exists.intro
      refine ⟨by simp only [Act.put, List.setIfInBounds_toArray, List.set_cons_succ, List.set_cons_zero]; rfl, ?_⟩
      refine WM.mono_skip rfl ?_
      apply Exists.intro
      refine ⟨by simp only [Act.put, List.setIfInBounds_toArray, List.set_cons_succ, List.set_cons_zero]; rfl, ?_⟩
      refine WM.mono_skip rfl ?_
      apply Exists.intro
      refine ⟨by simp only [Act.put, List.setIfInBounds_toArray, List.set_cons_succ, List.set_cons_zero]; rfl, ?_⟩
      refine WM.mono_skip rfl ?_
      apply Exists.intro
      refine ⟨by simp only [Act.put, List.setIfInBounds_toArray, List.set_cons_succ, List.set_cons_zero]; rfl, ?_⟩
      refine WM.mono_skip rfl ?_
      apply Exists.intro
      refine ⟨by simp only [Act.put, List.setIfInBounds_toArray, List.set_cons_succ, List.set_cons_zero]; rfl, ?_⟩
      refine WM.mono_skip rfl ?_
      apply Exists.intro
      refine ⟨by simp only [Act.put, List.setIfInBounds_toArray, List.set_cons_succ, List.set_cons_zero]; rfl, ?_⟩
      refine WM.mono_skip rfl ?_
      apply Exists.intro
      refine ⟨by simp only [Act.put, List.setIfInBounds_toArray, List.set_cons_succ, List.set_cons_zero]; rfl, ?_⟩
      refine WM.mono_skip rfl ?_
      apply Exists.intro
      refine ⟨by simp only [Act.put, List.setIfInBounds_toArray, List.set_cons_succ, List.set_cons_zero]; rfl, ?_⟩
      refine WM.mono_pure rfl rfl ?_
      refine ⟨.bool false, fun x => ?_, ?_⟩
      · go_simp
      apply Exists.intro
      refine ⟨by simp only [Act.put, List.setIfInBounds_toArray, List.set_cons_succ, List.set_cons_zero]; rfl, ?_⟩
      refine WM.mono_pure rfl rfl ?_
      refine ⟨.bool false, fun x => ?_, ?_⟩
      · go_simp
      apply Exists.intro
      refine ⟨by simp only [Act.put, List.setIfInBounds_toArray, List.set_cons_succ, List.set_cons_zero]; rfl, ?_⟩
      refine WM.mono_pure rfl rfl ?_
      refine ⟨.bool false, fun x => ?_, ?_⟩
      · go_simp
      apply Exists.intro
      refine ⟨by simp only [Act.put, List.setIfInBounds_toArray, List.set_cons_succ, List.set_cons_zero]; rfl, ?_⟩
      iterate 4
        refine WM.mono_pure rfl rfl ?_
        apply Exists.intro
        refine ⟨fun x => ?_, ?_⟩
        · go_simp
          rfl
        apply Exists.intro
        refine ⟨by simp only [Act.put, List.setIfInBounds_toArray, List.set_cons_succ, List.set_cons_zero]; rfl, ?_⟩
      refine WM.mono_val rfl rfl (fun x hD hF => ?_) ?_
      · have hc : x.cell? ⟨b, o + i * 45, none⟩ = some (.int .i64 (P i).k) := hD.c 0 _ HCE.out.kind
        go_simp
        exact ⟨Below.refl _ _, rfl⟩
      apply Exists.intro
      refine ⟨by simp only [Act.put, List.setIfInBounds_toArray, List.set_cons_succ, List.set_cons_zero]; rfl, ?_⟩
      refine WM.mono_pure rfl rfl ?_
      refine ⟨.bool false, fun x => ?_, ?_⟩
      · go_simp
      apply Exists.intro
      refine ⟨by simp only [Act.put, List.setIfInBounds_toArray, List.set_cons_succ, List.set_cons_zero]; rfl, ?_⟩
      refine WM.mono_pure rfl rfl ?_
      refine ⟨.bool false, fun x => ?_, ?_⟩
      · go_simp
      apply Exists.intro
      refine ⟨by simp only [Act.put, List.setIfInBounds_toArray, List.set_cons_succ, List.set_cons_zero]; rfl, ?_⟩
      refine WM.mono_skip rfl ?_
      apply Exists.intro
      refine ⟨by simp only [Act.put, List.setIfInBounds_toArray, List.set_cons_succ, List.set_cons_zero]; rfl, ?_⟩
      refine WM.mono_skip rfl ?_
      apply Exists.intro
      refine ⟨by simp only [Act.put, List.setIfInBounds_toArray, List.set_cons_succ, List.set_cons_zero]; rfl, ?_⟩
      refine WM.mono_skip rfl ?_
      apply Exists.intro
      refine ⟨by simp only [Act.put, List.setIfInBounds_toArray, List.set_cons_succ, List.set_cons_zero]; rfl, ?_⟩
      refine WM.mono_skip rfl ?_
      apply Exists.intro
      refine ⟨by simp only [Act.put, List.setIfInBounds_toArray, List.set_cons_succ, List.set_cons_zero]; rfl, ?_⟩
      refine WM.mono_skip rfl ?_
      apply Exists.intro
      refine ⟨by simp only [Act.put, List.setIfInBounds_toArray, List.set_cons_succ, List.set_cons_zero]; rfl, ?_⟩
      refine WM.mono_skip rfl ?_
      apply Exists.intro
      refine ⟨by simp only [Act.put, List.setIfInBounds_toArray, List.set_cons_succ, List.set_cons_zero]; rfl, ?_⟩
      refine WM.mono_skip rfl ?_
      apply Exists.intro
      refine ⟨by simp only [Act.put, List.setIfInBounds_toArray, List.set_cons_succ, List.set_cons_zero]; rfl, ?_⟩
      refine WM.mono_skip rfl ?_
      apply Exists.intro
      refine ⟨by simp only [Act.put, List.setIfInBounds_toArray, List.set_cons_succ, List.set_cons_zero]; rfl, ?_⟩
      refine WM.mono_skip rfl ?_
      apply Exists.intro
      refine ⟨by simp only [Act.put, List.setIfInBounds_toArray, List.set_cons_succ, List.set_cons_zero]; rfl, ?_⟩
      refine WM.mono_skip rfl ?_
      apply Exists.intro
      refine ⟨by simp only [Act.put, List.setIfInBounds_toArray, List.set_cons_succ, List.set_cons_zero]; rfl, ?_⟩
      refine WM.mono_skip rfl ?_
      apply Exists.intro
      refine ⟨by simp only [Act.put, List.setIfInBounds_toArray, List.set_cons_succ, List.set_cons_zero]; rfl, ?_⟩
      refine WM.mono_skip rfl ?_
      apply Exists.intro
      refine ⟨by simp only [Act.put, List.setIfInBounds_toArray, List.set_cons_succ, List.set_cons_zero]; rfl, ?_⟩
      refine WM.mono_pure rfl rfl ?_
      refine ⟨.bool false, fun x => ?_, ?_⟩
      · go_simp
      apply Exists.intro
      refine ⟨by simp only [Act.put, List.setIfInBounds_toArray, List.set_cons_succ, List.set_cons_zero]; rfl, ?_⟩
      refine WM.mono_pure rfl rfl ?_
      refine ⟨.bool false, fun x => ?_, ?_⟩
      · go_simp
      apply Exists.intro
      refine ⟨by simp only [Act.put, List.setIfInBounds_toArray, List.set_cons_succ, List.set_cons_zero]; rfl, ?_⟩
      refine WM.mono_nil ?_
      intro w1 hD hF
      have HI1 := Lib.hid hD.li
      have hr1 : Hid (rangeA w1 b (o + i * 45) (P i).C) := Lib.hid hD.c
      clear hD hF
      go_simp
      have HFine : Hid (Fine (P i)) := Lib.hid ⟨by omega, by omega, by omega, fun _ => by omega, fun _ => by omega⟩
      obtain ⟨v, hv⟩ := HI1.out.wt
      have HP1 := Lib.hid (HP.out.below HI1.out.below)
      have HV := Lib.hid hv
      clear hv
      go_wp2_with (refine wpList_load_arr rfl 34 _ rfl b (o + i * 45) rfl (P i).C _ hr1.out Try.underlying34 rfl s34.out ?_)
      refine (put_any (P i).k (P i).C w1 w.heap.size w.heap.size v (allB P i) (HP1.out.cells i hlt) (HP1.out.ok i hlt) HI1.out.below.size HFine.out.1 HV.out (by have := HL.out; omega)).mono ?_
      rintro e w2 ⟨⟨A2, c2, rfl, _, _⟩, v2, hv2, ht2⟩
      have HN : Hid (LI w (allB P (i + 1)) w2) := Lib.hid (by rw [allB_succ]; exact HI1.out.next HV.out hv2 ht2)
      have HF2 : Hid (∀ j, j < i + 1 → Fine (P j)) := Lib.hid (fun j hj => by
        by_cases e : j = i
        · rw [e]; exact HFine.out
        · exact HF.out j (by omega))
      clear hv2 ht2
      go_wp2_with fail
      go_roundw
      case rel => exact ⟨i + 1, by omega, fun _ => by omega, by go_num, HF2, HN⟩
      case measure => simp [intOf]; omega
    · obtain rfl : i = N := by omega
      have hN40 : i ≤ 40 := by
        rcases Nat.eq_zero_or_pos i with h | h
        · omega
        · exact h40 h
      have HZ : Hid (∀ z, z ∈ allB P i → z < 256) := Lib.hid (allB_lt P i fun j hj => partB_lt _ _ _ _ _ _ ((HP.out.ok j hj).text.lt) (HP.out.ok j hj).dig)
      have HAL : Hid (∀ j, j ≤ i → (allB P j).length ≤ 24000) := Lib.hid (fun j hj => by have := allB_len P j (fun k hk => partB_len _ _ _ _ _ _ (HF.out k (by omega)).1); omega)
      have HN40 := Lib.hid hN40
      clear h40 hN40 hlt hi
      obtain ⟨v, hv⟩ := HI.out.wt
      have HV := Lib.hid hv
      clear hv
      obtain ⟨XS, hXS⟩ : ∃ XS, XS = allB P i := ⟨_, rfl⟩
      have HX := Lib.hid hXS
      have HXL : Hid (XS.length ≤ 24000) := Lib.hid (by rw [hXS]; exact HAL.out i (Nat.le_refl _))
      rw [← hXS] at HZ HI HV
      clear hXS
      go_wp2_with fail
      refine (bytes_any wr w.heap.size w.heap.size v XS HV.out HZ.out (by have := HXL.out; omega)).mono ?_
      rintro e w1 ⟨u, rfl, ho, hb1⟩
      have HO1 := Lib.hid ho
      obtain ⟨A1, c1, rfl, hn1, hby1⟩ := own_bytes ho HZ.out
      have HBY1 := Lib.hid hby1
      have HB1 := Lib.hid hb1
      clear ho hby1 hb1 hn1 HV
      go_wp2_with fail
      refine (from_any XS c1 A1 w1 HBY1.out (by have := HXL.out; omega)).mono ?_
      rintro e w2 ⟨R, A2, c2, rfl, hr, hb2, hR⟩
      have hst := BI.start HI.out HB1.out hb2 hr hR
      have HBI := Lib.hid hst.1
      have HR := Lib.hid hst.2.1
      have HV2 := Lib.hid hst.2.2
      have HRD0 := Lib.hid hr
      have HO2 : Hid (w2.ownsRow wr.heap.size 5 1 (.slice A1 XS.length c1) XS.length (ints8 XS)) := Lib.hid (own_keep HO1.out fun k _ hk => hb2.block k hk)
      have HB12 : Hid (Below w1.heap.size w1 w2) := Lib.hid hb2
      have HR1 : Hid (w1.heap.size ≤ R) := hR
      have HCAP := Lib.hid (own_cap HO1.out)
      have HUB : Hid (∀ k, (Value.slice A1 XS.length c1).ownBlock = some k → w.heap.size + 1 < k ∧ k < w1.heap.size) := Lib.hid (fun k hk => ⟨by have h1 := (HO1.out.lt k hk).1; have h2 := (Array.getElem?_eq_some_iff.1 HI.out.again).1; omega, (HO1.out.lt k hk).2⟩)
      obtain ⟨wo, hwo⟩ : ∃ wo, wo = wr := ⟨_, rfl⟩
      rw [← hwo] at HO2
      clear hst hr hb2 hR HO1 hwo
      go_wp2_with fail
      go_loopw [10] (fun v wx => ∃ j : Nat, j ≤ i ∧ v = .int .i64 j ∧ Hid (∃ vv, BI w w2 (w.heap.size + 1) R A2 c2 XS (allB P j).length vv (allB P j) wx)) (fun v _ => i - (intOf v).toNat)
      case atStart => exact ⟨0, by omega, rfl, Lib.hid ⟨_, HBI.out⟩⟩
      case round =>
        clear HBI
        obtain ⟨j, hj, rfl, HJ⟩ := hrel
        by_cases hlt : j < i
        · obtain ⟨vv, hvv⟩ := HJ.out
          have HJ1 := Lib.hid hvv
          clear hvv HJ
          have HPx := Lib.hid (HP.out.below HJ1.out.below)
          obtain ⟨b, o, hA, _, hcell⟩ := HPx.out.at_ (by omega)
          subst hA
          have hr := hcell j hlt
          have HC := Lib.hid (HPx.out.cells j hlt)
          have HK := Lib.hid (HPx.out.ok j hlt)
          have HFj := Lib.hid (HF.out j hlt)
          have HMj := Lib.hid (HM.out j hlt)
          have HD : Hid (XS.drop (allB P j).length = (P j).bytes ++ tailB P (j + 1) i) := Lib.hid (by rw [HX.out]; exact allB_drop P hlt)
          have HAj : Hid ((allB P j).length ≤ 24000) := Lib.hid (HAL.out j (by omega))
          have kk := HC.out.kind
          have km := HC.out.most
          have c2m := hr 2 _ km
          have c0 := hr 0 _ kk
          rw [Nat.add_zero] at c0
          clear kk km hcell hr
          have hNext : ∀ (wx : World) (vx : Value), BI w w2 (w.heap.size + 1) R (A2) c2 XS ((allB P j).length + (P j).bytes.length) vx (allB P j ++ (P j).bytes) wx → Hid (∃ vv, BI w w2 (w.heap.size + 1) R A2 c2 XS (allB P (j + 1)).length vv (allB P (j + 1)) wx) := fun wx vx h => Lib.hid ⟨vx, by rw [allB_succ, List.length_append]; exact h⟩
          have HNX := Lib.hid hNext
          clear hNext
          obtain ⟨k, hk⟩ : ∃ k, k = (P j).k := ⟨_, rfl⟩
          rw [← hk] at c0
          rcases (show k = 0 ∨ k = 1 ∨ k = 2 ∨ k = 3 ∨ k = 4 by have h1 := HFj.out.2.1; have h2 := HFj.out.2.2.1; omega) with rfl | rfl | rfl | rfl | rfl
          · have hbs := bytes0 hk.symm
            rw [hbs] at HD HNX
            have HK0 := Lib.hid hk
            clear hk hbs c2m
            go_wp2_with fail
            refine (rnum_ok (P j).n wr R A2 c2 XS (tailB P (j + 1) i) (allB P j).length HK.out.num HJ1.out.rd (by have := HXL.out; omega) HD.out).mono ?_
            rintro e w3 ⟨rfl, hrd, hg⟩
            have HJ2 := Lib.hid (HJ1.out.read HR.out hrd hg)
            clear hrd hg
            go_wp2_with fail
            refine (num_any (P j).n w3 w.heap.size (w.heap.size + 1) vv (allB P j) HK.out.num HJ2.out.wt (by have := HAj.out; omega)).mono ?_
            rintro e w4 ⟨rfl, v4, hv4, ht4⟩
            have HJ3 := HNX.out w4 v4 (HJ2.out.write HRD0.out HR.out ⟨by omega, HV2.out⟩ hv4 ht4)
            clear hv4 ht4
            go_wp2_with fail
            go_roundw
            case rel => exact ⟨j + 1, by omega, by go_num, HJ3⟩
            case measure => simp [intOf]; omega
          · have hbs := bytes1 hk.symm
            rw [hbs] at HD HNX
            have HK0 := Lib.hid hk
            clear hk hbs c2m
            go_wp2_with fail
            refine (rint_ok (P j).i wr R A2 c2 XS (tailB P (j + 1) i) (allB P j).length (HFj.out.2.2.2.1 HK0.out.symm).1 (HFj.out.2.2.2.1 HK0.out.symm).2 HJ1.out.rd (by have := HXL.out; omega) HD.out).mono ?_
            rintro e w3 ⟨rfl, hrd, hg⟩
            have HJ2 := Lib.hid (HJ1.out.read HR.out hrd hg)
            clear hrd hg
            go_wp2_with fail
            refine (int_any (P j).i w3 w.heap.size (w.heap.size + 1) vv (allB P j) HK.out.lo HK.out.hi HJ2.out.wt (by have := HAj.out; omega)).mono ?_
            rintro e w4 ⟨rfl, v4, hv4, ht4⟩
            have HJ3 := HNX.out w4 v4 (HJ2.out.write HRD0.out HR.out ⟨by omega, HV2.out⟩ hv4 ht4)
            clear hv4 ht4
            go_wp2_with fail
            go_roundw
            case rel => exact ⟨j + 1, by omega, by go_num, HJ3⟩
            case measure => simp [intOf]; omega
          · have hbs := bytes2 hk.symm
            rw [hbs] at HD HNX
            have HK0 := Lib.hid hk
            clear hk hbs
            go_wp2_with fail
            refine (rtext_ok (P j).ts (P j).m wr R A2 c2 XS (tailB P (j + 1) i) (allB P j).length (HFj.out.2.2.2.2 HK0.out.symm) HMj.out HJ1.out.rd (by have := HXL.out; omega) HD.out).mono ?_
            rintro e w3 ⟨vt, rfl, hot, hrd, hg⟩
            have HJ2 := Lib.hid (HJ1.out.read HR.out hrd hg)
            clear hrd hg
            obtain ⟨At, ct, e1, hbt, hnt⟩ := told_own hot (Nat.le_refl _) HK.out.text.lt
            injection e1 with e1
            subst e1
            have HBT := Lib.hid hbt
            have HNT := Lib.hid hnt
            have HOK : Hid (∀ b, (wr.heap.size ≤ b ∧ b < w3.heap.size) → b < w3.heap.size → b ≠ w.heap.size + 1 ∧ vv.ownBlock ≠ some b) := Lib.hid (fun b hb _ => ⟨by have := HJ1.out.wt.lt; omega, fun e => by have := (HJ1.out.wt.own.lt b e).2; omega⟩)
            clear hot hbt hnt
            go_wp2_with fail
            refine (text_any (P j).ts ct At w3 w.heap.size (w.heap.size + 1) vv (allB P j) (fun b => wr.heap.size ≤ b ∧ b < w3.heap.size) HBT.out HOK.out HNT.out (by have := HFj.out.1; omega) HJ2.out.wt (by have := HAj.out; omega)).mono ?_
            rintro e w4 ⟨rfl, v4, hv4, ht4⟩
            have HJ3 := HNX.out w4 v4 (HJ2.out.write HRD0.out HR.out ⟨by omega, HV2.out⟩ hv4 ht4)
            clear hv4 ht4
            go_wp2_with fail
            go_roundw
            case rel => exact ⟨j + 1, by omega, by go_num, HJ3⟩
            case measure => simp [intOf]; omega
          · have hbs := bytes3 hk.symm
            rw [hbs] at HD HNX
            have HK0 := Lib.hid hk
            clear hk hbs c2m
            go_wp2_with fail
            refine (rdig_ok (P j).d wr R A2 c2 XS (tailB P (j + 1) i) (allB P j).length HJ1.out.rd (by have := HXL.out; omega) HD.out).mono ?_
            rintro e w3 ⟨rfl, hrd, hg⟩
            have HJ2 := Lib.hid (HJ1.out.read HR.out hrd hg)
            clear hrd hg
            rw [← dig_len (P j).d] at HJ2
            go_wp2_with fail
            refine (digest_any (P j).d w3 w.heap.size (w.heap.size + 1) vv (allB P j) HK.out.dig HJ2.out.wt (by have := HAj.out; omega)).mono ?_
            rintro e w4 ⟨rfl, v4, hv4, ht4⟩
            have HJ3 := HNX.out w4 v4 (HJ2.out.write HRD0.out HR.out ⟨by omega, HV2.out⟩ hv4 ht4)
            clear hv4 ht4
            go_wp2_with fail
            go_roundw
            case rel => exact ⟨j + 1, by omega, by go_num, HJ3⟩
            case measure => simp [intOf]; omega
          · have hbs := bytes4 hk.symm
            rw [hbs] at HD HNX
            have HK0 := Lib.hid hk
            clear hk hbs c2m
            go_wp2_with fail
            refine (rvec_ok (P j).f wr R A2 c2 XS (tailB P (j + 1) i) (allB P j).length HK.out.vec HJ1.out.rd (by have := HXL.out; omega) HD.out).mono ?_
            rintro e w3 ⟨rfl, hrd, hg⟩
            have HJ2 := Lib.hid (HJ1.out.read HR.out hrd hg)
            clear hrd hg
            go_wp2_with fail
            refine (vec_any (P j).f w3 w.heap.size (w.heap.size + 1) vv (allB P j) HK.out.vec HJ2.out.wt (by have := HAj.out; omega)).mono ?_
            rintro e w4 ⟨rfl, v4, hv4, ht4⟩
            have HJ3 := HNX.out w4 v4 (HJ2.out.write HRD0.out HR.out ⟨by omega, HV2.out⟩ hv4 ht4)
            clear hv4 ht4
            go_wp2_with fail
            go_roundw
            case rel => exact ⟨j + 1, by omega, by go_num, HJ3⟩
            case measure => simp [intOf]; omega
        · obtain rfl : j = i := by omega
          obtain ⟨vv, hvv⟩ := HJ.out
          have HB24 : Hid (B24 w wo (.slice A1 XS.length c1) R A2 c2 XS wr) := by
            have hx := HX.out
            rw [← hx] at hvv
            exact ⟨hvv.rd, ⟨vv, hvv.wt⟩, own_keep1 HO2.out fun k hk hlt => hvv.keep k hlt (by have := (HUB.out k hk).2; have := HR1.out; omega) (by have := (HUB.out k hk).1; omega), hvv.below⟩
          obtain ⟨S, hS⟩ : ∃ S, S = strOfNums (XS.map fun n : Nat => (n : Int)) := ⟨_, rfl⟩
          have HSS := Lib.hid hS
          clear hS hvv HJ hlt hj
          go_wp2_with fail
          refine WM.wp_region_kinds (fun _ x y => Below x.heap.size x y) (fun _ x => B24 w wo (.slice A1 XS.length c1) R A2 c2 XS x) (fun x => B24 w wo (.slice A1 XS.length c1) R A2 c2 XS x)
            [(1, .val (.int .i64 0) fun _ => True), (5, .mem (PO XS)), (6, .val (.string S) fun _ => True), (8, .val (.string S) fun _ => True)] (by kernel_rfl) (by kernel_rfl) (fun _ _ _ hb h => B24.then_ hb h) (fun _ _ _ _ _ hb h => B24.then_ hb h) ?_ HB24.out.drew (fun _ => HB24.out.drew) ?_
          · intro z hz
            simp only [List.mem_cons, List.mem_nil_iff, or_false] at hz
            rcases hz with rfl | rfl | rfl | rfl <;> first
              | exact fun _ _ _ _ _ _ => trivial
              | exact fun j v x y _ hr => PO.up hr
          iterate 1
            refine WM.mono_pure rfl rfl ?_
            apply Exists.intro
            refine ⟨fun x => ?_, ?_⟩
            · go_simp
              rfl
            apply Exists.intro
            refine ⟨by simp only [Act.put, List.setIfInBounds_toArray, List.set_cons_succ, List.set_cons_zero]; rfl, ?_⟩
          refine WM.mono_val rfl rfl (fun x hD hF => ?_) ?_
          · go_simp
            refine (end_any x R A2 c2 XS XS.length 0 hD.rd (by have := HXL.out; omega)).mono ?_
            rintro e y ⟨rfl, hg⟩
            exact ⟨_, rfl, hg, by simp⟩
          apply Exists.intro
          refine ⟨by simp only [Act.put, List.setIfInBounds_toArray, List.set_cons_succ, List.set_cons_zero]; rfl, ?_⟩
          refine WM.mono_pure rfl rfl ?_
          refine ⟨.bool false, fun x => ?_, ?_⟩
          · go_simp
          apply Exists.intro
          refine ⟨by simp only [Act.put, List.setIfInBounds_toArray, List.set_cons_succ, List.set_cons_zero]; rfl, ?_⟩
          refine WM.mono_pure rfl rfl ?_
          refine ⟨.bool false, fun x => ?_, ?_⟩
          · go_simp
          apply Exists.intro
          refine ⟨by simp only [Act.put, List.setIfInBounds_toArray, List.set_cons_succ, List.set_cons_zero]; rfl, ?_⟩
          iterate 1
            refine WM.mono_pure rfl rfl ?_
            apply Exists.intro
            refine ⟨fun x => ?_, ?_⟩
            · go_simp
              rfl
            apply Exists.intro
            refine ⟨by simp only [Act.put, List.setIfInBounds_toArray, List.set_cons_succ, List.set_cons_zero]; rfl, ?_⟩
          refine WM.mono_mem rfl rfl (fun x hD hF => ?_) (fun v157 => ?_)
          · obtain ⟨v2, hv2⟩ := hD.wt
            go_simp
            refine (bytes_any x w.heap.size (w.heap.size + 1) v2 XS hv2 HZ.out (by have := HXL.out; omega)).mono ?_
            rintro e y ⟨u2, rfl, ho2, hg⟩
            exact ⟨_, rfl, hg, ⟨_, ho2⟩⟩
          apply Exists.intro
          refine ⟨by simp only [Act.put, List.setIfInBounds_toArray, List.set_cons_succ, List.set_cons_zero]; rfl, ?_⟩
          refine WM.mono_val rfl rfl (fun x hD hF => ?_) ?_
          · obtain ⟨q2, ho2⟩ := (hF 5 _ 157 rfl rfl (by decide)).1
            have hk : (convert 24 9 v157).run Try.prog x = .ok (.string S) x := by rw [HSS.out]; exact own_conv ho2 HZ.out
            go_simp
            exact ⟨Below.refl _ _, rfl⟩
          apply Exists.intro
          refine ⟨by simp only [Act.put, List.setIfInBounds_toArray, List.set_cons_succ, List.set_cons_zero]; rfl, ?_⟩
          iterate 1
            refine WM.mono_pure rfl rfl ?_
            apply Exists.intro
            refine ⟨fun x => ?_, ?_⟩
            · go_simp
              rfl
            apply Exists.intro
            refine ⟨by simp only [Act.put, List.setIfInBounds_toArray, List.set_cons_succ, List.set_cons_zero]; rfl, ?_⟩
          refine WM.mono_val rfl rfl (fun x hD hF => ?_) ?_
          · have hk : (convert 24 9 (.slice A1 XS.length c1)).run Try.prog x = .ok (.string S) x := by rw [HSS.out]; exact own_conv hD.own HZ.out
            go_simp
            exact ⟨Below.refl _ _, rfl⟩
          apply Exists.intro
          refine ⟨by simp only [Act.put, List.setIfInBounds_toArray, List.set_cons_succ, List.set_cons_zero]; rfl, ?_⟩
          refine WM.mono_pure rfl rfl ?_
          refine ⟨.bool false, fun x => ?_, ?_⟩
          · go_simp
          apply Exists.intro
          refine ⟨by simp only [Act.put, List.setIfInBounds_toArray, List.set_cons_succ, List.set_cons_zero]; rfl, ?_⟩
          refine WM.mono_pure rfl rfl ?_
          refine ⟨.bool false, fun x => ?_, ?_⟩
          · go_simp
          apply Exists.intro
          refine ⟨by simp only [Act.put, List.setIfInBounds_toArray, List.set_cons_succ, List.set_cons_zero]; rfl, ?_⟩
          refine WM.mono_nil ?_
          intro w5 hD hF
          have HD5 := Lib.hid hD
          have HB5 := Lib.hid hD.below
          clear hD hF HB24
          go_simp
          by_cases h0 : cut < 0
          · go_wp2_with fail
            refine (alive_any w5).mono ?_
            rintro e w6 ⟨rfl, hb6⟩
            have HB6 := Lib.hid (HB5.out.trans (hb6.mono HB5.out.size))
            clear hb6
            go_wp2_with fail
            go_ret
            exact ⟨rfl, HB6.out⟩
          by_cases hl : (XS.length : Int) ≤ cut
          · go_wp2_with fail
            refine (alive_any w5).mono ?_
            rintro e w6 ⟨rfl, hb6⟩
            have HB6 := Lib.hid (HB5.out.trans (hb6.mono HB5.out.size))
            clear hb6
            go_wp2_with fail
            go_ret
            exact ⟨rfl, HB6.out⟩
          obtain ⟨q, rfl⟩ : ∃ q : Nat, cut = (q : Int) := ⟨cut.toNat, by omega⟩
          have hq : q < XS.length := by omega
          have hqi : (q : Int) < (XS.length : Int) := by omega
          have hsl : ∀ W, (Instr.sliceAt 24 (.slice A1 XS.length c1) none (some (.int .i64 (q : Int))) none).run Try.prog W = .ok (.slice A1 q c1) W := fun W => run_sliceAt_to 24 5 Try.underlying24 size5 A1 XS.length c1 q (by have := HCAP.out; omega) W
          have HFR := from_any (XS.take q) c1 A1 w5 (by
            obtain ⟨A', c', e1, _, hb⟩ := own_bytes HD5.out.own HZ.out
            injection e1 with e1
            subst e1
            exact hb.take (by omega)) (by rw [List.length_take]; have := HXL.out; omega)
          have htl : (XS.take q).length = q := by rw [List.length_take]; omega
          rw [htl] at HFR
          have HFR := Lib.hid HFR
          have HQ := Lib.hid hq
          have HTL := Lib.hid htl
          clear h0 hl hq htl
          go_wp2_with fail
          refine HFR.out.mono ?_
          rintro e w6 ⟨R2, A3, c3, rfl, hr, hb6, hR2⟩
          have HB6 := Lib.hid (HB5.out.trans (hb6.mono HB5.out.size))
          have HR2 : Hid (w.heap.size ≤ R2) := Lib.hid (by have := HB5.out.size; omega)
          have HCT : Hid (Cut R2 A3 c3 (XS.take q) (tailB P 0 j) w6) := Lib.hid (.inr ⟨0, XS.drop q, hr, fun e => by
            have := congrArg List.length e
            rw [List.length_drop, List.length_nil] at this
            have := HQ.out
            omega, by
            rw [List.drop_zero, List.take_append_drop, HX.out, allB_tail P j j 0 (by omega), allB_zero, List.nil_append]⟩)
          have HBL : Hid ((XS.take q).length ≤ 1000000) := Lib.hid (by rw [HTL.out]; have := HXL.out; have := HQ.out; omega)
          clear hr hb6 hR2 HFR hsl hqi
          go_wp2_with fail
          go_loopw [12] (fun v wx => ∃ l : Nat, l ≤ j ∧ v = .int .i64 l ∧ Hid (Cut R2 A3 c3 (XS.take q) (tailB P l j) wx) ∧ Hid (Below w.heap.size w wx)) (fun v _ => j - (intOf v).toNat)
          case atStart => exact ⟨0, by omega, rfl, HCT, HB6⟩
          case round =>
            clear HCT HB6 HB5 HD5
            obtain ⟨l, hl, rfl, HC3, HB3⟩ := hrel
            by_cases hlt : l < j
            · have HPx := Lib.hid (HP.out.below HB3.out)
              obtain ⟨b, o, hA, _, hcell⟩ := HPx.out.at_ (by omega)
              subst hA
              have HRA := Lib.hid (hcell l hlt)
              have s34 : Hid ((Try.prog.info? 34).map (·.size) = some (P l).C.size) := Lib.hid (by rw [(HPx.out.cells l hlt).size]; exact size34)
              have HG := Lib.hid (got_all (P l) wr w.heap.size R2 A3 c3 (XS.take q) (tailB P (l + 1) j) (HPx.out.cells l hlt) (HPx.out.ok l hlt) (HF.out l hlt) (HM.out l hlt) (by rw [← tailB_cons P hlt]; exact HC3.out) HBL.out)
              clear hcell
              go_wp2_with (refine wpList_load_arr rfl 34 _ rfl b (o + l * 45) rfl (P l).C _ HRA.out Try.underlying34 rfl s34.out ?_)
              refine HG.out.mono ?_
              rintro e w7 ⟨⟨s, rfl⟩, hcut, hg⟩
              have HC4 := Lib.hid hcut
              have HB4 := Lib.hid (HB3.out.grown hg HB3.out.size (fun k e => by injection e with e; have := HR2.out; omega))
              clear hcut hg HG
              go_wp2_with fail
              go_roundw
              case rel => exact ⟨l + 1, by omega, by go_num, HC4, HB4⟩
              case measure => simp [intOf]; omega
            · obtain rfl : l = j := by omega
              obtain ⟨at_, hbad⟩ : ∃ at_, RAt wr R2 A3 c3 (XS.take q) at_ 8 := by
                rcases HC3.out with h | ⟨a, miss, _, hne, he⟩
                · exact h
                · rw [tailB_end] at he
                  exact absurd (List.append_eq_nil_iff.1 he).2 hne
              have HBD := Lib.hid hbad
              clear hbad HC3
              go_wp2_with fail
              refine (alive_any wr).mono ?_
              rintro e w8 ⟨rfl, hb8⟩
              have HB8 := Lib.hid (HB3.out.trans (hb8.mono HB3.out.size))
              have HBD8 := Lib.hid (HBD.out.only hb8)
              clear hb8 HBD
              go_wp2_with fail
              refine (end_any w8 R2 A3 c3 (XS.take q) at_ 8 HBD8.out HBL.out).mono ?_
              rintro e w9 ⟨rfl, hb9⟩
              rw [if_neg (by decide)]
              have HB9 := Lib.hid (HB8.out.trans (hb9.mono HB8.out.size))
              clear hb9
              go_wp2_with fail
              go_ret
              exact ⟨rfl, HB9.out⟩
end Go.Proofs.Ythodogcpoihjpaa
