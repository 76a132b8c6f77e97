/- What a ring answers: lists, who holds what, the parts of a node. -/
import Derived.Test.YtdbhboglccggdaaGreatDoorR11
import Derived.Test.YtdbhboglccggdaaGreatDoorKX
import Derived.Test.YtdbhboglccggdaaGreatDoorMs
set_option maxRecDepth 100000
set_option linter.unusedVariables false
set_option linter.unusedSimpArgs false
namespace Go.Proofs.YtdbhboglccggdaaGreatDoor
open Go.RowKit
theorem RingAt.soft {n : Nat} {x y : World} {g N V R : Nat} (h : RingAt x g N V R) (hb : Soft n x y) : RingAt y g N V R := by
  have hl := h.lt
  have hgg : y.heap[g]? = x.heap[g]? := by
    obtain ⟨cs, fr, ht⟩ := h.tag
    exact hb.block g hl (.inr ⟨cs, 71, fr, ht, .inl rfl⟩)
  obtain ⟨h1, h2, h3, h4⟩ := h
  refine ⟨h1, h2, h3, ?_⟩
  rcases h4 with h4 | ⟨A, c, h4, h5, h6⟩
  · exact .inl (hgg.trans h4)
  · exact .inr ⟨A, c, hgg.trans h4, h5, h6.keep fun b _ hl ⟨cs, fr, ht⟩ => hb.block b hl (.inr ⟨cs, 101, fr, ht, .inr rfl⟩)⟩
/-- 'out = append(out, x)', x in a new block of one cell: what turns is the block of one's own alone. -/
theorem wpList_append_oneG {P : Program} {w : World} {ops : Array Oper} {rest : List Oper} {o : Oper} {a : Act} {Q : Exit → Act → World → Prop} (hgd : o.guard = none) (s x : Operand) (t : TypeId)
    (ho : o.op = .call { callee := .builtin .append, args := #[s, x], argTypes := #[t, t] }) (base : Nat) (e : TypeId) (z : Value) (bytes : Nat) (ht : P.underlying t = some (.slice e))
    (hinfo : (P.info? e).map (fun i => (i.zero, i.size, i.bytes)) = some (some z, 1, bytes)) (hzs : z.cells.size = 1)
    (v : Value) (n : Nat) (xs : List Value) (hs : a.eval s = v) (hown : w.ownsRow base e 1 v n xs) (u : Value) (te : TypeId)
    (hx : a.eval x = .slice (some ⟨w.heap.size, 0, none⟩) 1 1) (h1 : u.oneCell' = true) (h63 : n + 1 ≤ maxLen) (hbytes : (n + 1) * bytes ≤ 140737488355328) (hbase : base ≤ w.heap.size)
    (h : ∀ v' w', Hid (w'.ownsRow base e 1 v' (n + 1) (xs ++ [u])) → Hid (w.grownBy w' v.ownBlock) → wpList P ops Q rest (a.put o.dst v') w') : wpList P ops Q (o :: rest) a (w.alloc (.cells #[u] te)) := by
  obtain ⟨i, hi, hz, hsz, hby⟩ := info_parts hinfo
  refine wpList_append_own _ hgd s x t ho base e i z 1 bytes ht hi hz hsz hby hzs (by decide) v n xs hs (hown.alloc _) ⟨w.heap.size, 0, none⟩ 1 1 [u] hx rfl (cell_one_new _ _ _) (fun y hy => ?_) h63 hbytes (by rw [World.size_alloc]; omega) ?_
  · rw [List.mem_singleton] at hy
    subst hy
    exact h1
  · intro v' w' hown' hg _
    refine h v' w' hown' ⟨hg.os, hg.tape, hg.output, Nat.le_trans (by rw [World.size_alloc]; omega) hg.size, fun k hk hne => ?_⟩
    exact (hg.block k (by rw [World.size_alloc]; omega) hne).trans (Below.heap_alloc _ _ _ hk)
/-- How a ring answers where Φ holds. -/
structure Env (N : Nat) (G : Nat → Prop) (p : Value) (ls : List Pt) (R : Nat) (Φ : World → Prop) : Prop where
  up : ∀ x y, Soft N x y → Φ x → Φ y
  all : ∀ x, Φ x → Calls Tryz.prog 48 #[p] x fun e y => ∃ A c, e = .returned (.slice A ls.length c) ∧ PRow y (fun _ => True) A ls ∧ Only G x y ∧ Φ y
  cf : ∀ x, Φ x → Calls Tryz.prog 49 #[p] x fun e y => ∃ N V : Int, e = .returned (.agg #[.int .i64 N, .int .i64 V, .int .i64 ((R : Nat) : Int)]) ∧ Below x.heap.size x y
  sorted : ls.Pairwise fun x y => Ring.le x y = true
  len : ls.length ≤ 1000
  r : R ≤ 8
  tag : ∀ x b, Φ x → G b → ∃ cs fr, x.heap[b]? = some (.cells cs 71 fr)
  nle : ∀ x, Φ x → N ≤ x.heap.size
theorem Env.down {N : Nat} {G : Nat → Prop} {p : Value} {ls : List Pt} {R : Nat} {Φ : World → Prop} (E : Env N G p ls R Φ) {x y : World} (hb : Below x.heap.size x y) (h : Φ x) : Φ y := E.up x y (.of_below hb) h
theorem Env.old {N : Nat} {G : Nat → Prop} {p : Value} {ls : List Pt} {R : Nat} {Φ : World → Prop} (E : Env N G p ls R Φ) {x : World} (h : Φ x) {b : Nat} (hb : G b) : b < x.heap.size := by
  obtain ⟨cs, fr, ht⟩ := E.tag x b h hb
  exact (Array.getElem?_eq_some_iff.1 ht).1
theorem field38 (N V R : Int) (w : World) : (Instr.field 23 (.agg #[.int .i64 N, .int .i64 V, .int .i64 R]) 2).run Tryz.prog w = .ok (.int .i64 R) w := by kernel_rfl
def LK (ls : List Pt) (R : Nat) (part : Int) : List Nat := if 0 ≤ part ∧ part < 8 then Ring.listOf ls (baseK part.toNat) R else []
theorem LK_ok (ls : List Pt) (R k : Nat) (h : k < 8) : LK ls R (k : Int) = Ring.listOf ls (baseK k) R := by
  unfold LK
  rw [if_pos (by omega)]
  rfl
theorem LK_bad (ls : List Pt) (R : Nat) (part : Int) (h : part < 0 ∨ 8 ≤ part) : LK ls R part = [] := by
  unfold LK
  rw [if_neg (by omega)]
theorem LK_len (ls : List Pt) (R : Nat) (part : Int) : (LK ls R part).length ≤ R := by
  unfold LK
  split
  · exact Ring.listOf_le _ _ _
  · exact Nat.zero_le _
set_option maxHeartbeats 4000000 in
theorem list_own {G : Nat → Prop} {p : Value} {ls : List Pt} {R : Nat} {Φ : World → Prop} {N : Nat} (E : Env N G p ls R Φ) (part : Int) (w : World) (h : Φ w) :
    Calls Tryz.prog 27 #[p, .int .i64 part] w fun e y => ∃ B c, e = .returned (.slice B (LK ls R part).length c) ∧ Mine y (fun b => w.heap.size ≤ b) B c (LK ls R part) ∧ Only G w y ∧ Φ y := by
  have HE := Lib.hid E
  have HF := Lib.hid h
  clear E h
  by_cases hk : part < 0 ∨ 8 ≤ part
  · have HB := Lib.hid (baseR_bad part hk)
    have HL := Lib.hid (LK_bad ls R part hk)
    clear hk
    go_enter Tryz.func27, Tryz.ntmps27
    go_wp2_with (go_at_call 46; refine (base_any _ _).mono ?_; rw [HB.out]; rintro e w1 ⟨rfl, rfl⟩)
    go_ret
    rw [HL.out]
    exact ⟨none, 0, rfl, Mine.nil _ _ _ _ (Nat.zero_le _) (fun _ => rfl), Only.refl _ _, HF.out⟩
  · obtain ⟨k, hk8, rfl⟩ : ∃ k : Nat, k < 8 ∧ part = (k : Int) := ⟨part.toNat, by omega, by omega⟩
    have HB := Lib.hid (baseR_ok k hk8)
    have HL := Lib.hid (LK_ok ls R k hk8)
    obtain ⟨bs, hbs⟩ : ∃ bs, bs = baseK k := ⟨_, rfl⟩
    rw [← hbs] at HB HL
    have HALL := Lib.hid (HE.out.all w HF.out)
    have hfd := field38
    clear hk hk8 hbs
    go_enter Tryz.func27, Tryz.ntmps27
    go_wp2_with (first
      | (go_at_call 46; refine (base_any _ _).mono ?_; rw [HB.out]; rintro e w1 ⟨rfl, rfl⟩)
      | (go_at_call 48; refine HALL.out.mono ?_; rintro e w1 ⟨A, c, rfl, hp, ho, hf⟩; have HP := Lib.hid hp; have HO := Lib.hid ho; have HF1 := Lib.hid hf; clear hp ho hf)
      | (go_at_call 49; refine (HE.out.cf _ HF1.out).mono ?_; rintro e w2 ⟨N', V', rfl, hb⟩; have HB2 := Lib.hid hb; clear hb)
      | (go_at_call 47; refine (nodesFrom_own ls c A bs R w2 ((HP.out.grow HB2.out).weak fun b _ hl => hl) HE.out.sorted HE.out.len HE.out.r).mono ?_; rintro e w3 ⟨B, c', rfl, hl3, hr3, hb3⟩; have HR3 := Lib.hid hr3; have HB3 := Lib.hid hb3; clear hl3 hr3 hb3))
    go_ret
    rw [HL.out]
    have h12 := HO.out.trans (Only.of_below HB2.out)
    exact ⟨B, c', rfl, HR3.out.weak (fun b hb _ => Nat.le_trans h12.size hb.1), h12.trans (Only.of_below HB3.out), HE.out.down HB3.out (HE.out.down HB2.out HF1.out)⟩
theorem list_env {G : Nat → Prop} {p : Value} {ls : List Pt} {R : Nat} {Φ : World → Prop} {N : Nat} (E : Env N G p ls R Φ) (part : Int) (w : World) (h : Φ w) :
    Calls Tryz.prog 27 #[p, .int .i64 part] w fun e y => ∃ B c, e = .returned (.slice B (LK ls R part).length c) ∧ Row .i64 y (fun b => w.heap.size ≤ b) B (LK ls R part) ∧ Only G w y ∧ Φ y :=
  (list_own E part w h).mono (by
    rintro e y ⟨B, c, rfl, h1, h2, h3⟩
    exact ⟨B, c, rfl, h1.row, h2, h3⟩)
set_option maxHeartbeats 2000000 in
theorem holds_env {G : Nat → Prop} {p : Value} {ls : List Pt} {R : Nat} {Φ : World → Prop} {N : Nat} (E : Env N G p ls R Φ) (node part : Int) (w : World) (h : Φ w) :
    Calls Tryz.prog 25 #[p, .int .i64 node, .int .i64 part] w fun e y => e = .returned (.bool (hasI (LK ls R part) node)) ∧ Only G w y ∧ Φ y := by
  have HL := Lib.hid (list_env E part w h)
  have HN : Hid ((LK ls R part).length ≤ 1000000) := Nat.le_trans (LK_len _ _ _) (by have := E.r; omega)
  clear E h
  go_enter Tryz.func25, Tryz.ntmps25
  go_wp2_with (first
    | (go_at_call 27; refine HL.out.mono ?_; rintro e w1 ⟨B, c, rfl, hr, ho, hf⟩; have HR := Lib.hid hr; have HO := Lib.hid ho; have HF := Lib.hid hf; clear hr ho hf)
    | (go_at_call 34; refine (contains_any _ c B node _ HR.out HN.out).mono ?_; rintro e w2 ⟨rfl, rfl⟩))
  go_ret
  exact ⟨rfl, HO.out, HF.out⟩
theorem run_clip {P : Program} (t e : TypeId) (hu : P.underlying t = some (.slice e)) (hs : (P.info? e).map (·.size) = some 1) (A : Option Addr) (n c : Nat) (hk : n ≤ c) (w : World) :
    (Instr.sliceAt t (.slice A n c) none (some (.int .i64 (n : Int))) (some (.int .i64 (n : Int)))).run P w = .ok (.slice A n n) w := by
  have h : (Instr.slice t (.slice A n c) none (some (.int .i64 (n : Int))) (some (.int .i64 (n : Int)))).run P w = .ok (.slice A n n) w := by
    cases hq : P.info? e with
    | none => simp [hq] at hs
    | some i =>
      have hi : i.size = 1 := by simpa [hq] using hs
      have ha : A.map (fun a : Addr => a.add 0) = A := by cases A <;> simp [Addr.add]
      simp [Instr.slice, Instr.sliceBounds, Instr.sliceBound, asIntOf, Sem.run_bind, run_underlying hu w, sizeOf, typeInfo, hq, hi, hk, Result.andThen, ha]
  simp only [Instr.sliceAt, Sem.run_bind, run_underlying hu w, Result.andThen, h]
theorem clip_any (A : Option Addr) (n c : Nat) (hk : n ≤ c) (w : World) : Calls Tryz.prog 40 #[.slice A n c] w fun e y => e = .returned (.slice A n n) ∧ w = y := by
  have hc := fun W => run_clip (P := Tryz.prog) 24 3 Tryz.underlying24 (by kernel_rfl) A n c hk W
  go_enter Tryz.func40, Tryz.ntmps40
  go_wp2
  go_ret
  exact ⟨rfl, rfl⟩
/-- The parts that a node holds, of the first n. -/
def partsI (ls : List Pt) (R : Nat) (node : Int) (n : Nat) : List Nat := (List.range n).filter fun k => hasI (LK ls R (k : Int)) node
theorem partsI_succ (ls : List Pt) (R : Nat) (node : Int) (n : Nat) : partsI ls R node (n + 1) = partsI ls R node n ++ (if hasI (LK ls R (n : Int)) node = true then [n] else []) := by
  unfold partsI
  rw [List.range_succ, List.filter_append]
  congr 1
  by_cases h : hasI (LK ls R (n : Int)) node = true
  · rw [if_pos h, List.filter_cons, if_pos h, List.filter_nil]
  · rw [if_neg h, List.filter_cons, if_neg h, List.filter_nil]
theorem partsI_len (ls : List Pt) (R : Nat) (node : Int) (n : Nat) : (partsI ls R node n).length ≤ n := by
  unfold partsI
  have := List.length_filter_le (fun k => hasI (LK ls R ((k : Nat) : Int)) node) (List.range n)
  rwa [List.length_range] at this
set_option maxHeartbeats 4000000 in
theorem parts_own {G : Nat → Prop} {p : Value} {ls : List Pt} {R : Nat} {Φ : World → Prop} {N : Nat} (E : Env N G p ls R Φ) (node : Int) (w : World) (h : Φ w) :
    Calls Tryz.prog 29 #[p, .int .i64 node] w fun e y => ∃ B, e = .returned (.slice B (partsI ls R node 8).length (partsI ls R node 8).length) ∧ Mine y (fun b => w.heap.size ≤ b) B (partsI ls R node 8).length (partsI ls R node 8) ∧ Only G w y ∧ Φ y := by
  have HH : Hid (∀ (k : Nat) x, Φ x → Calls Tryz.prog 25 #[p, .int .i64 node, .int .i64 (k : Int)] x fun e y => e = .returned (.bool (hasI (LK ls R (k : Int)) node)) ∧ Only G x y ∧ Φ y) := Lib.hid (fun k x hx => holds_env E node (k : Int) x hx)
  have HE := Lib.hid E
  have HNL := Lib.hid (E.nle w h)
  have HF := Lib.hid h
  clear E h
  go_enter Tryz.func29, Tryz.ntmps29
  go_wp2_with fail
  go_loopw [5, 7] (fun v iv x => ∃ i : Nat, i ≤ 8 ∧ iv = .int .i64 i ∧ Hid (x.ownsRow w.heap.size 3 1 v (partsI ls R node i).length (vals .i64 (partsI ls R node i))) ∧ Hid (Only G w x) ∧ Hid (Φ x)) (fun _ iv _ => 8 - (intOf iv).toNat)
  case atStart => exact ⟨0, by omega, rfl, World.ownsRow_nil _ _ _ _, Only.refl _ _, HF⟩
  case round =>
    clear HF
    obtain ⟨i, hi, rfl, HO, HK, HF⟩ := hrel
    by_cases hlt : i < 8
    · have hlt' : (i : Int) < 8 := by omega
      have HC := Lib.hid (HH.out i wr HF.out)
      have HS := Lib.hid (partsI_succ ls R node i)
      have HL := Lib.hid (partsI_len ls R node i)
      obtain ⟨acc, hacc⟩ : ∃ acc, acc = partsI ls R node i := ⟨_, rfl⟩
      rw [← hacc] at HO HS HL
      clear hacc
      cases hb : hasI (LK ls R (i : Int)) node with
      | true =>
        rw [hb] at HC HS
        rw [if_pos rfl] at HS
        clear hb
        go_wp2_with (first
          | (go_at_call 25; refine HC.out.mono ?_; rintro e w1 ⟨rfl, ho, hf⟩; have HO1 := Lib.hid (own_only HO.out (by decide) ho (fun b hb => HE.out.tag _ b HF.out hb)); have HK1 := Lib.hid (HK.out.trans ho); have HF1 := Lib.hid hf; clear ho hf)
          | (refine wpList_append_oneG rfl (.tmp 14) (.tmp 16) 24 rfl w.heap.size 3 (.int .i64 0) 8 Tryz.underlying24 info3 rfl _ acc.length (vals .i64 acc) rfl HO1.out (.int .i64 (i : Int)) 3 rfl rfl (by have := HL.out; unfold maxLen; omega) (by have := HL.out; omega) HK1.out.size ?_; intro v' w5 hown hgr))
        have HF2 := Lib.hid (HE.out.up _ _ (own_soft HO1.out (by decide) (by decide) HNL.out hgr.out) HF1.out)
        have HK2 := Lib.hid (HK1.out.of_own HO1.out (Nat.le_refl _) hgr.out)
        have HO2 : Hid (w5.ownsRow w.heap.size 3 1 v' (partsI ls R node (i + 1)).length (vals .i64 (partsI ls R node (i + 1)))) := Lib.hid (by
          rw [HS.out, vals_append, List.length_append]
          exact hown.out)
        clear hown hgr
        go_roundw
        case rel => exact ⟨i + 1, by omega, by go_num, HO2, HK2, HF2⟩
        case measure => simp [intOf]; omega
      | false =>
        rw [hb] at HC HS
        rw [if_neg (by decide), List.append_nil] at HS
        clear hb
        go_wp2_with (go_at_call 25; refine HC.out.mono ?_; rintro e w1 ⟨rfl, ho, hf⟩; have HO1 := Lib.hid (own_only HO.out (by decide) ho (fun b hb => HE.out.tag _ b HF.out hb)); have HK1 := Lib.hid (HK.out.trans ho); have HF1 := Lib.hid hf; clear ho hf)
        rw [← HS.out] at HO1
        go_roundw
        case rel => exact ⟨i + 1, by omega, by go_num, HO1, HK1, HF1⟩
        case measure => simp [intOf]; omega
    · obtain rfl : i = 8 := by omega
      obtain ⟨A, c, rfl, hn, hc, hrow⟩ := own_row1 HO.out
      have HR := Lib.hid (own_mine HO.out).clip
      have HCL := Lib.hid (fun x => clip_any A (partsI ls R node 8).length c hc x)
      clear hn hc hrow
      go_wp2_with (go_at_call 40; refine (HCL.out _).mono ?_; rintro e w1 ⟨rfl, rfl⟩)
      go_ret
      exact ⟨A, rfl, HR.out.weak (fun b hb _ => hb.1), HK.out, HF.out⟩
theorem parts_env {G : Nat → Prop} {p : Value} {ls : List Pt} {R : Nat} {Φ : World → Prop} {N : Nat} (E : Env N G p ls R Φ) (node : Int) (w : World) (h : Φ w) :
    Calls Tryz.prog 29 #[p, .int .i64 node] w fun e y => ∃ B, e = .returned (.slice B (partsI ls R node 8).length (partsI ls R node 8).length) ∧ Row .i64 y (fun b => w.heap.size ≤ b) B (partsI ls R node 8) ∧ Only G w y ∧ Φ y :=
  (parts_own E node w h).mono (by
    rintro e y ⟨B, rfl, h1, h2, h3⟩
    exact ⟨B, rfl, h1.row, h2, h3⟩)
end Go.Proofs.YtdbhboglccggdaaGreatDoor
