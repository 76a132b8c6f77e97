/- The law WireBack: what it keeps. -/
import Derived.Test.YthodogcpoihjpaaS5
namespace Go.Proofs.Ythodogcpoihjpaa
open Go.RowKit
/-- The bytes of the parts from i to N. -/
def tailB (P : Nat → PartR) (i N : Nat) : List Nat := (List.range' i (N - i)).flatMap fun j => (P j).bytes
theorem tailB_end (P : Nat → PartR) (N : Nat) : tailB P N N = [] := by simp [tailB]
theorem tailB_cons (P : Nat → PartR) {i N : Nat} (h : i < N) : tailB P i N = (P i).bytes ++ tailB P (i + 1) N := by
  unfold tailB
  obtain ⟨m, hm⟩ : ∃ m, N - i = m + 1 := ⟨N - i - 1, by omega⟩
  have e : N - (i + 1) = m := by omega
  rw [hm, e, List.range'_succ, List.flatMap_cons]
theorem allB_tail (P : Nat → PartR) (N : Nat) : ∀ m i, i + m = N → allB P N = allB P i ++ tailB P i N
  | 0, i, h => by
    obtain rfl : i = N := by omega
    rw [tailB_end, List.append_nil]
  | m + 1, i, h => by
    rw [allB_tail P N m (i + 1) (by omega), allB_succ, tailB_cons P (show i < N by omega), List.append_assoc]
theorem allB_drop (P : Nat → PartR) {i N : Nat} (h : i < N) : (allB P N).drop (allB P i).length = (P i).bytes ++ tailB P (i + 1) N := by
  rw [allB_tail P N (N - i) i (by omega), List.drop_left, tailB_cons P h]
/-- What loop 2 keeps: the reader in block R, the second writer in block V. -/
structure BI (w wb : World) (V R : Nat) (A : Option Addr) (c : Nat) (bs : List Nat) (at_ : Nat) (v : Value) (xs : List Nat) (wr : World) : Prop where
  rd : RAt wr R A c bs at_ 0
  wt : WAt wr w.heap.size V v xs
  far : ∀ k, v.ownBlock = some k → wb.heap.size ≤ k
  keep : ∀ k, k < wb.heap.size → k ≠ R → k ≠ V → wr.heap[k]? = wb.heap[k]?
  size : wb.heap.size ≤ wr.heap.size
  below : Below w.heap.size w wr
theorem not_writer {x : World} {base V : Nat} {v : Value} {xs : List Nat} (h : WAt x base V v xs) {o : Nat} {z : Int} (hc : x.cell? ⟨V, o, none⟩ = some (.int .u8 z)) : False := by
  unfold World.cell? at hc
  rw [h.row] at hc
  obtain ⟨A, c, rfl⟩ := h.slice
  match o, hc with
  | 0, hc => cases hc
  | o + 1, hc => simp at hc
theorem BI.read {w wb wr w1 : World} {V R : Nat} {A : Option Addr} {c : Nat} {bs : List Nat} {at_ at' : Nat} {v : Value} {xs : List Nat} (hR : w.heap.size ≤ R ∧ R < wb.heap.size ∧ R ≠ V) (I : BI w wb V R A c bs at_ v xs wr) (h1 : RAt w1 R A c bs at' 0) (hg : wr.grownBy w1 (some R)) : BI w wb V R A c bs at' v xs w1 := by
  refine ⟨h1, ⟨(hg.block V I.wt.lt (fun e => hR.2.2 (by injection e with e; exact e.symm))).trans I.wt.row, own_keep1 I.wt.own fun k hk hlt => hg.block k hlt (fun e => by injection e with e; have := I.far k hk; omega), I.wt.le⟩, I.far, fun k hk h2 h3 => (hg.block k (Nat.lt_of_lt_of_le hk I.size) (fun e => by injection e with e; exact h2 e)).trans (I.keep k hk h2 h3), Nat.le_trans I.size hg.size, I.below.grown hg I.below.size (fun k e => by injection e with e; omega)⟩
theorem BI.write {w wb wr w1 : World} {V R : Nat} {A : Option Addr} {c : Nat} {bs : List Nat} {at0 at_ : Nat} {v v1 : Value} {xs ys : List Nat} (h0 : RAt wb R A c bs at0 0) (hR : w.heap.size ≤ R ∧ R < wb.heap.size ∧ R ≠ V) (hV : w.heap.size ≤ V ∧ V < wb.heap.size) (I : BI w wb V R A c bs at_ v xs wr) (h1 : WAt w1 w.heap.size V v1 ys) (t : Turn wr w1 V v.ownBlock v1.ownBlock) : BI w wb V R A c bs at_ v1 ys w1 := by
  have far1 : ∀ k, v1.ownBlock = some k → wb.heap.size ≤ k := fun k hk => by
    rcases t.new with e | e
    · exact I.far k (by rw [← e]; exact hk)
    · exact Nat.le_trans I.size (e k hk)
  have keep1 : ∀ k, k < wb.heap.size → k ≠ V → w1.heap[k]? = wr.heap[k]? := fun k hk hn => t.block k (Nat.lt_of_lt_of_le hk I.size) hn (fun e => by have := I.far k e; omega)
  refine ⟨?_, h1, far1, fun k hk h2 h3 => (keep1 k hk h3).trans (I.keep k hk h2 h3), Nat.le_trans I.size t.size, I.below.trans (t.below hV.1 I.wt.blk I.below.size)⟩
  obtain ⟨cs, r1, r2, r3⟩ := I.rd.row
  refine ⟨⟨cs, (keep1 R hR.2.1 hR.2.2).trans r1, r2, r3⟩, ⟨I.rd.by_.lt, fun hp => ?_⟩, I.rd.le, I.rd.cap, I.rd.some_⟩
  obtain ⟨b, o, e, hb, hc⟩ := I.rd.by_.at_ hp
  obtain ⟨b', o', e', _, hc'⟩ := h0.by_.at_ hp
  rw [e] at e'
  injection e' with e'
  injection e' with e1 e2
  subst e1 e2
  have hbV : b ≠ V := fun e => by subst e; exact not_writer I.wt (hc 0 hp)
  exact ⟨b, o, e, hb, fun j hj => (World.cell?_of_block (w := wr) (a := ⟨b, o + j, none⟩) (keep1 b (World.block_lt_of_cell? wb _ (hc' j hj)) hbV)).trans (hc j hj)⟩
/-- A load of a row of cells, where the operation is guarded. -/
theorem wpList_load_arr_w {P : Program} {ops : Array Oper} {rest : List Oper} {op : Oper} {a : Act} {w : World} {Q : Exit → Act → World → Prop} (hgd : Region.wanted op (yielded ops a.tmps) = true) (ty : TypeId) (x : Operand) (ho : op.op = .load ty x)
    (b o : Nat) (hx : a.eval x = .pointer (some ⟨b, o, none⟩)) (A : Array Value) (d : TypeDesc) (hc : rangeA w b o A)
    (hu : P.underlying ty = some d) (hd : d.isRow = true) (hi : (P.info? ty).map (·.size) = some A.size)
    (h : wpList P ops Q rest (a.put op.dst (.agg A)) w) : wpList P ops Q (op :: rest) a w :=
  wpList_step fun K hK => by
    rw [if_pos hgd]
    unfold Oper.wp execOp
    simp only [ho, hx, Instr.loadAt, Instr.sureAddr, Sem.run_bind, Sem.run_pure, Result.andThen_ok, run_loadVar_arr w b o ty A d hc hu hd hi]
    exact hK _ _ h
end Go.Proofs.Ythodogcpoihjpaa
