/- Appending a slice of dots; the reference's Join, given its Of. -/
import Derived.Test.YtnpacjdgbmldlaaD12
namespace Go.Proofs.Ytnpacjdgbmldlaa
open Go.RowKit
theorem wpList_append_dots {P : Program} {w : World} {ops : Array Oper} {rest : List Oper} {o : Oper} {a : Act} {Q : Exit → Act → World → Prop} (hgd : o.guard = none) (s x : Operand) (t : TypeId)
    (ho : o.op = .call { callee := .builtin .append, args := #[s, x], argTypes := #[t, t] }) (base : Nat) (e : TypeId) (z : Value) (bytes : Nat) (ht : P.underlying t = some (.slice e))
    (hinfo : (P.info? e).map (fun i => (i.zero, i.size, i.bytes)) = some (some z, 2, bytes)) (hzs : z.cells.size = 2)
    (v : Value) (n : Nat) (xs : List Value) (hs : a.eval s = v) (hown : w.ownsRow base e 2 v n xs) (ys : List Dt) (A : Option Addr) (c : Nat) (ok : Nat → Prop)
    (hx : a.eval x = .slice A ys.length c) (hA : A = none → c = 0) (hD : Dots w ok A ys) (h63 : n + ys.length ≤ maxLen) (hbytes : (n + ys.length) * bytes ≤ 140737488355328) (hbase : base ≤ w.heap.size)
    (h : ∀ v' w', Hid (w'.ownsRow base e 2 v' (n + ys.length) (xs ++ dots2 ys)) → Hid (Below base w w') → wpList P ops Q rest (a.put o.dst v') w') : wpList P ops Q (o :: rest) a w := by
  obtain ⟨i, hi, hz, hsz, hby⟩ := info_parts hinfo
  cases A with
  | none =>
    have h0 : ys = [] := by
      cases ys with
      | nil => rfl
      | cons d l =>
        obtain ⟨_, _, e, _⟩ := hD.at_ (by simp)
        cases e
    subst h0
    rw [hA rfl] at hx
    refine wpList_append_own_none hgd s x t ho base e i 2 ht hi v n xs hs hown hx ?_
    exact h v w (Lib.hid (by simpa [dots2] using hown)) (Lib.hid (Below.refl _ _))
  | some ad =>
    refine wpList_append_own _ hgd s x t ho base e i z 2 bytes ht hi hz hsz hby hzs (by decide) v n xs hs hown ad ys.length c (dots2 ys) hx (dots2_len ys) (fun j u hu => ?_) (fun y hy => ?_) h63 hbytes hbase ?_
    · have hj : j < ys.length * 2 := by
        have := (List.getElem?_eq_some_iff.1 hu).1
        rwa [dots2_len] at this
      obtain ⟨b, o', e, _, h2⟩ := hD.at_ (by omega)
      cases e
      have h3 := h2 (j / 2) (by omega)
      have hd := dots2_get ys (j / 2) (by omega)
      rw [Addr.add_mid]
      rcases (show j = j / 2 * 2 ∨ j = j / 2 * 2 + 1 by omega) with e | e
      · rw [e, hd.1] at hu
        have h4 := h3 0 u hu
        rwa [Nat.add_zero, ← e] at h4
      · rw [e, hd.2] at hu
        have h4 := h3 1 u hu
        rwa [Nat.add_assoc, ← e] at h4
    · unfold dots2 at hy
      obtain ⟨d, _, hy⟩ := List.mem_flatMap.1 hy
      simp only [dcells, List.mem_cons, List.mem_nil_iff, or_false] at hy
      rcases hy with rfl | rfl <;> rfl
    · intro v' w' hown' hg _
      exact h v' w' hown' ((Below.refl base w).grown hg hbase fun k hk => (hown.lt k hk).1)
set_option maxRecDepth 100000 in
set_option maxHeartbeats 4000000 in
theorem join_any (F : List Dt → List Dt) (hF : OfIs F) (xs ys : List Dt) (c c' : Nat) (A B : Option Addr) (w : World) (hx : Dots w (· < w.heap.size) A xs) (hy : Dots w (· < w.heap.size) B ys) (hA : A = none → c = 0) (hB : B = none → c' = 0) (hm : xs.length + ys.length ≤ 100000) :
    Calls Try.prog 34 #[.slice A xs.length c, .slice B ys.length c'] w fun e w' => ∃ A' d, e = .returned (.slice A' (F (xs ++ ys)).length d) ∧ Dots w' (· < w'.heap.size) A' (F (xs ++ ys)) ∧ (F (xs ++ ys)).length ≤ d ∧ Below w.heap.size w w' := by
  have HV := Lib.hid hx
  have HY := Lib.hid hy
  have HM := Lib.hid hm
  have HOF := Lib.hid hF
  have HA := Lib.hid hA
  have HB := Lib.hid hB
  clear hx hy hm hF hA hB
  go_enter Try.func34, Try.ntmps34
  have H0 : Hid ((w.alloc (.cells #[] 35)).ownsRow w.heap.size 35 2 (.slice (some ⟨w.heap.size, 0, none⟩) 0 0) 0 []) := Lib.hid ⟨by simp, .inr ⟨w.heap.size, 0, #[], rfl, Nat.le_refl _, heap_alloc_new _ _, by omega, by simp, by simp, by simp⟩⟩
  have HV1 := Lib.hid (HV.out.below (below1 w (.cells #[] 35)))
  have HY1 := Lib.hid (HY.out.below (below1 w (.cells #[] 35)))
  have HB1 := Lib.hid (below1 w (.cells #[] 35))
  clear HV HY
  go_wp2_with (first
    | (refine wpList_append_dots rfl (.tmp 5) (.tmp 6) 30 rfl w.heap.size 35 (.agg #[.int .i64 0, .int .u64 0]) 16 Try.underlying30 info35 rfl _ 0 _ rfl H0.out xs A c _ rfl HA.out HV1.out (by have := HM.out; unfold maxLen; omega) (by have := HM.out; omega) HB1.out.size ?_; intro v1 w3 H1 B1; have HY3 := Lib.hid (HY1.out.below B1.out); have HB3 := Lib.hid (HB1.out.trans B1.out))
    | (refine wpList_append_dots rfl (.tmp 7) (.tmp 8) 30 rfl w.heap.size 35 (.agg #[.int .i64 0, .int .u64 0]) 16 Try.underlying30 info35 rfl _ (0 + xs.length) _ rfl H1.out ys B c' _ rfl HB.out HY3.out (by have := HM.out; unfold maxLen; omega) (by have := HM.out; omega) HB3.out.size ?_; intro v2 w4 H2 B2; have HB4 := Lib.hid (HB3.out.trans B2.out); clear H1 B1 HY3; have H5 : Hid (w4.ownsRow w.heap.size 35 2 v2 (xs ++ ys).length (dots2 (xs ++ ys))) := Lib.hid (by have h := H2.out; rwa [List.nil_append, ← dots2_append, Nat.zero_add, ← List.length_append] at h); obtain ⟨A', c2, hv2, h1, _⟩ := own_dots H5.out; subst hv2; have HO1 := Lib.hid (h1.loose (p := (· < w4.heap.size)) fun b h => h.2); clear h1)
    | fail)
  have HC := Lib.hid (HOF.out (xs ++ ys) c2 A' w4 HO1.out (by rw [List.length_append]; exact HM.out))
  rw [List.length_append] at HC
  refine HC.out.mono ?_
  rintro e w5 ⟨A5, c5, rfl, hd, hc, hb⟩
  have H6 := Lib.hid hd
  have HC6 := Lib.hid hc
  have HB6 := Lib.hid hb
  clear hd hb hc
  go_wp2_with fail
  go_ret
  exact ⟨_, _, rfl, H6.out, HC6.out, HB4.out.trans (HB6.out.mono HB4.out.size)⟩
end Go.Proofs.Ytnpacjdgbmldlaa
