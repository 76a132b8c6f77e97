/- Rows of points; sort.Search; the nodes from a point on. -/
import Derived.Test.YtdbhboglccggdaaGreatDoorR3
import Derived.Shelf.Abstract
set_option maxRecDepth 100000
set_option linter.unusedVariables false
set_option linter.unusedSimpArgs false
namespace Go.Proofs.YtdbhboglccggdaaGreatDoor
open Go.RowKit
/-- A slice of points; the block that it stands in is one of points. -/
structure PRow (w : World) (ok : Nat → Prop) (A : Option Addr) (ls : List Pt) : Prop where
  at_ : 0 < ls.length → ∃ b o, A = some ⟨b, o, none⟩ ∧ ok b ∧ (∃ cs fr, w.heap[b]? = some (.cells cs 101 fr)) ∧ ∀ j, j < ls.length → w.cell? ⟨b, o + j * 2, none⟩ = some (.int .u64 (((ls.getD j (0, 0)).1 : Nat) : Int)) ∧ w.cell? ⟨b, o + j * 2 + 1, none⟩ = some (.int .i64 (((ls.getD j (0, 0)).2 : Nat) : Int))
theorem PRow.keep {w w' : World} {ok : Nat → Prop} {A : Option Addr} {ls : List Pt} (h : PRow w ok A ls) (hk : ∀ b, ok b → b < w.heap.size → (∃ cs fr, w.heap[b]? = some (.cells cs 101 fr)) → w'.heap[b]? = w.heap[b]?) : PRow w' ok A ls :=
  ⟨fun hp => by
    obtain ⟨b, o, e, hb, ⟨cs, fr, hg⟩, hc⟩ := h.at_ hp
    have hl : b < w.heap.size := World.block_lt_of_cell? w _ (hc 0 hp).1
    have hh := hk b hb hl ⟨cs, fr, hg⟩
    refine ⟨b, o, e, hb, ⟨cs, fr, hh.trans hg⟩, fun j hj => ⟨?_, ?_⟩⟩
    · exact (World.cell?_of_block (w := w) (a := ⟨b, o + j * 2, none⟩) hh).trans (hc j hj).1
    · exact (World.cell?_of_block (w := w) (a := ⟨b, o + j * 2 + 1, none⟩) hh).trans (hc j hj).2⟩
theorem PRow.grow {w w' : World} {ok : Nat → Prop} {A : Option Addr} {ls : List Pt} (h : PRow w ok A ls) (hg : Below w.heap.size w w') : PRow w' ok A ls := h.keep fun b _ hl _ => hg.block b hl
theorem PRow.drew {w : World} {ok : Nat → Prop} {A : Option Addr} {ls : List Pt} (h : PRow w ok A ls) : PRow w.drew ok A ls := ⟨h.at_⟩
theorem PRow.weak {w : World} {P Q : Nat → Prop} {A : Option Addr} {ls : List Pt} (h : PRow w P A ls) (hq : ∀ b, P b → b < w.heap.size → Q b) : PRow w Q A ls :=
  ⟨fun hp => by
    obtain ⟨b, o, e, hb, ht, hc⟩ := h.at_ hp
    exact ⟨b, o, e, hq b hb (World.block_lt_of_cell? w _ (hc 0 hp).1), ht, hc⟩⟩
theorem PRow.nil (w : World) (ok : Nat → Prop) (A : Option Addr) : PRow w ok A [] := ⟨fun h => by cases h⟩
open Go.Shelf in
set_option maxRecDepth 100000 in
set_option maxHeartbeats 2000000 in
theorem search_any (g : Nat) (lb : Array Value) (n : Nat) (p : Nat → Bool) (w : World) (hE : ∀ args w, (callFunc g args).run Tryz.prog w = .ok (.enter g args) w) (hn : n ≤ 1000000)
    (hf : ∀ (i : Nat) W, i < n → Below w.heap.size w W → Calls Tryz.prog g (#[.int .i64 (i : Int)] ++ lb) W fun e W' => e = .returned (.bool (p i)) ∧ Below W.heap.size W W') :
    Calls Tryz.prog 60 #[.int .i64 (n : Int), .func (.func g) #[] lb] w fun e w' => ∃ r : Nat, e = .returned (.int .i64 (r : Int)) ∧ r ≤ n ∧ (r = 0 ∨ p (r - 1) = false) ∧ (r = n ∨ p r = true) ∧ Below w.heap.size w w' := by
  have HF := Lib.hid hf
  have HN := Lib.hid hn
  have eg : ∀ args w, (callFunc g args).run Tryz.prog w = .ok (.enter g args) w := hE
  clear hf hn hE
  go_enter Tryz.func60, Tryz.ntmps60
  go_wp2
  go_loopw [5, 6] (fun a b wr => ∃ lo hi : Nat, a = .int .i64 (lo : Int) ∧ b = .int .i64 (hi : Int) ∧ lo ≤ hi ∧ hi ≤ n ∧ Hid (lo = 0 ∨ p (lo - 1) = false) ∧ Hid (hi = n ∨ p hi = true) ∧ Hid (Below w.heap.size w wr)) (fun a b _ => (intOf b).toNat - (intOf a).toNat)
  case atStart => exact ⟨0, n, rfl, rfl, by omega, Nat.le_refl _, Lib.hid (.inl rfl), Lib.hid (.inl rfl), Lib.hid (Below.refl _ _)⟩
  case round =>
    obtain ⟨lo, hi, rfl, rfl, h1, h2, HL, HH, HB⟩ := hrel
    by_cases hlt : lo < hi
    · obtain ⟨m, hm⟩ : ∃ m : Nat, m = (lo + hi) / 2 := ⟨_, rfl⟩
      have hm1 : lo ≤ m := by omega
      have hm2 : m < hi := by omega
      have e1 : IntKind.i64.wrap ((lo : Int) + (hi : Int)) = ((lo + hi : Nat) : Int) := by have := HN.out; rw [IntKind.wrap_i64]; omega
      have e3 : IntKind.i64.wrap ((m : Int) + 1) = (m : Int) + 1 := by have := HN.out; rw [IntKind.wrap_i64]; omega
      have E2 : Hid (wrap64 (IntKind.u64.wrap ((lo : Int) + (hi : Int)) / 2) = (m : Int)) := Lib.hid (by
        have hu : IntKind.u64.wrap ((lo : Int) + (hi : Int)) = (lo : Int) + (hi : Int) := by have := HN.out; simp [IntKind.wrap, IntKind.bits, IntKind.signed]; omega
        rw [hu, hm]
        unfold wrap64
        have := HN.out
        omega)
      clear hm
      go_wp2_with fail
      rw [E2.out]
      refine (HF.out m wr (by omega) HB.out).mono ?_
      rintro e w2 ⟨rfl, hb⟩
      have HB2 := Lib.hid (HB.out.trans (hb.mono HB.out.size))
      clear hb HB e1
      cases hp : p m with
      | true =>
        have HP := Lib.hid hp
        clear hp e3
        go_wp2_with fail
        go_roundw
        case rel => exact ⟨lo, m, rfl, rfl, by omega, by omega, HL, Lib.hid (.inr HP.out), HB2⟩
        case measure => simp [intOf]; omega
      | false =>
        have HP := Lib.hid hp
        clear hp
        go_wp2_with fail
        go_roundw
        all_goals clear e3
        case rel => exact ⟨m + 1, hi, by go_num, rfl, by omega, by omega, Lib.hid (.inr (by simpa using HP.out)), HH, HB2⟩
        case measure => simp [intOf]; omega
    · obtain rfl : lo = hi := by omega
      go_wp2_with fail
      go_ret
      exact ⟨lo, rfl, h2, HL.out, HH.out, HB.out⟩

/-! ### among -/
/-- The boxes of the points and of the base, as the closure finds them. -/
structure SB (w0 : World) (A : Option Addr) (c : Nat) (ls : List Pt) (base : Nat) (ok : Nat → Prop) (x : World) : Prop where
  p : x.cell? ⟨w0.heap.size, 0, none⟩ = some (.slice A ls.length c)
  b : x.cell? ⟨w0.heap.size + 1, 0, none⟩ = some (.int .u64 (base : Int))
  row : PRow x ok A ls
  below : Below w0.heap.size w0 x
  le : w0.heap.size + 2 ≤ x.heap.size
theorem SB.then_ {w0 : World} {A : Option Addr} {c : Nat} {ls : List Pt} {base : Nat} {ok : Nat → Prop} {x y : World} (h : SB w0 A c ls base ok x) (k : Below x.heap.size x y) : SB w0 A c ls base ok y := by
  have hl := h.le
  exact ⟨(World.cell?_of_block (w := x) (a := ⟨w0.heap.size, 0, none⟩) (k.block w0.heap.size (by omega))).trans h.p, (World.cell?_of_block (w := x) (a := ⟨w0.heap.size + 1, 0, none⟩) (k.block (w0.heap.size + 1) (by omega))).trans h.b, h.row.grow k, h.below.trans (k.mono h.below.size), Nat.le_trans h.le k.size⟩
theorem SB.drew {w0 : World} {A : Option Addr} {c : Nat} {ls : List Pt} {base : Nat} {ok : Nat → Prop} {x : World} (h : SB w0 A c ls base ok x) : SB w0 A c ls base ok x.drew := ⟨h.p, h.b, h.row.drew, h.below.drew, h.le⟩
set_option maxHeartbeats 2000000 in
theorem from1_any (w0 : World) (A : Option Addr) (c : Nat) (ls : List Pt) (base : Nat) {ok : Nat → Prop} (i : Nat) (hi : i < ls.length) (w : World) (h : SB w0 A c ls base ok w) :
    Calls Tryz.prog 61 #[.int .i64 (i : Int), .pointer (some ⟨w0.heap.size, 0, none⟩), .pointer (some ⟨w0.heap.size + 1, 0, none⟩)] w fun e w' => e = .returned (.bool (decide (base ≤ (ls.getD i (0, 0)).1))) ∧ Below w.heap.size w w' := by
  have HS := Lib.hid h.drew
  obtain ⟨b, o, hA, _, _, hc⟩ := h.row.at_ (by omega)
  subst hA
  obtain ⟨hc0, hc1⟩ := hc i hi
  clear hc hc1
  have hp := h.p
  have hb := h.b
  have hi' : (i : Int) < (ls.length : Int) := by omega
  obtain ⟨q, hq⟩ : ∃ q, q = (ls.getD i (0, 0)).1 := ⟨_, rfl⟩
  rw [← hq] at hc0 ⊢
  clear hq h
  by_cases hle : base ≤ q
  · have HE : Hid (decide (base ≤ q) = true) := decide_eq_true hle
    have hle' : (base : Int) ≤ (q : Int) := by omega
    clear hle
    go_enter Tryz.func61, Tryz.ntmps61
    go_wp2_with fail
    go_region
    go_wp2
    go_ret
    first | exact ⟨ret_bool HE.out.symm, (Below.refl _ _).drew⟩ | exact ⟨rfl, (Below.refl _ _).drew⟩
  · have HE : Hid (decide (base ≤ q) = false) := decide_eq_false hle
    have hle' : ¬ (base : Int) ≤ (q : Int) := by omega
    clear hle
    go_enter Tryz.func61, Tryz.ntmps61
    go_wp2_with fail
    go_region
    go_wp2
    go_ret
    first | exact ⟨ret_bool HE.out.symm, (Below.refl _ _).drew⟩ | exact ⟨rfl, (Below.refl _ _).drew⟩
end Go.Proofs.YtdbhboglccggdaaGreatDoor
