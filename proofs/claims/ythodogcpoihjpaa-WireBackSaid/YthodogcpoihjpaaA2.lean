/- The reference's numbers. -/
import Derived.Test.YthodogcpoihjpaaOwn
namespace Go.Proofs.Ythodogcpoihjpaa
open Go.RowKit

theorem then2 {w x y : World} (h : Below w.heap.size w x) (hb : Below x.heap.size x y) : Below w.heap.size w y := h.trans (hb.mono h.size)
theorem below1 (w : World) (o : Obj) : Below w.heap.size w (w.alloc o) := (Below.refl _ _).alloc (Nat.le_refl _) _
theorem owns_one (w : World) (y : Nat) {base : Nat} (hb : base ≤ w.heap.size) : (w.alloc (.cells #[.int .u8 (y : Int)] 5)).ownsRow base 5 1 (.slice (some ⟨w.heap.size, 0, none⟩) 1 1) 1 (ints8 [y]) :=
  ⟨rfl, .inr ⟨w.heap.size, 1, _, rfl, hb, heap_alloc_new _ _, Nat.le_refl _, by unfold maxLen; omega, rfl, rfl⟩⟩

/-- What the loop keeps: m is left, zs stands. -/
structure RInv (w : World) (n m : Nat) (zs : List Nat) (v : Value) (wr : World) : Prop where
  own : wr.ownsRow w.heap.size 5 1 v zs.length (ints8 zs)
  eq : be m ++ zs = be n
  below : Below w.heap.size w wr
set_option maxRecDepth 100000 in
set_option maxHeartbeats 2000000 in
theorem numR_any (n : Nat) (w : World) (h : n < 18446744073709551616) :
    Calls Try.prog 22 #[.int .u64 (n : Int)] w fun e w' => ∃ v, e = .returned v ∧ w'.ownsRow w.heap.size 5 1 v (numB n).length (ints8 (numB n)) ∧ Below w.heap.size w w' := by
  have HN := Lib.hid h
  go_enter Try.func22, Try.ntmps22
  go_wp2
  go_loopw [0, 3] (fun a v wr => ∃ (m : Nat) (zs : List Nat) (A : Option Addr) (c : Nat), m < 18446744073709551616 ∧ a = .int .u64 (m : Int) ∧ v = .slice A zs.length c ∧ Hid (RInv w n m zs (.slice A zs.length c) wr)) (fun a _ _ => (intOf a).toNat)
  case atStart => exact ⟨n, [], none, 0, h, rfl, rfl, World.ownsRow_nil _ _ _ _, by simp, Below.refl _ _⟩
  case round =>
    clear h
    obtain ⟨m, zs, A, c, hm, rfl, rfl, HI⟩ := hrel
    have hz : ∀ z, z ∈ zs → z < 256 := fun z hz => be_lt n 8 z (by show z ∈ be n; rw [← HI.out.eq]; exact List.mem_append_right _ hz)
    have hzl : zs.length ≤ 8 := by
      have h1 := congrArg List.length HI.out.eq
      have h2 := be_len8 n
      rw [List.length_append] at h1
      omega
    have HZ := Lib.hid hz
    clear hz
    have hb := own_bytes HI.out.own HZ.out
    obtain ⟨A', c', e1, hn, hby⟩ := hb
    injection e1 with e1 _ e2
    subst e1 e2
    have HBY := Lib.hid hby
    have HNN := Lib.hid hn
    clear hby hn
    by_cases h0 : 0 < m
    · have h0' : (0 : Int) < (m : Int) := by omega
      obtain ⟨y, hy⟩ : ∃ y, y = m % 256 := ⟨_, rfl⟩
      have HY := Lib.hid hy
      have hyI : ((m : Int) % 256) % 256 = (y : Int) := by omega
      have hyI2 : ((m : Int) % 256) = (y : Int) := by omega
      clear hy
      have O1 := Lib.hid (owns_one wr y HI.out.below.size)
      have B0 := Lib.hid (HBY.out.below (below1 wr (.cells #[.int .u8 (y : Int)] 5)))
      have S0 : Hid (w.heap.size ≤ (wr.alloc (.cells #[.int .u8 (y : Int)] 5)).heap.size) := by have := HI.out.below.size; show w.heap.size ≤ _; simp; omega
      go_wp2_with (refine wpList_append_bytes rfl (.tmp 9) (.tmp 10) rfl w.heap.size _ 1 [y] rfl O1.out A zs c (· < wr.heap.size) rfl B0.out HNN.out (by omega) S0.out ?_; intro v1 w1 H1 B1)
      obtain ⟨g, cap, rfl⟩ := owns_slice H1.out (by omega)
      go_roundw
      case rel =>
        have hY := HY.out
        refine ⟨m / 256, y :: zs, _, _, by omega, by go_num, by rw [List.length_cons, Nat.add_comm], ?_⟩
        have hl : (y :: zs).length = 1 + zs.length := by rw [List.length_cons, Nat.add_comm]
        refine ⟨by rw [hl]; exact H1.out, ?_, (HI.out.below.trans ((below1 wr _).mono HI.out.below.size)).trans B1.out⟩
        have := HI.out.eq
        rw [be_step m (by omega) hm, List.append_assoc, ← hY] at this
        exact this
      case measure => simp [intOf]; omega
    · obtain rfl : m = 0 := by omega
      have hzs : zs = be n := by have := HI.out.eq; rwa [be_zero, List.nil_append] at this
      have HZS := Lib.hid hzs
      clear hzs h0
      obtain ⟨y, hy⟩ : ∃ y, y = zs.length := ⟨_, rfl⟩
      have HY := Lib.hid hy
      have hyI : IntKind.u8.wrap (zs.length : Int) = (y : Int) := by rw [IntKind.wrap_u8]; omega
      clear hy
      have O1 := Lib.hid (owns_one wr y HI.out.below.size)
      have B0 := Lib.hid (HBY.out.below (below1 wr (.cells #[.int .u8 (y : Int)] 5)))
      have S0 : Hid (w.heap.size ≤ (wr.alloc (.cells #[.int .u8 (y : Int)] 5)).heap.size) := by have := HI.out.below.size; show w.heap.size ≤ _; simp; omega
      go_wp2_with (refine wpList_append_bytes rfl (.tmp 17) (.tmp 18) rfl w.heap.size _ 1 [y] rfl O1.out A zs c (· < wr.heap.size) rfl B0.out HNN.out (by omega) S0.out ?_; intro v1 w1 H1 B1)
      all_goals
        go_ret
        refine ⟨v1, rfl, ?_, (HI.out.below.trans ((below1 wr _).mono HI.out.below.size)).trans B1.out⟩
        have h1 := H1.out
        rw [HY.out, HZS.out] at h1
        rw [show (numB n).length = 1 + (be n).length by rw [numB, List.length_cons, Nat.add_comm]]
        exact h1
end Go.Proofs.Ythodogcpoihjpaa
