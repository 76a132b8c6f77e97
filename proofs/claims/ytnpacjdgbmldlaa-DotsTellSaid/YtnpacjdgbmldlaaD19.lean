/- dots.Of and dots.Join. -/
import Derived.Test.YtnpacjdgbmldlaaD18
namespace Go.Proofs.Ytnpacjdgbmldlaa
open Go.RowKit Go.Shelf Go.Lib Go.Sort

theorem enters110 : Enters 110 := enters_of Try.func110 (by kernel_rfl) rfl
theorem right_gives (Kp : Nat → World → World → Prop) (Pre : World → Prop) (Bs n₀ b o c : Nat) (LL : List (List Dt)) (hll : LL.length ≤ 1000) (hm : ∀ ls ∈ LL, ls.length ≤ 1000000) (w : World) (hB : Bs < w.heap.size)
    (hK : ∀ N X Y, Kp N X Y → Lists X n₀ b o LL → Lists Y n₀ b o LL) (hKB : ∀ N X Y, Kp N X Y → Below n₀ X Y)
    (hc : w.cell? ⟨Bs, 0, none⟩ = some (.slice (some ⟨b, o, none⟩) LL.length c)) (hL : Lists w n₀ b o LL) : Gives Try.prog 110 #[.pointer (some ⟨Bs, 0, none⟩)] (fun x : Dt => #[dotV x.1 x.2]) Kp Pre (rts LL) w :=
  fun m h1 l J W hW _ hJ hY h0 =>
    right1_in m h1 l Bs n₀ b o c LL hll hm (Kp W.heap.size) (hK _) (hKB _) J W hJ hY ((hW.cell (p := ⟨Bs, 0, none⟩) hB).trans hc) (hL.grow hW) h0
theorem right_yields (Bs n₀ b o c : Nat) (LL : List (List Dt)) (hll : LL.length ≤ 1000) (hm : ∀ ls ∈ LL, ls.length ≤ 1000000) (w : World) (hB : Bs < w.heap.size) (hb : b < n₀)
    (hc : w.cell? ⟨Bs, 0, none⟩ = some (.slice (some ⟨b, o, none⟩) LL.length c)) (hL : Lists w n₀ b o LL) : Yields 110 #[.pointer (some ⟨Bs, 0, none⟩)] (rts LL) n₀ w :=
  right_gives (KeepB n₀) _ Bs n₀ b o c LL hll hm w hB (fun _ _ _ h hL => hL.below h.below hb) (fun _ _ _ h => h.below) hc hL
set_option maxHeartbeats 400000 in
theorem rightV_any (A : Option Addr) (n c : Nat) (w : World) : Calls Try.prog 72 #[.slice A n c] w fun e w' => e = .returned (.func (.func 110) #[] #[.pointer (some ⟨w.heap.size, 0, none⟩)]) ∧ w' = w.alloc (.cells #[.slice A n c] 149) := by
  go_enter Try.func72, Try.ntmps72
  go_wp2
  go_ret
  exact ⟨rfl, rfl⟩

set_option maxRecDepth 100000 in
set_option maxHeartbeats 1000000 in
theorem dof_any (ls : List Dt) (c : Nat) (A : Option Addr) (w : World) (hv : Dots w (· < w.heap.size) A ls) (hm : ls.length ≤ 1000000) :
    Calls Try.prog 31 #[.slice A ls.length c] w fun e w' => ∃ g, e = .returned (.slice (some ⟨g, 0, none⟩) (setF (rt ls)).length (setF (rt ls)).length) ∧ w.heap.size ≤ g ∧ w'.heap[g]? = some (.cells (dots2 (setF (rt ls))).toArray 25 (0, 0)) ∧ Below w.heap.size w w' := by
  have HV := Lib.hid hv
  have HM := Lib.hid hm
  clear hv hm
  have HR := Lib.hid (fun W => rightV_any (some ⟨w.heap.size, 0, none⟩) 1 1 W)
  go_enter Try.func31, Try.ntmps31
  go_wp2_with fail
  refine (HR.out _).mono ?_
  rintro e w1 ⟨rfl, hw1⟩
  have hs1 : (w.alloc (.cells #[.slice A ls.length c] 22)).heap.size = w.heap.size + 1 := by simp
  have hsz : w1.heap.size = w.heap.size + 2 := by rw [hw1]; simp
  have hB1 : Below w.heap.size w w1 := by rw [hw1]; exact below2 _ _ _
  have hY : Yields 110 #[.pointer (some ⟨w.heap.size + 1, 0, none⟩)] (rts [ls]) w1.heap.size w1 :=
    right_yields _ _ w.heap.size 0 1 [ls] (by simp) (fun l hl => by rw [List.mem_singleton.1 hl]; exact HM.out) w1 (by omega) (by omega)
      (by rw [hw1, ← hs1, cell_of_row _ _ _ _ _ _ (heap_alloc_new _ _)]; rfl)
      ⟨fun i hi => by
        obtain rfl : i = 0 := by simpa using hi
        refine ⟨A, c, ?_, ?_⟩
        · rw [hw1, cell_of_row _ _ _ _ _ _ ((Below.heap_alloc _ _ _ (by simp)).trans (heap_alloc_new _ _))]
          rfl
        · exact (HV.out.below hB1).loose fun b hb => by omega⟩
  have hrt : rts [ls] = rt ls := by simp [rts]
  rw [hrt] at hY
  have HC := Lib.hid (set_any 110 _ (rt ls) w1 enters110 hY (Nat.le_trans (List.length_filter_le _ _) HM.out))
  have HB1 := Lib.hid hB1
  clear hY hw1 hrt hsz hB1 HR hs1
  go_wp2_with fail
  refine HC.out.mono ?_
  rintro e w2 ⟨g, rfl, hg, hr, hb⟩
  have HG := Lib.hid hg
  have HR := Lib.hid hr
  have HB := Lib.hid hb
  clear hg hr hb HC
  go_wp2_with fail
  go_ret
  exact ⟨g, rfl, Nat.le_trans HB1.out.size HG.out, HR.out, HB1.out.trans (HB.out.mono HB1.out.size)⟩
end Go.Proofs.Ytnpacjdgbmldlaa
