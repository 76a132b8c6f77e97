/- Strings as bytes; the contracts of key's functions. -/
import Derived.Test.YtdbhboglccggdaaGreatDoorSA7
import Derived.Laws.IdiomStrings
set_option maxRecDepth 100000
set_option linter.unusedVariables false
set_option linter.unusedSimpArgs false
namespace Go.Proofs.YtdbhboglccggdaaGreatDoor
open Go.RowKit

theorem wpList_wanted {P : Program} {ops : Array Oper} {rest : List Oper} {o : Oper} {a : Act} {w : World} {Q : Exit → Act → World → Prop} (hw : Region.wanted o (yielded ops a.tmps) = true)
    (h : ∀ K : Act → World → Prop, (∀ a w, wpList P ops Q rest a w → K a w) → o.wp P a w K Q) : wpList P ops Q (o :: rest) a w :=
  wpList_step fun K hK => by rw [if_pos hw]; exact h K hK
theorem ret_bool {a b : Bool} (h : a = b) : Ending.returned (.bool a) = .returned (.bool b) := by rw [h]
/-- The bytes of a string. -/
def bs (s : ByteArray) : List Nat := s.data.toList.map UInt8.toNat
theorem bs_length (s : ByteArray) : (bs s).length = s.size := by
  unfold bs
  rw [List.length_map]
  cases s
  rfl
theorem bs_lt {s : ByteArray} : ∀ x, x ∈ bs s → x < 256 := fun x hx => by
  obtain ⟨b, _, rfl⟩ := List.mem_map.1 hx
  exact b.toNat_lt
theorem bs_get (s : ByteArray) (i : Nat) (hi : i < s.size) : (bs s).getD i 0 = (s[i]'hi).toNat := by
  cases s with
  | mk d =>
    have hd : i < d.toList.length := hi
    simp only [bs, List.getD_eq_getElem?_getD, List.getElem?_map, List.getElem?_eq_getElem hd, Option.map_some, Option.getD_some]
    rfl
theorem wpList_strix {P : Program} {ops : Array Oper} {rest : List Oper} {o : Oper} {a : Act} {w : World} {Q : Exit → Act → World → Prop} (hw : Region.wanted o (yielded ops a.tmps) = true) (t : TypeId) (x y : Operand)
    (ho : o.op = .index t x y) (ht : P.underlying t = some .string) (s : ByteArray) (i : Nat) (hx : a.eval x = .string s) (hy : a.eval y = .int .i64 (i : Int)) (hi : i < s.size)
    (h : wpList P ops Q rest (a.put o.dst (.int .u8 (((bs s).getD i 0 : Nat) : Int))) w) : wpList P ops Q (o :: rest) a w :=
  wpList_wanted hw fun _ hK => by
    have h1 := run_index_string (P := P) w t s .i64 (i : Int) ht
    rw [dif_pos ⟨by omega, by omega⟩] at h1
    have h2 : (s[(i : Int).toNat]'(by omega)).toNat = (bs s).getD i 0 := by rw [bs_get s i hi]; rfl
    rw [h2] at h1
    unfold Oper.wp execOp
    simp only [ho, hx, hy, Sem.run_bind, Sem.run_pure, Result.andThen_ok, h1]
    exact hK _ _ h
theorem sbytes_at (w : World) (s : ByteArray) (c : Nat) (e : TypeId) (fr : Nat × Nat) : Bytes (w.alloc (.cells (bytesRow s c) e fr)) (· < (w.alloc (.cells (bytesRow s c) e fr)).heap.size) (some ⟨w.heap.size, 0, none⟩) (bs s) := by
  refine ⟨bs_lt, fun _ => ⟨_, _, rfl, by simp, fun j hj => ?_⟩⟩
  rw [Nat.zero_add, World.cell?_alloc_mark]
  rw [bs_length] at hj
  have hd : j < s.data.size := hj
  unfold bytesRow
  rw [Array.getElem?_append_left (by simpa using hd), Array.getElem?_map, Array.getElem?_eq_getElem hd, bs_get s j hj]
  rfl
theorem wpList_sbytes {P : Program} {ops : Array Oper} {rest : List Oper} {o : Oper} {a : Act} {w : World} {Q : Exit → Act → World → Prop} (hw : Region.wanted o (yielded ops a.tmps) = true) (src dst e : TypeId) (x : Operand)
    (ho : o.op = .convert src dst x) (hs : P.underlying src = some .string) (hd : P.underlying dst = some (.slice e)) (he : P.underlying e = some (.int .u8)) (s : ByteArray) (hx : a.eval x = .string s)
    (h : ∀ (A : Addr) (c : Nat) (w' : World), Hid (Bytes w' (· < w'.heap.size) (some A) (bs s)) → Hid ((bs s).length ≤ c) → Hid (Below w.heap.size w w') → wpList P ops Q rest (a.put o.dst (.slice (some A) (bs s).length c)) w') : wpList P ops Q (o :: rest) a w :=
  wpList_wanted hw fun _ hK => by
    have h1 := run_bytes_of_string (P := P) w src dst e s hs hd he
    unfold Oper.wp execOp
    simp only [ho, hx, Sem.run_bind, Sem.run_pure, Result.andThen_ok, h1]
    refine hK _ _ ?_
    have h2 := h ⟨w.heap.size, 0, none⟩ (grownCap w s.size 0 e) _ (sbytes_at w.drew s (grownCap w s.size 0 e) e _) (by rw [bs_length]; exact grownCap_ge _ _ _ _) (Below.alloc (a := w) (w := w.drew) (Below.refl w.heap.size w).drew (Nat.le_refl _) (.cells (bytesRow s (grownCap w s.size 0 e)) e ((bytesRow s (grownCap w s.size 0 e)).size, (bytesRow s (grownCap w s.size 0 e)).size + 1)))
    rw [bs_length] at h2
    exact h2

/-- The bytes that a key may have. -/
def lettersB : ByteArray := ⟨#[97, 98, 99, 100, 101, 102, 103, 104, 105, 106, 107, 108, 109, 110, 111, 112, 113, 114, 115, 116, 117, 118, 119, 120, 121, 122, 48, 49, 50, 51, 52, 53, 54, 55, 56, 57, 45]⟩
def letter (b : Nat) : Bool := decide (97 ≤ b ∧ b ≤ 122 ∨ 48 ≤ b ∧ b ≤ 57 ∨ b = 45)
theorem letters_are : bs lettersB = [97, 98, 99, 100, 101, 102, 103, 104, 105, 106, 107, 108, 109, 110, 111, 112, 113, 114, 115, 116, 117, 118, 119, 120, 121, 122, 48, 49, 50, 51, 52, 53, 54, 55, 56, 57, 45] := by decide +kernel
theorem letters_size : lettersB.size = 37 := by decide +kernel
theorem letter_at : ∀ i, i < 37 → letter ((bs lettersB).getD i 0) = true := by
  intro i hi
  have : ∀ t : Fin 37, letter ((bs lettersB).getD t.1 0) = true := by decide +kernel
  exact this ⟨i, hi⟩
theorem letter_none {b : Nat} (hb : b < 256) (h : ∀ j, j < 37 → (bs lettersB).getD j 0 ≠ b) : letter b = false := by
  have : ∀ t : Fin 256, letter t.1 = false ∨ ∃ j : Fin 37, (bs lettersB).getD j.1 0 = t.1 := by decide +kernel
  rcases this ⟨b, hb⟩ with h1 | ⟨j, hj⟩
  · exact h1
  · exact absurd hj (h j.1 j.2)

set_option maxHeartbeats 2000000 in
theorem isLetter_any (b : Nat) (hb : b < 256) (w : World) : Calls Tryz.prog 45 #[.int .u8 (b : Int)] w fun e w' => e = .returned (.bool (letter b)) ∧ w = w' := by
  have HB := Lib.hid hb
  have HS : Hid (lettersB.size = 37) := letters_size
  go_enter Tryz.func45, Tryz.ntmps45
  go_wp2
  go_loop [4] (fun v => ∃ i : Nat, i ≤ 37 ∧ v = .int .i64 i ∧ Hid (∀ j, j < i → (bs lettersB).getD j 0 ≠ b)) (fun v => 37 - (intOf v).toNat)
  case atStart => exact ⟨0, by omega, rfl, fun j hj => by omega⟩
  case round =>
    obtain ⟨i, hi, rfl, HN⟩ := hrel
    by_cases hlt : i < 37
    · obtain ⟨v, hv⟩ : ∃ v, v = (bs lettersB).getD i 0 := ⟨_, rfl⟩
      have HV := Lib.hid hv
      have HL : Hid (letter v = true) := by rw [hv]; exact letter_at i hlt
      clear hv
      by_cases hvb : v = b
      · subst hvb
        go_wp2_with (refine wpList_strix (by go_simp) 9 _ _ rfl Tryz.underlying9 lettersB i rfl rfl (by rw [HS.out]; omega) ?_; rw [← HV.out])
        go_ret
        exact ⟨ret_bool HL.out.symm, rfl⟩
      · have hne : ((v : Int) == (b : Int)) = false := by rw [beq_eq_false_iff_ne]; omega
        have HN2 : Hid (∀ j, j < i + 1 → (bs lettersB).getD j 0 ≠ b) := Lib.hid (fun j hj => by
          by_cases e : j = i
          · subst e; rw [← HV.out]; exact hvb
          · exact HN.out j (by omega))
        go_wp2_with (refine wpList_strix (by go_simp) 9 _ _ rfl Tryz.underlying9 lettersB i rfl rfl (by rw [HS.out]; omega) ?_; rw [← HV.out])
        go_round
        case rel => exact ⟨i + 1, by omega, by go_num, HN2⟩
        case measure => simp [intOf]; omega
    · obtain rfl : i = 37 := by omega
      go_wp2
      go_ret
      exact ⟨ret_bool (letter_none HB.out HN.out).symm, rfl⟩
end Go.Proofs.YtdbhboglccggdaaGreatDoor
