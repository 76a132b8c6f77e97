/- put, whatever the kind. -/
import Derived.Test.YthodogcpoihjpaaP2
namespace Go.Proofs.Ythodogcpoihjpaa
open Go.RowKit
theorem put_any (k : Int) (C : Array Value) {i m : Int} {n : Nat} {A : Option Addr} {ts : List Nat} {c : Nat} {d f : Nat → Nat} (w : World) (B W : Nat) (v : Value) (xs : List Nat) (h : PartC C k i m n A ts c d f) (ho : PartOk w B i n A ts c d f) (hB : B ≤ w.heap.size) (htl : ts.length ≤ 500) (hw : WAt w B W v xs) (hs : xs.length ≤ 800000) :
    Calls Try.prog 7 #[.pointer (some ⟨W, 0, none⟩), .agg C] w fun e w' => Told w w' e (partB k i n ts d f) ∧ ∃ v', WAt w' B W v' (xs ++ partB k i n ts d f) ∧ Turn w w' W v.ownBlock v'.ownBlock := by
  unfold partB
  by_cases h05 : k = 0 ∨ k = 5
  · rw [if_pos h05]; exact put_num k h05 C w B W v xs h ho hw hs
  rw [if_neg h05]
  by_cases h1 : k = 1
  · subst h1; rw [if_pos rfl]; exact put_int C w B W v xs h ho hB hw hs
  rw [if_neg h1]
  by_cases h2 : k = 2
  · subst h2; rw [if_pos rfl]; exact put_text C w B W v xs h ho hB htl hw hs
  rw [if_neg h2]
  by_cases h3 : k = 3
  · subst h3; rw [if_pos rfl]; exact put_dig C w B W v xs h ho hB hw hs
  rw [if_neg h3]
  by_cases h4 : k = 4
  · subst h4; rw [if_pos rfl]; exact put_vec C w B W v xs h ho hB hw hs
  rw [if_neg h4, List.append_nil]
  refine (put_other k _ ⟨fun e => h05 (.inl e), fun e => h05 (.inr e), h1, h2, h3, h4⟩ C w h).mono ?_
  rintro e w' ⟨ht, hb⟩
  exact ⟨ht, v, hw.below hb, Turn.of_below hb⟩
theorem putN_any (k : Int) (C : Array Value) {i m : Int} {n : Nat} {A : Option Addr} {ts : List Nat} {c : Nat} {d f : Nat → Nat} (w : World) (B : Nat) (h : PartC C k i m n A ts c d f) (ho : PartOk w B i n A ts c d f) (hB : B ≤ w.heap.size) (htl : ts.length ≤ 500) :
    Calls Try.prog 7 #[.pointer none, .agg C] w fun e w' => Told w w' e (partB k i n ts d f) ∧ Below w.heap.size w w' := by
  unfold partB
  by_cases h0 : k = 0
  · subst h0; rw [if_pos (.inl rfl)]; exact putN_num0 C w B h ho hB
  by_cases h5 : k = 5
  · subst h5; rw [if_pos (.inr rfl)]; exact putN_num5 C w B h ho hB
  rw [if_neg (by omega)]
  by_cases h1 : k = 1
  · subst h1; rw [if_pos rfl]; exact putN_int C w B h ho hB
  rw [if_neg h1]
  by_cases h2 : k = 2
  · subst h2; rw [if_pos rfl]; exact putN_text C w B h ho hB htl
  rw [if_neg h2]
  by_cases h3 : k = 3
  · subst h3; rw [if_pos rfl]; exact putN_dig C w B h ho hB
  rw [if_neg h3]
  by_cases h4 : k = 4
  · subst h4; rw [if_pos rfl]; exact putN_vec C w B h ho hB
  rw [if_neg h4]
  exact put_other k _ ⟨h0, h5, h1, h2, h3, h4⟩ C w h
theorem textB_len (ts : List Nat) : (textB ts).length = (numB ts.length).length + ts.length := by rw [textB, List.length_append]
theorem partB_len (k i : Int) (n : Nat) (ts : List Nat) (d f : Nat → Nat) (ht : ts.length ≤ 500) : (partB k i n ts d f).length ≤ 600 := by
  unfold partB
  have a1 := num_len n
  have a2 := num_len (zz i)
  have a3 := num_len ts.length
  have a4 := vecB_len f 8
  have a5 := dig_len d
  have a6 := textB_len ts
  split
  · omega
  split
  · omega
  split
  · omega
  split
  · omega
  split
  · omega
  · exact Nat.zero_le _
theorem partB_lt (k i : Int) (n : Nat) (ts : List Nat) (d f : Nat → Nat) (ht : ∀ z, z ∈ ts → z < 256) (hd : ∀ j, d j < 256) : ∀ z, z ∈ partB k i n ts d f → z < 256 := by
  unfold partB
  split
  · exact numB_lt n
  split
  · exact numB_lt _
  split
  · exact textB_lt ts ht
  split
  · intro z hz
    simp only [digB, List.mem_map] at hz
    obtain ⟨j, _, rfl⟩ := hz
    exact hd j
  split
  · exact vecB_lt f 8
  · intro z hz; cases hz
end Go.Proofs.Ythodogcpoihjpaa
