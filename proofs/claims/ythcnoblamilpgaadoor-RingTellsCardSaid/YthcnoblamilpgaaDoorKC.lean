/- The contracts of the reference's functions of keys. -/
import Derived.Test.YthcnoblamilpgaaDoorKB
import Derived.Test.YthcnoblamilpgaaDoorSB7
set_option maxRecDepth 100000
set_option linter.unusedVariables false
set_option linter.unusedSimpArgs false
namespace Go.Proofs.YthcnoblamilpgaaDoor
open Go.RowKit
theorem pt8 (d : Nat → Nat) : pt d 8 = ((((((d 0 * 256 + d 1) * 256 + d 2) * 256 + d 3) * 256 + d 4) * 256 + d 5) * 256 + d 6) * 256 + d 7 := by
  simp only [pt, Nat.zero_mul, Nat.zero_add]
theorem part_byte (s : ByteArray) : partK s = sha (bs s) 0 / 32 := by
  have h0 := bytesOf_lt (shaFin (bs s)).h 0
  have h1 := bytesOf_lt (shaFin (bs s)).h 1
  have h2 := bytesOf_lt (shaFin (bs s)).h 2
  have h3 := bytesOf_lt (shaFin (bs s)).h 3
  have h4 := bytesOf_lt (shaFin (bs s)).h 4
  have h5 := bytesOf_lt (shaFin (bs s)).h 5
  have h6 := bytesOf_lt (shaFin (bs s)).h 6
  have h7 := bytesOf_lt (shaFin (bs s)).h 7
  unfold partK ptK
  rw [pt8]
  unfold sha
  omega
theorem leaf_byte (s : ByteArray) : leafK s = sha (bs s) 0 / 2 % 16 := by
  have h0 := bytesOf_lt (shaFin (bs s)).h 0
  have h1 := bytesOf_lt (shaFin (bs s)).h 1
  have h2 := bytesOf_lt (shaFin (bs s)).h 2
  have h3 := bytesOf_lt (shaFin (bs s)).h 3
  have h4 := bytesOf_lt (shaFin (bs s)).h 4
  have h5 := bytesOf_lt (shaFin (bs s)).h 5
  have h6 := bytesOf_lt (shaFin (bs s)).h 6
  have h7 := bytesOf_lt (shaFin (bs s)).h 7
  unfold leafK ptK
  rw [pt8]
  unfold sha
  omega
set_option maxHeartbeats 1000000 in
theorem rpart_any (s : ByteArray) (w : World) (hs : s.size ≤ 2000) : Calls Tryd.prog 11 #[.string s] w fun e w' => e = .returned (.int .i64 ((partK s : Nat) : Int)) ∧ Below w.heap.size w w' := by
  have hz := (zero_of_info info24).1
  obtain ⟨Z, hZ⟩ : ∃ Z, Z = arrOf .u8 32 (fun _ => 0) := ⟨_, rfl⟩
  rw [← hZ] at hz
  have ZS : Hid (Z.size = 32) := by rw [hZ]; exact arrOf_size _ _ _
  clear hZ
  obtain ⟨S, hS⟩ : ∃ S, S = arrOf .u8 32 (sha (bs s)) := ⟨_, rfl⟩
  have HC : Hid (∀ (A : Addr) (c : Nat) (v : World), Bytes v (· < v.heap.size) (some A) (bs s) → Calls Tryd.prog 35 #[.slice (some A) (bs s).length c] v fun e w' => e = .returned (.agg S) ∧ Below v.heap.size v w') := Lib.hid (fun A c v hx => by
    have h := rsum_any (bs s) c (some A) v hx (fun e => by cases e) (by rw [bs_length]; exact hs)
    rw [← hS] at h
    exact h)
  have sS : Hid ((Tryd.prog.info? 73).map (·.size) = some S.size) := by rw [hS, arrOf_size]; exact size24
  have zS : Hid (Z.size = S.size) := by rw [hS, arrOf_size]; exact ZS
  have oS : Hid (S.all (·.oneCell') = true) := by rw [hS]; exact arrOf_one _ _ _
  obtain ⟨d, hd⟩ : ∃ d, d = sha (bs s) 0 := ⟨_, rfl⟩
  have HD := Lib.hid hd
  have HL : Hid (d < 256) := by rw [hd]; exact bytesOf_lt _ _
  have HS : Hid (∀ v : World, (v.alloc (.cells S 73)).cell? ⟨v.heap.size, 0, none⟩ = some (.int .u8 (d : Int))) := Lib.hid (fun v => by
    rw [hd, hS]
    exact (arr_row (heap_alloc_new _ _)).cell (by omega))
  have HE : Hid ((d : Int) / 32 % 256 = ((partK s : Nat) : Int)) := by
    have h1 := part_byte s
    rw [← hd] at h1
    have h2 := HL.out
    show _ = _
    rw [h1]
    omega
  clear hS ZS hs hd
  go_enter Tryd.func11, Tryd.ntmps11
  go_wp2_with (first
    | (refine wpList_sbytes (by go_simp) 9 33 5 _ rfl Tryd.underlying9 Tryd.underlying33 Tryd.underlying5 s rfl ?_; intro A c w1 HX HCC HB1)
    | (go_at_call 35; refine (HC.out A c w1 HX.out).mono ?_; rintro e w2 ⟨rfl, hb2⟩; have HB2 := Lib.hid (HB1.out.trans (hb2.mono HB1.out.size)); clear hb2)
    | (refine wpList_store_row rfl 73 _ _ rfl w2.heap.size S rfl rfl 73 _ (heap_alloc_new w2 _) sS.out zS.out oS.out ?_
       rw [World.setRow_alloc_new]
       have hc := HS.out w2))
  go_ret
  exact ⟨int_arg' HE.out, HB2.out.alloc HB2.out.size _⟩
set_option maxHeartbeats 1000000 in
theorem rleaf_any (s : ByteArray) (w : World) (hs : s.size ≤ 2000) : Calls Tryd.prog 12 #[.string s] w fun e w' => e = .returned (.int .i64 ((leafK s : Nat) : Int)) ∧ Below w.heap.size w w' := by
  have hz := (zero_of_info info24).1
  obtain ⟨Z, hZ⟩ : ∃ Z, Z = arrOf .u8 32 (fun _ => 0) := ⟨_, rfl⟩
  rw [← hZ] at hz
  have ZS : Hid (Z.size = 32) := by rw [hZ]; exact arrOf_size _ _ _
  clear hZ
  obtain ⟨S, hS⟩ : ∃ S, S = arrOf .u8 32 (sha (bs s)) := ⟨_, rfl⟩
  have HC : Hid (∀ (A : Addr) (c : Nat) (v : World), Bytes v (· < v.heap.size) (some A) (bs s) → Calls Tryd.prog 35 #[.slice (some A) (bs s).length c] v fun e w' => e = .returned (.agg S) ∧ Below v.heap.size v w') := Lib.hid (fun A c v hx => by
    have h := rsum_any (bs s) c (some A) v hx (fun e => by cases e) (by rw [bs_length]; exact hs)
    rw [← hS] at h
    exact h)
  have sS : Hid ((Tryd.prog.info? 73).map (·.size) = some S.size) := by rw [hS, arrOf_size]; exact size24
  have zS : Hid (Z.size = S.size) := by rw [hS, arrOf_size]; exact ZS
  have oS : Hid (S.all (·.oneCell') = true) := by rw [hS]; exact arrOf_one _ _ _
  obtain ⟨d, hd⟩ : ∃ d, d = sha (bs s) 0 := ⟨_, rfl⟩
  have HD := Lib.hid hd
  have HL : Hid (d < 256) := by rw [hd]; exact bytesOf_lt _ _
  have HS : Hid (∀ v : World, (v.alloc (.cells S 73)).cell? ⟨v.heap.size, 0, none⟩ = some (.int .u8 (d : Int))) := Lib.hid (fun v => by
    rw [hd, hS]
    exact (arr_row (heap_alloc_new _ _)).cell (by omega))
  have HE : Hid ((d : Int) / 2 % 16 = ((leafK s : Nat) : Int)) := by
    have h1 := leaf_byte s
    rw [← hd] at h1
    have h2 := HL.out
    show _ = _
    rw [h1]
    omega
  clear hS ZS hs hd
  go_enter Tryd.func12, Tryd.ntmps12
  go_wp2_with (first
    | (refine wpList_sbytes (by go_simp) 9 33 5 _ rfl Tryd.underlying9 Tryd.underlying33 Tryd.underlying5 s rfl ?_; intro A c w1 HX HCC HB1)
    | (go_at_call 35; refine (HC.out A c w1 HX.out).mono ?_; rintro e w2 ⟨rfl, hb2⟩; have HB2 := Lib.hid (HB1.out.trans (hb2.mono HB1.out.size)); clear hb2)
    | (refine wpList_store_row rfl 73 _ _ rfl w2.heap.size S rfl rfl 73 _ (heap_alloc_new w2 _) sS.out zS.out oS.out ?_
       rw [World.setRow_alloc_new]
       have hc := HS.out w2))
  go_ret
  exact ⟨int_arg' HE.out, HB2.out.alloc HB2.out.size _⟩
end Go.Proofs.YthcnoblamilpgaaDoor
