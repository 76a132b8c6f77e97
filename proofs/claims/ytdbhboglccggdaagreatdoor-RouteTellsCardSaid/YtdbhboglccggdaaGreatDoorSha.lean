/- SHA-256 as plain functions on natural numbers (no program is spoken of here). -/
namespace Go.Proofs.YtdbhboglccggdaaGreatDoor
namespace Sha

def M : Nat := 4294967296
def rot (x n : Nat) : Nat := (x / 2 ^ n) ||| (x * 2 ^ (32 - n) % 4294967296)
def K : List Nat := [
  0x428a2f98, 0x71374491, 0xb5c0fbcf, 0xe9b5dba5, 0x3956c25b, 0x59f111f1, 0x923f82a4, 0xab1c5ed5,
  0xd807aa98, 0x12835b01, 0x243185be, 0x550c7dc3, 0x72be5d74, 0x80deb1fe, 0x9bdc06a7, 0xc19bf174,
  0xe49b69c1, 0xefbe4786, 0x0fc19dc6, 0x240ca1cc, 0x2de92c6f, 0x4a7484aa, 0x5cb0a9dc, 0x76f988da,
  0x983e5152, 0xa831c66d, 0xb00327c8, 0xbf597fc7, 0xc6e00bf3, 0xd5a79147, 0x06ca6351, 0x14292967,
  0x27b70a85, 0x2e1b2138, 0x4d2c6dfc, 0x53380d13, 0x650a7354, 0x766a0abb, 0x81c2c92e, 0x92722c85,
  0xa2bfe8a1, 0xa81a664b, 0xc24b8b70, 0xc76c51a3, 0xd192e819, 0xd6990624, 0xf40e3585, 0x106aa070,
  0x19a4c116, 0x1e376c08, 0x2748774c, 0x34b0bcb5, 0x391c0cb3, 0x4ed8aa4a, 0x5b9cca4f, 0x682e6ff3,
  0x748f82ee, 0x78a5636f, 0x84c87814, 0x8cc70208, 0x90befffa, 0xa4506ceb, 0xbef9a3f7, 0xc67178f2]
def I : List Nat := [0x6a09e667, 0xbb67ae85, 0x3c6ef372, 0xa54ff53a, 0x510e527f, 0x9b05688c, 0x1f83d9ab, 0x5be0cd19]

/-- The words' step: what stands at t, by the bytes and by the words ahead. -/
def sig0 (x : Nat) : Nat := (rot x 7 ^^^ rot x 18) ^^^ x / 2 ^ 3
def sig1 (x : Nat) : Nat := (rot x 17 ^^^ rot x 19) ^^^ x / 2 ^ 10
def head (b : Nat → Nat) (t : Nat) : Nat := 16777216 * b (4 * t) + 65536 * b (4 * t + 1) + 256 * b (4 * t + 2) + b (4 * t + 3)
def ws (b : Nat → Nat) : Nat → List Nat
  | 0 => []
  | t + 1 => ws b t ++ [if t < 16 then head b t
      else ((ws b t).getD (t - 16) 0 + sig0 ((ws b t).getD (t - 15) 0) + (ws b t).getD (t - 7) 0 + sig1 ((ws b t).getD (t - 2) 0)) % 4294967296]

structure S8 where
  a : Nat
  b : Nat
  c : Nat
  d : Nat
  e : Nat
  f : Nat
  g : Nat
  h : Nat

def x1 (s : S8) (k w : Nat) : Nat := (s.h + ((rot s.e 6 ^^^ rot s.e 11) ^^^ rot s.e 25) + ((s.e &&& s.f) ^^^ ((4294967295 - s.e) &&& s.g)) + k + w) % 4294967296
def y1 (s : S8) : Nat := ((rot s.a 2 ^^^ rot s.a 13) ^^^ rot s.a 22) + (((s.a &&& s.b) ^^^ (s.a &&& s.c)) ^^^ (s.b &&& s.c))
def rnd (s : S8) (k w : Nat) : S8 := ⟨(x1 s k w + y1 s) % 4294967296, s.a, s.b, s.c, (s.d + x1 s k w) % 4294967296, s.e, s.f, s.g⟩
def rnds (s : S8) (W : List Nat) : Nat → S8
  | 0 => s
  | t + 1 => rnd (rnds s W t) (K.getD t 0) (W.getD t 0)

def of8 (h : Nat → Nat) : S8 := ⟨h 0, h 1, h 2, h 3, h 4, h 5, h 6, h 7⟩
def S8.at (s : S8) : Nat → Nat
  | 0 => s.a | 1 => s.b | 2 => s.c | 3 => s.d | 4 => s.e | 5 => s.f | 6 => s.g | _ => s.h

/-- The eight words behind a block. -/
def mix (h : Nat → Nat) (b : Nat → Nat) (i : Nat) : Nat := (h i + (rnds (of8 h) (ws b 64) 64).at i) % 4294967296

theorem rot_lt {x n : Nat} (hx : x < 4294967296) : rot x n < 4294967296 := by
  unfold rot
  have h1 : x / 2 ^ n < 2 ^ 32 := Nat.lt_of_le_of_lt (Nat.div_le_self _ _) (by omega)
  have h2 : x * 2 ^ (32 - n) % 4294967296 < 2 ^ 32 := by omega
  have := Nat.or_lt_two_pow h1 h2
  omega
theorem xor_lt {x y : Nat} (hx : x < 4294967296) (hy : y < 4294967296) : x ^^^ y < 4294967296 := by
  have := Nat.xor_lt_two_pow (x := x) (y := y) (n := 32) (by omega) (by omega); omega
theorem and_lt {x : Nat} (y : Nat) (hx : x < 4294967296) : x &&& y < 4294967296 := by
  exact Nat.lt_of_le_of_lt Nat.and_le_left hx
theorem ws_length (b : Nat → Nat) (t : Nat) : (ws b t).length = t := by
  induction t with
  | zero => rfl
  | succ t ih => simp [ws, ih]
theorem sig0_lt {x : Nat} (h : x < 4294967296) : sig0 x < 4294967296 :=
  xor_lt (xor_lt (rot_lt h) (rot_lt h)) (Nat.lt_of_le_of_lt (Nat.div_le_self _ _) h)
theorem sig1_lt {x : Nat} (h : x < 4294967296) : sig1 x < 4294967296 :=
  xor_lt (xor_lt (rot_lt h) (rot_lt h)) (Nat.lt_of_le_of_lt (Nat.div_le_self _ _) h)
theorem head_lt {b : Nat → Nat} (hb : ∀ i, b i < 256) (t : Nat) : head b t < 4294967296 := by
  unfold head
  have := hb (4 * t); have := hb (4 * t + 1); have := hb (4 * t + 2); have := hb (4 * t + 3)
  omega
theorem ws_lt {b : Nat → Nat} (hb : ∀ i, b i < 256) (t : Nat) : ∀ i, (ws b t).getD i 0 < 4294967296 := by
  induction t with
  | zero => intro i; simp [ws]
  | succ t ih =>
    intro i
    unfold ws
    rcases Nat.lt_or_ge i t with hi | hi
    · have h := ih i
      rwa [List.getD_eq_getElem?_getD, List.getElem?_append_left (by rw [ws_length]; exact hi), ← List.getD_eq_getElem?_getD]
    · rw [List.getD_eq_getElem?_getD, List.getElem?_append_right (by rw [ws_length]; exact hi), ws_length]
      rcases Nat.eq_zero_or_pos (i - t) with h0 | h0
      · rw [h0]
        simp only [List.getElem?_cons_zero, Option.getD_some]
        split
        · exact head_lt hb t
        · omega
      · rw [List.getElem?_eq_none (by simp; omega)]
        simp
/-- A word, once it stands, stays. -/
theorem ws_keep (b : Nat → Nat) {i t : Nat} (hi : i < t) : ∀ u, t ≤ u → (ws b u).getD i 0 = (ws b t).getD i 0 := by
  intro u hu
  induction u with
  | zero => omega
  | succ u ih =>
    rcases Nat.lt_or_ge u t with h | h
    · have : t = u + 1 := by omega
      rw [this]
    · rw [← ih h]
      simp only [ws]
      rw [List.getD_eq_getElem?_getD, List.getElem?_append_left (by rw [ws_length]; omega), ← List.getD_eq_getElem?_getD]
theorem ws_last (b : Nat → Nat) (t : Nat) : (ws b (t + 1)).getD t 0 = if t < 16 then head b t
      else ((ws b t).getD (t - 16) 0 + sig0 ((ws b t).getD (t - 15) 0) + (ws b t).getD (t - 7) 0 + sig1 ((ws b t).getD (t - 2) 0)) % 4294967296 := by
  simp only [ws]
  rw [List.getD_eq_getElem?_getD, List.getElem?_append_right (by rw [ws_length]; exact Nat.le_refl _), ws_length, Nat.sub_self]
  rfl
theorem K_lt : ∀ t, K.getD t 0 < 4294967296 := by
  intro t
  rcases Nat.lt_or_ge t 64 with h | h
  · have : ∀ t : Fin 64, K.getD t.1 0 < 4294967296 := by decide +kernel
    exact this ⟨t, h⟩
  · rw [List.getD_eq_getElem?_getD, List.getElem?_eq_none (by simpa [K] using h)]; simp

structure S8.Ok (s : S8) : Prop where
  a : s.a < 4294967296
  b : s.b < 4294967296
  c : s.c < 4294967296
  d : s.d < 4294967296
  e : s.e < 4294967296
  f : s.f < 4294967296
  g : s.g < 4294967296
  h : s.h < 4294967296
theorem rnd_ok {s : S8} (h : s.Ok) (k w : Nat) : (rnd s k w).Ok := by
  constructor <;> simp only [rnd] <;> first | exact h.a | exact h.b | exact h.c | exact h.e | exact h.f | exact h.g | omega
theorem rnds_ok {s : S8} (h : s.Ok) (W : List Nat) (t : Nat) : (rnds s W t).Ok := by
  induction t with
  | zero => exact h
  | succ t ih => exact rnd_ok ih _ _
theorem of8_ok {h : Nat → Nat} (hh : ∀ i, i < 8 → h i < 4294967296) : (of8 h).Ok := by
  constructor <;> exact hh _ (by omega)

/-- A digest under way: the eight words, the block, how much of it is filled, how many blocks there were. -/
structure St where
  h : Nat → Nat
  b : Nat → Nat
  f : Nat
  k : Nat
def upd (b : Nat → Nat) (i x : Nat) : Nat → Nat := fun j => if j = i then x else b j
def absorb (s : St) (x : Nat) : St :=
  if s.f + 1 = 64 then ⟨mix s.h (upd s.b s.f x), upd s.b s.f x, 0, (s.k + 1) % 18446744073709551616⟩ else ⟨s.h, upd s.b s.f x, s.f + 1, s.k⟩
def lay (b : Nat → Nat) (f : Nat) (xs : List Nat) : Nat → Nat := fun j => if f ≤ j ∧ j < f + xs.length then xs.getD (j - f) 0 else b j
theorem lay_nil (b : Nat → Nat) (f : Nat) : lay b f [] = b := by
  funext j
  unfold lay
  rw [if_neg (by simp)]
theorem lay_cons (b : Nat → Nat) (f x : Nat) (xs : List Nat) : lay (upd b f x) (f + 1) xs = lay b f (x :: xs) := by
  funext j
  unfold lay upd
  simp only [List.length_cons]
  by_cases h : j = f
  · subst h
    rw [if_neg (by omega), if_pos rfl, if_pos (by omega)]
    simp
  · rw [if_neg h]
    by_cases h2 : f ≤ j ∧ j < f + (xs.length + 1)
    · rw [if_pos (by omega), if_pos h2, show j - f = (j - (f + 1)) + 1 by omega]
      simp
    · rw [if_neg (by omega), if_neg h2]
theorem absorb_few : ∀ (xs : List Nat) (s : St), s.f + xs.length < 64 → xs.foldl absorb s = ⟨s.h, lay s.b s.f xs, s.f + xs.length, s.k⟩
  | [], s, _ => by simp [lay_nil]
  | x :: xs, s, h => by
    simp only [List.length_cons] at h
    have ha : absorb s x = ⟨s.h, upd s.b s.f x, s.f + 1, s.k⟩ := by unfold absorb; rw [if_neg (by omega)]
    rw [List.foldl_cons, ha, absorb_few xs _ (by simp only; omega)]
    simp only [lay_cons, List.length_cons]
    rw [show s.f + 1 + xs.length = s.f + (xs.length + 1) by omega]
theorem absorb_full : ∀ (xs : List Nat) (s : St), s.f < 64 → s.f + xs.length = 64 → xs.foldl absorb s = ⟨mix s.h (lay s.b s.f xs), lay s.b s.f xs, 0, (s.k + 1) % 18446744073709551616⟩
  | [], s, h1, h => by simp only [List.length_nil] at h; omega
  | x :: xs, s, h1, h => by
    simp only [List.length_cons] at h
    by_cases h0 : s.f + 1 = 64
    · have hx : xs = [] := List.eq_nil_of_length_eq_zero (by omega)
      subst hx
      have ha : absorb s x = ⟨mix s.h (upd s.b s.f x), upd s.b s.f x, 0, (s.k + 1) % 18446744073709551616⟩ := by unfold absorb; rw [if_pos h0]
      rw [List.foldl_cons, ha, List.foldl_nil, ← lay_cons, lay_nil]
    · have ha : absorb s x = ⟨s.h, upd s.b s.f x, s.f + 1, s.k⟩ := by unfold absorb; rw [if_neg h0]
      rw [List.foldl_cons, ha, absorb_full xs _ (by simp only; omega) (by simp only; omega)]
      simp only [lay_cons]
structure St.Ok (s : St) : Prop where
  h : ∀ i, s.h i < 4294967296
  b : ∀ i, s.b i < 256
  f : s.f < 64
theorem lay_lt {b : Nat → Nat} {f : Nat} {xs : List Nat} (hb : ∀ i, b i < 256) (hx : ∀ x, x ∈ xs → x < 256) (i : Nat) : lay b f xs i < 256 := by
  unfold lay
  by_cases h : f ≤ i ∧ i < f + xs.length
  · rw [if_pos h, List.getD_eq_getElem?_getD, List.getElem?_eq_getElem (by omega)]
    exact hx _ (List.getElem_mem _)
  · rw [if_neg h]; exact hb i
theorem mix_lt (h b : Nat → Nat) (i : Nat) : mix h b i < 4294967296 := by unfold mix; omega
theorem upd_lt {b : Nat → Nat} {f x : Nat} (hb : ∀ i, b i < 256) (hx : x < 256) (i : Nat) : upd b f x i < 256 := by
  unfold upd; split
  · exact hx
  · exact hb i
theorem absorb_ok {s : St} (h : s.Ok) {x : Nat} (hx : x < 256) : (absorb s x).Ok := by
  have := h.f
  unfold absorb
  by_cases h0 : s.f + 1 = 64
  · rw [if_pos h0]; exact ⟨mix_lt _ _, upd_lt h.b hx, by simp only; omega⟩
  · rw [if_neg h0]; exact ⟨h.h, upd_lt h.b hx, by simp only; omega⟩
theorem absorbs_ok : ∀ (xs : List Nat) (s : St), s.Ok → (∀ x, x ∈ xs → x < 256) → (xs.foldl absorb s).Ok
  | [], _, h, _ => h
  | x :: xs, _, h, hx => absorbs_ok xs _ (absorb_ok h (hx x (by simp))) (fun y hy => hx y (by simp [hy]))

end Sha
end Go.Proofs.YtdbhboglccggdaaGreatDoor
