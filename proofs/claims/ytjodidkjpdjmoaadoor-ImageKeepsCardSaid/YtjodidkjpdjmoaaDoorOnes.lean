/- The number of a word's bits, as the library reckons it; without the program. -/
import Derived.Test.YtjodidkjpdjmoaaDoorMath
namespace Go.Proofs.YtjodidkjpdjmoaaDoor

/-- How many of the n lowest bits are set. -/
def cnt : Nat → Nat → Nat
  | 0, _ => 0
  | n + 1, x => x % 2 + cnt n (x / 2)
theorem cnt_le : ∀ n x, cnt n x ≤ n
  | 0, _ => Nat.le_refl _
  | n + 1, x => by have := cnt_le n (x / 2); simp only [cnt]; omega

theorem and_split (a b c d : Nat) (ha : a < 256) (hc : c < 256) : (a + 256 * b) &&& (c + 256 * d) = (a &&& c) + 256 * (b &&& d) := by
  have hac : a &&& c < 2 ^ 8 := Nat.lt_of_le_of_lt Nat.and_le_left (by omega)
  apply Nat.eq_of_testBit_eq
  intro i
  rw [Nat.testBit_and, show a + 256 * b = 2 ^ 8 * b + a by omega, show c + 256 * d = 2 ^ 8 * d + c by omega, show (a &&& c) + 256 * (b &&& d) = 2 ^ 8 * (b &&& d) + (a &&& c) by omega,
    Nat.testBit_two_pow_mul_add _ (by omega), Nat.testBit_two_pow_mul_add _ (by omega), Nat.testBit_two_pow_mul_add _ hac]
  by_cases h : i < 8
  · simp only [h, if_true, Nat.testBit_and]
  · simp only [h, if_false, Nat.testBit_and]

/-- The byte m, n times. -/
def rep (m : Nat) : Nat → Nat
  | 0 => 0
  | n + 1 => m + 256 * rep m n
def T1 (n x : Nat) : Nat := (x / 2 &&& rep 0x55 n) + (x &&& rep 0x55 n)
def T2 (n x : Nat) : Nat := (x / 4 &&& rep 0x33 n) + (x &&& rep 0x33 n)
def T3 (n x : Nat) : Nat := (x / 16 + x) &&& rep 0x0f n
def s1 (b : Nat) : Nat := (b / 2 &&& 0x55) + (b &&& 0x55)
def s2 (b : Nat) : Nat := (b / 4 &&& 0x33) + (b &&& 0x33)
def s3 (b : Nat) : Nat := b / 16 + b % 16

theorem low1 : ∀ b : Fin 256, ∀ t : Fin 2, (b.1 / 2 + 128 * t.1) &&& 0x55 = b.1 / 2 &&& 0x55 := by decide +kernel
theorem low2 : ∀ b : Fin 256, ∀ t : Fin 4, (b.1 / 4 + 64 * t.1) &&& 0x33 = b.1 / 4 &&& 0x33 := by decide +kernel
theorem low3 : ∀ d : Fin 256, ∀ t : Fin 5, d.1 % 16 ≤ 4 → d.1 / 16 ≤ 4 → (d.1 / 16 + 16 * t.1 + d.1) &&& 0x0f = d.1 / 16 + d.1 % 16 := by decide +kernel
theorem byte12 : ∀ b : Fin 256, s1 b.1 < 256 ∧ s2 (s1 b.1) < 256 ∧ s2 (s1 b.1) % 16 ≤ 4 ∧ s2 (s1 b.1) / 16 ≤ 4 ∧ s3 (s2 (s1 b.1)) = cnt 8 b.1 := by decide +kernel

theorem T1_step (n b x : Nat) (hb : b < 256) : T1 (n + 1) (b + 256 * x) = s1 b + 256 * T1 n x := by
  unfold T1 s1
  rw [show (b + 256 * x) / 2 = (b / 2 + 128 * (x % 2)) + 256 * (x / 2) by omega]
  simp only [rep]
  rw [and_split _ _ _ _ (by omega) (by omega), and_split _ _ _ _ hb (by omega), low1 ⟨b, hb⟩ ⟨x % 2, by omega⟩]
  simp only
  omega
theorem T2_step (n b x : Nat) (hb : b < 256) : T2 (n + 1) (b + 256 * x) = s2 b + 256 * T2 n x := by
  unfold T2 s2
  rw [show (b + 256 * x) / 4 = (b / 4 + 64 * (x % 4)) + 256 * (x / 4) by omega]
  simp only [rep]
  rw [and_split _ _ _ _ (by omega) (by omega), and_split _ _ _ _ hb (by omega), low2 ⟨b, hb⟩ ⟨x % 4, by omega⟩]
  simp only
  omega
theorem T3_step (n d x : Nat) (hd : d < 256) (h1 : d % 16 ≤ 4) (h2 : d / 16 ≤ 4) (hx : x % 16 ≤ 4) : T3 (n + 1) (d + 256 * x) = s3 d + 256 * T3 n x := by
  unfold T3 s3
  rw [show (d + 256 * x) / 16 + (d + 256 * x) = (d / 16 + 16 * (x % 16) + d) + 256 * (x / 16 + x) by omega]
  simp only [rep]
  rw [and_split _ _ _ _ (by omega) (by omega), low3 ⟨d, hd⟩ ⟨x % 16, by omega⟩ h1 h2]

/-- The bytes' counts, one behind the other. -/
def counts : Nat → Nat → Nat
  | 0, _ => 0
  | n + 1, x => cnt 8 (x % 256) + 256 * counts n (x / 256)
theorem T12_small : ∀ n x, T2 n (T1 n x) % 16 ≤ 4
  | 0, x => by simp [T2, T1, rep]
  | n + 1, x => by
    have hb : x % 256 < 256 := by omega
    have e : x = x % 256 + 256 * (x / 256) := by omega
    obtain ⟨h1, _, h3, _⟩ := byte12 ⟨x % 256, hb⟩
    have h3' : s2 (s1 (x % 256)) % 16 ≤ 4 := h3
    rw [e, T1_step _ _ _ hb, T2_step _ _ _ h1]
    generalize s2 (s1 (x % 256)) = q at h3'
    omega
theorem T123 : ∀ n x, T3 n (T2 n (T1 n x)) = counts n x
  | 0, x => by simp [T3, rep, counts]
  | n + 1, x => by
    have hb : x % 256 < 256 := by omega
    have e : x = x % 256 + 256 * (x / 256) := by omega
    obtain ⟨h1, h2, h3, h4, h5⟩ := byte12 ⟨x % 256, hb⟩
    conv => lhs; rw [e, T1_step _ _ _ hb, T2_step _ _ _ h1, T3_step _ _ _ h2 h3 h4 (T12_small n _), T123 n]
    simp only at h5
    rw [h5, counts]

theorem cnt_add : ∀ a m x, cnt (a + m) x = cnt a x + cnt m (x / 2 ^ a)
  | 0, m, x => by simp [cnt]
  | a + 1, m, x => by
    rw [show a + 1 + m = (a + m) + 1 by omega]
    simp only [cnt]
    rw [cnt_add a m, Nat.pow_succ, Nat.mul_comm, ← Nat.div_div_eq_div_mul]
    omega
theorem cnt8 (x : Nat) : cnt 8 (x % 256) = cnt 8 x := by simp only [cnt]; omega
theorem cnt64 (x : Nat) : cnt 64 x = cnt 8 (x % 256) + (cnt 8 (x / 256 % 256) + (cnt 8 (x / 256 / 256 % 256) + (cnt 8 (x / 256 / 256 / 256 % 256) + (cnt 8 (x / 256 / 256 / 256 / 256 % 256) +
    (cnt 8 (x / 256 / 256 / 256 / 256 / 256 % 256) + (cnt 8 (x / 256 / 256 / 256 / 256 / 256 / 256 % 256) + cnt 8 (x / 256 / 256 / 256 / 256 / 256 / 256 / 256 % 256))))))) := by
  simp only [cnt8]
  rw [show 64 = 8 + 56 by rfl, cnt_add 8 56, show 56 = 8 + 48 by rfl, cnt_add 8 48, show 48 = 8 + 40 by rfl, cnt_add 8 40, show 40 = 8 + 32 by rfl, cnt_add 8 32, show 32 = 8 + 24 by rfl, cnt_add 8 24, show 24 = 8 + 16 by rfl, cnt_add 8 16,
    show 16 = 8 + 8 by rfl, cnt_add 8 8]
theorem sh8 {y c Y : Nat} (h : y = c + 256 * Y) (hc : c < 256) : y / 256 = Y := by omega
/-- Eight digits of base 256. -/
def oct (a b c d e f g h : Nat) : Nat := a + 256 * (b + 256 * (c + 256 * (d + 256 * (e + 256 * (f + 256 * (g + 256 * h))))))
theorem oct_add (a b c d e f g h a' b' c' d' e' f' g' h' : Nat) : oct a b c d e f g h + oct a' b' c' d' e' f' g' h' = oct (a + a') (b + b') (c + c') (d + d') (e + e') (f + f') (g + g') (h + h') := by
  simp only [oct, Nat.mul_add]; omega
theorem oct_lt {a b c d e f g h : Nat} (ha : a < 256) (hb : b < 256) (hc : c < 256) (hd : d < 256) (he : e < 256) (hf : f < 256) (hg : g < 256) (hh : h < 256) : oct a b c d e f g h < 18446744073709551616 := by
  unfold oct; omega
theorem oct_lt' {a b c d e f g h : Nat} (ha : a < 256) (hb : b < 256) (hc : c < 256) (hd : d < 256) (he : e < 256) (hf : f < 256) (hg : g < 256) (hh : h < 128) : oct a b c d e f g h < 9223372036854775808 := by
  unfold oct; omega
theorem oct8 {a b c d e f g h : Nat} (ha : a < 256) : oct a b c d e f g h / 256 = oct b c d e f g h 0 := by
  have : oct a b c d e f g h = a + 256 * oct b c d e f g h 0 := by simp only [oct, Nat.mul_add, Nat.mul_zero, Nat.add_zero]
  rw [this]; exact sh8 rfl ha
theorem oct_low {a b c d e f g h : Nat} (ha : a < 128) : oct a b c d e f g h % 128 = a := by
  unfold oct
  generalize b + 256 * (c + 256 * (d + 256 * (e + 256 * (f + 256 * (g + 256 * h))))) = k
  omega
theorem div16 (x : Nat) : x / 65536 = x / 256 / 256 := by rw [Nat.div_div_eq_div_mul]
theorem div32 (x : Nat) : x / 4294967296 = x / 256 / 256 / 256 / 256 := by rw [Nat.div_div_eq_div_mul, Nat.div_div_eq_div_mul, Nat.div_div_eq_div_mul]
theorem sum_up (c0 c1 c2 c3 c4 c5 c6 c7 y3 : Nat) (h0 : c0 ≤ 8) (h1 : c1 ≤ 8) (h2 : c2 ≤ 8) (h3 : c3 ≤ 8) (h4 : c4 ≤ 8) (h5 : c5 ≤ 8) (h6 : c6 ≤ 8) (h7 : c7 ≤ 8) (e3 : y3 = oct c0 c1 c2 c3 c4 c5 c6 c7) :
    ∃ y4 y5 y6, y3 + y3 / 256 = y4 ∧ y4 + y4 / 65536 = y5 ∧ y5 + y5 / 4294967296 = y6 ∧ y3 < 18446744073709551616 ∧ y4 < 18446744073709551616 ∧ y5 < 18446744073709551616 ∧ y6 < 9223372036854775808 ∧
      y6 % 128 = c0 + (c1 + (c2 + (c3 + (c4 + (c5 + (c6 + c7)))))) := by
  refine ⟨_, _, _, rfl, rfl, rfl, ?_⟩
  rw [e3, oct8 (by omega), oct_add, div16, oct8 (by omega), oct8 (by omega), oct_add, div32, oct8 (by omega), oct8 (by omega), oct8 (by omega), oct8 (by omega), oct_add]
  refine ⟨?_, ?_, ?_, ?_, ?_⟩
  · apply oct_lt <;> omega
  · apply oct_lt <;> omega
  · apply oct_lt <;> omega
  · apply oct_lt' <;> omega
  · rw [oct_low (by omega)]; omega

/-- What stands at n addresses, counted by a word's bits. -/
theorem seg_cnt (g : Nat → Option Int) : ∀ n lo x, lo + n ≤ 65536 → (∀ i, i < n → x.testBit i = (g (lo + i)).isSome) → (seg g lo n).length = cnt n x
  | 0, _, _, _, _ => rfl
  | n + 1, lo, x, h, hx => by
    have e : seg g lo (n + 1) = entAt g lo ++ seg g (lo + 1) n := by
      rw [show n + 1 = 1 + n by omega, seg_add]
      congr 1
      simp [seg, List.range']
    rw [e, List.length_append, cnt, seg_cnt g n (lo + 1) (x / 2) (by omega) (fun i hi => by
      rw [← Nat.testBit_succ, hx (i + 1) (by omega)]; congr 2; omega)]
    congr 1
    have h0 := hx 0 (by omega)
    rw [Nat.testBit_zero, Nat.add_zero] at h0
    simp only [entAt, dif_pos (show lo < 65536 by omega)]
    cases hg : g lo with
    | none => rw [hg] at h0; simp at h0; simp; omega
    | some v => rw [hg] at h0; simp at h0; simp; omega
end Go.Proofs.YtjodidkjpdjmoaaDoor
