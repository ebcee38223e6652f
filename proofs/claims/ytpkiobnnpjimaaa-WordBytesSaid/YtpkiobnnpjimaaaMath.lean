/- The plain arithmetic of bytes and their flags that the texts beside this one use; it speaks of no Go text and has no condition but the bounds that each lemma names. -/
import Derived.Lib.BitFns
import Derived.Laws.BitsLemmas
import Derived.Laws.BitsAllLaws
import Derived.Laws.Bits128
namespace Go.Proofs.WordMath

/-- n of a true, 0 of a false. -/
def bi (b : Bool) (n : Int) : Int := if b then n else 0
/-- Is the number of ones among the lowest k bits even? -/
def parK : Nat → Int → Bool
  | 0, _ => true
  | k + 1, n => if n / 2 ^ k % 2 = 1 then !parK k n else parK k n
def par (n : Int) : Bool := parK 8 n
/-- The lowest byte, and what S, Z and P are of it. -/
def lowB (n : Int) : Int := n % 256
def sB (n : Int) : Bool := decide (128 ≤ n % 256)
def zB (n : Int) : Bool := decide (n % 256 = 0)
def pB (n : Int) : Bool := par (n % 256)

theorem sB_of (n : Int) : decide (128 ≤ n % 256) = sB n := rfl
theorem zB_of (n : Int) : (n % 256 == 0) = zB n := rfl
theorem pB_of (n : Int) : par (n % 256) = pB n := rfl
theorem bi01 (c : Bool) : 0 ≤ bi c 1 ∧ bi c 1 ≤ 1 := by cases c <;> simp [bi]
theorem bi_not (c : Bool) : bi (!c) 1 = 1 - bi c 1 := by cases c <;> simp [bi]
theorem lowB_bd (n : Int) : 0 ≤ lowB n ∧ lowB n ≤ 255 := by unfold lowB; omega
theorem lowB_in {n : Int} (h0 : 0 ≤ n) (h1 : n ≤ 255) : lowB n = n := by unfold lowB; omega

theorem pop_par : ∀ n : Fin 256, (Lib.onesCount n.val % 2 == 0) = par (n.val : Int) := by decide +kernel
theorem pop_par' (a : Int) (h0 : 0 ≤ a) (h1 : a ≤ 255) : (Lib.onesCount a.toNat % 2 == 0) = par a := by
  have h := pop_par ⟨a.toNat, by omega⟩
  simp only [Int.toNat_of_nonneg h0] at h
  exact h
theorem and1 (x : Int) (h0 : 0 ≤ x) (h1 : x ≤ 255) : bits .and .u8 x 1 = x % 2 := bits_mask .u8 8 (by decide) wraps_u8 1 (by decide) x h0 (by omega)
theorem wraps_i64 (n : Int) (h₀ : 0 ≤ n) (h₁ : n < 2 ^ 63) : IntKind.i64.wrap n = n := by rw [IntKind.wrap_i64]; omega
theorem and255 (x : Int) (h0 : 0 ≤ x) (h1 : x ≤ 1000000) : bits .and .i64 x 255 = x % 256 := bits_mask .i64 63 (by decide) wraps_i64 8 (by decide) x h0 (by omega)
theorem and65535 (x : Int) (h0 : 0 ≤ x) (h1 : x ≤ 1000000) : bits .and .i64 x 65535 = x % 65536 := bits_mask .i64 63 (by decide) wraps_i64 16 (by decide) x h0 (by omega)
theorem xor_max_nat : ∀ n : Fin 256, 255 ^^^ n.val = 255 - n.val := by decide +kernel
theorem xor_max (b : Int) (h0 : 0 ≤ b) (h1 : b ≤ 255) : bits .xor .u8 IntKind.u8.max b = 255 - b := by
  have h := xor_max_nat ⟨b.toNat, by omega⟩
  have hm : IntKind.u8.max = 255 := by decide
  rw [hm, u8_xor 255 b (by omega) (by omega) h0 (by omega)]
  simp only at h
  show ((255 ^^^ b.toNat : Nat) : Int) = _
  rw [h]
  omega
theorem shr_bd (a : Int) (h0 : 0 ≤ a) (h1 : a ≤ 255) (k : Nat) : 0 ≤ a / 2 ^ k ∧ a / 2 ^ k ≤ 255 := by
  have hp : (0 : Int) < 2 ^ k := Int.pow_pos (by omega)
  refine ⟨Int.ediv_nonneg h0 (by omega), ?_⟩
  have := Int.ediv_le_self (2 ^ k) h0
  omega
theorem parK_one (k : Nat) (a : Int) (h0 : 0 ≤ a) (h1 : a ≤ 255) (h : (bits .and .u8 (a / 2 ^ k) 1 == 1) = true) : parK (k + 1) a = !parK k a := by
  obtain ⟨l0, l1⟩ := shr_bd a h0 h1 k
  rw [and1 _ l0 l1] at h
  simp only [beq_iff_eq] at h
  simp [parK, h]
theorem parK_zero (k : Nat) (a : Int) (h0 : 0 ≤ a) (h1 : a ≤ 255) (h : (bits .and .u8 (a / 2 ^ k) 1 == 1) = false) : parK (k + 1) a = parK k a := by
  obtain ⟨l0, l1⟩ := shr_bd a h0 h1 k
  rw [and1 _ l0 l1] at h
  simp only [beq_eq_false_iff_ne] at h
  simp [parK, h]
end Go.Proofs.WordMath
