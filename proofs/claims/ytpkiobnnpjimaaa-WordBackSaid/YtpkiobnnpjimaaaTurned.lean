/- The plain arithmetic of turned bytes and of joined bits; it speaks of no Go text and has no condition but the bounds that each lemma names. -/
import Derived.Test.YtpkiobnnpjimaaaMath
namespace Go.Proofs.WordMath
theorem or_comm_u8 (x y : Int) (x0 : 0 ≤ x) (x1 : x ≤ 255) (y0 : 0 ≤ y) (y1 : y ≤ 255) : bits .or .u8 x y = bits .or .u8 y x := by
  rw [u8_or x y x0 (by omega) y0 (by omega), u8_or y x y0 (by omega) x0 (by omega), Nat.or_comm]
theorem or_rot (a : Int) (h0 : 0 ≤ a) (h1 : a ≤ 255) : bits .or .u8 (a * 2 % 256) (a / 128) = (a * 2 + a / 128) % 256 := by
  rw [bits_join .u8 8 (by decide) wraps_u8 1 (a * 2 % 256) (a / 128) (by omega) (by omega) (by omega) (by omega) (by omega) (by omega)]
  omega
theorem or_low (a y : Int) (y0 : 0 ≤ y) (y1 : y ≤ 1) : bits .or .u8 (a * 2 % 256) y = (a * 2 + y) % 256 := by
  rw [bits_join .u8 8 (by decide) wraps_u8 1 (a * 2 % 256) y (by omega) (by omega) (by omega) (by omega) (by omega) (by omega)]
  omega
theorem or_high (a y : Int) (h0 : 0 ≤ a) (h1 : a ≤ 255) (y0 : 0 ≤ y) (y1 : y ≤ 1) : bits .or .u8 (a / 2) (y * 128) = a / 2 + y * 128 := by
  rw [or_comm_u8 _ _ (by omega) (by omega) (by omega) (by omega), bits_join .u8 8 (by decide) wraps_u8 7 (y * 128) (a / 2) (by omega) (by omega) (by omega) (by omega) (by omega) (by omega)]
  omega
/-- A turned byte, and the carry, by the kind. -/
def turnB (kind a : Int) (c : Bool) : Int :=
  if kind = 0 then (a * 2 + a / 128) % 256 else if kind = 1 then a / 2 + a % 2 * 128 else if kind = 2 then (a * 2 + bi c 1) % 256 else if kind = 3 then a / 2 + bi c 1 * 128 else a
def turnC (kind a : Int) (c : Bool) : Bool :=
  if kind = 0 then decide (128 ≤ a) else if kind = 1 then decide (a % 2 = 1) else if kind = 2 then decide (128 ≤ a) else if kind = 3 then decide (a % 2 = 1) else c
theorem bi128 (c : Bool) : bi c 128 = bi c 1 * 128 := by cases c <;> rfl
end Go.Proofs.WordMath
