/- What a new image's cells are: 1024 words of marks and 65536 bytes, all 0. -/
import Derived.Test.YtjodidkjpdjmoaaDoorProg
import Derived.WalkKit
import Derived.KernelRfl
namespace Go.Proofs.YtjodidkjpdjmoaaDoor
open Go Go.Proofs Go.RowKit

/-- What the image's cell at place k begins as. -/
def zeroAt (k : Nat) : Value := if Nat.blt k 1024 then .int .u64 0 else .int .u8 0
/-- So many such cells from place k on. -/
def zerosFrom : Nat → Nat → List Value
  | _, 0 => []
  | k, n + 1 => zeroAt k :: zerosFrom (k + 1) n
/-- The list is such cells. -/
def IsZeros (k n : Nat) (l : List Value) : Prop := l.length = n ∧ ∀ i, i < n → l[i]? = some (zeroAt (k + i))

theorem zerosFrom_is : ∀ (n k : Nat), IsZeros k n (zerosFrom k n)
  | 0, k => ⟨rfl, fun i h => by omega⟩
  | n + 1, k => by
    obtain ⟨h1, h2⟩ := zerosFrom_is n (k + 1)
    refine ⟨by simp [zerosFrom, h1], fun i hi => ?_⟩
    cases i with
    | zero => simp [zerosFrom]
    | succ i =>
      have := h2 i (by omega)
      simp only [zerosFrom, List.getElem?_cons_succ, this]
      congr 2
      omega

theorem isZeros_append {k n m : Nat} {a b : List Value} (ha : IsZeros k n a) (hb : IsZeros (k + n) m b) : IsZeros k (n + m) (a.append b) := by
  obtain ⟨a1, a2⟩ := ha
  obtain ⟨b1, b2⟩ := hb
  refine ⟨by simp [a1, b1], fun i hi => ?_⟩
  show (a ++ b)[i]? = _
  by_cases h : i < n
  · rw [List.getElem?_append_left (by omega)]; exact a2 i h
  · rw [List.getElem?_append_right (by omega), a1, b2 (i - n) (by omega)]
    congr 2
    omega
theorem isZeros_leaf {k n : Nat} {l : List Value} (h : l = zerosFrom k n) : IsZeros k n l := h ▸ zerosFrom_is n k

theorem isZeros_half {k n : Nat} {a b : List Value} (ha : IsZeros k (n / 2) a) (hb : IsZeros (k + n / 2) (n - n / 2) b) : IsZeros k n (a.append b) := by
  have := isZeros_append ha hb
  rwa [show n / 2 + (n - n / 2) = n by omega] at this

theorem t63_cells : ∃ l, Tryd.t63.zero = some (.agg l.toArray) ∧ IsZeros 0 66560 l := by
  refine ⟨_, rfl, ?_⟩
  repeat' first
    | refine isZeros_half ?_ ?_
    | exact isZeros_leaf (by kernel_rfl)
end Go.Proofs.YtjodidkjpdjmoaaDoor
