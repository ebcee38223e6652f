/- A row of bytes that stands nowhere is empty. -/
import Derived.Test.YtlpbomdkcofhhaaDoorIsaArgs
import Derived.Test.YtlpbomdkcofhhaaDoorIsaBackWalk
namespace Go.Proofs.YtlpbomdkcofhhaaDoor
open Go.ChangeShapes Go.WideShapes Go.ChangeAt Go.WideMaps Go.WideElems Go.RowKit Go.Deep
theorem bytes_none {H : Type} {enc : TypeId × Value → H} {W : World} {base : Nat} {spare : Nat → Bool} {held : Bool} {a : Option Addr} {n c : Nat} {x : DataW H × List MemPlace} (h : ∃ fuel, DataW.trod enc Tryd.prog W base spare held fuel 30 (Value.slice a n c).cells.toList = some x) : a = none → n = 0 ∧ c = 0 := by
  obtain ⟨fuel, h⟩ := h
  have hl : (Value.slice a n c).cells.toList = [Value.slice a n c] := by simp [Value.cells]
  rw [hl] at h
  rcases open_ints Tryd.underlying30 Tryd.underlying5 cells5 h with ⟨hcs, _⟩ | ⟨ad, len, cap, zs, hcs, _⟩
  · simp only [List.cons.injEq, and_true, Value.slice.injEq] at hcs
    exact fun _ => ⟨hcs.2.1, hcs.2.2⟩
  · simp only [List.cons.injEq, and_true, Value.slice.injEq] at hcs
    intro e
    rw [e] at hcs
    exact absurd hcs.1 (by simp)
end Go.Proofs.YtlpbomdkcofhhaaDoor
