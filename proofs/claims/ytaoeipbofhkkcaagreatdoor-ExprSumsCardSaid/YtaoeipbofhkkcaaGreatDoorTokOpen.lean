/- From a row's reading of a list of tokens to what the walks are told; what the law's Light says of them. -/
import Derived.Test.YtaoeipbofhkkcaaGreatDoorTokArgs
import Derived.Test.YtaoeipbofhkkcaaGreatDoorToks
import Derived.Deep.SlicePairs
import Derived.Deep.MidRow
namespace Go.Proofs.YtaoeipbofhkkcaaGreatDoor
open Go.ChangeShapes Go.WideShapes Go.ChangeAt Go.WideMaps Go.WideElems Go.RowKit Go.Deep

theorem cellsO3 : Tryz.prog.cellsOf 3 = 1 := by kernel_rfl
theorem cellsO9 : Tryz.prog.cellsOf 9 = 1 := by kernel_rfl
theorem cellsO39 : Tryz.prog.cellsOf 22 = 1 := by kernel_rfl
theorem open_triple {H : Type} {enc : TypeId × Value → H} {P : Program} {W : World} {base : Nat} {spare : Nat → Bool} {held : Bool} {fuel : Nat} {e : TypeId} {f0 f1 f2 : Field} {cs : List Value} {x : DataW H × List MemPlace}
    (he : P.underlying e = some (.struct #[f0, f1, f2])) (o0 : f0.offset = 0) (o1 : f1.offset = 1) (o2 : f2.offset = 2) (c0 : P.cellsOf f0.type = 1) (c1 : P.cellsOf f1.type = 1) (c2 : P.cellsOf f2.type = 1)
    (h : DataW.trod enc P W base spare held fuel e cs = some x) (hlen : cs.length = 3) :
    ∃ v0 v1 v2 y0 y1 y2 k, cs = [v0, v1, v2] ∧ DataW.trod enc P W base spare held k f0.type [v0] = some y0 ∧ DataW.trod enc P W base spare held k f1.type [v1] = some y1 ∧ DataW.trod enc P W base spare held k f2.type [v2] = some y2 := by
  obtain ⟨xs, k, hk, hxy, _, hxl, hf⟩ := DataW.trod_struct he h
  match xs, hxl, cs, hlen with
  | [y0, y1, y2], _, [v0, v1, v2], _ =>
    have g0 := hf 0 f0 rfl
    have g1 := hf 1 f1 rfl
    have g2 := hf 2 f2 rfl
    simp [o0, o1, o2, c0, c1, c2] at g0 g1 g2
    exact ⟨v0, v1, v2, y0, y1, y2, k, rfl, g0, g1, g2⟩
def lightT (l : List Tok) : Bool := decide (l.length ≤ 100) && l.all fun x => decide (x.s.length ≤ 200)
end Go.Proofs.YtaoeipbofhkkcaaGreatDoor
