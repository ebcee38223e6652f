/- How an argument of the document's type Flags is opened into its five bools, and read again in any world; there is no condition. -/
import Derived.Test.YtpkiobnnpjimaaaRows
import Derived.WalkKit
import Derived.ProofKit
import Derived.OpenShut
namespace Go.Proofs.Ytpkiobnnpjimaaa
open Go.ChangeShapes Go.WideShapes Go.ChangeAt Go.RowKit

theorem cells23 : Try.prog.cellsOf 23 = 5 := by kernel_rfl
theorem cells4 : Try.prog.cellsOf 4 = 1 := by kernel_rfl
section
variable {H : Type} {enc : TypeId × Value → H} {w : World} {base : Nat} {spare : Nat → Bool} {held : Bool}
theorem open_flags {r : Reach} {b0 : Nat} {v : Value} {d : DataW H} {q : List MemPlace} (hv : Value.okWide Try.prog w r b0 23 v) (h : DataW.Trod enc Try.prog w base spare held 23 v d q) :
    ∃ s z a p c : Bool, v = .agg #[.bool s, .bool z, .bool a, .bool p, .bool c] ∧ d = .agg [.lit (.bool s), .lit (.bool z), .lit (.bool a), .lit (.bool p), .lit (.bool c)] ∧ q = [] := by
  obtain ⟨cs, rfl, hsz⟩ := okWide_struct Try.underlying23 hv
  rw [cells23] at hsz
  obtain ⟨fuel, hf⟩ := h
  obtain ⟨xs, n, _, hx, _, hlen, hg⟩ := DataW.trod_struct Try.underlying23 hf
  have hlen5 : xs.length = 5 := hlen
  obtain ⟨l⟩ := cs
  match l, hsz, xs, hlen5 with
  | [c0, c1, c2, c3, c4], _, [y0, y1, y2, y3, y4], _ =>
    have g0 : DataW.trod enc Try.prog w base spare held n 4 [c0] = some y0 := by simpa [Value.cells, cells4] using hg 0 _ rfl
    have g1 : DataW.trod enc Try.prog w base spare held n 4 [c1] = some y1 := by simpa [Value.cells, cells4] using hg 1 _ rfl
    have g2 : DataW.trod enc Try.prog w base spare held n 4 [c2] = some y2 := by simpa [Value.cells, cells4] using hg 2 _ rfl
    have g3 : DataW.trod enc Try.prog w base spare held n 4 [c3] = some y3 := by simpa [Value.cells, cells4] using hg 3 _ rfl
    have g4 : DataW.trod enc Try.prog w base spare held n 4 [c4] = some y4 := by simpa [Value.cells, cells4] using hg 4 _ rfl
    obtain ⟨s, e0, rfl⟩ := DataW.trod_bool Try.underlying4 g0
    obtain ⟨z, e1, rfl⟩ := DataW.trod_bool Try.underlying4 g1
    obtain ⟨a, e2, rfl⟩ := DataW.trod_bool Try.underlying4 g2
    obtain ⟨p, e3, rfl⟩ := DataW.trod_bool Try.underlying4 g3
    obtain ⟨c, e4, rfl⟩ := DataW.trod_bool Try.underlying4 g4
    simp only [List.cons.injEq, and_true] at e0 e1 e2 e3 e4
    subst e0 e1 e2 e3 e4
    simp only [Prod.mk.injEq] at hx
    exact ⟨s, z, a, p, c, rfl, by simpa using hx.1, by simpa using hx.2⟩
theorem shut_flags (s z a p c : Bool) : DataW.Trod enc Try.prog w base spare held 23 (.agg #[.bool s, .bool z, .bool a, .bool p, .bool c]) (.agg [.lit (.bool s), .lit (.bool z), .lit (.bool a), .lit (.bool p), .lit (.bool c)]) [] := by
  refine ⟨2, ?_⟩
  simp [DataW.trod, Try.underlying23, Try.underlying4, Value.cells, cells23, cells4]
end
end Go.Proofs.Ytpkiobnnpjimaaa
