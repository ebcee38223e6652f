/- What the law's alive does when it is called: true; the library's longest text is set. -/
import Derived.Test.YtaoeipbofhkkcaaGreatDoorTokLine
namespace Go.Proofs.YtaoeipbofhkkcaaGreatDoor
open Go.RowKit Go.Proofs.NumMath

def exT : List Tok := [⟨1, [76, 49], 0⟩, ⟨4, [58], 0⟩, ⟨1, [77, 86, 73], 0⟩, ⟨1, [65], 0⟩, ⟨4, [44], 0⟩, ⟨2, [], 255⟩]
def exS : List UInt8 := [76, 49, 58, 32, 109, 118, 105, 32, 97, 44, 48, 102, 102, 104, 32, 59, 32, 120]
theorem ex_step (c : UInt8) (t : List UInt8) (x : Tok) (n : Nat) (r : List Tok) (h : ¬ (c = 32 ∨ c = 9)) (h2 : c ≠ 59) (h3 : nextL c t = .ok (x, n)) (h4 : lineT (t.drop n) = .ok r) : lineT (c :: t) = .ok (x :: r) := by
  rw [lineT_ok c t x n h h2 h3, h4]
theorem ex_line : lineT exS = .ok exT := by
  unfold exS exT
  refine ex_step _ _ _ 1 _ (by decide) (by decide) rfl ?_
  refine ex_step _ _ _ 0 _ (by decide) (by decide) rfl ?_
  show lineT (32 :: _) = _
  rw [lineT_space]
  refine ex_step _ _ _ 2 _ (by decide) (by decide) rfl ?_
  show lineT (32 :: _) = _
  rw [lineT_space]
  refine ex_step _ _ _ 0 _ (by decide) (by decide) rfl ?_
  refine ex_step _ _ _ 0 _ (by decide) (by decide) rfl ?_
  refine ex_step _ _ _ 3 _ (by decide) (by decide) rfl ?_
  show lineT (32 :: _) = _
  rw [lineT_space]
  exact lineT_end _
theorem alive_line (m : Int) (w : World) (hm : MaxAt w m) : Calls Tryz.prog 15 #[.string ⟨#[76, 49, 58, 32, 109, 118, 105, 32, 97, 44, 48, 102, 102, 104, 32, 59, 32, 120]⟩] w fun e w' =>
    ∃ g c, e = .returned (.tuple #[.slice (some ⟨g, 0, none⟩) 6 c, .int .i64 0]) ∧ w'.cell? ⟨g, 1, none⟩ = some (.string ⟨#[76, 49]⟩) ∧ w'.cell? ⟨g, 7, none⟩ = some (.string ⟨#[77, 86, 73]⟩) ∧ w'.cell? ⟨g, 15, none⟩ = some (.int .i64 2) ∧ w'.cell? ⟨g, 17, none⟩ = some (.int .u16 255) ∧ Below w.heap.size w w' := by
  refine (line_any ⟨#[76, 49, 58, 32, 109, 118, 105, 32, 97, 44, 48, 102, 102, 104, 32, 59, 32, 120]⟩ (by decide) m w hm).mono ?_
  rintro e w' ⟨v, rfl, hown, hb⟩
  obtain ⟨e1, e2⟩ := lineL_ok exS (by decide) exT ex_line
  have e1 : lineK (⟨#[76, 49, 58, 32, 109, 118, 105, 32, 97, 44, 48, 102, 102, 104, 32, 59, 32, 120]⟩ : ByteArray).data.toList = 0 := e1
  have e2 : lineV (⟨#[76, 49, 58, 32, 109, 118, 105, 32, 97, 44, 48, 102, 102, 104, 32, 59, 32, 120]⟩ : ByteArray).data.toList = exT := e2
  rw [e2] at hown
  rw [e1]
  obtain ⟨g, sp, c, rfl, h1, _, h2⟩ := own_at hown
  obtain rfl := h1 (by decide)
  exact ⟨g, c, rfl, h2 1 _ rfl, h2 7 _ rfl, h2 15 _ rfl, h2 17 _ rfl, hb⟩
end Go.Proofs.YtaoeipbofhkkcaaGreatDoor
