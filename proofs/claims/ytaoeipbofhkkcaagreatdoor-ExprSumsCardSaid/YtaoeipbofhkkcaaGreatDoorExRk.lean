/- What the document's Word and rank of expressions do when they are called; no condition. -/
import Derived.Test.YtaoeipbofhkkcaaGreatDoorExb
import Derived.Test.YtaoeipbofhkkcaaGreatDoorNumOwn
namespace Go.Proofs.YtaoeipbofhkkcaaGreatDoor
open Go.RowKit Go.Proofs.NumMath

theorem ret_two {x y x' y' : Int} {k k' : IntKind} (hx : x = x') (hy : y = y') : Ending.returned (.tuple #[.int k x, .int k' y]) = Ending.returned (.tuple #[.int k x', .int k' y']) := by rw [hx, hy]
theorem rank_beq (s : List UInt8) : rankL s =
    if (s == [79, 82] || s == [88, 79, 82]) = true then (1, 2)
    else if (s == [65, 78, 68]) = true then (2, 2)
    else if (s == [78, 79, 84]) = true then (3, 1)
    else if (s == [43] || s == [45]) = true then (4, 2)
    else if (s == [42] || s == [47] || s == [77, 79, 68] || s == [83, 72, 76] || s == [83, 72, 82]) = true then (5, 2)
    else if (s == [78, 69, 71]) = true then (6, 1)
    else if (s == [35] || s == [110] || s == [36]) = true then (7, 0)
    else (0, 0) := by simp [rankL, or_assoc]
theorem word_beq (s : List UInt8) : wordB s = (s == [79, 82] || s == [88, 79, 82] || s == [65, 78, 68] || s == [78, 79, 84] || s == [77, 79, 68] || s == [83, 72, 76] || s == [83, 72, 82]) := by
  rw [Bool.eq_iff_iff]; simp [wordB, or_assoc]
set_option maxHeartbeats 1000000 in
theorem rword_any (s : List UInt8) (w : World) : Calls Tryz.prog 57 #[.string ⟨s.toArray⟩] w fun e w' => e = .returned (.bool (wordB s)) ∧ w' = w := by
  have hW := Lib.hid (word_beq s)
  go_enter Tryz.func57, Tryz.ntmps57
  go_wp2
  all_goals go_ret
  all_goals exact ⟨ret_bool (by rw [hW.out]; first | done | simp [*]), rfl⟩
/-- all operators' texts -/
def opsL : List (List UInt8) := [[79, 82], [88, 79, 82], [65, 78, 68], [78, 79, 84], [43], [45], [42], [47], [77, 79, 68], [83, 72, 76], [83, 72, 82], [78, 69, 71], [35], [110], [36]]
theorem rank_none (s : List UInt8) (h : ∀ x ∈ opsL, (s == x) = false) : rankL s = (0, 0) := by
  simp only [opsL, List.forall_mem_cons] at h
  obtain ⟨h0, h1, h2, h3, h4, h5, h6, h7, h8, h9, h10, h11, h12, h13, h14, _⟩ := h
  rw [rank_beq]
  simp [*]
theorem rank_ops (s : List UInt8) (w : World) (hs : s ∈ opsL) : Calls Tryz.prog 54 #[.string ⟨s.toArray⟩] w fun e w' => e = .returned (.tuple #[.int .i64 ((rankL s).1 : Nat), .int .i64 ((rankL s).2 : Nat)]) ∧ w' = w := by
  simp only [opsL, List.mem_cons, List.not_mem_nil, or_false] at hs
  rcases hs with rfl | rfl | rfl | rfl | rfl | rfl | rfl | rfl | rfl | rfl | rfl | rfl | rfl | rfl | rfl
  all_goals
    go_enter Tryz.func54, Tryz.ntmps54
    go_wp2
    go_ret2
    exact ⟨rfl, rfl⟩
theorem rank_any (s : List UInt8) (w : World) : Calls Tryz.prog 54 #[.string ⟨s.toArray⟩] w fun e w' => e = .returned (.tuple #[.int .i64 ((rankL s).1 : Nat), .int .i64 ((rankL s).2 : Nat)]) ∧ w' = w := by
  by_cases hs : s ∈ opsL
  · exact rank_ops s w hs
  · have h : ∀ x ∈ opsL, (s == x) = false := fun x hx => by
      rw [beq_eq_false_iff_ne]
      rintro rfl
      exact hs hx
    rw [rank_none s h]
    simp only [opsL, List.forall_mem_cons] at h
    obtain ⟨h0, h1, h2, h3, h4, h5, h6, h7, h8, h9, h10, h11, h12, h13, h14, _⟩ := h
    clear hs
    go_enter Tryz.func54, Tryz.ntmps54
    go_wp2
    go_ret2
    exact ⟨rfl, rfl⟩
end Go.Proofs.YtaoeipbofhkkcaaGreatDoor
