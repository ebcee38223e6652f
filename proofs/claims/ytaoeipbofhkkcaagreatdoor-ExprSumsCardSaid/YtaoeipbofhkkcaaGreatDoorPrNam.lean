/- What the program's level, partsOf and isName do when they are called; a name is shorter than 140737488355328 bytes. What the program's isName does when it is called; a name is shorter than 140737488355328 bytes. -/
import Derived.Test.YtaoeipbofhkkcaaGreatDoorExRk
import Derived.Test.YtaoeipbofhkkcaaGreatDoorNumTexts
import Derived.BigQuiet
import Derived.Deep.RegionWith
namespace Go.Proofs.YtaoeipbofhkkcaaGreatDoor
open Go.RowKit Go.Proofs.NumMath

theorem level_ops (s : List UInt8) (w : World) (hs : s ∈ opsL) : Calls Tryz.prog 40 #[.string ⟨s.toArray⟩] w fun e w' => e = .returned (.int .i64 ((rankL s).1 : Nat)) ∧ w' = w := by
  simp only [opsL, List.mem_cons, List.not_mem_nil, or_false] at hs
  rcases hs with rfl | rfl | rfl | rfl | rfl | rfl | rfl | rfl | rfl | rfl | rfl | rfl | rfl | rfl | rfl
  all_goals
    go_enter Tryz.func40, Tryz.ntmps40
    go_wp2
    go_ret
    exact ⟨rfl, rfl⟩
theorem level_any (s : List UInt8) (w : World) : Calls Tryz.prog 40 #[.string ⟨s.toArray⟩] w fun e w' => e = .returned (.int .i64 ((rankL s).1 : Nat)) ∧ w' = w := by
  by_cases hs : s ∈ opsL
  · exact level_ops s w hs
  · have h : ∀ x ∈ opsL, (s == x) = false := fun x hx => by
      rw [beq_eq_false_iff_ne]
      rintro rfl
      exact hs hx
    rw [rank_none s h]
    simp only [opsL, List.forall_mem_cons] at h
    obtain ⟨h0, h1, h2, h3, h4, h5, h6, h7, h8, h9, h10, h11, h12, h13, h14, _⟩ := h
    clear hs
    go_enter Tryz.func40, Tryz.ntmps40
    go_wp2
    go_ret
    exact ⟨rfl, rfl⟩
/-- how many parts the program takes an Op to have -/
def partsL (s : List UInt8) : Nat := if (rankL s).1 = 7 then 0 else if (rankL s).1 = 3 ∨ (rankL s).1 = 6 then 1 else 2
theorem parts_any (s : List UInt8) (w : World) : Calls Tryz.prog 52 #[.string ⟨s.toArray⟩] w fun e w' => e = .returned (.int .i64 (partsL s : Nat)) ∧ w' = w := by
  have hc := level_any s
  obtain ⟨r, hr⟩ : ∃ r, (rankL s).1 = r := ⟨_, rfl⟩
  unfold partsL
  rw [hr] at hc ⊢
  clear hr
  by_cases h7 : r = 7
  · subst h7
    go_enter Tryz.func52, Tryz.ntmps52
    go_wp2_with (go_at_call 40; refine (hc _).mono ?_; rintro e w' ⟨rfl, rfl⟩)
    go_ret
    exact ⟨rfl, rfl⟩
  · by_cases h3 : r = 3
    · subst h3
      go_enter Tryz.func52, Tryz.ntmps52
      go_wp2_with (go_at_call 40; refine (hc _).mono ?_; rintro e w' ⟨rfl, rfl⟩)
      go_ret
      exact ⟨rfl, rfl⟩
    · by_cases h6 : r = 6
      · subst h6
        go_enter Tryz.func52, Tryz.ntmps52
        go_wp2_with (go_at_call 40; refine (hc _).mono ?_; rintro e w' ⟨rfl, rfl⟩)
        go_ret
        exact ⟨rfl, rfl⟩
      · have e : (if r = 7 then 0 else if r = 3 ∨ r = 6 then 1 else 2) = 2 := by simp [h7, h3, h6]
        rw [e]
        have b7 : ((r : Int) == 7) = false := by rw [beq_eq_false_iff_ne]; omega
        have b3 : ((r : Int) == 3) = false := by rw [beq_eq_false_iff_ne]; omega
        have b6 : ((r : Int) == 6) = false := by rw [beq_eq_false_iff_ne]; omega
        clear h7 h3 h6 e
        go_enter Tryz.func52, Tryz.ntmps52
        go_wp2_with (go_at_call 40; refine (hc _).mono ?_; rintro e w' ⟨rfl, rfl⟩)
        go_ret
        exact ⟨rfl, rfl⟩
theorem parts_rank (s : List UInt8) (h : (rankL s).1 ≠ 0) : partsL s = (rankL s).2 := by
  rcases rank_cases s h with ⟨o, rfl, hr⟩ | ⟨o, rfl, hr⟩ | ⟨_, hr⟩
  · cases o <;> rfl
  · cases o <;> rfl
  · simp [partsL, hr]
end Go.Proofs.YtaoeipbofhkkcaaGreatDoor
namespace Go.Proofs.YtaoeipbofhkkcaaGreatDoor
open Go.RowKit Go.Proofs.NumMath

def wordsL : List (List UInt8) := [[79, 82], [88, 79, 82], [65, 78, 68], [78, 79, 84], [77, 79, 68], [83, 72, 76], [83, 72, 82]]
theorem wordB_mem (s : List UInt8) : wordB s = decide (s ∈ wordsL) := rfl
def pnameL (s : List UInt8) : Bool := nameL s && decide (upL s = s) && !wordB s
theorem isname_word (s : List UInt8) (w : World) (hs : s ∈ wordsL) : Calls Tryz.prog 53 #[.string ⟨s.toArray⟩] w fun e w' => e = .returned (.bool false) ∧ w' = w := by
  simp only [wordsL, List.mem_cons, List.not_mem_nil, or_false] at hs
  rcases hs with rfl | rfl | rfl | rfl | rfl | rfl | rfl
  all_goals
    go_enter Tryz.func53, Tryz.ntmps53
    go_wp2
    go_ret
    exact ⟨rfl, rfl⟩
theorem isname_any (s : List UInt8) (hl : s.length < 140737488355328) (w : World) : Calls Tryz.prog 53 #[.string ⟨s.toArray⟩] w fun e w' => e = .returned (.bool (pnameL s)) ∧ Below w.heap.size w w' := by
  by_cases hs : s ∈ wordsL
  · have hf : pnameL s = false := by simp [pnameL, wordB_mem, hs]
    rw [hf]
    refine (isname_word s w hs).mono ?_
    rintro e w' ⟨rfl, rfl⟩
    exact ⟨rfl, Below.refl _ _⟩
  · have h : ∀ x ∈ wordsL, (s == x) = false := fun x hx => by
      rw [beq_eq_false_iff_ne]
      rintro rfl
      exact hs hx
    have hf : pnameL s = (nameL s && decide (upL s = s)) := by simp [pnameL, wordB_mem, hs]
    rw [hf]
    have hsz : (⟨s.toArray⟩ : ByteArray).size = s.length := by simp [ByteArray.size]
    have hN := name_any ⟨s.toArray⟩ (by omega)
    have hU := upper_any ⟨s.toArray⟩ (by omega)
    dsimp only at hN hU
    simp only [wordsL, List.forall_mem_cons] at h
    obtain ⟨h0, h1, h2, h3, h4, h5, h6, _⟩ := h
    clear hs hf hsz hl
    by_cases hn : nameL s = true
    · rw [hn] at hN ⊢
      by_cases hu : upL s = s
      · rw [hu] at hU ⊢
        clear hn hu
        go_enter Tryz.func53, Tryz.ntmps53
        go_wp2_with (first
          | (go_at_call 65; refine (hN _).mono ?_; rintro e w1 ⟨rfl, hB1⟩)
          | (go_at_call 68; refine (hU _).mono ?_; rintro e w2 ⟨rfl, hB2⟩))
        go_ret
        exact ⟨by simp, hB1.trans (hB2.mono hB1.size)⟩
      · have hu2 : (upL s == s) = false := by rw [beq_eq_false_iff_ne]; exact hu
        have hd : decide (upL s = s) = false := by simpa using hu
        rw [hd]
        go_enter Tryz.func53, Tryz.ntmps53
        go_wp2_with (first
          | (go_at_call 65; refine (hN _).mono ?_; rintro e w1 ⟨rfl, hB1⟩)
          | (go_at_call 68; refine (hU _).mono ?_; rintro e w2 ⟨rfl, hB2⟩))
        go_ret
        exact ⟨by simp, hB1.trans (hB2.mono hB1.size)⟩
    · have hn2 := Bool.eq_false_iff.2 hn
      rw [hn2] at hN ⊢
      go_enter Tryz.func53, Tryz.ntmps53
      go_wp2_with (first
        | (go_at_call 65; refine (hN _).mono ?_; rintro e w1 ⟨rfl, hB1⟩)
        | (go_at_call 68; refine (hU _).mono ?_; rintro e w2 ⟨rfl, hB2⟩))
      go_ret
      exact ⟨by simp, hB1⟩
end Go.Proofs.YtaoeipbofhkkcaaGreatDoor
