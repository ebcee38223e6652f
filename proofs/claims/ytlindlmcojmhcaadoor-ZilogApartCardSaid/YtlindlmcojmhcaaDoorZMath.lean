/- Plain facts on names in Zilog's sources: no two names become one, and what Intel does not keep is not kept behind it; no condition. -/
import Derived.Test.YtlindlmcojmhcaaDoorZNames
namespace Go.Proofs.YtlindlmcojmhcaaDoor
open Go.RowKit

/-- a name that gets one _ more -/
def renB (s : List UInt8) : Bool := resL 1 (stripL s) && !resL 0 (stripL s)
theorem renameL_eq (s : List UInt8) : renameL s = if renB s = true then (if 16 ≤ s.length then ([], 11) else (s ++ [95], 0)) else (s, 0) := by
  unfold renameL renB
  cases resL 1 (stripL s) <;> cases resL 0 (stripL s) <;> simp
theorem renB_snoc (s : List UInt8) : renB (s ++ [95]) = renB s := by unfold renB; rw [strip_snoc]
theorem ren_shape {s a : List UInt8} (h : renameL s = (a, 0)) : (renB s = true ∧ a = s ++ [95]) ∨ (renB s = false ∧ a = s) := by
  rw [renameL_eq] at h
  by_cases hr : renB s = true
  · rw [if_pos hr] at h
    by_cases h16 : 16 ≤ s.length
    · rw [if_pos h16] at h; simp at h
    · rw [if_neg h16] at h
      simp at h
      exact .inl ⟨hr, h.symm⟩
  · rw [if_neg hr] at h
    simp at h
    exact .inr ⟨by simpa using hr, h.symm⟩
theorem ren_inj {s t a : List UInt8} (hs : renameL s = (a, 0)) (ht : renameL t = (a, 0)) : s = t := by
  rcases ren_shape hs with ⟨h1, h2⟩ | ⟨h1, h2⟩ <;> rcases ren_shape ht with ⟨h3, h4⟩ | ⟨h3, h4⟩
  · rw [h2] at h4
    exact List.append_cancel_right h4
  · rw [h2] at h4
    rw [← h4, renB_snoc, h1] at h3
    exact absurd h3 (by simp)
  · rw [h4] at h2
    rw [← h2, renB_snoc, h3] at h1
    exact absurd h1 (by simp)
  · rw [← h2, ← h4]
theorem words_end : ((wordsL zilogT ++ wordsL allT).all fun x => decide (x.getLast? ≠ some 95)) = true := by kernel_rfl
theorem res1_end {s : List UInt8} (h : resL 1 s = true) : s.getLast? ≠ some 95 := by
  have hm : s ∈ wordsL zilogT ++ wordsL allT := by
    have : resT zilogT s = true := h
    unfold resT at this
    rw [Bool.or_eq_true, decide_eq_true_eq, decide_eq_true_eq] at this
    exact List.mem_append.2 this
  exact of_decide_eq_true (List.all_eq_true.1 words_end s hm)
theorem strip_same {s : List UInt8} (h : s.getLast? ≠ some 95) : stripL s = s := by
  cases hr : s.reverse with
  | nil => have : s = [] := List.reverse_eq_nil_iff.1 hr; subst this; rfl
  | cons c r =>
    have e : s = r.reverse ++ [c] := by rw [← List.reverse_reverse s, hr]; simp
    rw [e]
    refine strip_other _ _ fun hc => h ?_
    rw [e, hc]
    simp
theorem ren_free {s a : List UInt8} (hs : renameL s = (a, 0)) (h0 : resL 0 s = false) : resL 1 a = false := by
  cases hr : resL 1 a with
  | false => rfl
  | true =>
    exfalso
    have he := res1_end hr
    rcases ren_shape hs with ⟨h1, h2⟩ | ⟨h1, h2⟩
    · rw [h2] at he
      exact he (by simp)
    · rw [h2] at he hr
      have := strip_same he
      unfold renB at h1
      rw [this, hr, h0] at h1
      exact absurd h1 (by simp)
theorem ren_none {s : List UInt8} (h : (renameL s).2 ≠ 0) : 16 ≤ s.length ∧ (renameL s).1 = [] := by
  rw [renameL_eq] at h ⊢
  by_cases hr : renB s = true
  · rw [if_pos hr] at h ⊢
    by_cases h16 : 16 ≤ s.length
    · rw [if_pos h16]; exact ⟨h16, rfl⟩
    · rw [if_neg h16] at h; exact absurd rfl h
  · rw [if_neg hr] at h
    exact absurd rfl h
end Go.Proofs.YtlindlmcojmhcaaDoor
