/- No two documented opcodes have one form, and just 244 are documented; no condition. -/
import Derived.Test.YtlindlmcojmhcaaDoorIsMath
namespace Go.Proofs.YtlindlmcojmhcaaDoor
open Go.RowKit

theorem codes_apart : apartB codes = true := by kernel_rfl
theorem apart_get : ∀ (l : List Nat), apartB l = true → ∀ (i j x y : Nat), i < j → l[i]? = some x → l[j]? = some y → x = y → x = 1
  | [], _, i, j, x, y, _, hx, _, _ => by simp at hx
  | a :: l, h, 0, j + 1, x, y, _, hx, hy, e => by
    simp only [apartB, Bool.and_eq_true, Bool.or_eq_true] at h
    obtain rfl : a = x := by simpa using hx
    have hy' : l[j]? = some y := by simpa using hy
    rcases h.1 with h1 | h1
    · exact Nat.eq_of_beq_eq_true h1
    · have := List.all_eq_true.1 h1 y (List.mem_of_getElem? hy')
      subst e
      simp at this
  | a :: l, h, i + 1, j + 1, x, y, hij, hx, hy, e => by
    simp only [apartB, Bool.and_eq_true] at h
    exact apart_get l h.2 i j x y (by omega) (by simpa using hx) (by simpa using hy) e
theorem code_at {i : Nat} (h : i < 256) : codes[i]? = some (codeN (formL i)) := by
  unfold codes
  rw [List.getElem?_map, List.getElem?_range h]
  rfl
theorem code_doc : ((List.range 256).all fun op => decide (codeN (formL op) = 1 → (formL op).1 = [])) = true := by kernel_rfl
/-- opcodes of one form are one opcode -/
theorem form_inj {i j : Nat} (hi : i < 256) (hj : j < 256) (h : formL i = formL j) (hd : (formL i).1 ≠ []) : i = j := by
  have key : codeN (formL i) ≠ 1 := fun e => hd (of_decide_eq_true (List.all_eq_true.1 code_doc i (List.mem_range.2 hi)) e)
  rcases Nat.lt_trichotomy i j with hlt | he | hlt
  · exact absurd (apart_get codes codes_apart i j _ _ hlt (code_at hi) (code_at hj) (by rw [h])) key
  · exact he
  · rw [h] at key
    exact absurd (apart_get codes codes_apart j i _ _ hlt (code_at hj) (code_at hi) (by rw [h])) key
/-- how many of the opcodes from a number on, in their circle, are documented -/
def docsFrom (a : Nat) : Nat → Nat
  | 0 => 0
  | n + 1 => docsFrom a n + (if (formL ((n + a) % 256)).1 = [] then 0 else 1)
end Go.Proofs.YtlindlmcojmhcaaDoor
