/- Plain facts on bytes of instructions: what was put is read as it was, and what was read is put as it was; no condition. -/
import Derived.Test.YtlpbomdkcofhhaaDoorIsBytes
import Derived.Test.YtlpbomdkcofhhaaDoorIsRead
namespace Go.Proofs.YtlpbomdkcofhhaaDoor
open Go.RowKit

theorem put_read {op n : Nat} (h : op < 256) {bs : List Nat} (hb : bytesS (sizeF (formL op)) op n = (bs, 0)) (r : List Nat) : readL (bs ++ r) = (op, n, bs.length, 0) := by
  have hs := (size_form h).2.2.1
  generalize hz : sizeF (formL op) = s at hb hs
  match s, hs with
  | 0, _ => simp [bytesS] at hb
  | 1, _ =>
    by_cases h0 : n = 0
    · simp only [bytesS, h0] at hb
      simp at hb
      subst hb
      simp [readL, hz, numS, h0]
    · simp [bytesS, h0] at hb
  | 2, _ =>
    by_cases h0 : n ≤ 255
    · simp [bytesS, h0] at hb
      subst hb
      simp [readL, hz, numS]
    · simp [bytesS, h0] at hb
  | 3, _ =>
    simp [bytesS] at hb
    subst hb
    have e : n % 256 + n / 256 * 256 = n := by omega
    simp [readL, hz, numS, e]
theorem read_put {l : List Nat} (hl : ∀ (i x : Nat), l[i]? = some x → x < 256) {op n s : Nat} (h : readL l = (op, n, s, 0)) : op < 256 ∧ n < 65536 ∧ s = sizeF (formL op) ∧ s ≤ l.length ∧ bytesS s op n = (l.take s, 0) := by
  match l, hl with
  | [], _ => simp [readL] at h
  | x :: r, hl =>
    have hx := hl 0 x rfl
    have hs := (size_form hx).2.2.1
    simp only [readL] at h
    generalize hz : sizeF (formL x) = z at h hs
    by_cases h0 : z = 0
    · simp [h0] at h
    · rw [if_neg h0] at h
      by_cases h1 : r.length + 1 < z
      · simp [h1] at h
      · rw [if_neg h1] at h
        simp only [Prod.mk.injEq, and_true] at h
        obtain ⟨rfl, rfl, rfl⟩ := h
        match z, hs with
        | 0, _ => exact absurd rfl h0
        | 1, _ => exact ⟨hx, by simp [numS], hz.symm, by simp, by simp [bytesS, numS]⟩
        | 2, _ =>
          match r, hl with
          | [], _ => simp at h1
          | y :: r, hl =>
            have hy := hl 1 y rfl
            refine ⟨hx, by simp [numS]; omega, hz.symm, by simp, ?_⟩
            simp [bytesS, numS]
            omega
        | 3, _ =>
          match r, hl with
          | [], _ => simp at h1
          | [y], _ => simp at h1
          | y :: z :: r, hl =>
            have hy := hl 1 y rfl
            have hz' := hl 2 z rfl
            refine ⟨hx, by simp [numS]; omega, hz.symm, by simp, ?_⟩
            simp [bytesS, numS]
            omega
theorem read_none {l : List Nat} (h : (readL l).2.2.2 ≠ 0) : (readL l).2.2.1 = 0 := by
  match l with
  | [] => rfl
  | x :: r =>
    by_cases h0 : sizeF (formL x) = 0
    · simp [readL, h0]
    · by_cases h1 : r.length + 1 < sizeF (formL x)
      · simp [readL, h0, h1]
      · simp [readL, h0, h1] at h
end Go.Proofs.YtlpbomdkcofhhaaDoor
