/- What the document's own Daa does when it is called, said of values and of the world; the byte is between 0 and 255; 'low' is what is added for the low digit, k is the carry. -/
import Derived.Test.YtpkiobnnpjimaaaSums
namespace Go.Proofs.Ytpkiobnnpjimaaa
open Go.RowKit Go.Proofs.WordMath

theorem ret_lowB {n N : Int} {A A' C C' : Bool} (h : n = N) (hA : A = A') (hC : C = C') :
    Ending.returned (.tuple #[.int .u8 (lowB n), .agg #[.bool (sB n), .bool (zB n), .bool A, .bool (pB n), .bool C]]) = .returned (.tuple #[.int .u8 (lowB N), .agg #[.bool (sB N), .bool (zB N), .bool A', .bool (pB N), .bool C']]) := by
  subst h hA hC
  rfl
theorem bi_t96 : bi true 96 = 96 := rfl
theorem bi_f96 : bi false 96 = 0 := rfl

set_option maxHeartbeats 4000000 in
theorem rdaa_any (a low : Int) (s z h p c k : Bool) (a0 : 0 ≤ a) (a1 : a ≤ 255) (hlow : low = 6 ∧ (9 < a % 16 ∨ h = true) ∨ low = 0 ∧ a % 16 ≤ 9 ∧ h = false)
    (hk : k = true ∧ (159 < a + low ∨ c = true) ∨ k = false ∧ a + low ≤ 159 ∧ c = false) (w : World) :
    Calls Try.prog 36 #[.int .u8 a, .agg #[.bool s, .bool z, .bool h, .bool p, .bool c]] w fun e w' => e = .returned (.tuple #[.int .u8 (lowB (a + low + bi k 96)), .agg #[.bool (sB (a + low + bi k 96)), .bool (zB (a + low + bi k 96)), .bool (decide (15 < a % 16 + low)), .bool (pB (a + low + bi k 96)), .bool k]]) ∧ Below w.heap.size w w' := by
  rcases hlow with ⟨rfl, h1 | rfl⟩ | ⟨rfl, h1, rfl⟩
  all_goals rcases hk with ⟨rfl, hk | rfl⟩ | ⟨rfl, hk, rfl⟩
  all_goals
    go_enter Try.func36, Try.ntmps36
    go_wp2_with (first
      | (go_at_call 50; refine (told_any _ _ _ (by omega) (by omega) _).mono ?_; rintro e w1 ⟨rfl, hb1⟩; (have hblk := at_below hb1 (at_new' (k := w.heap.size + 1) (by simp))); obtain ⟨⟨_, _, _, _, _⟩, _, _, _, _, _⟩ := five hblk
         (have hz1 : w.heap.size + 1 < w1.heap.size := by have := hb1.size; simp at this; omega); (have hz0 : w.heap.size < w1.heap.size := by omega); (have hg1 : Below w.heap.size w w1 := below_step (by go_grown) hb1); clear hb1))
  all_goals
    exact fin23b rfl rfl rfl (set5 hblk) rfl
      ⟨ret_lowB (by (first | rw [bi_t96] | rw [bi_f96]); try omega) (by first | rfl | (rw [Bool.eq_iff_iff]; simp; done) | (rw [Bool.eq_iff_iff]; simp; omega)) (by first | rfl | (rw [Bool.eq_iff_iff]; simp; done) | (rw [Bool.eq_iff_iff]; simp; omega)), by go_grown⟩
end Go.Proofs.Ytpkiobnnpjimaaa
