/- What Daa does when it is called, said of values and of the world; the byte is between 0 and 255; 'low' is what is added for the low digit, k is the carry. -/
import Derived.Test.YtpkiobnnpjimaaaSums
namespace Go.Proofs.Ytpkiobnnpjimaaa
open Go.RowKit Go.Proofs.WordMath

/-- The flags of a byte that is given itself. -/
theorem ofByte_any (m : Int) (h0 : 0 ≤ m) (h1 : m ≤ 255) (w : World) : Calls Try.prog 48 #[.int .u8 m] w fun e w' => e = .returned (.agg #[.bool (decide (128 ≤ m)), .bool (decide (m = 0)), .bool false, .bool (par m), .bool false]) ∧ Below w.heap.size w w' := by
  have h := ofResult_any m w
  have e : lowB m = m := lowB_in h0 h1
  have e1 : m % 256 = m := e
  rw [e] at h
  simp only [sB, zB, pB, e1] at h
  exact h
theorem ret_byte {n m : Int} {A A' C C' : Bool} (h : n % 256 = m) (hA : A = A') (hC : C = C') :
    Ending.returned (.tuple #[.int .u8 m, .agg #[.bool (decide (128 ≤ m)), .bool (decide (m = 0)), .bool A, .bool (par m), .bool C]]) = .returned (.tuple #[.int .u8 (lowB n), .agg #[.bool (sB n), .bool (zB n), .bool A', .bool (pB n), .bool C']]) := by
  subst h hA hC
  rfl

theorem bi_true96 : bi true 96 = 96 := rfl
theorem bi_false96 : bi false 96 = 0 := rfl
set_option maxHeartbeats 4000000 in
theorem daa_any (a low : Int) (s z h p c k : Bool) (a0 : 0 ≤ a) (a1 : a ≤ 255) (hlow : low = 6 ∧ (9 < a % 16 ∨ h = true) ∨ low = 0 ∧ a % 16 ≤ 9 ∧ h = false)
    (hk : k = true ∧ (159 < a + low ∨ c = true) ∨ k = false ∧ a + low ≤ 159 ∧ c = false) (w : World) :
    Calls Try.prog 33 #[.int .u8 a, .agg #[.bool s, .bool z, .bool h, .bool p, .bool c]] w fun e w' => e = .returned (.tuple #[.int .u8 (lowB (a + low + bi k 96)), .agg #[.bool (sB (a + low + bi k 96)), .bool (zB (a + low + bi k 96)), .bool (decide (15 < a % 16 + low)), .bool (pB (a + low + bi k 96)), .bool k]]) ∧ Below w.heap.size w w' := by
  rcases hlow with ⟨rfl, h1 | rfl⟩ | ⟨rfl, h1, rfl⟩
  all_goals rcases hk with ⟨rfl, hk | rfl⟩ | ⟨rfl, hk, rfl⟩
  all_goals
    go_enter Try.func33, Try.ntmps33
    go_wp2_with (first
      | (go_at_call 49; refine (low_any _ (by omega) (by omega) _).mono ?_; rintro e w' ⟨rfl, rfl⟩)
      | (go_at_call 46; go_call (sum2_any _ a 6) as e w' ⟨rfl, rfl⟩)
      | (go_at_call 46; go_call (sum2_any _ a 0) as e w' ⟨rfl, rfl⟩)
      | (go_at_call 46; go_call (sum2_any _ (a + 6) 96) as e w' ⟨rfl, rfl⟩)
      | (go_at_call 46; go_call (sum2_any _ (a + 6) 0) as e w' ⟨rfl, rfl⟩)
      | (go_at_call 46; go_call (sum2_any _ a 96) as e w' ⟨rfl, rfl⟩)
      | (go_at_call 46; go_call (sum2_any _ (a % 16) 6) as e w' ⟨rfl, rfl⟩)
      | (go_at_call 46; go_call (sum2_any _ (a % 16) 0) as e w' ⟨rfl, rfl⟩)
      | (go_at_call 51; refine (high_any _ (by omega) (by omega) _).mono ?_; rintro e w' ⟨rfl, rfl⟩)
      | (go_at_call 48; refine (ofByte_any _ (by omega) (by omega) _).mono ?_; rintro e w1 ⟨rfl, hb1⟩; (have hblk := at_below hb1 (at_old (at_old (at_new' (k := w.heap.size + 1) (by simp))))); obtain ⟨⟨_, _, _, _, _⟩, _, _, _, _, _⟩ := five hblk
         (have hz1 : w.heap.size + 1 < w1.heap.size := by have := hb1.size; simp at this; omega); (have hz0 : w.heap.size < w1.heap.size := by omega); (have hg1 : Below w.heap.size w w1 := below_step (by go_grown) hb1); clear hb1))
  all_goals
    go_region
    simp only [Exit.then]
    go_step
    go_step
    go_step
    exact fin25b rfl rfl rfl (at_drew (at_old (at_old (set5 hblk)))) rfl
      ⟨ret_byte (by (first | rw [bi_true96] | rw [bi_false96]); try omega) (by first | rfl | (rw [Bool.eq_iff_iff]; simp; done) | (rw [Bool.eq_iff_iff]; simp; omega)) (by first | rfl | (rw [Bool.eq_iff_iff]; simp; done) | (rw [Bool.eq_iff_iff]; simp; omega)), by go_grown⟩
end Go.Proofs.Ytpkiobnnpjimaaa
