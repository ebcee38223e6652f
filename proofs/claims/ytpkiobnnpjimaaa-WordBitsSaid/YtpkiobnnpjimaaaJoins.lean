/- What And, Or and Xor do when they are called, of both packages, said of values and of the world; the bytes are between 0 and 255; m is the joined byte. -/
import Derived.Test.YtpkiobnnpjimaaaSums
import Derived.Test.YtpkiobnnpjimaaaTurned
namespace Go.Proofs.Ytpkiobnnpjimaaa
open Go.RowKit Go.Proofs.WordMath

theorem ofByte_any' (m : Int) (h0 : 0 ≤ m) (h1 : m ≤ 255) (w : World) : Calls Try.prog 48 #[.int .u8 m] w fun e w' => e = .returned (.agg #[.bool (decide (128 ≤ m)), .bool (decide (m = 0)), .bool false, .bool (par m), .bool false]) ∧ Below w.heap.size w w' := by
  have h := ofResult_any m w
  have e : lowB m = m := lowB_in h0 h1
  have e1 : m % 256 = m := e
  rw [e] at h
  simp only [sB, zB, pB, e1] at h
  exact h
theorem told_byte (m : Int) (A C : Bool) (h0 : 0 ≤ m) (h1 : m ≤ 255) (w : World) : Calls Try.prog 50 #[.int .i64 m, .bool A, .bool C] w fun e w' => e = .returned (.tuple #[.int .u8 m, .agg #[.bool (decide (128 ≤ m)), .bool (decide (m = 0)), .bool A, .bool (par m), .bool C]]) ∧ Below w.heap.size w w' := by
  have h := told_any m A C h0 (by omega) w
  have e : lowB m = m := lowB_in h0 h1
  have e1 : m % 256 = m := e
  simp only [sB, zB, pB, lowB, e1] at h
  exact h

set_option maxHeartbeats 1000000 in
theorem and_any (a b m o : Int) (hm : bits .and .u8 a b = m) (ho : bits .or .u8 a b = o) (m0 : 0 ≤ m) (m1 : m ≤ 255) (o0 : 0 ≤ o) (o1 : o ≤ 255) (w : World) :
    Calls Try.prog 25 #[.int .u8 a, .int .u8 b] w fun e w' => e = .returned (.tuple #[.int .u8 m, .agg #[.bool (decide (128 ≤ m)), .bool (decide (m = 0)), .bool (decide (o / 8 % 2 = 1)), .bool (par m), .bool false]]) ∧ Below w.heap.size w w' := by
    have q := and1 (o / 8) (by omega) (by omega)
    go_enter Try.func25, Try.ntmps25
    go_wp2_with (first
      | (go_at_call 48; refine (ofByte_any' m m0 m1 _).mono ?_; rintro e w1 ⟨rfl, hb1⟩; (have hblk := at_below hb1 (at_new w _)); obtain ⟨⟨_, _, _, _, _⟩, _, _, _, _, _⟩ := five hblk
         (have hz0 : w.heap.size < w1.heap.size := by have := hb1.size; simp at this; omega); (have hg1 : Below w.heap.size w w1 := below_step (by go_grown) hb1); clear hb1))
    go_region
    simp only [Exit.then]
    go_step
    go_step
    go_step
    exact fin25b rfl rfl rfl (at_drew (at_old (set5 hblk))) rfl ⟨ret_told rfl rfl rfl (by first | rfl | (rw [Bool.eq_iff_iff]; simp; done) | (rw [Bool.eq_iff_iff]; simp; omega)) rfl rfl, by go_grown⟩
set_option maxHeartbeats 1000000 in
theorem or_any (a b o : Int) (ho : bits .or .u8 a b = o) (o0 : 0 ≤ o) (o1 : o ≤ 255) (w : World) :
    Calls Try.prog 26 #[.int .u8 a, .int .u8 b] w fun e w' => e = .returned (.tuple #[.int .u8 o, .agg #[.bool (decide (128 ≤ o)), .bool (decide (o = 0)), .bool false, .bool (par o), .bool false]]) ∧ Below w.heap.size w w' := by
    go_enter Try.func26, Try.ntmps26
    go_wp2_with (first
      | (go_at_call 48; refine (ofByte_any' o o0 o1 _).mono ?_; rintro e w1 ⟨rfl, hb1⟩; (have hblk := at_below hb1 (at_new w _)); obtain ⟨⟨_, _, _, _, _⟩, _, _, _, _, _⟩ := five hblk
         (have hz0 : w.heap.size < w1.heap.size := by have := hb1.size; simp at this; omega); (have hg1 : Below w.heap.size w w1 := below_step (by go_grown) hb1); clear hb1))
    exact fin25b rfl rfl rfl (set5 hblk) rfl ⟨rfl, by go_grown⟩
set_option maxHeartbeats 1000000 in
theorem xor_any (a b o : Int) (ho : bits .xor .u8 a b = o) (o0 : 0 ≤ o) (o1 : o ≤ 255) (w : World) :
    Calls Try.prog 27 #[.int .u8 a, .int .u8 b] w fun e w' => e = .returned (.tuple #[.int .u8 o, .agg #[.bool (decide (128 ≤ o)), .bool (decide (o = 0)), .bool false, .bool (par o), .bool false]]) ∧ Below w.heap.size w w' := by
    go_enter Try.func27, Try.ntmps27
    go_wp2_with (first
      | (go_at_call 48; refine (ofByte_any' o o0 o1 _).mono ?_; rintro e w1 ⟨rfl, hb1⟩; (have hblk := at_below hb1 (at_new w _)); obtain ⟨⟨_, _, _, _, _⟩, _, _, _, _, _⟩ := five hblk
         (have hz0 : w.heap.size < w1.heap.size := by have := hb1.size; simp at this; omega); (have hg1 : Below w.heap.size w w1 := below_step (by go_grown) hb1); clear hb1))
    exact fin25b rfl rfl rfl (set5 hblk) rfl ⟨rfl, by go_grown⟩
set_option maxHeartbeats 1000000 in
theorem rand_any (a b m o : Int) (hm : bits .and .u8 a b = m) (ho : bits .or .u8 a b = o) (m0 : 0 ≤ m) (m1 : m ≤ 255) (o0 : 0 ≤ o) (o1 : o ≤ 255) (w : World) :
    Calls Try.prog 28 #[.int .u8 a, .int .u8 b] w fun e w' => e = .returned (.tuple #[.int .u8 m, .agg #[.bool (decide (128 ≤ m)), .bool (decide (m = 0)), .bool (decide (o / 8 % 2 = 1)), .bool (par m), .bool false]]) ∧ Below w.heap.size w w' := by
    go_enter Try.func28, Try.ntmps28
    go_wp2_with (first
      | (go_at_call 50; refine (told_byte m _ _ m0 m1 _).mono ?_; rintro e w1 ⟨rfl, hb1⟩; (have hblk := at_below hb1 (at_new w _)); obtain ⟨⟨_, _, _, _, _⟩, _, _, _, _, _⟩ := five hblk
         (have hz0 : w.heap.size < w1.heap.size := by have := hb1.size; simp at this; omega); (have hg1 : Below w.heap.size w w1 := below_step (by go_grown) hb1); clear hb1))
    exact fin23b rfl rfl rfl (set5 hblk) rfl ⟨ret_told rfl rfl rfl (by first | rfl | (rw [Bool.eq_iff_iff]; simp; done) | (rw [Bool.eq_iff_iff]; simp; omega)) rfl rfl, by go_grown⟩
set_option maxHeartbeats 1000000 in
theorem ror_any (a b m : Int) (hm : bits .or .u8 a b = m) (m0 : 0 ≤ m) (m1 : m ≤ 255) (w : World) :
    Calls Try.prog 29 #[.int .u8 a, .int .u8 b] w fun e w' => e = .returned (.tuple #[.int .u8 m, .agg #[.bool (decide (128 ≤ m)), .bool (decide (m = 0)), .bool false, .bool (par m), .bool false]]) ∧ Below w.heap.size w w' := by
    go_enter Try.func29, Try.ntmps29
    go_wp2_with (first
      | (go_at_call 50; refine (told_byte m _ _ m0 m1 _).mono ?_; rintro e w1 ⟨rfl, hb1⟩; (have hblk := at_below hb1 (at_new w _)); obtain ⟨⟨_, _, _, _, _⟩, _, _, _, _, _⟩ := five hblk
         (have hz0 : w.heap.size < w1.heap.size := by have := hb1.size; simp at this; omega); (have hg1 : Below w.heap.size w w1 := below_step (by go_grown) hb1); clear hb1))
    exact fin23b rfl rfl rfl (set5 hblk) rfl ⟨ret_told rfl rfl rfl (by first | rfl | (rw [Bool.eq_iff_iff]; simp; done) | (rw [Bool.eq_iff_iff]; simp; omega)) rfl rfl, by go_grown⟩
set_option maxHeartbeats 1000000 in
theorem rxor_any (a b m : Int) (hm : bits .xor .u8 a b = m) (m0 : 0 ≤ m) (m1 : m ≤ 255) (w : World) :
    Calls Try.prog 30 #[.int .u8 a, .int .u8 b] w fun e w' => e = .returned (.tuple #[.int .u8 m, .agg #[.bool (decide (128 ≤ m)), .bool (decide (m = 0)), .bool false, .bool (par m), .bool false]]) ∧ Below w.heap.size w w' := by
    go_enter Try.func30, Try.ntmps30
    go_wp2_with (first
      | (go_at_call 50; refine (told_byte m _ _ m0 m1 _).mono ?_; rintro e w1 ⟨rfl, hb1⟩; (have hblk := at_below hb1 (at_new w _)); obtain ⟨⟨_, _, _, _, _⟩, _, _, _, _, _⟩ := five hblk
         (have hz0 : w.heap.size < w1.heap.size := by have := hb1.size; simp at this; omega); (have hg1 : Below w.heap.size w w1 := below_step (by go_grown) hb1); clear hb1))
    exact fin23b rfl rfl rfl (set5 hblk) rfl ⟨ret_told rfl rfl rfl (by first | rfl | (rw [Bool.eq_iff_iff]; simp; done) | (rw [Bool.eq_iff_iff]; simp; omega)) rfl rfl, by go_grown⟩
end Go.Proofs.Ytpkiobnnpjimaaa
