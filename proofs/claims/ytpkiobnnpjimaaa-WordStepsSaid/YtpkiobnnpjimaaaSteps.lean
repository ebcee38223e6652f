/- What Inc, Dec, Daa and the three connections of bits do when they are called, said of values and of the world; the bytes are between 0 and 255. -/
import Derived.Test.YtpkiobnnpjimaaaSums
namespace Go.Proofs.Ytpkiobnnpjimaaa
open Go.RowKit Go.Proofs.WordMath

theorem add_one (a : Int) (a0 : 0 ≤ a) (a1 : a ≤ 255) (w : World) : Calls Try.prog 21 #[.int .u8 a, .int .u8 1, .bool false] w fun e w' => e = .returned (.tuple #[.int .u8 (lowB (a + 1)), .agg #[.bool (sB (a + 1)), .bool (zB (a + 1)), .bool (decide (14 < a % 16)), .bool (pB (a + 1)), .bool (decide (254 < a))]]) ∧ Below w.heap.size w w' :=
  (add_any a 1 false a0 a1 (by omega) (by omega) w).mono fun _ _ ⟨he, hb⟩ => ⟨he.trans (by
    have e1 : a + 1 + bi false 1 = a + 1 := by simp [bi]
    rw [e1]
    exact ret_told rfl rfl rfl (by rw [Bool.eq_iff_iff]; simp [bi]; omega) rfl (by rw [Bool.eq_iff_iff]; simp; omega)), hb⟩
set_option maxHeartbeats 1000000 in
theorem inc_any (a : Int) (s z h p c : Bool) (a0 : 0 ≤ a) (a1 : a ≤ 255) (w : World) : Calls Try.prog 31 #[.int .u8 a, .agg #[.bool s, .bool z, .bool h, .bool p, .bool c]] w fun e w' => e = .returned (.tuple #[.int .u8 (lowB (a + 1)), .agg #[.bool (sB (a + 1)), .bool (zB (a + 1)), .bool (decide (14 < a % 16)), .bool (pB (a + 1)), .bool c]]) ∧ Below w.heap.size w w' := by
    go_enter Try.func31, Try.ntmps31
    go_wp2_with (first
      | (go_at_call 21; with_reducible refine (add_one a a0 a1 _).mono ?_; rintro e w1 ⟨rfl, hb1⟩; obtain ⟨⟨_, _, _, _, _⟩, _, _, _, _, _⟩ := five (at_below hb1 (at_new' (k := w.heap.size + 1) (by simp))); obtain ⟨⟨_, _, _, _, _⟩, _, _, _, _, _⟩ := five (at_below hb1 (at_old (at_new _ _)))
         (have hz1 : w.heap.size + 1 < w1.heap.size := by have := hb1.size; simp at this; omega); (have hz0 : w.heap.size < w1.heap.size := by omega); (have hg1 : Below w.heap.size w w1 := below_step (by go_grown) hb1); clear hb1))
    go_region
    generalize hW2 : World.drew _ = W2
    have hB : Below w.heap.size w W2 := by subst hW2; go_grown
    have k0 : W2.cell? ⟨w.heap.size + 1, 0, none⟩ = some (.bool (sB (a + 1))) := by subst hW2; go_cell
    have k1 : W2.cell? ⟨w.heap.size + 1, 1, none⟩ = some (.bool (zB (a + 1))) := by subst hW2; go_cell
    have k2 : W2.cell? ⟨w.heap.size + 1, 2, none⟩ = some (.bool (decide (14 < a % 16))) := by subst hW2; go_cell
    have k3 : W2.cell? ⟨w.heap.size + 1, 3, none⟩ = some (.bool (pB (a + 1))) := by subst hW2; go_cell
    have k4 : W2.cell? ⟨w.heap.size + 1, 4, none⟩ = some (.bool c) := by subst hW2; go_cell
    clear hW2
    simp only [Exit.then]
    go_step
    go_step
    go_step
    exact fin25 rfl rfl rfl k0 k1 k2 k3 k4 rfl ⟨ret_told rfl rfl rfl rfl rfl rfl, hB⟩

theorem sub_one (a : Int) (a0 : 0 ≤ a) (a1 : a ≤ 255) (w : World) : Calls Try.prog 23 #[.int .u8 a, .int .u8 1, .bool false] w fun e w' => e = .returned (.tuple #[.int .u8 (lowB (a + 255)), .agg #[.bool (sB (a + 255)), .bool (zB (a + 255)), .bool (decide (0 < a % 16)), .bool (pB (a + 255)), .bool (decide (a < 1))]]) ∧ Below w.heap.size w w' :=
  (sub_any a 1 false a0 a1 (by omega) (by omega) w).mono fun _ _ ⟨he, hb⟩ => ⟨he.trans (by
    have e1 : a - 1 - bi false 1 + 256 = a + 255 := by simp [bi]; omega
    have e2 : bi false 1 = 0 := rfl
    have e3 : bi (!false) 1 = 1 := rfl
    rw [e1, e2, e3]
    exact ret_told rfl rfl rfl (by rw [Bool.eq_iff_iff]; simp; omega) rfl (by rw [Bool.eq_iff_iff]; simp; omega)), hb⟩
set_option maxHeartbeats 1000000 in
theorem dec_any (a : Int) (s z h p c : Bool) (a0 : 0 ≤ a) (a1 : a ≤ 255) (w : World) : Calls Try.prog 32 #[.int .u8 a, .agg #[.bool s, .bool z, .bool h, .bool p, .bool c]] w fun e w' => e = .returned (.tuple #[.int .u8 (lowB (a + 255)), .agg #[.bool (sB (a + 255)), .bool (zB (a + 255)), .bool (decide (0 < a % 16)), .bool (pB (a + 255)), .bool c]]) ∧ Below w.heap.size w w' := by
    go_enter Try.func32, Try.ntmps32
    go_wp2_with (first
      | (go_at_call 23; with_reducible refine (sub_one a a0 a1 _).mono ?_; rintro e w1 ⟨rfl, hb1⟩; obtain ⟨⟨_, _, _, _, _⟩, _, _, _, _, _⟩ := five (at_below hb1 (at_new' (k := w.heap.size + 1) (by simp))); obtain ⟨⟨_, _, _, _, _⟩, _, _, _, _, _⟩ := five (at_below hb1 (at_old (at_new _ _)))
         (have hz1 : w.heap.size + 1 < w1.heap.size := by have := hb1.size; simp at this; omega); (have hz0 : w.heap.size < w1.heap.size := by omega); (have hg1 : Below w.heap.size w w1 := below_step (by go_grown) hb1); clear hb1))
    go_region
    generalize hW2 : World.drew _ = W2
    have hB : Below w.heap.size w W2 := by subst hW2; go_grown
    have k0 : W2.cell? ⟨w.heap.size + 1, 0, none⟩ = some (.bool (sB (a + 255))) := by subst hW2; go_cell
    have k1 : W2.cell? ⟨w.heap.size + 1, 1, none⟩ = some (.bool (zB (a + 255))) := by subst hW2; go_cell
    have k2 : W2.cell? ⟨w.heap.size + 1, 2, none⟩ = some (.bool (decide (0 < a % 16))) := by subst hW2; go_cell
    have k3 : W2.cell? ⟨w.heap.size + 1, 3, none⟩ = some (.bool (pB (a + 255))) := by subst hW2; go_cell
    have k4 : W2.cell? ⟨w.heap.size + 1, 4, none⟩ = some (.bool c) := by subst hW2; go_cell
    clear hW2
    simp only [Exit.then]
    go_step
    go_step
    go_step
    exact fin25 rfl rfl rfl k0 k1 k2 k3 k4 rfl ⟨ret_told rfl rfl rfl rfl rfl rfl, hB⟩
theorem radd_one (a : Int) (a0 : 0 ≤ a) (a1 : a ≤ 255) (w : World) : Calls Try.prog 22 #[.int .u8 a, .int .u8 1, .bool false] w fun e w' => e = .returned (.tuple #[.int .u8 (lowB (a + 1)), .agg #[.bool (sB (a + 1)), .bool (zB (a + 1)), .bool (decide (14 < a % 16)), .bool (pB (a + 1)), .bool (decide (254 < a))]]) ∧ Below w.heap.size w w' :=
  (radd_any a 1 false a0 a1 (by omega) (by omega) w).mono fun _ _ ⟨he, hb⟩ => ⟨he.trans (by
    have e1 : a + 1 + bi false 1 = a + 1 := by simp [bi]
    rw [e1]
    exact ret_told rfl rfl rfl (by rw [Bool.eq_iff_iff]; simp [bi]; omega) rfl (by rw [Bool.eq_iff_iff]; simp; omega)), hb⟩
theorem rsub_one (a : Int) (a0 : 0 ≤ a) (a1 : a ≤ 255) (w : World) : Calls Try.prog 24 #[.int .u8 a, .int .u8 1, .bool false] w fun e w' => e = .returned (.tuple #[.int .u8 (lowB (a + 255)), .agg #[.bool (sB (a + 255)), .bool (zB (a + 255)), .bool (decide (0 < a % 16)), .bool (pB (a + 255)), .bool (decide (a < 1))]]) ∧ Below w.heap.size w w' :=
  (rsub_any a 1 false a0 a1 (by omega) (by omega) w).mono fun _ _ ⟨he, hb⟩ => ⟨he.trans (by
    have e1 : a - 1 - bi false 1 + 256 = a + 255 := by simp [bi]; omega
    have e2 : bi false 1 = 0 := rfl
    have e3 : bi (!false) 1 = 1 := rfl
    rw [e1, e2, e3]
    exact ret_told rfl rfl rfl (by rw [Bool.eq_iff_iff]; simp; omega) rfl (by rw [Bool.eq_iff_iff]; simp; omega)), hb⟩
set_option maxHeartbeats 1000000 in
theorem rinc_any (a : Int) (s z h p c : Bool) (a0 : 0 ≤ a) (a1 : a ≤ 255) (w : World) : Calls Try.prog 34 #[.int .u8 a, .agg #[.bool s, .bool z, .bool h, .bool p, .bool c]] w fun e w' => e = .returned (.tuple #[.int .u8 (lowB (a + 1)), .agg #[.bool (sB (a + 1)), .bool (zB (a + 1)), .bool (decide (14 < a % 16)), .bool (pB (a + 1)), .bool c]]) ∧ Below w.heap.size w w' := by
    go_enter Try.func34, Try.ntmps34
    go_wp2_with (first
      | (go_at_call 22; with_reducible refine (radd_one a a0 a1 _).mono ?_; rintro e w1 ⟨rfl, hb1⟩; obtain ⟨⟨_, _, _, _, _⟩, _, _, _, _, _⟩ := five (at_below hb1 (at_new' (k := w.heap.size + 1) (by simp))); obtain ⟨⟨_, _, _, _, _⟩, _, _, _, _, _⟩ := five (at_below hb1 (at_old (at_new _ _)))
         (have hz1 : w.heap.size + 1 < w1.heap.size := by have := hb1.size; simp at this; omega); (have hz0 : w.heap.size < w1.heap.size := by omega); (have hg1 : Below w.heap.size w w1 := below_step (by go_grown) hb1); clear hb1))
    go_region
    generalize hW2 : World.drew _ = W2
    have hB : Below w.heap.size w W2 := by subst hW2; go_grown
    have k0 : W2.cell? ⟨w.heap.size + 1, 0, none⟩ = some (.bool (sB (a + 1))) := by subst hW2; go_cell
    have k1 : W2.cell? ⟨w.heap.size + 1, 1, none⟩ = some (.bool (zB (a + 1))) := by subst hW2; go_cell
    have k2 : W2.cell? ⟨w.heap.size + 1, 2, none⟩ = some (.bool (decide (14 < a % 16))) := by subst hW2; go_cell
    have k3 : W2.cell? ⟨w.heap.size + 1, 3, none⟩ = some (.bool (pB (a + 1))) := by subst hW2; go_cell
    have k4 : W2.cell? ⟨w.heap.size + 1, 4, none⟩ = some (.bool c) := by subst hW2; go_cell
    clear hW2
    simp only [Exit.then]
    go_step
    go_step
    go_step
    exact fin23 rfl rfl rfl k0 k1 k2 k3 k4 rfl ⟨ret_told rfl rfl rfl rfl rfl rfl, hB⟩
set_option maxHeartbeats 1000000 in
theorem rdec_any (a : Int) (s z h p c : Bool) (a0 : 0 ≤ a) (a1 : a ≤ 255) (w : World) : Calls Try.prog 35 #[.int .u8 a, .agg #[.bool s, .bool z, .bool h, .bool p, .bool c]] w fun e w' => e = .returned (.tuple #[.int .u8 (lowB (a + 255)), .agg #[.bool (sB (a + 255)), .bool (zB (a + 255)), .bool (decide (0 < a % 16)), .bool (pB (a + 255)), .bool c]]) ∧ Below w.heap.size w w' := by
    go_enter Try.func35, Try.ntmps35
    go_wp2_with (first
      | (go_at_call 24; with_reducible refine (rsub_one a a0 a1 _).mono ?_; rintro e w1 ⟨rfl, hb1⟩; obtain ⟨⟨_, _, _, _, _⟩, _, _, _, _, _⟩ := five (at_below hb1 (at_new' (k := w.heap.size + 1) (by simp))); obtain ⟨⟨_, _, _, _, _⟩, _, _, _, _, _⟩ := five (at_below hb1 (at_old (at_new _ _)))
         (have hz1 : w.heap.size + 1 < w1.heap.size := by have := hb1.size; simp at this; omega); (have hz0 : w.heap.size < w1.heap.size := by omega); (have hg1 : Below w.heap.size w w1 := below_step (by go_grown) hb1); clear hb1))
    go_region
    generalize hW2 : World.drew _ = W2
    have hB : Below w.heap.size w W2 := by subst hW2; go_grown
    have k0 : W2.cell? ⟨w.heap.size + 1, 0, none⟩ = some (.bool (sB (a + 255))) := by subst hW2; go_cell
    have k1 : W2.cell? ⟨w.heap.size + 1, 1, none⟩ = some (.bool (zB (a + 255))) := by subst hW2; go_cell
    have k2 : W2.cell? ⟨w.heap.size + 1, 2, none⟩ = some (.bool (decide (0 < a % 16))) := by subst hW2; go_cell
    have k3 : W2.cell? ⟨w.heap.size + 1, 3, none⟩ = some (.bool (pB (a + 255))) := by subst hW2; go_cell
    have k4 : W2.cell? ⟨w.heap.size + 1, 4, none⟩ = some (.bool c) := by subst hW2; go_cell
    clear hW2
    simp only [Exit.then]
    go_step
    go_step
    go_step
    exact fin23 rfl rfl rfl k0 k1 k2 k3 k4 rfl ⟨ret_told rfl rfl rfl rfl rfl rfl, hB⟩
end Go.Proofs.Ytpkiobnnpjimaaa
