/- That 'alive' answers true, and lets all stand that was there before it; there is no condition. -/
import Derived.Test.YtpkiobnnpjimaaaDaa
namespace Go.Proofs.Ytpkiobnnpjimaaa
open Go.RowKit Go.Proofs.WordMath

theorem daa_alive (w : World) : Calls Try.prog 33 #[.int .u8 154, .agg #[.bool false, .bool false, .bool false, .bool false, .bool false]] w fun e w' => (∃ s z h p, e = .returned (.tuple #[.int .u8 0, .agg #[.bool s, .bool z, .bool h, .bool p, .bool true]])) ∧ Below w.heap.size w w' :=
  (daa_any 154 6 false false false false false true (by omega) (by omega) (by simp) (by simp) w).mono fun _ _ ⟨he, hb⟩ => ⟨⟨_, _, _, _, he⟩, hb⟩

set_option maxHeartbeats 1000000 in
theorem alive_any (w : World) : Calls Try.prog 20 #[] w fun e w' => e = .returned (.bool true) ∧ Below w.heap.size w w' := by
  go_enter Try.func20, Try.ntmps20
  go_wp2_with (first
    | (go_at_call 21; refine (add_alive _).mono ?_; rintro e w1 ⟨rfl, hb1⟩; (have hz1 : w.heap.size ≤ w1.heap.size := hb1.size))
    | (go_at_call 33; refine (daa_alive _).mono ?_; rintro e w2 ⟨⟨s, z, h, p, rfl⟩, hb2⟩; (have hblk := at_below hb2 (at_new w1 _)); obtain ⟨⟨_, _, _, _, _⟩, _, _, _, _, _⟩ := five hblk
       (have hz2 : w1.heap.size < w2.heap.size := by have := hb2.size; simp at this; omega)))
  go_ret
  exact ⟨rfl, (below_step (hb1.alloc hz1 _) hb2).alloc (Nat.le_trans hz1 (Nat.le_of_lt hz2)) _⟩
end Go.Proofs.Ytpkiobnnpjimaaa
