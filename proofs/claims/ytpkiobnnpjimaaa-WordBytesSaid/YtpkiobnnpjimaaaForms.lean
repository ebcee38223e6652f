/- What Own, Back and signs of the statements do when they are called, said of values and of the world; a byte is between 0 and 255. -/
import Derived.Test.YtpkiobnnpjimaaaSums
namespace Go.Proofs.Ytpkiobnnpjimaaa
open Go.RowKit Go.Proofs.WordMath

theorem back_any (s z h p c : Bool) (w : World) : Calls Try.prog 15 #[.agg #[.bool s, .bool z, .bool h, .bool p, .bool c]] w fun e w' => e = .returned (.agg #[.bool s, .bool z, .bool h, .bool p, .bool c]) ∧ Below w.heap.size w w' := by
  go_enter Try.func15, Try.ntmps15
  go_wp2
  go_returns
  exact ⟨rfl, by go_grown⟩
theorem own_any (s z h p c : Bool) (w : World) : Calls Try.prog 13 #[.agg #[.bool s, .bool z, .bool h, .bool p, .bool c]] w fun e w' => e = .returned (.agg #[.bool s, .bool z, .bool h, .bool p, .bool c]) ∧ Below w.heap.size w w' := by
  go_enter Try.func13, Try.ntmps13
  go_wp2
  go_returns
  exact ⟨rfl, by go_grown⟩
theorem grow_drewN {w W : World} (h : Below w.heap.size w W) (n : Nat) : Below w.heap.size w (W.drewN n) := ⟨h.os, h.tape, h.output, h.size, h.block⟩
theorem par_same (a : Int) (h0 : 0 ≤ a) (h1 : a ≤ 255) (w : World) : Calls Try.prog 18 #[.int .u8 a] w fun e w' => e = .returned (.bool (par a)) ∧ w' = w :=
  (par_any a h0 h1 w).mono fun _ _ ⟨he, hw⟩ => ⟨he, hw.symm⟩
set_option maxHeartbeats 1000000 in
theorem signs_any (b : Int) (s z h p c : Bool) (b0 : 0 ≤ b) (b1 : b ≤ 255) (hs : s = decide (128 ≤ b)) (hz : z = decide (b = 0)) (hp : p = par b) (w : World) : Calls Try.prog 41 #[.int .u8 b, .agg #[.bool s, .bool z, .bool h, .bool p, .bool c]] w fun e w' => e = .returned (.bool true) ∧ Below w.heap.size w w' := by
  subst hp
  have q1 : decide (128 ≤ b) = s := hs.symm
  have q2 : (b == 0) = z := by rw [hz, Bool.eq_iff_iff]; simp
  clear hs hz
  go_enter Try.func41, Try.ntmps41
  go_wp2_with fail
  go_quiet ((go_at_call 18; exact Calls.quiet_of_same (par_same b b0 b1 _)))
  go_wp2
  go_ret
  exact ⟨rfl, grow_drewN (by go_grown) nq⟩
end Go.Proofs.Ytpkiobnnpjimaaa
