/- TokenLines, walked: whatever the line, it returns true; the library's longest text is set. -/
import Derived.Test.YtblbcdofiheikaaDoorAlive
import Derived.Test.YtblbcdofiheikaaDoorRline
import Derived.Test.YtblbcdofiheikaaDoorSame
import Derived.Test.YtblbcdofiheikaaDoorBack
namespace Go.Proofs.YtblbcdofiheikaaDoor
open Go.RowKit Go.Proofs.NumMath

theorem lineV_len (s : List UInt8) : (lineV s).length ≤ 200 := by
  by_cases h : s.length ≤ 200
  · cases e : lineT s with
    | error k => rw [(lineL_err s h k e).2]; simp
    | ok v => rw [(lineL_ok s h v e).2]; exact Nat.le_trans (line_length _ s v (Nat.le_refl _) e) h
  · rw [(lineL_long s h).2]; simp
theorem same_self (v1 v2 : Value) (l : List Tok) (w : World) (h1 : TokR w v1 l) (h2 : TokR w v2 l) (hl : l.length ≤ 1000000) : Calls Tryd.prog 11 #[v1, v2] w fun e w' =>
    e = .returned (.bool true) ∧ Below w.heap.size w w' := by
  have := same_any v1 v2 l l w h1 h2 hl hl
  rwa [decide_eq_true rfl] at this

set_option maxRecDepth 100000 in
set_option maxHeartbeats 2000000 in
theorem tokenLines_walk (s : ByteArray) (hs : s.size ≤ 9223372036854775807) (m : Int) (w : World) (hm : MaxAt w m) : Calls Tryd.prog 3 #[.string s] w fun e w' => e = .returned (.bool true) ∧ Below w.heap.size w w' := by
  by_cases h2000 : s.size ≤ 2000
  · have h1 := fun W h => line_any s hs m W h
    have h2 := fun W => rline_any s hs W
    have hl := lineV_len s.data.toList
    obtain ⟨L, hL⟩ : ∃ L, lineV s.data.toList = L := ⟨_, rfl⟩
    obtain ⟨K, hK⟩ : ∃ K, lineK s.data.toList = K := ⟨_, rfl⟩
    rw [hL] at hl
    rw [hL, hK] at h1 h2
    clear hL hK
    go_enter Tryd.func3, Tryd.ntmps3
    go_wp2_with (first
      | (go_at_call 9; refine (h1 _ hm).mono ?_; rintro e w1 ⟨v1, rfl, hown1, hb1⟩; have r1 := tokR_of_own hown1 rfl; have hm1 := hm.below hb1)
      | (go_at_call 10; refine (h2 _).mono ?_; rintro e w2 ⟨v2, rfl, hown2, hb2⟩; have r2 := tokR_of_own hown2 rfl; have r1' := r1.below hb2; have hm2 := hm1.below hb2; have hB2 := below_step hb1 hb2)
      | (go_at_call 12; refine (back_any _ L _ r1' (by omega)).mono ?_; rintro e w3 ⟨v3, rfl, hown3, hb3⟩; have r3 := tokR_of_own hown3 rfl; have r2' := r2.below hb3; have hm3 := hm2.below hb3; have hB3 := below_step hB2 hb3)
      | (go_at_call 11; refine (same_self _ _ L _ r3 r2' (by omega)).mono ?_; rintro e w4 ⟨rfl, hb4⟩; have hm4 := hm3.below hb4; have hB4 := below_step hB3 hb4)
      | (go_at_call 8; refine (alive_any m _ hm4).mono ?_; rintro e w5 ⟨rfl, hb5⟩; have hB5 := below_step hB4 hb5))
    go_ret
    exact ⟨rfl, hB5⟩
  · go_enter Tryd.func3, Tryd.ntmps3
    go_wp2_with (go_at_call 8; refine (alive_any m _ hm).mono ?_; rintro e w5 ⟨rfl, hb5⟩)
    go_ret
    exact ⟨rfl, hb5⟩
end Go.Proofs.YtblbcdofiheikaaDoor
