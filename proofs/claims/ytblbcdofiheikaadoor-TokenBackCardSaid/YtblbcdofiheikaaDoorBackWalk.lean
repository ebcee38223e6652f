/- TokenBack, walked: whatever the line, it returns true; the library's longest text is set and its table of bits laid. -/
import Derived.Test.YtblbcdofiheikaaDoorShow
import Derived.Test.YtblbcdofiheikaaDoorSpacesWalk
namespace Go.Proofs.YtblbcdofiheikaaDoor
open Go.RowKit Go.Proofs.NumMath

theorem lineV_none (s : List UInt8) (h : lineK s ≠ 0) : lineV s = [] := by
  by_cases hs : s.length ≤ 200
  · cases e : lineT s with
    | error k => exact (lineL_err s hs k e).2
    | ok v => exact absurd (lineL_ok s hs v e).1 h
  · exact (lineL_long s hs).2
theorem lineK_short (s : List UInt8) (h : lineK s = 0) : s.length ≤ 200 := by
  apply Classical.byContradiction
  intro hs
  rw [(lineL_long s hs).1] at h
  cases h

set_option maxRecDepth 100000 in
set_option maxHeartbeats 4000000 in
theorem tokenBack_walk (s : ByteArray) (hs : s.size ≤ 9223372036854775807) (m : Int) (w : World) (hT : Tab16 w) (hm : MaxAt w m) : Calls Tryd.prog 4 #[.string s] w fun e w' => e = .returned (.bool true) ∧ Below w.heap.size w w' := by
  by_cases h2000 : s.size ≤ 2000
  · have h1 := fun W h => line_any s hs m W h
    have hl := lineV_len s.data.toList
    by_cases hK : lineK s.data.toList = 0
    · have hL := lineT_of _ (lineK_short _ hK) hK
      have hgood := lineV_good s.data.toList
      obtain ⟨L, hLL⟩ : ∃ L, lineV s.data.toList = L := ⟨_, rfl⟩
      rw [hLL] at hl hL hgood h1
      rw [hK] at h1
      have hback := line_back _ _ hL
      have hlen := showT_len L hgood
      have h2 := fun W h => line_any ⟨(showT L).toArray⟩ (by rw [size_mk]; omega) m W h
      have hS := fun (v : Value) W h hm hT => tshow_any v L hgood hl m W h hm hT
      rw [show (⟨(showT L).toArray⟩ : ByteArray).data.toList = showT L from rfl] at h2
      have hts := size_mk (showT L)
      by_cases h200 : (showT L).length ≤ 200
      · obtain ⟨e1, e2⟩ := lineL_ok (showT L) h200 L hback
        rw [e1, e2] at h2
        obtain ⟨T, hTT⟩ : ∃ T : ByteArray, (⟨(showT L).toArray⟩ : ByteArray) = T := ⟨_, rfl⟩
        rw [hTT] at h2 hS hts
        have hT2 : T.size ≤ 200 := by omega
        clear hTT hts e1 e2 hback hlen hgood hLL hL hK h200
        go_enter Tryd.func4, Tryd.ntmps4
        go_wp2_with (first
          | (go_at_call 9; (with_reducible refine (h1 _ hm).mono ?_); rintro e w1 ⟨v1, rfl, hown1, hb1⟩; have r1 := tokR_of_own hown1 rfl; have hm1 := hm.below hb1; have hT1 := hT.below hb1)
          | (go_at_call 13; (with_reducible refine (hS v1 w1 r1 hm1 hT1).mono ?_); rintro e w2 ⟨rfl, hb2⟩; have r1' := r1.below hb2; have hm2 := hm1.below hb2; have hB2 := below_step hb1 hb2)
          | (go_at_call 9; (with_reducible refine (h2 _ hm2).mono ?_); rintro e w3 ⟨v3, rfl, hown3, hb3⟩; have r3 := tokR_of_own hown3 rfl; have r1'' := r1'.below hb3; have hm3 := hm2.below hb3; have hB3 := below_step hB2 hb3)
          | (go_at_call 12; (with_reducible refine (back_any v1 L w3 r1'' (by omega)).mono ?_); rintro e w4 ⟨v4, rfl, hown4, hb4⟩; have r4 := tokR_of_own hown4 rfl; have r3' := r3.below hb4; have hm4 := hm3.below hb4; have hB4 := below_step hB3 hb4)
          | (go_at_call 12; (with_reducible refine (back_any v3 L w4 r3' (by omega)).mono ?_); rintro e w5 ⟨v5, rfl, hown5, hb5⟩; have r5 := tokR_of_own hown5 rfl; have r4' := r4.below hb5; have hm5 := hm4.below hb5; have hB5 := below_step hB4 hb5)
          | (go_at_call 11; (with_reducible refine (same_self v4 v5 L w5 r4' r5 (by omega)).mono ?_); rintro e w6 ⟨rfl, hb6⟩; have hm6 := hm5.below hb6; have hB6 := below_step hB5 hb6)
          | (go_at_call 8; refine (alive_any m _ hm6).mono ?_; rintro e w7 ⟨rfl, hb7⟩; have hB7 := below_step hB6 hb7))
        go_ret
        exact ⟨rfl, hB7⟩
      · obtain ⟨e1, e2⟩ := lineL_long (showT L) h200
        rw [e1, e2] at h2
        obtain ⟨T, hTT⟩ : ∃ T : ByteArray, (⟨(showT L).toArray⟩ : ByteArray) = T := ⟨_, rfl⟩
        rw [hTT] at h2 hS hts
        have hT2 : ¬ T.size ≤ 200 := by omega
        clear hTT hts e1 e2 hback hlen hgood hLL hL hK h200
        go_enter Tryd.func4, Tryd.ntmps4
        go_wp2_with (first
          | (go_at_call 9; (with_reducible refine (h1 _ hm).mono ?_); rintro e w1 ⟨v1, rfl, hown1, hb1⟩; have r1 := tokR_of_own hown1 rfl; have hm1 := hm.below hb1; have hT1 := hT.below hb1)
          | (go_at_call 13; (with_reducible refine (hS v1 w1 r1 hm1 hT1).mono ?_); rintro e w2 ⟨rfl, hb2⟩; have hm2 := hm1.below hb2; have hB2 := below_step hb1 hb2)
          | (go_at_call 9; (with_reducible refine (h2 _ hm2).mono ?_); rintro e w3 ⟨v3, rfl, _, hb3⟩; have hm3 := hm2.below hb3; have hB3 := below_step hB2 hb3)
          | (go_at_call 8; refine (alive_any m _ hm3).mono ?_; rintro e w7 ⟨rfl, hb7⟩; have hB7 := below_step hB3 hb7))
        go_ret
        exact ⟨rfl, hB7⟩
    · have hLL := lineV_none _ hK
      rw [hLL] at h1
      obtain ⟨K, hKK⟩ : ∃ K, lineK s.data.toList = K := ⟨_, rfl⟩
      rw [hKK] at h1 hK
      have hKn : ((K : Int) != 0) = true := by simp; omega
      clear hLL hKK hl
      have h1' : ∀ W (h : MaxAt W m), Calls Tryd.prog 9 #[.string s] W fun e w' => ∃ sp c, e = .returned (.tuple #[.slice sp 0 c, .int .i64 (K : Nat)]) ∧ Below W.heap.size W w' := fun W h => (h1 W h).mono fun e w' ⟨v, he, hown, hb⟩ => by
        obtain ⟨sp, c, rfl⟩ := own_slice hown
        exact ⟨sp, c, he, hb⟩
      clear h1
      go_enter Tryd.func4, Tryd.ntmps4
      go_wp2_with (first
        | (go_at_call 9; (with_reducible refine (h1' _ hm).mono ?_); rintro e w1 ⟨sp, c, rfl, hb1⟩; have hm1 := hm.below hb1)
        | (go_at_call 8; refine (alive_any m _ hm1).mono ?_; rintro e w7 ⟨rfl, hb7⟩; have hB7 := below_step hb1 hb7))
      go_ret
      exact ⟨rfl, hB7⟩
  · go_enter Tryd.func4, Tryd.ntmps4
    go_wp2_with (go_at_call 8; refine (alive_any m _ hm).mono ?_; rintro e w5 ⟨rfl, hb5⟩)
    go_ret
    exact ⟨rfl, hb5⟩
end Go.Proofs.YtblbcdofiheikaaDoor
