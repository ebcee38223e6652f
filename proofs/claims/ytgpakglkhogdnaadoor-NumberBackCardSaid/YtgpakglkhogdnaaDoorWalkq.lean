/- The laws NumberQuotes and NumberBack answer true, whatever they are given, and let all stand that was there; where the library's table of bits is laid, and its variable MaxLen holds a number. -/
import Derived.Test.YtgpakglkhogdnaaDoorRunq
namespace Go.Proofs.YtgpakglkhogdnaaDoor
open Go.RowKit Go.Proofs.NumMath

set_option maxHeartbeats 2000000 in
theorem walkQuotes (s : ByteArray) (ws : s.size ≤ 9223372036854775807) (w : World) (hT : Tab16 w) (m : Int) (hM : MaxAt w m) : Calls Tryd.prog 5 #[.string s] w fun e w' => e = .returned (.bool true) ∧ Below w.heap.size w w' := by
  by_cases hbig : 1000 < s.size
  · go_enter Tryd.func5, Tryd.ntmps5
    go_wp2_with (go_at_call 10; refine (alive_any _ hT).mono ?_; rintro e w1 ⟨rfl, hb1⟩)
    go_ret
    exact ⟨rfl, hb1⟩
  · have hu := unq_any s (by omega) m w hM
    have hr := runq_any s (by omega)
    have hv := val_any s
    have hw := rval_any s
    have hq := quo_any s (by omega) m
    have hp := rquote_any s (by omega)
    obtain ⟨U, hU⟩ : ∃ U, unR (unqL s.data.toList) = U := ⟨_, rfl⟩
    obtain ⟨V, hV⟩ : ∃ V, valL s.data.toList = V := ⟨_, rfl⟩
    obtain ⟨Q, hQ⟩ : ∃ Q, quoteL s.data.toList = Q := ⟨_, rfl⟩
    rw [hU] at hu hr
    rw [hV] at hv hw
    rw [hQ] at hq hp
    clear hU hV hQ
    have hM' : ∀ w', Below w.heap.size w w' → MaxAt w' m := fun w' hb => hM.below hb
    go_enter Tryd.func5, Tryd.ntmps5
    go_wp2_with (first
      | (go_at_call 15; refine hu.mono ?_; rintro e w1 ⟨rfl, hc1⟩)
      | (go_at_call 16; refine (hr _).mono ?_; rintro e w2 ⟨rfl, hb2⟩; (have hc2 := below_two hc1 hb2); clear hb2)
      | (go_at_call 17; refine (hv _).mono ?_; rintro e w3 ⟨rfl, hb3⟩; (have hc3 := below_two hc2 hb3); clear hb3)
      | (go_at_call 18; refine (hw _).mono ?_; rintro e w4 ⟨rfl, hb4⟩; (have hc4 := below_two hc3 hb4); clear hb4)
      | (go_at_call 19; refine (hq _ (hM' _ hc4)).mono ?_; rintro e w5 ⟨rfl, hb5⟩; (have hc5 := below_two hc4 hb5); clear hb5)
      | (go_at_call 20; refine (hp _).mono ?_; rintro e w6 ⟨rfl, hb6⟩; (have hc6 := below_two hc5 hb6); clear hb6)
      | (go_at_call 10; refine (alive_any _ (hT.below hc6)).mono ?_; rintro e w7 ⟨rfl, hb7⟩; (have hc7 := below_two hc6 hb7); clear hb7))
    go_ret
    exact ⟨rfl, hc7⟩
theorem quo_size (l : List UInt8) : (⟨(quoteL l).toArray⟩ : ByteArray).size ≤ 2 * l.length + 2 := by
  rw [size_mk]
  have := quoL_len l
  unfold quoteL
  simp
  omega
theorem prt_take (s : ByteArray) (k : Nat) (h : k < s.size) : prt (s.data.toList.take (k + 1)) = (prt (s.data.toList.take k) && ok (s[k]'h)) := by
  rw [take_snoc s k h]
  unfold prt ok
  simp
set_option maxHeartbeats 2000000 in
theorem walkBack (s : ByteArray) (ws : s.size ≤ 9223372036854775807) (w : World) (hT : Tab16 w) (m : Int) (hM : MaxAt w m) : Calls Tryd.prog 8 #[.string s] w fun e w' => e = .returned (.bool true) ∧ Below w.heap.size w w' := by
  by_cases hbig : 1000 < s.size
  · go_enter Tryd.func8, Tryd.ntmps8
    go_wp2_with (go_at_call 10; refine (alive_any _ hT).mono ?_; rintro e w1 ⟨rfl, hb1⟩)
    go_ret
    exact ⟨rfl, hb1⟩
  · have hq := quo_any s (by omega) m w hM
    have hqs := quo_size s.data.toList
    rw [data_size] at hqs
    have hu := fun (w : World) (h : MaxAt w m) => unq_any ⟨(quoteL s.data.toList).toArray⟩ (by omega) m w h
    rw [show (⟨(quoteL s.data.toList).toArray⟩ : ByteArray).data.toList = quoteL s.data.toList by simp, unqL_quote] at hu
    obtain ⟨Q, hQ⟩ : ∃ Q, quoteL s.data.toList = Q := ⟨_, rfl⟩
    rw [hQ] at hq hu
    clear hQ hqs
    have hM' : ∀ w', Below w.heap.size w w' → MaxAt w' m := fun w' hb => hM.below hb
    go_enter Tryd.func8, Tryd.ntmps8
    go_wp2
    go_loop [3, 4] (fun r i => ∃ k : Nat, k ≤ s.size ∧ i = .int .i64 k ∧ r = .bool (prt (s.data.toList.take k))) (fun _ i => s.size - (intOf i).toNat)
    case atStart => exact ⟨0, by omega, rfl, rfl⟩
    case round =>
      obtain ⟨k, hk, rfl, rfl⟩ := hrel
      by_cases hlt : k < s.size
      · have hpt := prt_take s k hlt
        obtain ⟨c, hc⟩ : ∃ c, s[k]'hlt = c := ⟨_, rfl⟩
        rw [hc] at hpt
        have hc8 := c.toNat_lt
        obtain ⟨b, hb⟩ : ∃ b, prt (s.data.toList.take k) = b := ⟨_, rfl⟩
        rw [hb] at hpt ⊢
        have HP := Lib.hid hpt
        clear hpt hb
        cases b
        · go_wp2
          go_round
          case rel => exact ⟨k + 1, by omega, by go_num, by rw [HP.out]; rfl⟩
          case measure => simp [intOf]; omega
        · by_cases h1 : 32 ≤ c.toNat <;> by_cases h2 : c.toNat ≤ 126
          all_goals try (exfalso; omega)
          all_goals
            go_wp2
            go_round
            case rel => exact ⟨k + 1, by omega, by go_num, by rw [HP.out]; congr 1; rw [Bool.eq_iff_iff]; simp [ok]; try omega⟩
            case measure => simp [intOf]; omega
      · obtain rfl : k = s.size := by omega
        rw [show s.data.toList.take s.size = s.data.toList from List.take_of_length_le (by simp)]
        obtain ⟨b, hb⟩ : ∃ b, prt s.data.toList = b := ⟨_, rfl⟩
        rw [hb] at hu ⊢
        clear hb
        cases b
        · rw [if_neg (by simp)] at hu
          have hu : ∀ (w : World), MaxAt w m → Calls Tryd.prog 15 #[.string ⟨Q.toArray⟩] w fun e w' => e = .returned (.tuple #[.string ⟨#[]⟩, .int .i64 2]) ∧ Below w.heap.size w w' := hu
          go_wp2_with (first
            | (go_at_call 19; refine hq.mono ?_; rintro e w1 ⟨rfl, hc1⟩)
            | (go_at_call 15; refine (hu _ (hM' _ hc1)).mono ?_; rintro e w2 ⟨rfl, hb2⟩; (have hc2 := below_two hc1 hb2); clear hb2)
            | (go_at_call 10; refine (alive_any _ (hT.below hc2)).mono ?_; rintro e w3 ⟨rfl, hb3⟩; (have hc3 := below_two hc2 hb3); clear hb3))
          go_ret
          exact ⟨rfl, hc3⟩
        · rw [if_pos rfl] at hu
          have hu : ∀ (w : World), MaxAt w m → Calls Tryd.prog 15 #[.string ⟨Q.toArray⟩] w fun e w' => e = .returned (.tuple #[.string s, .int .i64 0]) ∧ Below w.heap.size w w' := fun w h => by
            have := hu w h
            rw [show (unR (some s.data.toList)).1.toArray = s.data by simp [unR]] at this
            exact this
          go_wp2_with (first
            | (go_at_call 19; refine hq.mono ?_; rintro e w1 ⟨rfl, hc1⟩)
            | (go_at_call 15; refine (hu _ (hM' _ hc1)).mono ?_; rintro e w2 ⟨rfl, hb2⟩; (have hc2 := below_two hc1 hb2); clear hb2)
            | (go_at_call 10; refine (alive_any _ (hT.below hc2)).mono ?_; rintro e w3 ⟨rfl, hb3⟩; (have hc3 := below_two hc2 hb3); clear hb3))
          go_ret
          exact ⟨rfl, hc3⟩
end Go.Proofs.YtgpakglkhogdnaaDoor
