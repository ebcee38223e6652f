/- What the program's Reserved answers: whether a dialect keeps a word; no condition. -/
import Derived.Test.YtlindlmcojmhcaaDoorZpRes
namespace Go.Proofs.YtlindlmcojmhcaaDoor
open Go.RowKit

set_option maxHeartbeats 4000000 in
theorem preserved_any (d : Int) (s : List UInt8) (w : World) : Calls Tryd.prog 16 #[.int .i64 d, .string ⟨s.toArray⟩] w fun e w' => e = .returned (.bool (resL d s)) ∧ Below w.heap.size w w' := by
  have HA := Lib.hid (fun w => list34_any w)
  have HAH := Lib.hid (fun v w hv => has_any32 s (wordsL allT) (by decide) v w hv)
  have hm : ∀ (w : World) (x : Value), (method 142 46 (.agg #[x]) "pidgin/zilog.has").run Tryd.prog w = .ok (32, x) w := fun w x => by kernel_rfl
  unfold resL resT
  by_cases h0 : d = 0
  · subst h0
    rw [if_pos rfl]
    have HL := Lib.hid (fun w => list33_any w)
    have HH := Lib.hid (fun v w hv => has_any32 s (wordsL intelT) (by decide) v w hv)
    generalize decide (s ∈ wordsL allT) = qa at HAH ⊢
    generalize decide (s ∈ wordsL intelT) = qt at HH ⊢
    cases qt
    · cases qa <;>
      · go_enter Tryd.func16, Tryd.ntmps16
        go_wp2_with (first
          | (go_at_call 33; refine (HL.out _).mono ?_; rintro _ w1 ⟨v1, rfl, ht1, hb1⟩; have HT1 := Lib.hid ht1; have HB1 := Lib.hid hb1; clear hb1 ht1 HL)
          | (go_at_call 34; refine (HA.out _).mono ?_; rintro _ w2 ⟨v2, rfl, ht2, hb2⟩; have HT2 := Lib.hid ht2; have HB2 := Lib.hid (zbelow_step HB1.out hb2); clear hb2 ht2 HA)
          | (go_at_call 32; refine (HH.out _ _ HT1.out).mono ?_; rintro _ _ ⟨rfl, rfl⟩; clear HH)
          | (go_at_call 32; refine (HAH.out _ _ HT2.out).mono ?_; rintro _ _ ⟨rfl, rfl⟩; clear HAH))
        go_ret
        exact ⟨rfl, HB2.out⟩
    · go_enter Tryd.func16, Tryd.ntmps16
      go_wp2_with (first
        | (go_at_call 33; refine (HL.out _).mono ?_; rintro _ w1 ⟨v1, rfl, ht1, hb1⟩; have HT1 := Lib.hid ht1; have HB1 := Lib.hid hb1; clear hb1 ht1 HL)
        | (go_at_call 32; refine (HH.out _ _ HT1.out).mono ?_; rintro _ _ ⟨rfl, rfl⟩; clear HH))
      go_ret
      exact ⟨by simp, HB1.out⟩
  rw [if_neg h0]
  have b0 : (d == 0) = false := by rw [beq_eq_false_iff_ne]; exact h0
  by_cases h1 : d = 1
  · subst h1
    rw [if_pos rfl]
    have HL := Lib.hid (fun w => list35_any w)
    have HH := Lib.hid (fun v w hv => has_any32 s (wordsL zilogT) (by decide) v w hv)
    generalize decide (s ∈ wordsL allT) = qa at HAH ⊢
    generalize decide (s ∈ wordsL zilogT) = qt at HH ⊢
    cases qt
    · cases qa <;>
      · go_enter Tryd.func16, Tryd.ntmps16
        go_wp2_with (first
          | (go_at_call 35; refine (HL.out _).mono ?_; rintro _ w1 ⟨v1, rfl, ht1, hb1⟩; have HT1 := Lib.hid ht1; have HB1 := Lib.hid hb1; clear hb1 ht1 HL)
          | (go_at_call 34; refine (HA.out _).mono ?_; rintro _ w2 ⟨v2, rfl, ht2, hb2⟩; have HT2 := Lib.hid ht2; have HB2 := Lib.hid (zbelow_step HB1.out hb2); clear hb2 ht2 HA)
          | (go_at_call 32; refine (HH.out _ _ HT1.out).mono ?_; rintro _ _ ⟨rfl, rfl⟩; clear HH)
          | (go_at_call 32; refine (HAH.out _ _ HT2.out).mono ?_; rintro _ _ ⟨rfl, rfl⟩; clear HAH))
        go_ret
        exact ⟨rfl, HB2.out⟩
    · go_enter Tryd.func16, Tryd.ntmps16
      go_wp2_with (first
        | (go_at_call 35; refine (HL.out _).mono ?_; rintro _ w1 ⟨v1, rfl, ht1, hb1⟩; have HT1 := Lib.hid ht1; have HB1 := Lib.hid hb1; clear hb1 ht1 HL)
        | (go_at_call 32; refine (HH.out _ _ HT1.out).mono ?_; rintro _ _ ⟨rfl, rfl⟩; clear HH))
      go_ret
      exact ⟨by simp, HB1.out⟩
  rw [if_neg h1]
  have b1 : (d == 1) = false := by rw [beq_eq_false_iff_ne]; exact h1
  by_cases h2 : d = 2
  · subst h2
    rw [if_pos rfl]
    have HL := Lib.hid (fun w => list36_any w)
    have HH := Lib.hid (fun v w hv => has_any32 s (wordsL eightT) (by decide) v w hv)
    generalize decide (s ∈ wordsL allT) = qa at HAH ⊢
    generalize decide (s ∈ wordsL eightT) = qt at HH ⊢
    cases qt
    · cases qa <;>
      · go_enter Tryd.func16, Tryd.ntmps16
        go_wp2_with (first
          | (go_at_call 36; refine (HL.out _).mono ?_; rintro _ w1 ⟨v1, rfl, ht1, hb1⟩; have HT1 := Lib.hid ht1; have HB1 := Lib.hid hb1; clear hb1 ht1 HL)
          | (go_at_call 34; refine (HA.out _).mono ?_; rintro _ w2 ⟨v2, rfl, ht2, hb2⟩; have HT2 := Lib.hid ht2; have HB2 := Lib.hid (zbelow_step HB1.out hb2); clear hb2 ht2 HA)
          | (go_at_call 32; refine (HH.out _ _ HT1.out).mono ?_; rintro _ _ ⟨rfl, rfl⟩; clear HH)
          | (go_at_call 32; refine (HAH.out _ _ HT2.out).mono ?_; rintro _ _ ⟨rfl, rfl⟩; clear HAH))
        go_ret
        exact ⟨rfl, HB2.out⟩
    · go_enter Tryd.func16, Tryd.ntmps16
      go_wp2_with (first
        | (go_at_call 36; refine (HL.out _).mono ?_; rintro _ w1 ⟨v1, rfl, ht1, hb1⟩; have HT1 := Lib.hid ht1; have HB1 := Lib.hid hb1; clear hb1 ht1 HL)
        | (go_at_call 32; refine (HH.out _ _ HT1.out).mono ?_; rintro _ _ ⟨rfl, rfl⟩; clear HH))
      go_ret
      exact ⟨by simp, HB1.out⟩
  rw [if_neg h2]
  have b2 : (d == 2) = false := by rw [beq_eq_false_iff_ne]; exact h2
  go_enter Tryd.func16, Tryd.ntmps16
  go_wp2
  go_ret
  exact ⟨rfl, Below.refl _ _⟩
end Go.Proofs.YtlindlmcojmhcaaDoor
