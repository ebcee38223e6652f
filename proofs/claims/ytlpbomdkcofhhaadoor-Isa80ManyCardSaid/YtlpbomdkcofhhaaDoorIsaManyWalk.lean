/- The walk of Isa80Many: it answers true from any opcode on; the program's tables hold what its text says. -/
import Derived.Test.YtlpbomdkcofhhaaDoorIsFind
import Derived.Test.YtlpbomdkcofhhaaDoorIsaCount
import Derived.Test.YtlpbomdkcofhhaaDoorIsAlive
namespace Go.Proofs.YtlpbomdkcofhhaaDoor
open Go.RowKit

theorem docsFrom_le (a : Nat) : ∀ n, docsFrom a n ≤ n
  | 0 => Nat.le_refl _
  | n + 1 => by
    have := docsFrom_le a n
    unfold docsFrom
    split <;> omega
theorem size_zero (f : Fm) : sizeF f = 0 ↔ f.1 = [] := by
  unfold sizeF
  by_cases h : f.1 = []
  · simp [h]
  · rw [if_neg h]
    by_cases h1 : d16L ∈ f.2
    · rw [if_pos h1]; simp [h]
    · rw [if_neg h1]
      by_cases h2 : d8L ∈ f.2
      · rw [if_pos h2]; simp [h]
      · rw [if_neg h2]; simp [h]
set_option maxRecDepth 100000 in
set_option maxHeartbeats 4000000 in
theorem isa80Many_walk (a : Nat) (_ha : a < 256) (w : World) (hT : Tabs w) : Calls Tryd.prog 7 #[.int .u8 a] w fun e w' => e = .returned (.bool true) ∧ Below w.heap.size w w' := by
  have HA := Lib.hid (fun w hT => alive_any w hT)
  have HT := Lib.hid hT
  clear hT
  go_enter Tryd.func7, Tryd.ntmps7
  go_wp2
  go_loopw [3, 4, 5, 6, 7] (fun n i _ _ _ wr => ∃ k m : Nat, k ≤ 256 ∧ m ≤ k ∧ i = .int .i64 k ∧ n = .int .i64 m ∧ Hid (m = docsFrom a k) ∧ Hid (Below w.heap.size w wr)) (fun _ i _ _ _ _ => 256 - (intOf i).toNat)
  case atStart => exact ⟨0, 0, by omega, Nat.le_refl _, rfl, rfl, Lib.hid rfl, Lib.hid (Below.refl _ _)⟩
  case round =>
    obtain ⟨k, m, hk, hmk, rfl, rfl, HM, HB⟩ := hrel
    by_cases hlt : k < 256
    · obtain ⟨op, hop⟩ : ∃ op, (k + a) % 256 = op := ⟨_, rfl⟩
      have h : op < 256 := by omega
      have hopz : ((k : Int) + (a : Int)) % 256 = (op : Int) := by omega
      have HOP := Lib.hid hop
      have H1 := Lib.hid (fun w hT => size_any op h w hT)
      have H2 := Lib.hid (fun w hT => name_any op h w hT)
      have H3 := Lib.hid (fun w hT => args_any op h w hT)
      by_cases hd : (formL op).1 = []
      · have e0 := (size_zero _).2 hd
        have e2 := (size_form h).2.2.2.2 hd
        rw [e0] at H1
        rw [hd] at H2
        rw [e2] at H3
        have HD := Lib.hid hd
        clear e0 e2 hd hop
        go_wp2_with (first
          | (go_at_call 14; refine (H1.out _ (HT.out.below HB.out)).mono ?_; rintro _ w1 ⟨rfl, hb1⟩; have B1 := Lib.hid (below_step HB.out hb1); clear hb1)
          | (go_at_call 9; refine (H2.out _ (HT.out.below B1.out)).mono ?_; rintro _ w2 ⟨rfl, hb1⟩; have B2 := Lib.hid (below_step B1.out hb1); clear hb1)
          | (go_at_call 12; refine (H3.out _ (HT.out.below B2.out)).mono ?_; rintro _ w3 ⟨v, rfl, ⟨b, o, sp, c, rfl, _, _, _⟩, hb1⟩; have B3 := Lib.hid (below_step B2.out hb1); clear hb1))
        exact ⟨⟨k + 1, m, by omega, by omega, by go_num, rfl, Lib.hid (by unfold docsFrom; rw [HOP.out, if_pos HD.out]; exact HM.out), B3⟩, by simp [intOf]; omega⟩
      · have e0 : sizeF (formL op) ≠ 0 := fun e => hd ((size_zero _).1 e)
        have HFd := Lib.hid (fun v w hv hT => find_own op h hd v w hv hT)
        have HD := Lib.hid hd
        have hs3 := (size_form h).2.2.1
        generalize sizeF (formL op) = s at H1 e0 hs3
        have hb : ((s : Int) == 0) = false := by rw [beq_eq_false_iff_ne]; omega
        clear hd hop
        go_wp2_with (first
          | (go_at_call 14; refine (H1.out _ (HT.out.below HB.out)).mono ?_; rintro _ w1 ⟨rfl, hb1⟩; have B1 := Lib.hid (below_step HB.out hb1); clear hb1)
          | (go_at_call 9; refine (H2.out _ (HT.out.below B1.out)).mono ?_; rintro _ w2 ⟨rfl, hb1⟩; have B2 := Lib.hid (below_step B1.out hb1); clear hb1)
          | (go_at_call 12; refine (H3.out _ (HT.out.below B2.out)).mono ?_; rintro _ w3 ⟨v, rfl, hR, hb1⟩; have R3 := Lib.hid hR; have B3 := Lib.hid (below_step B2.out hb1); clear hb1 hR)
          | (go_at_call 28; refine (HFd.out _ _ R3.out (HT.out.below B3.out)).mono ?_; rintro _ w4 ⟨rfl, hb1⟩; have B4 := Lib.hid (below_step B3.out hb1); clear hb1))
        exact ⟨⟨k + 1, m + 1, by omega, by omega, by go_num, by go_num, Lib.hid (by unfold docsFrom; rw [HOP.out, if_neg HD.out, ← HM.out]), B4⟩, by simp [intOf]; omega⟩
    · obtain rfl : k = 256 := by omega
      have e := HM.out
      rw [docs_all] at e
      subst e
      go_wp2_with (go_at_call 16; refine (HA.out _ (HT.out.below HB.out)).mono ?_; rintro _ w8 ⟨rfl, hb1⟩; have B8 := Lib.hid (below_step HB.out hb1); clear hb1)
      go_ret
      exact ⟨rfl, B8.out⟩
end Go.Proofs.YtlpbomdkcofhhaaDoor
