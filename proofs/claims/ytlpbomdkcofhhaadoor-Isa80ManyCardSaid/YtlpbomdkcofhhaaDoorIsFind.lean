/- What the program's Find answers at a documented opcode's own form: that opcode; the program's tables hold what its text says. -/
import Derived.Test.YtlpbomdkcofhhaaDoorIsOut
import Derived.Test.YtlpbomdkcofhhaaDoorIsSame
import Derived.Test.YtlpbomdkcofhhaaDoorIsInj
namespace Go.Proofs.YtlpbomdkcofhhaaDoor
open Go.RowKit

set_option maxHeartbeats 4000000 in
theorem find_own (op : Nat) (h : op < 256) (hd : (formL op).1 ≠ []) (v : Value) (w : World) (hv : TextR w v (formL op).2) (hT : Tabs w) : Calls Tryd.prog 28 #[.string ⟨(formL op).1.toArray⟩, v] w fun e w' => e = .returned (.tuple #[.int .u8 (op : Nat), .bool true]) ∧ Below w.heap.size w w' := by
  have HI : ∀ k, k < 256 → k ≠ op → (formL k).1 = (formL op).1 → (formL k).2 ≠ (formL op).2 := fun k hk hne e1 e2 => hne (form_inj hk h (Prod.ext e1 e2) (by rw [e1]; exact hd))
  have HF := Lib.hid (fun k hk w hT => of_any k hk w hT)
  have HO := Lib.hid (fun k hk b w hb => operands_any b (formL k) (size_form hk).2.1 w hb)
  have HS := Lib.hid (fun k hk va w ha hb => same_any (formL k).2 (formL op).2 (Nat.le_trans (size_form hk).2.1 (by decide)) va v w ha hb)
  have HV := Lib.hid hv
  have HT := Lib.hid hT
  have HII := Lib.hid HI
  have hne := isEmpty_mk hd
  clear hv hT HI hd
  generalize hg : (formL op).1 = g at hne HII ⊢
  have HG := Lib.hid hg
  clear hg
  go_enter Tryd.func28, Tryd.ntmps28
  go_wp2
  go_loopw [6, 7, 10] (fun _ _ i wr => ∃ k : Nat, k ≤ op ∧ i = .int .i64 k ∧ Hid (Below w.heap.size w wr)) (fun _ _ i _ => op - (intOf i).toNat)
  case atStart => exact ⟨0, Nat.zero_le _, rfl, Lib.hid (Below.refl _ _)⟩
  case round =>
    obtain ⟨k, hk, rfl, HB⟩ := hrel
    have hk256 : k < 256 := by omega
    have HF' := Lib.hid (HF.out k hk256 wr (HT.out.below HB.out))
    have HO' := Lib.hid (HO.out k hk256)
    have HS' := Lib.hid (HS.out k hk256)
    have HTf := Lib.hid (fun b w hb => textR_form (b := b) (f := formL k) (size_form hk256).2.1 (w := w) hb)
    have hlt : decide ((k : Int) < 256) = true := decide_eq_true (by omega)
    by_cases hn : (formL k).1 = g
    · by_cases hko : k = op
      · subst hko
        rw [decide_eq_true (rfl : (formL k).2 = (formL k).2)] at HS'
        clear HII HF HO HS
        generalize formL k = f at HF' HO' HS' HTf hn HV HG
        have hgg : (g == g) = true := by simp
        subst hn
        unfold formV at HF'
        go_wp2_with (first
          | (go_at_call 29; refine HF'.out.mono ?_; rintro _ w1 ⟨rfl, hb1⟩; have HB1 := Lib.hid (below_step HB.out hb1); clear hb1)
          | (go_at_call 32; refine (HO'.out _ _ (at_new w1 _)).mono ?_; rintro _ w2 ⟨rfl, hb2⟩; have HR2 := Lib.hid ((HTf.out _ _ (at_new w1 _)).below hb2); have HB2 := Lib.hid (below_step (HB1.out.alloc HB1.out.size _) hb2); clear hb2)
          | (go_at_call 36; refine (HS'.out _ _ HR2.out (HV.out.below HB2.out)).mono ?_; rintro _ w3 ⟨rfl, hb3⟩; have HB3 := Lib.hid (below_step HB2.out hb3); clear hb3))
        go_ret2
        exact ⟨rfl, HB3.out⟩
      · have hne2 := HII.out k hk256 hko hn
        rw [decide_eq_false hne2] at HS'
        clear HII HF HO HS hne2
        generalize formL k = f at HF' HO' HS' HTf hn
        have hgg : (g == g) = true := by simp
        subst hn
        unfold formV at HF'
        go_wp2_with (first
          | (go_at_call 29; refine HF'.out.mono ?_; rintro _ w1 ⟨rfl, hb1⟩; have HB1 := Lib.hid (below_step HB.out hb1); clear hb1)
          | (go_at_call 32; refine (HO'.out _ _ (at_new w1 _)).mono ?_; rintro _ w2 ⟨rfl, hb2⟩; have HR2 := Lib.hid ((HTf.out _ _ (at_new w1 _)).below hb2); have HB2 := Lib.hid (below_step (HB1.out.alloc HB1.out.size _) hb2); clear hb2)
          | (go_at_call 36; refine (HS'.out _ _ HR2.out (HV.out.below HB2.out)).mono ?_; rintro _ w3 ⟨rfl, hb3⟩; have HB3 := Lib.hid (below_step HB2.out hb3); clear hb3))
        go_roundw
        case rel => exact ⟨k + 1, by omega, by go_num, HB3⟩
        case measure => simp [intOf]; omega
    · have hkl : k < op := by
        rcases Nat.lt_or_ge k op with hx | hx
        · exact hx
        · have : k = op := by omega
          subst this
          exact absurd HG.out hn
      clear HII HF HO HS HO' HS' HTf
      generalize formL k = f at HF' hn
      have hfg : (f.1 == g) = false := by rw [beq_eq_false_iff_ne]; exact hn
      unfold formV at HF'
      generalize f.1 = fn at HF' hn hfg
      go_wp2_with (go_at_call 29; refine HF'.out.mono ?_; rintro _ w1 ⟨rfl, hb1⟩; have HB1 := Lib.hid (below_step HB.out hb1); clear hb1)
      go_roundw
      case rel => exact ⟨k + 1, by omega, by go_num, Lib.hid (HB1.out.alloc HB1.out.size _)⟩
      case measure => simp [intOf]; omega
end Go.Proofs.YtlpbomdkcofhhaaDoor
