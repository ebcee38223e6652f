/- What the program's Find of Zilog's mnemonics answers at a documented opcode's own form: that opcode; the program's tables hold what its text says. -/
import Derived.Test.YtlindlmcojmhcaaDoorZpArgs
import Derived.Test.YtlindlmcojmhcaaDoorZpEq
namespace Go.Proofs.YtlindlmcojmhcaaDoor
open Go.RowKit

theorem wrap_u8 {z : Int} (h0 : 0 ≤ z) (h1 : z < 256) : IntKind.u8.wrap z = z := by
  have e1 : IntKind.u8.signed = false := rfl
  have e2 : IntKind.u8.bits = 8 := rfl
  simp only [IntKind.wrap, e1, e2]
  simp
  omega
theorem wrap8 {k : Nat} (h : k < 256) : IntKind.u8.wrap (k : Int) = (k : Int) := wrap_u8 (by omega) (by omega)
set_option maxHeartbeats 4000000 in
theorem zfind_own (op : Nat) (h : op < 256) (hd : (zfmL op).1 ≠ []) (v : Value) (w : World) (hv : TextR w v (zfmL op).2) (hT : Tabs w) : Calls Tryd.prog 20 #[.string ⟨(zfmL op).1.toArray⟩, v] w fun e w' => e = .returned (.tuple #[.int .u8 (op : Nat), .bool true]) ∧ Below w.heap.size w w' := by
  have HI : ∀ k, k < 256 → k ≠ op → (zfmL k).1 = (zfmL op).1 → (zfmL k).2 ≠ (zfmL op).2 := fun k hk hne e1 e2 => hne (zform_inj hk h (Prod.ext e1 e2) (by rw [e1]; exact hd))
  have HF := Lib.hid (fun k hk w hT => zname_any k hk w hT)
  have HA := Lib.hid (fun k hk w hT => zargs_any k hk w hT)
  have HS := Lib.hid (fun k hk va w ha hb => equal_any (zfmL k).2 (zfmL op).2 (Nat.le_trans (zboth hk).2.2.1 (by decide)) va v w ha hb)
  have HV := Lib.hid hv
  have HT := Lib.hid hT
  have HII := Lib.hid HI
  have hne := isEmpty_mk hd
  clear hv hT HI hd
  generalize hg : (zfmL op).1 = g at hne HII ⊢
  have HG := Lib.hid hg
  clear hg
  go_enter Tryd.func20, Tryd.ntmps20
  go_wp2
  go_loopw [6, 7, 10] (fun _ _ i wr => ∃ k : Nat, k ≤ op ∧ i = .int .i64 k ∧ Hid (Below w.heap.size w wr)) (fun _ _ i _ => op - (intOf i).toNat)
  case atStart => exact ⟨0, Nat.zero_le _, rfl, Lib.hid (Below.refl _ _)⟩
  case round =>
    obtain ⟨k, hk, rfl, HB⟩ := hrel
    have hk256 : k < 256 := by omega
    have HF' := Lib.hid (HF.out k hk256 wr (HT.out.below HB.out))
    have HA' := Lib.hid (HA.out k hk256)
    have HS' := Lib.hid (HS.out k hk256)
    have hlt : decide ((k : Int) < 256) = true := decide_eq_true (by omega)
    have hw8 := wrap8 hk256
    by_cases hn : (zfmL k).1 = g
    · by_cases hko : k = op
      · subst hko
        rw [decide_eq_true (rfl : (zfmL k).2 = (zfmL k).2)] at HS'
        clear HII HF HA HS
        generalize zfmL k = f at HF' HA' HS' hn HV HG
        have hgg : (g == g) = true := by simp
        subst hn
        go_wp2_with (first
          | (go_at_call 8; refine HF'.out.mono ?_; rintro _ w1 ⟨rfl, hb1⟩; have HB1 := Lib.hid (below_step HB.out hb1); clear hb1)
          | (go_at_call 11; refine (HA'.out _ (HT.out.below HB1.out)).mono ?_; rintro _ w2 ⟨v2, rfl, ht2, hb2⟩; have HR2 := Lib.hid ht2; have HB2 := Lib.hid (below_step HB1.out hb2); clear ht2 hb2)
          | (go_at_call 40; refine (HS'.out _ _ HR2.out (HV.out.below HB2.out)).mono ?_; rintro _ w3 ⟨rfl, hb3⟩; have HB3 := Lib.hid (below_step HB2.out hb3); clear hb3))
        go_ret2
        exact ⟨rfl, HB3.out⟩
      · have hne2 := HII.out k hk256 hko hn
        rw [decide_eq_false hne2] at HS'
        clear HII HF HA HS hne2
        generalize zfmL k = f at HF' HA' HS' hn
        have hgg : (g == g) = true := by simp
        subst hn
        go_wp2_with (first
          | (go_at_call 8; refine HF'.out.mono ?_; rintro _ w1 ⟨rfl, hb1⟩; have HB1 := Lib.hid (below_step HB.out hb1); clear hb1)
          | (go_at_call 11; refine (HA'.out _ (HT.out.below HB1.out)).mono ?_; rintro _ w2 ⟨v2, rfl, ht2, hb2⟩; have HR2 := Lib.hid ht2; have HB2 := Lib.hid (below_step HB1.out hb2); clear ht2 hb2)
          | (go_at_call 40; refine (HS'.out _ _ HR2.out (HV.out.below HB2.out)).mono ?_; rintro _ w3 ⟨rfl, hb3⟩; have HB3 := Lib.hid (below_step HB2.out hb3); clear hb3))
        go_roundw
        case rel => exact ⟨k + 1, by omega, by go_num, HB3⟩
        case measure => simp [intOf]; omega
    · have hkl : k < op := by
        rcases Nat.lt_or_ge k op with hx | hx
        · exact hx
        · have : k = op := by omega
          subst this
          exact absurd HG.out hn
      clear HII HF HA HS HA' HS'
      generalize zfmL k = f at HF' hn
      have hfg : (f.1 == g) = false := by rw [beq_eq_false_iff_ne]; exact hn
      generalize f.1 = fn at HF' hn hfg
      go_wp2_with (go_at_call 8; refine HF'.out.mono ?_; rintro _ w1 ⟨rfl, hb1⟩; have HB1 := Lib.hid (below_step HB.out hb1); clear hb1)
      go_roundw
      case rel => exact ⟨k + 1, by omega, by go_num, HB1⟩
      case measure => simp [intOf]; omega
end Go.Proofs.YtlindlmcojmhcaaDoor
