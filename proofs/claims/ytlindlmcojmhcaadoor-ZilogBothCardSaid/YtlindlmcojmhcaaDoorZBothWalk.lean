/- ZilogBoth, walked: true for every opcode; the program's tables hold what its text says. -/
import Derived.Test.YtlindlmcojmhcaaDoorZpAlive
import Derived.Test.YtlindlmcojmhcaaDoorZpFind
namespace Go.Proofs.YtlindlmcojmhcaaDoor
open Go.RowKit

theorem sizeF_none {f : Fm} (h : f.1 = []) : sizeF f = 0 := by unfold sizeF; rw [if_pos h]
theorem sizeF_pos {f : Fm} (h : f.1 ≠ []) : 0 < sizeF f := by
  unfold sizeF
  rw [if_neg h]
  split
  · decide
  · split <;> decide
set_option maxRecDepth 4000 in
set_option maxHeartbeats 2000000 in
theorem zboth_none (op : Nat) (h : op < 256) (hd : (formL op).1 = []) (w : World) (hT : Tabs w) : Calls Tryd.prog 5 #[.int .u8 op] w fun e w' => e = .returned (.bool true) ∧ Below w.heap.size w w' := by
  have hz := (zboth h).1.2 hd
  have hz2 := zfm_nil hz
  have N1 := name_any op h w hT
  have Z1 := fun w hT => zname_any op h w hT
  have S1 := fun w hT => size_any op h w hT
  have A1 := fun w hT => zargs_any op h w hT
  rw [sizeF_none hd] at S1
  rw [hd] at N1
  rw [hz] at Z1
  rw [hz2] at A1
  have N1 := Lib.hid N1
  have Z1 := Lib.hid Z1
  have S1 := Lib.hid S1
  have A1 := Lib.hid A1
  have HA := Lib.hid (fun w hT => zalive_any w hT)
  have HT := Lib.hid hT
  clear hT hz hz2 hd
  go_enter Tryd.func5, Tryd.ntmps5
  go_wp2_with (first
    | (go_at_call 18; refine N1.out.mono ?_; rintro _ w1 ⟨rfl, hb⟩; have HB1 := Lib.hid hb; clear hb N1)
    | (go_at_call 8; refine (Z1.out _ (HT.out.below HB1.out)).mono ?_; rintro _ w2 ⟨rfl, hb⟩; have HB2 := Lib.hid (below_step HB1.out hb); clear hb Z1)
    | (go_at_call 19; refine (S1.out _ (HT.out.below HB2.out)).mono ?_; rintro _ w3 ⟨rfl, hb⟩; have HB3 := Lib.hid (below_step HB2.out hb); clear hb S1)
    | (go_at_call 11; refine (A1.out _ (HT.out.below HB3.out)).mono ?_; rintro _ w4 ⟨v4, rfl, ht, hb⟩; obtain ⟨b4, o4, sp4, c4, rfl, _, _, _⟩ := ht; have HB4 := Lib.hid (below_step HB3.out hb); clear hb A1)
    | (go_at_call 13; refine (HA.out _ (HT.out.below HB4.out)).mono ?_; rintro _ w5 ⟨rfl, hb⟩; have HB5 := Lib.hid (below_step HB4.out hb); clear hb))
  go_ret
  exact ⟨rfl, HB5.out⟩
theorem sizeZ_take {l : List (List UInt8)} {k : Nat} {x : List UInt8} (h : l[k]? = some x) : sizeZ (l.take (k + 1)) = if x = [110, 110] ∨ x = [40, 110, 110, 41] then 3 else if x = [110] ∨ x = [40, 110, 41] then 2 else sizeZ (l.take k) := by
  unfold sizeZ
  rw [List.take_add_one, h]
  simp
set_option maxRecDepth 4000 in
set_option maxHeartbeats 4000000 in
theorem zboth_doc (op : Nat) (h : op < 256) (hd : (formL op).1 ≠ []) (w : World) (hT : Tabs w) : Calls Tryd.prog 5 #[.int .u8 op] w fun e w' => e = .returned (.bool true) ∧ Below w.heap.size w w' := by
  have hzd : (zfmL op).1 ≠ [] := fun e => hd ((zboth h).1.1 e)
  have hsz := (zboth h).2.1 hd
  have hpos := sizeF_pos hd
  have hle := (zboth h).2.2.1
  have N1 := Lib.hid (name_any op h w hT)
  have Z1 := Lib.hid (fun w hT => zname_any op h w hT)
  have Z2 := Z1
  have S1 := Lib.hid (fun w hT => size_any op h w hT)
  have S2 := S1
  have A1 := Lib.hid (fun w hT => zargs_any op h w hT)
  have A2 := A1
  have F1 := Lib.hid (fun v w hv hT => zfind_own op h hzd v w hv hT)
  have HA := Lib.hid (fun w hT => zalive_any w hT)
  have HT := Lib.hid hT
  have e1 := isEmpty_mk hd
  have e2 := isEmpty_mk hzd
  have n1 : ((formL op).1 == []) = false := by rw [beq_eq_false_iff_ne]; exact hd
  have n2 : ((zfmL op).1 == []) = false := by rw [beq_eq_false_iff_ne]; exact hzd
  have n3 : ((formL op).1 != []) = true := by rw [bne_iff_ne]; exact hd
  have n4 : ((zfmL op).1 != []) = true := by rw [bne_iff_ne]; exact hzd
  clear hT hd hzd
  generalize (formL op).1 = i at *
  generalize (zfmL op).1 = z at *
  generalize (zfmL op).2 = l at *
  generalize sizeF (formL op) = n at *
  have d1 : decide ((0 : Int) < n) = true := decide_eq_true (by omega)
  have d2 : decide ((n : Int) > 0) = true := decide_eq_true (by omega)
  obtain ⟨q, hq⟩ : ∃ q, l.length = q := ⟨_, rfl⟩
  have HN := Lib.hid hq
  have HSZ := Lib.hid hsz
  rw [hq] at hle
  clear hq hsz
  go_enter Tryd.func5, Tryd.ntmps5
  go_wp2_with (first
    | (go_at_call 18; refine N1.out.mono ?_; rintro _ w1 ⟨rfl, hb⟩; have HB1 := Lib.hid hb; clear hb N1)
    | (go_at_call 8; refine (Z1.out _ (HT.out.below HB1.out)).mono ?_; rintro _ w2 ⟨rfl, hb⟩; have HB2 := Lib.hid (below_step HB1.out hb); clear hb Z1)
    | (go_at_call 19; refine (S1.out _ (HT.out.below HB2.out)).mono ?_; rintro _ w3 ⟨rfl, hb⟩; have HB3 := Lib.hid (below_step HB2.out hb); clear hb S1)
    | (go_at_call 8; refine (Z2.out _ (HT.out.below HB3.out)).mono ?_; rintro _ w4 ⟨rfl, hb⟩; have HB4 := Lib.hid (below_step HB3.out hb); clear hb Z2)
    | (go_at_call 11; refine (A1.out _ (HT.out.below HB4.out)).mono ?_; rintro _ w5 ⟨v5, rfl, ht, hb⟩; have HR5 := Lib.hid ht; have HB5 := Lib.hid (below_step HB4.out hb); clear hb ht A1)
    | (go_at_call 20; refine (F1.out _ _ HR5.out (HT.out.below HB5.out)).mono ?_; rintro _ w6 ⟨rfl, hb⟩; have HB6 := Lib.hid (below_step HB5.out hb); clear hb F1 HR5)
    | (go_at_call 11; refine (A2.out _ (HT.out.below HB6.out)).mono ?_; rintro _ w7 ⟨v7, rfl, ⟨b, o, sp, c, rfl, hc, hsp, hcl⟩, hb⟩; have HSP := Lib.hid hsp; have HCL := Lib.hid hcl; have HB7 := Lib.hid (below_step HB6.out hb); clear hb hsp hcl A2))
  rw [HN.out] at hc HSP
  go_loopw [8, 9] (fun m i wr => ∃ k : Nat, k ≤ q ∧ i = .int .i64 k ∧ m = .int .i64 (sizeZ (l.take k) : Nat) ∧ wr = w7) (fun _ i _ => q - (intOf i).toNat)
  case atStart => exact ⟨0, Nat.zero_le _, rfl, rfl, rfl⟩
  case round =>
    obtain ⟨k, hk, rfl, rfl, rfl⟩ := hrel
    by_cases hlt : k < q
    · have hi : k < l.length := by rw [HN.out]; exact hlt
      obtain ⟨x, hx⟩ : ∃ x, l[k]? = some x := ⟨_, List.getElem?_eq_getElem hi⟩
      obtain rfl := HSP.out (by omega)
      have k0 := HCL.out k x hx
      unfold strV at k0
      have HX := Lib.hid hx
      clear hx
      by_cases h1 : x = [110]
      · subst h1
        have e0 : sizeZ (l.take (k + 1)) = 2 := by rw [sizeZ_take HX.out]; rfl
        have HE := Lib.hid e0
        clear HX e0
        go_wp2
        go_roundw
        case rel => exact ⟨k + 1, by omega, by go_num, by rw [HE.out]; rfl, by first | rfl | trivial⟩
        case measure => simp [intOf]; omega
      by_cases h2 : x = [40, 110, 41]
      · subst h2
        have e0 : sizeZ (l.take (k + 1)) = 2 := by rw [sizeZ_take HX.out]; rfl
        have HE := Lib.hid e0
        clear HX e0
        go_wp2
        go_roundw
        case rel => exact ⟨k + 1, by omega, by go_num, by rw [HE.out]; rfl, by first | rfl | trivial⟩
        case measure => simp [intOf]; omega
      by_cases h3 : x = [110, 110]
      · subst h3
        have e0 : sizeZ (l.take (k + 1)) = 3 := by rw [sizeZ_take HX.out]; rfl
        have HE := Lib.hid e0
        clear HX e0
        go_wp2
        go_roundw
        case rel => exact ⟨k + 1, by omega, by go_num, by rw [HE.out]; rfl, by first | rfl | trivial⟩
        case measure => simp [intOf]; omega
      by_cases h4 : x = [40, 110, 110, 41]
      · subst h4
        have e0 : sizeZ (l.take (k + 1)) = 3 := by rw [sizeZ_take HX.out]; rfl
        have HE := Lib.hid e0
        clear HX e0
        go_wp2
        go_roundw
        case rel => exact ⟨k + 1, by omega, by go_num, by rw [HE.out]; rfl, by first | rfl | trivial⟩
        case measure => simp [intOf]; omega
      have e0 : sizeZ (l.take (k + 1)) = sizeZ (l.take k) := by
        rw [sizeZ_take HX.out, if_neg (fun e => e.elim h3 h4), if_neg (fun e => e.elim h1 h2)]
      have HE := Lib.hid e0
      have b1 : (x == [110]) = false := by rw [beq_eq_false_iff_ne]; exact h1
      have b2 : (x == [40, 110, 41]) = false := by rw [beq_eq_false_iff_ne]; exact h2
      have b3 : (x == [110, 110]) = false := by rw [beq_eq_false_iff_ne]; exact h3
      have b4 : (x == [40, 110, 110, 41]) = false := by rw [beq_eq_false_iff_ne]; exact h4
      clear HX e0 h1 h2 h3 h4
      go_wp2
      go_roundw
      case rel => exact ⟨k + 1, by omega, by go_num, by rw [HE.out], by first | rfl | trivial⟩
      case measure => simp [intOf]; omega
    · obtain rfl : k = q := by omega
      have hm : sizeZ (l.take k) = n := by rw [List.take_of_length_le (by rw [HN.out]; exact Nat.le_refl _)]; exact HSZ.out
      rw [hm]
      have hnn : ((n : Int) == n) = true := by simp
      have hi2 : ¬ k < l.length := by rw [HN.out]; omega
      have hdd : decide ((k : Int) < (l.length : Int)) = false := decide_eq_false (by omega)
      clear hm HSZ HCL HSP
      go_wp2_with (first
        | (go_at_call 19; refine (S2.out _ (HT.out.below HB7.out)).mono ?_; rintro _ w8 ⟨rfl, hb⟩; have HB8 := Lib.hid (below_step HB7.out hb); clear hb S2)
        | (go_at_call 13; refine (HA.out _ (HT.out.below HB8.out)).mono ?_; rintro _ w9 ⟨rfl, hb⟩; have HB9 := Lib.hid (below_step HB8.out hb); clear hb))
      go_ret
      exact ⟨rfl, HB9.out⟩
theorem zilogBoth_walk (op : Nat) (h : op < 256) (w : World) (hT : Tabs w) : Calls Tryd.prog 5 #[.int .u8 op] w fun e w' => e = .returned (.bool true) ∧ Below w.heap.size w w' := by
  by_cases hd : (formL op).1 = []
  · exact zboth_none op h hd w hT
  · exact zboth_doc op h hd w hT
end Go.Proofs.YtlindlmcojmhcaaDoor
