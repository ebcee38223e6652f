/- The walk of Isa80Forms: it answers true of any opcode; the program's tables hold what its text says. -/
import Derived.Test.YtlpbomdkcofhhaaDoorIsAlive
namespace Go.Proofs.YtlpbomdkcofhhaaDoor
open Go.RowKit

set_option maxHeartbeats 1000000 in
theorem isa80Forms_walk (op : Nat) (h : op < 256) (w : World) (hT : Tabs w) : Calls Tryd.prog 3 #[.int .u8 op] w fun e w' => e = .returned (.bool true) ∧ Below w.heap.size w w' := by
  have hl := (size_form h).2.1
  have H1 := Lib.hid (fun w hT => name_any op h w hT)
  have H2 := Lib.hid (fun w => rname_any op h w)
  have H3 := Lib.hid (fun w hT => args_any op h w hT)
  have H4 := Lib.hid (fun w => rargs_any op h w)
  have H5 := Lib.hid (fun w hT => size_any op h w hT)
  have H6 := Lib.hid (fun w => rsize_any op h w)
  have HA := Lib.hid (fun w hT => alive_any w hT)
  have HT := Lib.hid hT
  clear hT
  generalize sizeF (formL op) = s at H5 H6
  generalize formL op = f at H1 H2 H3 H4 hl
  have HX := Lib.hid (fun va vb w ha hb => texts_any f.2 f.2 (Nat.le_trans hl (by decide)) va vb w ha hb)
  generalize f.1 = a at H1 H2
  generalize f.2 = l at H3 H4 HX
  rw [decide_eq_true (rfl : l = l)] at HX
  clear hl
  have hse : (s : Int) = s := rfl
  go_enter Tryd.func3, Tryd.ntmps3
  go_wp2_with (first
    | (go_at_call 9; refine (H1.out _ HT.out).mono ?_; rintro _ w1 ⟨rfl, hb⟩; have B1 := Lib.hid hb; clear hb)
    | (go_at_call 10; refine (H2.out _).mono ?_; rintro _ w2 ⟨rfl, hb⟩; have B2 := Lib.hid (below_step B1.out hb); clear hb)
    | (go_at_call 12; refine (H3.out _ (HT.out.below B2.out)).mono ?_; rintro _ w3 ⟨v1, rfl, hR, hb⟩; have R1 := Lib.hid hR; have B3 := Lib.hid (below_step B2.out hb); clear hb hR)
    | (go_at_call 13; refine (H4.out _).mono ?_; rintro _ w4 ⟨v2, rfl, hR, hb⟩; have R2 := Lib.hid hR; have R1' := Lib.hid (R1.out.below hb); have B4 := Lib.hid (below_step B3.out hb); clear hb hR)
    | (go_at_call 11; refine (HX.out _ _ _ R1'.out R2.out).mono ?_; rintro _ w5 ⟨rfl, hb⟩; have B5 := Lib.hid (below_step B4.out hb); clear hb)
    | (go_at_call 14; refine (H5.out _ (HT.out.below B5.out)).mono ?_; rintro _ w6 ⟨rfl, hb⟩; have B6 := Lib.hid (below_step B5.out hb); clear hb)
    | (go_at_call 15; refine (H6.out _).mono ?_; rintro _ w7 ⟨rfl, hb⟩; have B7 := Lib.hid (below_step B6.out hb); clear hb)
    | (go_at_call 16; refine (HA.out _ (HT.out.below B7.out)).mono ?_; rintro _ w8 ⟨rfl, hb⟩; have B8 := Lib.hid (below_step B7.out hb); clear hb))
  go_ret
  exact ⟨rfl, B8.out⟩
end Go.Proofs.YtlpbomdkcofhhaaDoor
