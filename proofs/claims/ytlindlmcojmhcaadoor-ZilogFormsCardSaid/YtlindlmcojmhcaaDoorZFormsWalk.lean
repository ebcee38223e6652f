/- ZilogForms, walked: true for every opcode; the program's tables hold what its text says. -/
import Derived.Test.YtlindlmcojmhcaaDoorZpAlive
import Derived.Test.YtlindlmcojmhcaaDoorZRef
import Derived.Test.YtlindlmcojmhcaaDoorIsSame
namespace Go.Proofs.YtlindlmcojmhcaaDoor
open Go.RowKit

set_option maxHeartbeats 2000000 in
theorem zilogForms_walk (op : Nat) (h : op < 256) (w : World) (hT : Tabs w) : Calls Tryd.prog 3 #[.int .u8 op] w fun e w' => e = .returned (.bool true) ∧ Below w.heap.size w w' := by
  have H1 := Lib.hid (zname_any op h w hT)
  have H2 := Lib.hid (fun w => zrname_any op h w)
  have H3 := Lib.hid (fun w hT => zargs_any op h w hT)
  have H4 := Lib.hid (fun w => zrargs_any op h w)
  have H5 := fun va vb w ha hb => texts_any (zfmL op).2 (zfmL op).2 (Nat.le_trans (zboth h).2.2.1 (by decide)) va vb w ha hb
  rw [decide_eq_true (rfl : (zfmL op).2 = (zfmL op).2)] at H5
  have H5 := Lib.hid H5
  have HA := Lib.hid (fun w hT => zalive_any w hT)
  have HT := Lib.hid hT
  clear hT
  generalize (zfmL op).1 = x at H1 H2
  generalize (zfmL op).2 = l at H3 H4 H5
  have hxx : (x == x) = true := by simp
  go_enter Tryd.func3, Tryd.ntmps3
  go_wp2_with (first
    | (go_at_call 8; refine H1.out.mono ?_; rintro _ w1 ⟨rfl, hb⟩; have HB1 := Lib.hid hb; clear hb)
    | (go_at_call 9; refine (H2.out _).mono ?_; rintro _ w2 ⟨rfl, hb⟩; have HB2 := Lib.hid (below_step HB1.out hb); clear hb)
    | (go_at_call 11; refine (H3.out _ (HT.out.below HB2.out)).mono ?_; rintro _ w3 ⟨v3, rfl, ht, hb⟩; have HR3 := Lib.hid ht; have HB3 := Lib.hid (below_step HB2.out hb); clear hb ht)
    | (go_at_call 12; refine (H4.out _).mono ?_; rintro _ w4 ⟨v4, rfl, ht, hb⟩; have HR4 := Lib.hid ht; have HR3' := Lib.hid (HR3.out.below hb); have HB4 := Lib.hid (below_step HB3.out hb); clear hb ht)
    | (go_at_call 10; refine (H5.out _ _ _ HR3'.out HR4.out).mono ?_; rintro _ w5 ⟨rfl, hb⟩; have HB5 := Lib.hid (below_step HB4.out hb); clear hb)
    | (go_at_call 13; refine (HA.out _ (HT.out.below HB5.out)).mono ?_; rintro _ w6 ⟨rfl, hb⟩; have HB6 := Lib.hid (below_step HB5.out hb); clear hb))
  go_ret
  exact ⟨rfl, HB6.out⟩
end Go.Proofs.YtlindlmcojmhcaaDoor
