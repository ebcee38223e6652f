/- The law's alive answers true; the program's tables hold what its text says. -/
import Derived.Test.YtlindlmcojmhcaaDoorZpArgs
import Derived.Test.YtlindlmcojmhcaaDoorZpRen
namespace Go.Proofs.YtlindlmcojmhcaaDoor
open Go.RowKit

theorem zfm126 : zfmL 126 = ([76, 68], [[65], [40, 72, 76, 41]]) := by kernel_rfl
theorem ren126 : renameL [78, 90, 95] = ([78, 90, 95, 95], 0) := by kernel_rfl
set_option maxHeartbeats 2000000 in
theorem zalive_any (w : World) (hT : Tabs w) : Calls Tryd.prog 13 #[] w fun e w' => e = .returned (.bool true) ∧ Below w.heap.size w w' := by
  have h1 := zargs_any 126 (by decide) w hT
  have h2 := fun w => prename_any [78, 90, 95] (by decide) w
  have h3 := fun w hT => zname_any 126 (by decide) w hT
  rw [zfm126] at h1 h3
  rw [ren126] at h2
  have H1 := Lib.hid h1
  have H2 := Lib.hid h2
  have H3 := Lib.hid h3
  have HT := Lib.hid hT
  clear h1 h2 h3 hT
  go_enter Tryd.func13, Tryd.ntmps13
  go_wp2_with (first
    | (go_at_call 11; refine H1.out.mono ?_; rintro _ w1 ⟨v, rfl, hR, hb1⟩; obtain ⟨b, o, sp, c, rfl, hc, hsp, hcl⟩ := hR; obtain rfl := hsp (by decide); have HC0 := Lib.hid (hcl 0 [65] rfl); have HC1 := Lib.hid (hcl 1 [40, 72, 76, 41] rfl); have HB1 := Lib.hid hb1; clear hcl hsp hb1)
    | (go_at_call 14; refine (H2.out w1).mono ?_; rintro _ w2 ⟨rfl, hb2⟩; have HB2 := Lib.hid (below_step HB1.out hb2); have HC0' := Lib.hid (keep_below hb2 _ _ HC0.out); have HC1' := Lib.hid (keep_below hb2 _ _ HC1.out); clear hb2 HC0 HC1)
    | (go_at_call 8; refine (H3.out w2 (HT.out.below HB2.out)).mono ?_; rintro _ w3 ⟨rfl, hb3⟩; have k0 := keep_below hb3 _ _ HC0'.out; have k1 := keep_below hb3 _ _ HC1'.out; unfold strV at k0 k1; rw [Nat.add_zero] at k0; have HB3 := Lib.hid (below_step HB2.out hb3); clear hb3 HC0' HC1'))
  go_ret
  exact ⟨rfl, HB3.out⟩
end Go.Proofs.YtlindlmcojmhcaaDoor
