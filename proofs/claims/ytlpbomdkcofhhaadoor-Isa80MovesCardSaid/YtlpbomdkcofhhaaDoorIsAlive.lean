/- The law's alive answers true; the program's tables hold what its text says. -/
import Derived.Test.YtlpbomdkcofhhaaDoorIsRead
namespace Go.Proofs.YtlpbomdkcofhhaaDoor
open Go.RowKit

theorem form120 : formL 120 = ([77, 79, 86], [[65], [66]]) := by decide
theorem bytes195 : bytesS (sizeF (formL 195)) 195 4660 = ([195, 52, 18], 0) := by decide
set_option maxHeartbeats 2000000 in
theorem alive_any (w : World) (hT : Tabs w) : Calls Tryd.prog 16 #[] w fun e w' => e = .returned (.bool true) ∧ Below w.heap.size w w' := by
  have h1 := bytes_any 195 4660 (by decide) (by decide) w hT
  rw [bytes195] at h1
  have h2 := fun w hT => args_any 120 (by decide) w hT
  have h3 := fun w hT => name_any 120 (by decide) w hT
  rw [form120] at h2 h3
  have H1 := Lib.hid h1
  have H2 := Lib.hid h2
  have H3 := Lib.hid h3
  have HT := Lib.hid hT
  clear h1 h2 h3 hT
  go_enter Tryd.func16, Tryd.ntmps16
  go_wp2_with (first
    | (go_at_call 17; refine H1.out.mono ?_; rintro _ w1 ⟨v, rfl, hR, hb1⟩; have HR := Lib.hid hR; have HB1 := Lib.hid hb1; clear hR hb1)
    | (go_at_call 12; refine (H2.out w1 (HT.out.below HB1.out)).mono ?_; rintro _ w2 ⟨v2, rfl, hR2, hb2⟩; obtain ⟨b, o, sp, c, rfl, hc, hsp, hcl⟩ := hR2; obtain rfl := hsp (by decide); have HC0 := Lib.hid (hcl 0 [65] rfl); have HC1 := Lib.hid (hcl 1 [66] rfl); have HB2 := Lib.hid (below_step HB1.out hb2); have HR' := Lib.hid (HR.out.below hb2); clear hb2 hcl hsp HR)
    | (go_at_call 9; refine (H3.out w2 (HT.out.below HB2.out)).mono ?_; rintro _ w3 ⟨rfl, hb3⟩; have k0 := keep_below hb3 _ _ HC0.out; have k1 := keep_below hb3 _ _ HC1.out; unfold strV at k0 k1; rw [Nat.add_zero] at k0; have HB3 := Lib.hid (below_step HB2.out hb3); have HR3 := Lib.hid (HR'.out.below hb3); clear hb3 HR' HC0 HC1)
    | (go_at_call 21; refine (byteseq_any [195, 52, 18] [195, 52, 18] (by decide) _ _ _ (HR3.out.alloc _) (byteR3 (a := 195) (b := 52) (d := 18) (at_new _ _) (by decide) (by decide) (by decide) (Nat.le_refl _))).mono ?_; rintro _ w4 ⟨rfl, hb4⟩; have HB4 := Lib.hid hb4; clear hb4))
  go_ret
  exact ⟨rfl, below_step HB3.out (below_new _ HB4.out)⟩
end Go.Proofs.YtlpbomdkcofhhaaDoor
