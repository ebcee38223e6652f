/- ZilogNames, walked: true for every dialect and every text; the program's tables hold what its text says. -/
import Derived.Test.YtlindlmcojmhcaaDoorZpAlive
namespace Go.Proofs.YtlindlmcojmhcaaDoor
open Go.RowKit

set_option maxRecDepth 4000 in
set_option maxHeartbeats 2000000 in
theorem zilogNames_walk (d : Int) (s : List UInt8) (w : World) (hT : Tabs w) : Calls Tryd.prog 4 #[.int .i64 d, .string ⟨s.toArray⟩] w fun e w' => e = .returned (.bool true) ∧ Below w.heap.size w w' := by
  have HA := Lib.hid (fun w hT => zalive_any w hT)
  have HT := Lib.hid hT
  clear hT
  by_cases hl : 100 < s.length
  · have hd : decide ((100 : Int) < s.length) = true := decide_eq_true (by omega)
    have hd2 : decide ((s.length : Int) > 100) = true := decide_eq_true (by omega)
    go_enter Tryd.func4, Tryd.ntmps4
    go_wp2_with (go_at_call 13; refine (HA.out _ HT.out).mono ?_; rintro _ w6 ⟨rfl, hb⟩; have HB6 := Lib.hid hb; clear hb)
    go_ret
    exact ⟨rfl, HB6.out⟩
  · have hd : decide ((100 : Int) < s.length) = false := decide_eq_false (by omega)
    have hd2 : decide ((s.length : Int) > 100) = false := decide_eq_false (by omega)
    have H1 := Lib.hid (prename_any s (by omega) w)
    have H2 := Lib.hid (fun w => zrename_any s (by omega) w)
    have H3 := Lib.hid (fun w => preserved_any d s w)
    have H4 := Lib.hid (fun w => reserved_any d s w)
    generalize (renameL s).1 = x at H1 H2
    generalize (renameL s).2 = k at H1 H2
    generalize resL d s = r at H3 H4
    have hxx : (x == x) = true := by simp
    cases r <;>
    · go_enter Tryd.func4, Tryd.ntmps4
      go_wp2_with (first
        | (go_at_call 14; refine H1.out.mono ?_; rintro _ w1 ⟨rfl, hb⟩; have HB1 := Lib.hid hb; clear hb)
        | (go_at_call 15; refine (H2.out _).mono ?_; rintro _ w2 ⟨rfl, hb⟩; have HB2 := Lib.hid (below_step HB1.out hb); clear hb)
        | (go_at_call 16; refine (H3.out _).mono ?_; rintro _ w3 ⟨rfl, hb⟩; have HB3 := Lib.hid (below_step HB2.out hb); clear hb)
        | (go_at_call 17; refine (H4.out _).mono ?_; rintro _ w4 ⟨rfl, hb⟩; have HB4 := Lib.hid (below_step HB3.out hb); clear hb)
        | (go_at_call 13; refine (HA.out _ (HT.out.below HB4.out)).mono ?_; rintro _ w6 ⟨rfl, hb⟩; have HB6 := Lib.hid (below_step HB4.out hb); clear hb))
      go_ret
      exact ⟨rfl, HB6.out⟩
end Go.Proofs.YtlindlmcojmhcaaDoor
