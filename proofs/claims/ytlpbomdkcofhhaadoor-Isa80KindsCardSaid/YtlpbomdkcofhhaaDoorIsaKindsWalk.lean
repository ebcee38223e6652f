/- The walk of Isa80Kinds: it answers true of any opcode; the program's tables hold what its text says. -/
import Derived.Test.YtlpbomdkcofhhaaDoorIsKinds
import Derived.Test.YtlpbomdkcofhhaaDoorIsAlive
namespace Go.Proofs.YtlpbomdkcofhhaaDoor
open Go.RowKit

theorem isa80Kinds_walk (op : Nat) (h : op < 256) (w : World) (hT : Tabs w) : Calls Tryd.prog 5 #[.int .u8 op] w fun e w' => e = .returned (.bool true) ∧ Below w.heap.size w w' := by
  have H1 := Lib.hid (jumps_any op h)
  have H2 := Lib.hid (rjumps_any op h)
  have H3 := Lib.hid (ends_any op h)
  have H4 := Lib.hid (rends_any op h)
  have H5 := Lib.hid (cond_any op h)
  have H6 := Lib.hid (rcond_any op h)
  have HA := Lib.hid (alive_any w hT)
  clear hT
  generalize jumpB op = a at H1 H2
  generalize endB op = b at H3 H4
  generalize condI op = c at H5 H6
  go_enter Tryd.func5, Tryd.ntmps5
  go_wp2_with (first
    | (go_at_call 22; refine (H1.out _).mono ?_; rintro _ _ ⟨rfl, rfl⟩)
    | (go_at_call 23; refine (H2.out _).mono ?_; rintro _ _ ⟨rfl, rfl⟩)
    | (go_at_call 24; refine (H3.out _).mono ?_; rintro _ _ ⟨rfl, rfl⟩)
    | (go_at_call 25; refine (H4.out _).mono ?_; rintro _ _ ⟨rfl, rfl⟩)
    | (go_at_call 26; refine (H5.out _).mono ?_; rintro _ _ ⟨rfl, rfl⟩)
    | (go_at_call 27; refine (H6.out _).mono ?_; rintro _ _ ⟨rfl, rfl⟩)
    | (go_at_call 16; refine HA.out.mono ?_; rintro _ w1 ⟨rfl, hb⟩; have HB := Lib.hid hb; clear hb))
  go_ret
  exact ⟨rfl, HB.out⟩
end Go.Proofs.YtlpbomdkcofhhaaDoor
