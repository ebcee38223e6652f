/- What the program's Rename answers: what a name of an Intel source is in a Zilog one; the name is short. -/
import Derived.Test.YtlindlmcojmhcaaDoorZpRsv
import Derived.Test.YtlindlmcojmhcaaDoorZpTrim
namespace Go.Proofs.YtlindlmcojmhcaaDoor
open Go.RowKit

set_option maxRecDepth 4000 in
set_option maxHeartbeats 2000000 in
theorem prename_any (s : List UInt8) (hs : s.length ≤ 1000) (w : World) : Calls Tryd.prog 14 #[.string ⟨s.toArray⟩] w fun e w' => e = .returned (.tuple #[.string ⟨(renameL s).1.toArray⟩, .int .i64 ((renameL s).2 : Nat)]) ∧ Below w.heap.size w w' := by
  have HT := Lib.hid (trim_any s (Nat.le_trans hs (by decide)) w)
  have HR1 := Lib.hid (fun w => preserved_any 1 (stripL s) w)
  have HR0 := Lib.hid (fun w => preserved_any 0 (stripL s) w)
  unfold renameL
  generalize stripL s = bs at HT HR1 HR0 ⊢
  generalize resL 1 bs = r1 at HR1 ⊢
  generalize resL 0 bs = r0 at HR0 ⊢
  cases r1
  · rw [if_pos (.inl rfl)]
    go_enter Tryd.func14, Tryd.ntmps14
    go_wp2_with (first
      | (go_at_call 31; refine HT.out.mono ?_; rintro _ _ ⟨rfl, rfl⟩)
      | (go_at_call 16; refine (HR1.out _).mono ?_; rintro _ w1 ⟨rfl, hb1⟩; have HB1 := Lib.hid hb1; clear hb1 HR1))
    go_ret2
    exact ⟨by first | rfl | simp, HB1.out⟩
  · cases r0
    · rw [if_neg (by simp)]
      by_cases h16 : 16 ≤ s.length
      · have hd : decide ((16 : Int) ≤ s.length) = true := decide_eq_true (by omega)
        rw [if_pos h16]
        go_enter Tryd.func14, Tryd.ntmps14
        go_wp2_with (first
          | (go_at_call 31; refine HT.out.mono ?_; rintro _ _ ⟨rfl, rfl⟩)
          | (go_at_call 16; refine (HR1.out _).mono ?_; rintro _ w1 ⟨rfl, hb1⟩; have HB1 := Lib.hid hb1; clear hb1 HR1)
          | (go_at_call 16; refine (HR0.out _).mono ?_; rintro _ w2 ⟨rfl, hb1⟩; have HB2 := Lib.hid (zbelow_step HB1.out hb1); clear hb1 HR0))
        go_ret2
        exact ⟨by first | rfl | simp, HB2.out⟩
      · have hd : decide ((16 : Int) ≤ s.length) = false := decide_eq_false (by omega)
        rw [if_neg h16]
        go_enter Tryd.func14, Tryd.ntmps14
        go_wp2_with (first
          | (go_at_call 31; refine HT.out.mono ?_; rintro _ _ ⟨rfl, rfl⟩)
          | (go_at_call 16; refine (HR1.out _).mono ?_; rintro _ w1 ⟨rfl, hb1⟩; have HB1 := Lib.hid hb1; clear hb1 HR1)
          | (go_at_call 16; refine (HR0.out _).mono ?_; rintro _ w2 ⟨rfl, hb1⟩; have HB2 := Lib.hid (zbelow_step HB1.out hb1); clear hb1 HR0))
        go_ret2
        exact ⟨by simp; exact ByteArray.mk_append_mk s [95], HB2.out⟩
    · rw [if_pos (.inr rfl)]
      go_enter Tryd.func14, Tryd.ntmps14
      go_wp2_with (first
        | (go_at_call 31; refine HT.out.mono ?_; rintro _ _ ⟨rfl, rfl⟩)
        | (go_at_call 16; refine (HR1.out _).mono ?_; rintro _ w1 ⟨rfl, hb1⟩; have HB1 := Lib.hid hb1; clear hb1 HR1)
        | (go_at_call 16; refine (HR0.out _).mono ?_; rintro _ w2 ⟨rfl, hb1⟩; have HB2 := Lib.hid (zbelow_step HB1.out hb1); clear hb1 HR0))
      go_ret2
      exact ⟨by first | rfl | simp, HB2.out⟩
end Go.Proofs.YtlindlmcojmhcaaDoor
