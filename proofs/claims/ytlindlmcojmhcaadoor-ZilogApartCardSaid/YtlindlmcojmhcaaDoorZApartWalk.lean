/- ZilogApart, walked: true for any two texts; the program's tables hold what its text says. -/
import Derived.Test.YtlindlmcojmhcaaDoorZpAlive
import Derived.Test.YtlindlmcojmhcaaDoorZMath
namespace Go.Proofs.YtlindlmcojmhcaaDoor
open Go.RowKit

set_option maxRecDepth 4000 in
set_option maxHeartbeats 2000000 in
theorem zilogApart_walk (s t : List UInt8) (w : World) (hT : Tabs w) : Calls Tryd.prog 6 #[.string ⟨s.toArray⟩, .string ⟨t.toArray⟩] w fun e w' => e = .returned (.bool true) ∧ Below w.heap.size w w' := by
  have HA := Lib.hid (fun w hT => zalive_any w hT)
  have HT := Lib.hid hT
  clear hT
  by_cases hl : 100 < s.length
  · have hd : decide ((100 : Int) < s.length) = true := decide_eq_true (by omega)
    go_enter Tryd.func6, Tryd.ntmps6
    go_wp2_with (go_at_call 13; refine (HA.out _ HT.out).mono ?_; rintro _ w6 ⟨rfl, hb⟩; have HB6 := Lib.hid hb; clear hb)
    go_ret
    exact ⟨rfl, HB6.out⟩
  · have hd : decide ((100 : Int) < s.length) = false := decide_eq_false (by omega)
    by_cases hl2 : 100 < t.length
    · have hd2 : decide ((100 : Int) < t.length) = true := decide_eq_true (by omega)
      go_enter Tryd.func6, Tryd.ntmps6
      go_wp2_with (go_at_call 13; refine (HA.out _ HT.out).mono ?_; rintro _ w6 ⟨rfl, hb⟩; have HB6 := Lib.hid hb; clear hb)
      go_ret
      exact ⟨rfl, HB6.out⟩
    · have hd2 : decide ((100 : Int) < t.length) = false := decide_eq_false (by omega)
      have H1 := Lib.hid (prename_any s (by omega) w)
      have H2 := Lib.hid (fun w => prename_any t (by omega) w)
      have H3 := Lib.hid (fun w => preserved_any 0 s w)
      have H4 := Lib.hid (fun w => preserved_any 1 (renameL s).1 w)
      have hinj : (renameL s).2 = 0 → (renameL t).2 = 0 → ((renameL s).1 == (renameL t).1) = (s == t) := fun h1 h2 => by
        rw [Bool.eq_iff_iff, beq_iff_eq, beq_iff_eq]
        constructor
        · intro e
          exact ren_inj (a := (renameL s).1) (Prod.ext rfl h1) (Prod.ext e.symm h2)
        · intro e; rw [e]
      have hfree : (renameL s).2 = 0 → resL 0 s = false → resL 1 (renameL s).1 = false := fun h1 h0 => ren_free (Prod.ext rfl h1) h0
      have hnone : (renameL s).2 ≠ 0 → 16 ≤ s.length ∧ (renameL s).1 = [] := ren_none
      generalize (renameL s).1 = x at *
      generalize (renameL s).2 = i at *
      generalize (renameL t).1 = y at *
      generalize (renameL t).2 = j at *
      generalize resL 0 s = r0 at *
      generalize resL 1 x = r1 at *
      generalize hst : (s == t) = b at *
      by_cases hi : i = 0
      · subst hi
        have hfree := hfree rfl
        clear hnone
        by_cases hj : j = 0
        · subst hj
          have hxy : (x == y) = b := hinj rfl rfl
          clear hinj
          cases r0
          · obtain rfl := hfree rfl
            clear hfree
            cases b
            · skip
              go_enter Tryd.func6, Tryd.ntmps6
              go_wp2_with (first
                | (go_at_call 14; refine H1.out.mono ?_; rintro _ w1 ⟨rfl, hb⟩; have HB1 := Lib.hid hb; clear hb H1)
                | (go_at_call 14; refine (H2.out _).mono ?_; rintro _ w2 ⟨rfl, hb⟩; have HB2 := Lib.hid (below_step HB1.out hb); clear hb H2)
                | (go_at_call 16; refine (H3.out _).mono ?_; rintro _ w3 ⟨rfl, hb⟩; have HB3 := Lib.hid (below_step HB2.out hb); clear hb H3)
                | (go_at_call 16; refine (H4.out _).mono ?_; rintro _ w4 ⟨rfl, hb⟩; have HB4 := Lib.hid (below_step HB3.out hb); clear hb H4)
                | (go_at_call 13; refine (HA.out _ (HT.out.below HB4.out)).mono ?_; rintro _ w6 ⟨rfl, hb⟩; have HB6 := Lib.hid (below_step HB4.out hb); clear hb))
              go_ret
              exact ⟨rfl, HB6.out⟩
            · skip
              go_enter Tryd.func6, Tryd.ntmps6
              go_wp2_with (first
                | (go_at_call 14; refine H1.out.mono ?_; rintro _ w1 ⟨rfl, hb⟩; have HB1 := Lib.hid hb; clear hb H1)
                | (go_at_call 14; refine (H2.out _).mono ?_; rintro _ w2 ⟨rfl, hb⟩; have HB2 := Lib.hid (below_step HB1.out hb); clear hb H2)
                | (go_at_call 16; refine (H3.out _).mono ?_; rintro _ w3 ⟨rfl, hb⟩; have HB3 := Lib.hid (below_step HB2.out hb); clear hb H3)
                | (go_at_call 16; refine (H4.out _).mono ?_; rintro _ w4 ⟨rfl, hb⟩; have HB4 := Lib.hid (below_step HB3.out hb); clear hb H4)
                | (go_at_call 13; refine (HA.out _ (HT.out.below HB4.out)).mono ?_; rintro _ w6 ⟨rfl, hb⟩; have HB6 := Lib.hid (below_step HB4.out hb); clear hb))
              go_ret
              exact ⟨rfl, HB6.out⟩
          · clear hfree H4
            cases b
            · skip
              go_enter Tryd.func6, Tryd.ntmps6
              go_wp2_with (first
                | (go_at_call 14; refine H1.out.mono ?_; rintro _ w1 ⟨rfl, hb⟩; have HB1 := Lib.hid hb; clear hb H1)
                | (go_at_call 14; refine (H2.out _).mono ?_; rintro _ w2 ⟨rfl, hb⟩; have HB2 := Lib.hid (below_step HB1.out hb); clear hb H2)
                | (go_at_call 16; refine (H3.out _).mono ?_; rintro _ w3 ⟨rfl, hb⟩; have HB3 := Lib.hid (below_step HB2.out hb); clear hb H3)
                | (go_at_call 13; refine (HA.out _ (HT.out.below HB3.out)).mono ?_; rintro _ w6 ⟨rfl, hb⟩; have HB6 := Lib.hid (below_step HB3.out hb); clear hb))
              go_ret
              exact ⟨rfl, HB6.out⟩
            · skip
              go_enter Tryd.func6, Tryd.ntmps6
              go_wp2_with (first
                | (go_at_call 14; refine H1.out.mono ?_; rintro _ w1 ⟨rfl, hb⟩; have HB1 := Lib.hid hb; clear hb H1)
                | (go_at_call 14; refine (H2.out _).mono ?_; rintro _ w2 ⟨rfl, hb⟩; have HB2 := Lib.hid (below_step HB1.out hb); clear hb H2)
                | (go_at_call 16; refine (H3.out _).mono ?_; rintro _ w3 ⟨rfl, hb⟩; have HB3 := Lib.hid (below_step HB2.out hb); clear hb H3)
                | (go_at_call 13; refine (HA.out _ (HT.out.below HB3.out)).mono ?_; rintro _ w6 ⟨rfl, hb⟩; have HB6 := Lib.hid (below_step HB3.out hb); clear hb))
              go_ret
              exact ⟨rfl, HB6.out⟩
        · have bj : ((j : Int) == 0) = false := by rw [beq_eq_false_iff_ne]; omega
          clear hinj
          cases r0
          · obtain rfl := hfree rfl
            clear hfree
            go_enter Tryd.func6, Tryd.ntmps6
            go_wp2_with (first
              | (go_at_call 14; refine H1.out.mono ?_; rintro _ w1 ⟨rfl, hb⟩; have HB1 := Lib.hid hb; clear hb H1)
              | (go_at_call 14; refine (H2.out _).mono ?_; rintro _ w2 ⟨rfl, hb⟩; have HB2 := Lib.hid (below_step HB1.out hb); clear hb H2)
              | (go_at_call 16; refine (H3.out _).mono ?_; rintro _ w3 ⟨rfl, hb⟩; have HB3 := Lib.hid (below_step HB2.out hb); clear hb H3)
              | (go_at_call 16; refine (H4.out _).mono ?_; rintro _ w4 ⟨rfl, hb⟩; have HB4 := Lib.hid (below_step HB3.out hb); clear hb H4)
              | (go_at_call 13; refine (HA.out _ (HT.out.below HB4.out)).mono ?_; rintro _ w6 ⟨rfl, hb⟩; have HB6 := Lib.hid (below_step HB4.out hb); clear hb))
            go_ret
            exact ⟨rfl, HB6.out⟩
          · clear hfree H4
            go_enter Tryd.func6, Tryd.ntmps6
            go_wp2_with (first
              | (go_at_call 14; refine H1.out.mono ?_; rintro _ w1 ⟨rfl, hb⟩; have HB1 := Lib.hid hb; clear hb H1)
              | (go_at_call 14; refine (H2.out _).mono ?_; rintro _ w2 ⟨rfl, hb⟩; have HB2 := Lib.hid (below_step HB1.out hb); clear hb H2)
              | (go_at_call 16; refine (H3.out _).mono ?_; rintro _ w3 ⟨rfl, hb⟩; have HB3 := Lib.hid (below_step HB2.out hb); clear hb H3)
              | (go_at_call 13; refine (HA.out _ (HT.out.below HB3.out)).mono ?_; rintro _ w6 ⟨rfl, hb⟩; have HB6 := Lib.hid (below_step HB3.out hb); clear hb))
            go_ret
            exact ⟨rfl, HB6.out⟩
      · have bi : ((i : Int) == 0) = false := by rw [beq_eq_false_iff_ne]; omega
        obtain ⟨h16, rfl⟩ := hnone hi
        have hd16 : decide ((16 : Int) ≤ s.length) = true := decide_eq_true (by omega)
        clear hinj hfree hnone H3 H4
        go_enter Tryd.func6, Tryd.ntmps6
        go_wp2_with (first
          | (go_at_call 14; refine H1.out.mono ?_; rintro _ w1 ⟨rfl, hb⟩; have HB1 := Lib.hid hb; clear hb H1)
          | (go_at_call 14; refine (H2.out _).mono ?_; rintro _ w2 ⟨rfl, hb⟩; have HB2 := Lib.hid (below_step HB1.out hb); clear hb H2)
          | (go_at_call 13; refine (HA.out _ (HT.out.below HB2.out)).mono ?_; rintro _ w6 ⟨rfl, hb⟩; have HB6 := Lib.hid (below_step HB2.out hb); clear hb))
        go_ret
        exact ⟨rfl, HB6.out⟩
end Go.Proofs.YtlindlmcojmhcaaDoor
