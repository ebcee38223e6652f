/- What the program's formOf answers: the form of any opcode; the program's tables hold what its text says. -/
import Derived.Test.YtlindlmcojmhcaaDoorIsLow
import Derived.Test.YtlindlmcojmhcaaDoorIsHigh
import Derived.StillTailTactics
namespace Go.Proofs.YtlindlmcojmhcaaDoor
open Go.RowKit
theorem and7 {n : Nat} (h : n < 256) : bits .and .u8 (n : Int) 7 = (n : Int) % 8 :=
  of_decide_eq_true (List.all_eq_true.1 (show ((List.range 256).all fun (n : Nat) => decide (bits .and .u8 (n : Int) 7 = (n : Int) % 8)) = true by kernel_rfl) n (List.mem_range.2 h))
theorem below_of_drew {w w2 : World} (hb : Below w.drew.heap.size w.drew w2) : Below w.heap.size w w2 := ((Below.refl _ w).drew).trans hb
set_option maxRecDepth 8000 in
set_option maxHeartbeats 8000000 in
theorem of_any (op : Nat) (h : op < 256) (w : World) (hT : Tabs w) : Calls Tryd.prog 38 #[.int .u8 op] w fun e w' => e = .returned (formV (formL op)) ∧ Below w.heap.size w w' := by
  have HM := Lib.hid (middle_any op h)
  have HL := Lib.hid (low_any op h)
  have HX := Lib.hid (highf_any op h)
  have HT := Lib.hid hT
  have hr : op / 8 % 8 < 8 := by omega
  have hs : op % 8 < 8 := by omega
  have HR1 := fun o => (hT.alloc o).regs (op / 8 % 8) hr
  have HR2 := fun o => (hT.alloc o).regs (op % 8) hs
  have HRK := fun o => (hT.alloc o).recks (op / 8 % 8) hr
  clear hT
  unfold formL
  generalize hx : ix regsL (op / 8 % 8) = x at HR1 ⊢
  generalize hy : ix regsL (op % 8) = y at HR2 ⊢
  generalize hz : ix recksL (op / 8 % 8) = z at HRK ⊢
  generalize hl : lowL op = fl at HL ⊢
  generalize hm : highL op = fm at HX ⊢
  clear hx hy hz hl hm
  unfold formV at HL HX ⊢
  obtain ⟨j, hj⟩ : ∃ j, op / 64 = j := ⟨_, rfl⟩
  have hj8 : j < 4 := by omega
  have hjz : (op : Int) / 64 = (j : Int) := by omega
  rw [hj]
  match j, hj8 with
  | 0, _ =>
    have hjz : (op : Int) / 64 = 0 := by omega
    try dsimp only
    go_enter Tryd.func38, Tryd.ntmps38
    go_wp2_with (first
      | (go_at_call 55; refine (HL.out _ (HT.out.alloc _)).mono ?_; rintro _ w1 ⟨rfl, hb1⟩; obtain ⟨hr1, hB⟩ := res_1 hb1; obtain ⟨⟨k0, k1, k2, k3⟩, ⟨f0, f1, f2, f3⟩⟩ := four hr1; have HB := Lib.hid hB; have HR := Lib.hid hr1; clear hr1 hB hb1))
    exact finS rfl rfl HR.out HB.out rfl
  | 1, _ =>
    have hjz : (op : Int) / 64 = 1 := by omega
    try dsimp only
    by_cases h0 : op = 118
    · have hb : ((op : Int) == 118) = true := by rw [beq_iff_eq]; omega
      rw [if_pos h0]
      clear h0
      go_enter Tryd.func38, Tryd.ntmps38
      go_wp2_with (first
        | (go_at_call 56; refine (formed0 [72, 76, 84] _).mono ?_; rintro _ w1 ⟨rfl, hb1⟩; obtain ⟨hr1, hB⟩ := res_1 hb1; obtain ⟨⟨k0, k1, k2, k3⟩, ⟨f0, f1, f2, f3⟩⟩ := four hr1; have HB := Lib.hid hB; have HR := Lib.hid hr1; clear hr1 hB hb1))
      exact finS rfl rfl HR.out HB.out rfl
    · rw [if_neg h0]
      have hb : ((op : Int) == 118) = false := by rw [beq_eq_false_iff_ne]; omega
      go_enter Tryd.func38, Tryd.ntmps38
      go_wp2
      have hB := box_below w box0
      have hR := at_new w box0
      have HT := Lib.hid (HT.out.alloc box0)
      have HR1 := HR1 box0
      have HR2 := HR2 box0
      have HRK := HRK box0
      unfold box0 at hB hR HT HR1 HR2 HRK
      generalize w.alloc (Obj.cells #[.string ⟨#[]⟩, .string ⟨#[]⟩, .string ⟨#[]⟩, .int .i64 0] 50) = w0 at hB hR HT HR1 HR2 HRK ⊢
      have HB : Hid (Below w.heap.size w w0.drew) := Lib.hid hB.drew
      have HR : Hid (w0.drew.heap[w.heap.size]? = some box0) := Lib.hid hR
      clear hB hR
      refine wp_region_still_tail 8 (by kernel_rfl) (by kernel_rfl) ?_
      simp only [List.take_succ_cons, List.take_zero, List.drop_succ_cons, List.drop_zero]
      still_step
      still_call (HM.out _)
      have g0 := and7 h
      have g1 : 0 ≤ (op : Int) / 8 % 8 := by omega
      have g2 : (op : Int) / 8 % 8 < 8 := by omega
      have g3 : ((op : Int) / 8 % 8).toNat = op / 8 % 8 := by omega
      have g4 : 0 ≤ (op : Int) % 8 := by omega
      have g5 : (op : Int) % 8 < 8 := by omega
      have g6 : ((op : Int) % 8).toNat = op % 8 := by omega
      repeat still_step
      refine wpStill_nil ?_
      clear g0 g1 g2 g3 g4 g5 g6
      change wpList _ _ _ _ _ w0.drew
      generalize w0.drew = w1 at HB HR ⊢
      clear HR1 HR2 HRK HT w0
      go_wp2_with (go_at_call 56; refine (formed2 [77, 79, 86] x y (at_new _ _)).mono ?_; rintro _ w2 ⟨rfl, hb1⟩; have hB1 := below_step HB.out (below_new _ hb1); have hR1 := at_below hb1 (at_old HR.out); obtain ⟨⟨k0, k1, k2, k3⟩, ⟨f0, f1, f2, f3⟩⟩ := four hR1; have HB1 := Lib.hid hB1; have HR1 := Lib.hid hR1; clear hB1 hR1 hb1)
      exact finS rfl rfl HR1.out HB1.out rfl
  | 2, _ =>
    have hjz : (op : Int) / 64 = 2 := by omega
    try dsimp only
    go_enter Tryd.func38, Tryd.ntmps38
    go_wp2
    have hB := box_below w box0
    have hR := at_new w box0
    have HT := Lib.hid (HT.out.alloc box0)
    have HR1 := HR1 box0
    have HR2 := HR2 box0
    have HRK := HRK box0
    unfold box0 at hB hR HT HR1 HR2 HRK
    generalize w.alloc (Obj.cells #[.string ⟨#[]⟩, .string ⟨#[]⟩, .string ⟨#[]⟩, .int .i64 0] 50) = w0 at hB hR HT HR1 HR2 HRK ⊢
    have g0 := and7 h
    have g1 : 0 ≤ (op : Int) / 8 % 8 := by omega
    have g2 : (op : Int) / 8 % 8 < 8 := by omega
    have g3 : ((op : Int) / 8 % 8).toNat = op / 8 % 8 := by omega
    have g4 : 0 ≤ (op : Int) % 8 := by omega
    have g5 : (op : Int) % 8 < 8 := by omega
    have g6 : ((op : Int) % 8).toNat = op % 8 := by omega
    have HB := Lib.hid hB
    have HR := Lib.hid hR
    clear hB hR
    have HR2a := fun o => cell_alloc o HR2
    have HRKa := fun o => cell_alloc o HRK
    go_region_with (first
      | (go_at_call 41; refine (HM.out _).mono ?_; rintro _ _ ⟨rfl, rfl⟩)
      | (go_at_call 56; refine (formed1 z y (by exact at_new w0 _)).mono ?_; rintro _ w2 ⟨rfl, hb1⟩; have hB1 := below_step HB.out (below_new _ (below_of_drew hb1)); have hR1 := at_below (below_of_drew hb1) (at_old HR.out); obtain ⟨⟨k0, k1, k2, k3⟩, ⟨f0, f1, f2, f3⟩⟩ := four hR1; have HB1 := Lib.hid hB1; have HR1 := Lib.hid hR1; clear hB1 hR1 hb1))
    all_goals (go_wp2; exact finS rfl rfl HR1.out HB1.out rfl)
  | 3, _ =>
    have hjz : (op : Int) / 64 = 3 := by omega
    try dsimp only
    go_enter Tryd.func38, Tryd.ntmps38
    go_wp2_with (first
      | (go_at_call 57; refine (HX.out _ (HT.out.alloc _)).mono ?_; rintro _ w1 ⟨rfl, hb1⟩; obtain ⟨hr1, hB⟩ := res_1 hb1; obtain ⟨⟨k0, k1, k2, k3⟩, ⟨f0, f1, f2, f3⟩⟩ := four hr1; have HB := Lib.hid hB; have HR := Lib.hid hr1; clear hr1 hB hb1))
    exact finS rfl rfl HR.out HB.out rfl
end Go.Proofs.YtlindlmcojmhcaaDoor
