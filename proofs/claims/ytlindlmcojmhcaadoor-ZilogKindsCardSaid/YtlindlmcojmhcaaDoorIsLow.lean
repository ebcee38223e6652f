/- What the program's lowForm answers: the form of any opcode below 40; the program's tables hold what its text says. -/
import Derived.Test.YtlindlmcojmhcaaDoorIsLeaf
namespace Go.Proofs.YtlindlmcojmhcaaDoor
open Go.RowKit
set_option maxHeartbeats 8000000 in
theorem low_any (op : Nat) (h : op < 256) (w : World) (hT : Tabs w) : Calls Tryd.prog 55 #[.int .u8 op] w fun e w' => e = .returned (formV (lowL op)) ∧ Below w.heap.size w w' := by
  have HM := Lib.hid (middle_any op h)
  have HH := Lib.hid (high_any op h)
  have HO := Lib.hid (odd_any op h)
  have HS := Lib.hid (store_any op h)
  have hp : op / 16 % 4 < 4 := by omega
  have hr : op / 8 % 8 < 8 := by omega
  have HT := Lib.hid hT
  have HP := fun o => (hT.alloc o).pairs (op / 16 % 4) hp
  have HR0 := fun o => (hT.alloc o).regs (op / 8 % 8) hr
  have HTV := fun o => (hT.alloc o).turns (op / 8 % 8) hr
  clear hT
  unfold lowL
  generalize hx : ix pairsL (op / 16 % 4) = x at HP ⊢
  generalize hy : ix regsL (op / 8 % 8) = y at HR0 ⊢
  generalize hz : ix turnsL (op / 8 % 8) = z at HTV ⊢
  clear hx hy hz
  obtain ⟨j, hj⟩ : ∃ j, op % 8 = j := ⟨_, rfl⟩
  have hj8 : j < 8 := by omega
  rw [hj]
  match j, hj8 with
  | 0, _ =>
    have hjz : (op : Int) % 8 = 0 := by omega
    try dsimp only
    by_cases h0 : op = 0
    · have hb : ((op : Int) == 0) = true := by rw [beq_iff_eq]; omega
      rw [if_pos h0]
      clear h0
      go_enter Tryd.func55, Tryd.ntmps55
      go_wp2
      have hB := box_below w box0
      have hR := at_new w box0
      have HP := HP box0
      have HR0 := HR0 box0
      have HTV := HTV box0
      have HT := Lib.hid (HT.out.alloc box0)
      unfold box0 at hB hR HP HR0 HTV HT
      generalize w.alloc (Obj.cells #[.string ⟨#[]⟩, .string ⟨#[]⟩, .string ⟨#[]⟩, .int .i64 0] 50) = w0 at hB hR HP HR0 HTV HT ⊢
      go_quiet (first | (go_at_call 64; exact Calls.quiet_of_same (HH.out _)) | (go_at_call 41; exact Calls.quiet_of_same (HM.out _)))
      have HB := Lib.hid (below_drewN hB nq)
      have HR : Hid ((w0.drewN nq).heap[w.heap.size]? = some box0) := Lib.hid hR
      have HT1 : Hid (Tabs (w0.drewN nq)) := Lib.hid (HT.out.keep fun _ _ h => h)
      have HTU : (w0.drewN nq).cell? ⟨3, op / 8 % 8, none⟩ = some (.string ⟨z.toArray⟩) := HTV
      obtain ⟨⟨k0, k1, k2, k3⟩, ⟨f0, f1, f2, f3⟩⟩ := four HR.out
      generalize w0.drewN nq = w1 at HB HR HT1 HTU k0 k1 k2 k3 f0 f1 f2 f3 ⊢
      clear HT hB hR HP HR0 HTV w0
      go_wp2_with (first
        | (go_at_call 56; refine (formed0 [78, 79, 80] _).mono ?_; rintro _ w2 ⟨rfl, hb1⟩; have hB1 := below_step HB.out hb1; have hR1 := at_below hb1 HR.out; obtain ⟨⟨k0, k1, k2, k3⟩, ⟨f0, f1, f2, f3⟩⟩ := four hR1; have HB1 := Lib.hid hB1; have HR1 := Lib.hid hR1; clear hB1 hR1 hb1))
      exact finS rfl rfl HR1.out HB1.out rfl
    · rw [if_neg h0]
      have hb : ((op : Int) == 0) = false := by rw [beq_eq_false_iff_ne]; omega
      go_enter Tryd.func55, Tryd.ntmps55
      go_wp2
      have hB := box_below w box0
      have hR := at_new w box0
      have HP := HP box0
      have HR0 := HR0 box0
      have HTV := HTV box0
      have HT := Lib.hid (HT.out.alloc box0)
      unfold box0 at hB hR HP HR0 HTV HT
      generalize w.alloc (Obj.cells #[.string ⟨#[]⟩, .string ⟨#[]⟩, .string ⟨#[]⟩, .int .i64 0] 50) = w0 at hB hR HP HR0 HTV HT ⊢
      go_quiet (first | (go_at_call 64; exact Calls.quiet_of_same (HH.out _)) | (go_at_call 41; exact Calls.quiet_of_same (HM.out _)))
      have HB := Lib.hid (below_drewN hB nq)
      have HR : Hid ((w0.drewN nq).heap[w.heap.size]? = some box0) := Lib.hid hR
      have HT1 : Hid (Tabs (w0.drewN nq)) := Lib.hid (HT.out.keep fun _ _ h => h)
      have HTU : (w0.drewN nq).cell? ⟨3, op / 8 % 8, none⟩ = some (.string ⟨z.toArray⟩) := HTV
      obtain ⟨⟨k0, k1, k2, k3⟩, ⟨f0, f1, f2, f3⟩⟩ := four HR.out
      generalize w0.drewN nq = w1 at HB HR HT1 HTU k0 k1 k2 k3 f0 f1 f2 f3 ⊢
      clear HT hB hR HP HR0 HTV w0
      go_wp2
      exact finS rfl rfl HR.out HB.out rfl
  | 1, _ =>
    have hjz : (op : Int) % 8 = 1 := by omega
    try dsimp only
    cases ho : oddB op
    · rw [ho] at HO
      rw [if_neg (show ¬ (false = true) by decide)]
      go_enter Tryd.func55, Tryd.ntmps55
      go_wp2
      have hB := box_below w box0
      have hR := at_new w box0
      have HP := HP box0
      have HR0 := HR0 box0
      have HTV := HTV box0
      have HT := Lib.hid (HT.out.alloc box0)
      unfold box0 at hB hR HP HR0 HTV HT
      generalize w.alloc (Obj.cells #[.string ⟨#[]⟩, .string ⟨#[]⟩, .string ⟨#[]⟩, .int .i64 0] 50) = w0 at hB hR HP HR0 HTV HT ⊢
      go_quiet (first | (go_at_call 64; exact Calls.quiet_of_same (HH.out _)) | (go_at_call 41; exact Calls.quiet_of_same (HM.out _)))
      have HB := Lib.hid (below_drewN hB nq)
      have HR : Hid ((w0.drewN nq).heap[w.heap.size]? = some box0) := Lib.hid hR
      have HT1 : Hid (Tabs (w0.drewN nq)) := Lib.hid (HT.out.keep fun _ _ h => h)
      have HTU : (w0.drewN nq).cell? ⟨3, op / 8 % 8, none⟩ = some (.string ⟨z.toArray⟩) := HTV
      obtain ⟨⟨k0, k1, k2, k3⟩, ⟨f0, f1, f2, f3⟩⟩ := four HR.out
      generalize w0.drewN nq = w1 at HB HR HT1 HTU k0 k1 k2 k3 f0 f1 f2 f3 ⊢
      clear HT hB hR HP HR0 HTV w0
      go_wp2_with (first
        | (go_at_call 65; refine (HO.out _).mono ?_; rintro _ _ ⟨rfl, rfl⟩)
        | (go_at_call 56; refine (formed2 [76, 88, 73] x d16L (at_new _ _)).mono ?_; rintro _ w2 ⟨rfl, hb1⟩; have hB1 := below_step HB.out (below_new _ hb1); have hR1 := at_below hb1 (at_old HR.out); obtain ⟨⟨k0, k1, k2, k3⟩, ⟨f0, f1, f2, f3⟩⟩ := four hR1; have HB1 := Lib.hid hB1; have HR1 := Lib.hid hR1; clear hB1 hR1 hb1))
      exact finS rfl rfl HR1.out HB1.out rfl
    · rw [ho] at HO
      rw [if_pos (show true = true from rfl)]
      go_enter Tryd.func55, Tryd.ntmps55
      go_wp2
      have hB := box_below w box0
      have hR := at_new w box0
      have HP := HP box0
      have HR0 := HR0 box0
      have HTV := HTV box0
      have HT := Lib.hid (HT.out.alloc box0)
      unfold box0 at hB hR HP HR0 HTV HT
      generalize w.alloc (Obj.cells #[.string ⟨#[]⟩, .string ⟨#[]⟩, .string ⟨#[]⟩, .int .i64 0] 50) = w0 at hB hR HP HR0 HTV HT ⊢
      go_quiet (first | (go_at_call 64; exact Calls.quiet_of_same (HH.out _)) | (go_at_call 41; exact Calls.quiet_of_same (HM.out _)))
      have HB := Lib.hid (below_drewN hB nq)
      have HR : Hid ((w0.drewN nq).heap[w.heap.size]? = some box0) := Lib.hid hR
      have HT1 : Hid (Tabs (w0.drewN nq)) := Lib.hid (HT.out.keep fun _ _ h => h)
      have HTU : (w0.drewN nq).cell? ⟨3, op / 8 % 8, none⟩ = some (.string ⟨z.toArray⟩) := HTV
      obtain ⟨⟨k0, k1, k2, k3⟩, ⟨f0, f1, f2, f3⟩⟩ := four HR.out
      generalize w0.drewN nq = w1 at HB HR HT1 HTU k0 k1 k2 k3 f0 f1 f2 f3 ⊢
      clear HT hB hR HP HR0 HTV w0
      go_wp2_with (first
        | (go_at_call 65; refine (HO.out _).mono ?_; rintro _ _ ⟨rfl, rfl⟩)
        | (go_at_call 56; refine (formed1 [68, 65, 68] x (at_new _ _)).mono ?_; rintro _ w2 ⟨rfl, hb1⟩; have hB1 := below_step HB.out (below_new _ hb1); have hR1 := at_below hb1 (at_old HR.out); obtain ⟨⟨k0, k1, k2, k3⟩, ⟨f0, f1, f2, f3⟩⟩ := four hR1; have HB1 := Lib.hid hB1; have HR1 := Lib.hid hR1; clear hB1 hR1 hb1))
      exact finS rfl rfl HR1.out HB1.out rfl
  | 2, _ =>
    have hjz : (op : Int) % 8 = 2 := by omega
    try dsimp only
    generalize hzs : storeL op = zs at HS ⊢
    clear hzs
    unfold formV at HS ⊢
    go_enter Tryd.func55, Tryd.ntmps55
    go_wp2
    have hB := box_below w box0
    have hR := at_new w box0
    have HP := HP box0
    have HR0 := HR0 box0
    have HTV := HTV box0
    have HT := Lib.hid (HT.out.alloc box0)
    unfold box0 at hB hR HP HR0 HTV HT
    generalize w.alloc (Obj.cells #[.string ⟨#[]⟩, .string ⟨#[]⟩, .string ⟨#[]⟩, .int .i64 0] 50) = w0 at hB hR HP HR0 HTV HT ⊢
    go_quiet (first | (go_at_call 64; exact Calls.quiet_of_same (HH.out _)) | (go_at_call 41; exact Calls.quiet_of_same (HM.out _)))
    have HB := Lib.hid (below_drewN hB nq)
    have HR : Hid ((w0.drewN nq).heap[w.heap.size]? = some box0) := Lib.hid hR
    have HT1 : Hid (Tabs (w0.drewN nq)) := Lib.hid (HT.out.keep fun _ _ h => h)
    have HTU : (w0.drewN nq).cell? ⟨3, op / 8 % 8, none⟩ = some (.string ⟨z.toArray⟩) := HTV
    obtain ⟨⟨k0, k1, k2, k3⟩, ⟨f0, f1, f2, f3⟩⟩ := four HR.out
    generalize w0.drewN nq = w1 at HB HR HT1 HTU k0 k1 k2 k3 f0 f1 f2 f3 ⊢
    clear HT hB hR HP HR0 HTV w0
    go_wp2_with (first
      | (go_at_call 66; refine (HS.out _ HT1.out).mono ?_; rintro _ w2 ⟨rfl, hb1⟩; have hB1 := below_step HB.out hb1; have hR1 := at_below hb1 HR.out; obtain ⟨⟨k0, k1, k2, k3⟩, ⟨f0, f1, f2, f3⟩⟩ := four hR1; have HB1 := Lib.hid hB1; have HR1 := Lib.hid hR1; clear hB1 hR1 hb1))
    exact finS rfl rfl HR1.out HB1.out rfl
  | 3, _ =>
    have hjz : (op : Int) % 8 = 3 := by omega
    try dsimp only
    cases ho : oddB op
    · rw [ho] at HO
      rw [if_neg (show ¬ (false = true) by decide)]
      go_enter Tryd.func55, Tryd.ntmps55
      go_wp2
      have hB := box_below w box0
      have hR := at_new w box0
      have HP := HP box0
      have HR0 := HR0 box0
      have HTV := HTV box0
      have HT := Lib.hid (HT.out.alloc box0)
      unfold box0 at hB hR HP HR0 HTV HT
      generalize w.alloc (Obj.cells #[.string ⟨#[]⟩, .string ⟨#[]⟩, .string ⟨#[]⟩, .int .i64 0] 50) = w0 at hB hR HP HR0 HTV HT ⊢
      go_quiet (first | (go_at_call 64; exact Calls.quiet_of_same (HH.out _)) | (go_at_call 41; exact Calls.quiet_of_same (HM.out _)))
      have HB := Lib.hid (below_drewN hB nq)
      have HR : Hid ((w0.drewN nq).heap[w.heap.size]? = some box0) := Lib.hid hR
      have HT1 : Hid (Tabs (w0.drewN nq)) := Lib.hid (HT.out.keep fun _ _ h => h)
      have HTU : (w0.drewN nq).cell? ⟨3, op / 8 % 8, none⟩ = some (.string ⟨z.toArray⟩) := HTV
      obtain ⟨⟨k0, k1, k2, k3⟩, ⟨f0, f1, f2, f3⟩⟩ := four HR.out
      generalize w0.drewN nq = w1 at HB HR HT1 HTU k0 k1 k2 k3 f0 f1 f2 f3 ⊢
      clear HT hB hR HP HR0 HTV w0
      go_wp2_with (first
        | (go_at_call 65; refine (HO.out _).mono ?_; rintro _ _ ⟨rfl, rfl⟩)
        | (go_at_call 56; refine (formed1 [73, 78, 88] x (at_new _ _)).mono ?_; rintro _ w2 ⟨rfl, hb1⟩; have hB1 := below_step HB.out (below_new _ hb1); have hR1 := at_below hb1 (at_old HR.out); obtain ⟨⟨k0, k1, k2, k3⟩, ⟨f0, f1, f2, f3⟩⟩ := four hR1; have HB1 := Lib.hid hB1; have HR1 := Lib.hid hR1; clear hB1 hR1 hb1))
      exact finS rfl rfl HR1.out HB1.out rfl
    · rw [ho] at HO
      rw [if_pos (show true = true from rfl)]
      go_enter Tryd.func55, Tryd.ntmps55
      go_wp2
      have hB := box_below w box0
      have hR := at_new w box0
      have HP := HP box0
      have HR0 := HR0 box0
      have HTV := HTV box0
      have HT := Lib.hid (HT.out.alloc box0)
      unfold box0 at hB hR HP HR0 HTV HT
      generalize w.alloc (Obj.cells #[.string ⟨#[]⟩, .string ⟨#[]⟩, .string ⟨#[]⟩, .int .i64 0] 50) = w0 at hB hR HP HR0 HTV HT ⊢
      go_quiet (first | (go_at_call 64; exact Calls.quiet_of_same (HH.out _)) | (go_at_call 41; exact Calls.quiet_of_same (HM.out _)))
      have HB := Lib.hid (below_drewN hB nq)
      have HR : Hid ((w0.drewN nq).heap[w.heap.size]? = some box0) := Lib.hid hR
      have HT1 : Hid (Tabs (w0.drewN nq)) := Lib.hid (HT.out.keep fun _ _ h => h)
      have HTU : (w0.drewN nq).cell? ⟨3, op / 8 % 8, none⟩ = some (.string ⟨z.toArray⟩) := HTV
      obtain ⟨⟨k0, k1, k2, k3⟩, ⟨f0, f1, f2, f3⟩⟩ := four HR.out
      generalize w0.drewN nq = w1 at HB HR HT1 HTU k0 k1 k2 k3 f0 f1 f2 f3 ⊢
      clear HT hB hR HP HR0 HTV w0
      go_wp2_with (first
        | (go_at_call 65; refine (HO.out _).mono ?_; rintro _ _ ⟨rfl, rfl⟩)
        | (go_at_call 56; refine (formed1 [68, 67, 88] x (at_new _ _)).mono ?_; rintro _ w2 ⟨rfl, hb1⟩; have hB1 := below_step HB.out (below_new _ hb1); have hR1 := at_below hb1 (at_old HR.out); obtain ⟨⟨k0, k1, k2, k3⟩, ⟨f0, f1, f2, f3⟩⟩ := four hR1; have HB1 := Lib.hid hB1; have HR1 := Lib.hid hR1; clear hB1 hR1 hb1))
      exact finS rfl rfl HR1.out HB1.out rfl
  | 4, _ =>
    have hjz : (op : Int) % 8 = 4 := by omega
    try dsimp only
    go_enter Tryd.func55, Tryd.ntmps55
    go_wp2
    have hB := box_below w box0
    have hR := at_new w box0
    have HP := HP box0
    have HR0 := HR0 box0
    have HTV := HTV box0
    have HT := Lib.hid (HT.out.alloc box0)
    unfold box0 at hB hR HP HR0 HTV HT
    generalize w.alloc (Obj.cells #[.string ⟨#[]⟩, .string ⟨#[]⟩, .string ⟨#[]⟩, .int .i64 0] 50) = w0 at hB hR HP HR0 HTV HT ⊢
    go_quiet (first | (go_at_call 64; exact Calls.quiet_of_same (HH.out _)) | (go_at_call 41; exact Calls.quiet_of_same (HM.out _)))
    have HB := Lib.hid (below_drewN hB nq)
    have HR : Hid ((w0.drewN nq).heap[w.heap.size]? = some box0) := Lib.hid hR
    have HT1 : Hid (Tabs (w0.drewN nq)) := Lib.hid (HT.out.keep fun _ _ h => h)
    have HTU : (w0.drewN nq).cell? ⟨3, op / 8 % 8, none⟩ = some (.string ⟨z.toArray⟩) := HTV
    obtain ⟨⟨k0, k1, k2, k3⟩, ⟨f0, f1, f2, f3⟩⟩ := four HR.out
    generalize w0.drewN nq = w1 at HB HR HT1 HTU k0 k1 k2 k3 f0 f1 f2 f3 ⊢
    clear HT hB hR HP HR0 HTV w0
    go_wp2_with (first
      | (go_at_call 56; refine (formed1 [73, 78, 82] y (at_new _ _)).mono ?_; rintro _ w2 ⟨rfl, hb1⟩; have hB1 := below_step HB.out (below_new _ hb1); have hR1 := at_below hb1 (at_old HR.out); obtain ⟨⟨k0, k1, k2, k3⟩, ⟨f0, f1, f2, f3⟩⟩ := four hR1; have HB1 := Lib.hid hB1; have HR1 := Lib.hid hR1; clear hB1 hR1 hb1))
    exact finS rfl rfl HR1.out HB1.out rfl
  | 5, _ =>
    have hjz : (op : Int) % 8 = 5 := by omega
    try dsimp only
    go_enter Tryd.func55, Tryd.ntmps55
    go_wp2
    have hB := box_below w box0
    have hR := at_new w box0
    have HP := HP box0
    have HR0 := HR0 box0
    have HTV := HTV box0
    have HT := Lib.hid (HT.out.alloc box0)
    unfold box0 at hB hR HP HR0 HTV HT
    generalize w.alloc (Obj.cells #[.string ⟨#[]⟩, .string ⟨#[]⟩, .string ⟨#[]⟩, .int .i64 0] 50) = w0 at hB hR HP HR0 HTV HT ⊢
    go_quiet (first | (go_at_call 64; exact Calls.quiet_of_same (HH.out _)) | (go_at_call 41; exact Calls.quiet_of_same (HM.out _)))
    have HB := Lib.hid (below_drewN hB nq)
    have HR : Hid ((w0.drewN nq).heap[w.heap.size]? = some box0) := Lib.hid hR
    have HT1 : Hid (Tabs (w0.drewN nq)) := Lib.hid (HT.out.keep fun _ _ h => h)
    have HTU : (w0.drewN nq).cell? ⟨3, op / 8 % 8, none⟩ = some (.string ⟨z.toArray⟩) := HTV
    obtain ⟨⟨k0, k1, k2, k3⟩, ⟨f0, f1, f2, f3⟩⟩ := four HR.out
    generalize w0.drewN nq = w1 at HB HR HT1 HTU k0 k1 k2 k3 f0 f1 f2 f3 ⊢
    clear HT hB hR HP HR0 HTV w0
    go_wp2_with (first
      | (go_at_call 56; refine (formed1 [68, 67, 82] y (at_new _ _)).mono ?_; rintro _ w2 ⟨rfl, hb1⟩; have hB1 := below_step HB.out (below_new _ hb1); have hR1 := at_below hb1 (at_old HR.out); obtain ⟨⟨k0, k1, k2, k3⟩, ⟨f0, f1, f2, f3⟩⟩ := four hR1; have HB1 := Lib.hid hB1; have HR1 := Lib.hid hR1; clear hB1 hR1 hb1))
    exact finS rfl rfl HR1.out HB1.out rfl
  | 6, _ =>
    have hjz : (op : Int) % 8 = 6 := by omega
    try dsimp only
    go_enter Tryd.func55, Tryd.ntmps55
    go_wp2
    have hB := box_below w box0
    have hR := at_new w box0
    have HP := HP box0
    have HR0 := HR0 box0
    have HTV := HTV box0
    have HT := Lib.hid (HT.out.alloc box0)
    unfold box0 at hB hR HP HR0 HTV HT
    generalize w.alloc (Obj.cells #[.string ⟨#[]⟩, .string ⟨#[]⟩, .string ⟨#[]⟩, .int .i64 0] 50) = w0 at hB hR HP HR0 HTV HT ⊢
    go_quiet (first | (go_at_call 64; exact Calls.quiet_of_same (HH.out _)) | (go_at_call 41; exact Calls.quiet_of_same (HM.out _)))
    have HB := Lib.hid (below_drewN hB nq)
    have HR : Hid ((w0.drewN nq).heap[w.heap.size]? = some box0) := Lib.hid hR
    have HT1 : Hid (Tabs (w0.drewN nq)) := Lib.hid (HT.out.keep fun _ _ h => h)
    have HTU : (w0.drewN nq).cell? ⟨3, op / 8 % 8, none⟩ = some (.string ⟨z.toArray⟩) := HTV
    obtain ⟨⟨k0, k1, k2, k3⟩, ⟨f0, f1, f2, f3⟩⟩ := four HR.out
    generalize w0.drewN nq = w1 at HB HR HT1 HTU k0 k1 k2 k3 f0 f1 f2 f3 ⊢
    clear HT hB hR HP HR0 HTV w0
    go_wp2_with (first
      | (go_at_call 56; refine (formed2 [77, 86, 73] y d8L (at_new _ _)).mono ?_; rintro _ w2 ⟨rfl, hb1⟩; have hB1 := below_step HB.out (below_new _ hb1); have hR1 := at_below hb1 (at_old HR.out); obtain ⟨⟨k0, k1, k2, k3⟩, ⟨f0, f1, f2, f3⟩⟩ := four hR1; have HB1 := Lib.hid hB1; have HR1 := Lib.hid hR1; clear hB1 hR1 hb1))
    exact finS rfl rfl HR1.out HB1.out rfl
  | 7, _ =>
    have hjz : (op : Int) % 8 = 7 := by omega
    try dsimp only
    go_enter Tryd.func55, Tryd.ntmps55
    go_wp2
    have hB := box_below w box0
    have hR := at_new w box0
    have HP := HP box0
    have HR0 := HR0 box0
    have HTV := HTV box0
    have HT := Lib.hid (HT.out.alloc box0)
    unfold box0 at hB hR HP HR0 HTV HT
    generalize w.alloc (Obj.cells #[.string ⟨#[]⟩, .string ⟨#[]⟩, .string ⟨#[]⟩, .int .i64 0] 50) = w0 at hB hR HP HR0 HTV HT ⊢
    go_quiet (first | (go_at_call 64; exact Calls.quiet_of_same (HH.out _)) | (go_at_call 41; exact Calls.quiet_of_same (HM.out _)))
    have HB := Lib.hid (below_drewN hB nq)
    have HR : Hid ((w0.drewN nq).heap[w.heap.size]? = some box0) := Lib.hid hR
    have HT1 : Hid (Tabs (w0.drewN nq)) := Lib.hid (HT.out.keep fun _ _ h => h)
    have HTU : (w0.drewN nq).cell? ⟨3, op / 8 % 8, none⟩ = some (.string ⟨z.toArray⟩) := HTV
    obtain ⟨⟨k0, k1, k2, k3⟩, ⟨f0, f1, f2, f3⟩⟩ := four HR.out
    generalize w0.drewN nq = w1 at HB HR HT1 HTU k0 k1 k2 k3 f0 f1 f2 f3 ⊢
    clear HT hB hR HP HR0 HTV w0
    go_wp2_with (first
      | (go_at_call 41; refine (HM.out _).mono ?_; rintro _ _ ⟨rfl, rfl⟩)
      | (go_at_call 56; refine (formed0 z _).mono ?_; rintro _ w2 ⟨rfl, hb1⟩; have hB1 := below_step HB.out hb1; have hR1 := at_below hb1 HR.out; obtain ⟨⟨k0, k1, k2, k3⟩, ⟨f0, f1, f2, f3⟩⟩ := four hR1; have HB1 := Lib.hid hB1; have HR1 := Lib.hid hR1; clear hB1 hR1 hb1))
    exact finS rfl rfl HR1.out HB1.out rfl
end Go.Proofs.YtlindlmcojmhcaaDoor
