/- What the program's arranged answers: the operands of Zilog's form, in their order; the name is an opcode's without a condition. -/
import Derived.Test.YtlindlmcojmhcaaDoorZpRows
namespace Go.Proofs.YtlindlmcojmhcaaDoor
open Go.RowKit

theorem textN_two (w : World) (x y : List UInt8) : TextR (w.alloc (.cells #[.string ⟨x.toArray⟩, .string ⟨y.toArray⟩] 9)) (.slice (some ⟨w.heap.size, 0, none⟩) 2 2) [x, y] := by
  refine ⟨w.heap.size, 0, _, 2, rfl, Nat.le_refl _, fun _ => rfl, fun i z hz => ?_⟩
  match i, hz with
  | 0, hz => simp at hz; subst hz; simp [strV]
  | 1, hz => simp at hz; subst hz; simp [strV]
  | i + 2, hz => simp at hz
theorem textN_one (w : World) (x : List UInt8) : TextR (w.alloc (.cells #[.string ⟨x.toArray⟩] 9)) (.slice (some ⟨w.heap.size, 0, none⟩) 1 1) [x] := by
  refine ⟨w.heap.size, 0, _, 1, rfl, Nat.le_refl _, fun _ => rfl, fun i z hz => ?_⟩
  match i, hz with
  | 0, hz => simp at hz; subst hz; simp [strV]
  | i + 1, hz => simp at hz
theorem list_two (x y : List UInt8) (w : World) : Calls Tryd.prog 28 #[.slice (some ⟨w.heap.size, 0, none⟩) 2 2] (w.alloc (.cells #[.string ⟨x.toArray⟩, .string ⟨y.toArray⟩] 9)) fun e w' => ∃ v', e = .returned v' ∧ TextR w' v' [x, y] ∧ Below w.heap.size w w' := by
  refine (list_any [x, y] (by simp) _ _ (textN_two w x y)).mono ?_
  rintro e w1 ⟨v, rfl, ho, hb⟩
  exact ⟨v, rfl, textR_of_own ho rfl, below_new _ hb⟩
theorem list_one (x : List UInt8) (w : World) : Calls Tryd.prog 28 #[.slice (some ⟨w.heap.size, 0, none⟩) 1 1] (w.alloc (.cells #[.string ⟨x.toArray⟩] 9)) fun e w' => ∃ v', e = .returned v' ∧ TextR w' v' [x] ∧ w'.ownsRow w.heap.size 9 1 v' 1 (strs [x]) ∧ Below w.heap.size w w' := by
  refine (list_any [x] (by simp) _ _ (textN_one w x)).mono ?_
  rintro e w1 ⟨v, rfl, ho, hb⟩
  exact ⟨v, rfl, textR_of_own ho rfl, ⟨ho.1, ho.2.imp id fun ⟨g, cap, cur, h1, h2, h3⟩ => ⟨g, cap, cur, h1, Nat.le_trans (by simp) h2, h3⟩⟩, below_new _ hb⟩
def arrAL : List (List UInt8 × List UInt8) := [([65, 68, 68], [65]), ([65, 68, 67], [65]), ([83, 66, 66], [65]), ([65, 68, 73], [65]), ([65, 67, 73], [65]), ([83, 66, 73], [65]), ([68, 65, 68], [72, 76])]
def arrBL : List (List UInt8 × List UInt8) := [([83, 84, 65, 88], [65]), ([83, 84, 65], [65]), ([79, 85, 84], [65]), ([83, 72, 76, 68], [72, 76])]
def arrCL : List (List UInt8 × List UInt8) := [([76, 68, 65, 88], [65]), ([76, 68, 65], [65]), ([73, 78], [65]), ([76, 72, 76, 68], [72, 76])]
set_option maxHeartbeats 2000000 in
theorem arrA (s pre x : List UInt8) (l : List (List UInt8)) (hs : (s, pre) ∈ arrAL) (v : Value) (w : World) (hv : TextR w v (x :: l)) :
    Calls Tryd.prog 30 #[.string ⟨s.toArray⟩, v] w fun e w' => ∃ v', e = .returned v' ∧ TextR w' v' [pre, x] ∧ Below w.heap.size w w' := by
  obtain ⟨b, o, c, rfl, hc, k0, hTl⟩ := textR_tail hv
  unfold strV at k0
  clear hTl hv
  generalize l.length = n at hc ⊢
  have HL := Lib.hid (fun p w => list_two p x w)
  simp only [arrAL, List.mem_cons, List.not_mem_nil, or_false, Prod.mk.injEq] at hs
  rcases hs with ⟨rfl, rfl⟩ | ⟨rfl, rfl⟩ | ⟨rfl, rfl⟩ | ⟨rfl, rfl⟩ | ⟨rfl, rfl⟩ | ⟨rfl, rfl⟩ | ⟨rfl, rfl⟩ <;>
  · go_enter Tryd.func30, Tryd.ntmps30
    go_wp2_with (first | (go_at_call 28; refine (HL.out _ _).mono ?_; rintro _ w1 ⟨v1, rfl, hT1, hb1⟩; have HT1 := Lib.hid hT1; have HB1 := Lib.hid hb1; clear hT1 hb1))
    go_ret
    exact ⟨_, rfl, HT1.out, HB1.out⟩
set_option maxHeartbeats 2000000 in
theorem arrB (s pre x : List UInt8) (l : List (List UInt8)) (hs : (s, pre) ∈ arrBL) (hx : x ∈ insI) (v : Value) (w : World) (hv : TextR w v (x :: l)) :
    Calls Tryd.prog 30 #[.string ⟨s.toArray⟩, v] w fun e w' => ∃ v', e = .returned v' ∧ TextR w' v' [[40] ++ x ++ [41], pre] ∧ Below w.heap.size w w' := by
  obtain ⟨b, o, c, rfl, hc, k0, hTl⟩ := textR_tail hv
  unfold strV at k0
  clear hTl hv
  generalize l.length = n at hc ⊢
  have HW := Lib.hid (fun w => within_any hx w)
  clear hx
  generalize [40] ++ x ++ [41] = y at HW ⊢
  have HL := Lib.hid (fun p w => list_two y p w)
  simp only [arrBL, List.mem_cons, List.not_mem_nil, or_false, Prod.mk.injEq] at hs
  rcases hs with ⟨rfl, rfl⟩ | ⟨rfl, rfl⟩ | ⟨rfl, rfl⟩ | ⟨rfl, rfl⟩ <;>
  · go_enter Tryd.func30, Tryd.ntmps30
    go_wp2_with (first | (go_at_call 47; refine (HW.out _).mono ?_; rintro _ _ ⟨rfl, rfl⟩) | (go_at_call 28; refine (HL.out _ _).mono ?_; rintro _ w1 ⟨v1, rfl, hT1, hb1⟩; have HT1 := Lib.hid hT1; have HB1 := Lib.hid hb1; clear hT1 hb1))
    go_ret
    exact ⟨_, rfl, HT1.out, HB1.out⟩
set_option maxHeartbeats 2000000 in
theorem arrC (s pre x : List UInt8) (l : List (List UInt8)) (hs : (s, pre) ∈ arrCL) (hx : x ∈ insI) (v : Value) (w : World) (hv : TextR w v (x :: l)) :
    Calls Tryd.prog 30 #[.string ⟨s.toArray⟩, v] w fun e w' => ∃ v', e = .returned v' ∧ TextR w' v' [pre, [40] ++ x ++ [41]] ∧ Below w.heap.size w w' := by
  obtain ⟨b, o, c, rfl, hc, k0, hTl⟩ := textR_tail hv
  unfold strV at k0
  clear hTl hv
  generalize l.length = n at hc ⊢
  have HW := Lib.hid (fun w => within_any hx w)
  clear hx
  generalize [40] ++ x ++ [41] = y at HW ⊢
  have HL := Lib.hid (fun p w => list_two p y w)
  simp only [arrCL, List.mem_cons, List.not_mem_nil, or_false, Prod.mk.injEq] at hs
  rcases hs with ⟨rfl, rfl⟩ | ⟨rfl, rfl⟩ | ⟨rfl, rfl⟩ | ⟨rfl, rfl⟩ <;>
  · go_enter Tryd.func30, Tryd.ntmps30
    go_wp2_with (first | (go_at_call 47; refine (HW.out _).mono ?_; rintro _ _ ⟨rfl, rfl⟩) | (go_at_call 28; refine (HL.out _ _).mono ?_; rintro _ w1 ⟨v1, rfl, hT1, hb1⟩; have HT1 := Lib.hid hT1; have HB1 := Lib.hid hb1; clear hT1 hb1))
    go_ret
    exact ⟨_, rfl, HT1.out, HB1.out⟩
set_option maxHeartbeats 2000000 in
theorem arrSphl (sp : Option Addr) (n c : Nat) (w : World) :
    Calls Tryd.prog 30 #[.string ⟨([83, 80, 72, 76] : List UInt8).toArray⟩, .slice sp n c] w fun e w' => ∃ v', e = .returned v' ∧ TextR w' v' [[83, 80], [72, 76]] ∧ Below w.heap.size w w' := by
  have HL := Lib.hid (fun w => list_two [83, 80] [72, 76] w)
  go_enter Tryd.func30, Tryd.ntmps30
  go_wp2_with (first | (go_at_call 28; refine (HL.out _).mono ?_; rintro _ w1 ⟨v1, rfl, hT1, hb1⟩; have HT1 := Lib.hid hT1; have HB1 := Lib.hid hb1; clear hT1 hb1))
  go_ret
  exact ⟨_, rfl, HT1.out, HB1.out⟩
set_option maxHeartbeats 2000000 in
theorem arrXchg (sp : Option Addr) (n c : Nat) (w : World) :
    Calls Tryd.prog 30 #[.string ⟨([88, 67, 72, 71] : List UInt8).toArray⟩, .slice sp n c] w fun e w' => ∃ v', e = .returned v' ∧ TextR w' v' [[68, 69], [72, 76]] ∧ Below w.heap.size w w' := by
  have HL := Lib.hid (fun w => list_two [68, 69] [72, 76] w)
  go_enter Tryd.func30, Tryd.ntmps30
  go_wp2_with (first | (go_at_call 28; refine (HL.out _).mono ?_; rintro _ w1 ⟨v1, rfl, hT1, hb1⟩; have HT1 := Lib.hid hT1; have HB1 := Lib.hid hb1; clear hT1 hb1))
  go_ret
  exact ⟨_, rfl, HT1.out, HB1.out⟩
set_option maxHeartbeats 2000000 in
theorem arrXthl (sp : Option Addr) (n c : Nat) (w : World) :
    Calls Tryd.prog 30 #[.string ⟨([88, 84, 72, 76] : List UInt8).toArray⟩, .slice sp n c] w fun e w' => ∃ v', e = .returned v' ∧ TextR w' v' [[40, 83, 80, 41], [72, 76]] ∧ Below w.heap.size w w' := by
  have HW := Lib.hid (fun w => within_any (x := [83, 80]) (by decide) w)
  simp only [List.cons_append, List.nil_append] at HW
  have HL := Lib.hid (fun w => list_two [40, 83, 80, 41] [72, 76] w)
  go_enter Tryd.func30, Tryd.ntmps30
  go_wp2_with (first | (go_at_call 47; refine (HW.out _).mono ?_; rintro _ _ ⟨rfl, rfl⟩) | (go_at_call 28; refine (HL.out _).mono ?_; rintro _ w1 ⟨v1, rfl, hT1, hb1⟩; have HT1 := Lib.hid hT1; have HB1 := Lib.hid hb1; clear hT1 hb1))
  go_ret
  exact ⟨_, rfl, HT1.out, HB1.out⟩
set_option maxHeartbeats 2000000 in
theorem arrPchl (sp : Option Addr) (n c : Nat) (w : World) :
    Calls Tryd.prog 30 #[.string ⟨([80, 67, 72, 76] : List UInt8).toArray⟩, .slice sp n c] w fun e w' => ∃ v', e = .returned v' ∧ TextR w' v' [[40, 72, 76, 41]] ∧ Below w.heap.size w w' := by
  have HW := Lib.hid (fun w => within_any (x := [72, 76]) (by decide) w)
  simp only [List.cons_append, List.nil_append] at HW
  have HL := Lib.hid (fun w => list_one [40, 72, 76, 41] w)
  go_enter Tryd.func30, Tryd.ntmps30
  go_wp2_with (first | (go_at_call 47; refine (HW.out _).mono ?_; rintro _ _ ⟨rfl, rfl⟩) | (go_at_call 28; refine (HL.out _).mono ?_; rintro _ w1 ⟨v1, rfl, hT1, _, hb1⟩; have HT1 := Lib.hid hT1; have HB1 := Lib.hid hb1; clear hT1 hb1))
  go_ret
  exact ⟨_, rfl, HT1.out, HB1.out⟩
set_option maxHeartbeats 2000000 in
theorem arrRst (x y : List UInt8) (l : List (List UInt8)) (hx : (x, y) ∈ rstP) (v : Value) (w : World) (hv : TextR w v (x :: l)) :
    Calls Tryd.prog 30 #[.string ⟨([82, 83, 84] : List UInt8).toArray⟩, v] w fun e w' => ∃ v', e = .returned v' ∧ TextR w' v' [y] ∧ Below w.heap.size w w' := by
  obtain ⟨b, o, c, rfl, hc, k0, hTl⟩ := textR_tail hv
  unfold strV at k0
  clear hTl hv
  generalize l.length = n at hc ⊢
  have HW := Lib.hid (fun w => restart_any hx w)
  have HL := Lib.hid (fun w => list_one y w)
  clear hx
  go_enter Tryd.func30, Tryd.ntmps30
  go_wp2_with (first | (go_at_call 48; refine (HW.out _).mono ?_; rintro _ _ ⟨rfl, rfl⟩) | (go_at_call 28; refine (HL.out _).mono ?_; rintro _ w1 ⟨v1, rfl, hT1, _, hb1⟩; have HT1 := Lib.hid hT1; have HB1 := Lib.hid hb1; clear hT1 hb1))
  go_ret
  exact ⟨_, rfl, HT1.out, HB1.out⟩
def arrNames : List (List UInt8) := [[65, 68, 68], [65, 68, 67], [83, 66, 66], [65, 68, 73], [65, 67, 73], [83, 66, 73], [68, 65, 68], [83, 84, 65, 88], [83, 84, 65], [79, 85, 84], [83, 72, 76, 68], [76, 68, 65, 88], [76, 68, 65], [73, 78], [76, 72, 76, 68], [83, 80, 72, 76], [88, 67, 72, 71], [88, 84, 72, 76], [80, 67, 72, 76], [82, 83, 84]]
set_option maxHeartbeats 2000000 in
theorem arrRest (s : List UInt8) (hs : s ∉ arrNames) (sp : Option Addr) (n c : Nat) (w : World) :
    Calls Tryd.prog 30 #[.string ⟨s.toArray⟩, .slice sp n c] w fun e w' => e = .returned (.slice sp n c) ∧ w' = w := by
  have hb : ∀ t ∈ arrNames, (s == t) = false := fun t ht => by rw [beq_eq_false_iff_ne]; intro e; exact hs (e ▸ ht)
  have b0 := hb [65, 68, 68] (by decide)
  have b1 := hb [65, 68, 67] (by decide)
  have b2 := hb [83, 66, 66] (by decide)
  have b3 := hb [65, 68, 73] (by decide)
  have b4 := hb [65, 67, 73] (by decide)
  have b5 := hb [83, 66, 73] (by decide)
  have b6 := hb [68, 65, 68] (by decide)
  have b7 := hb [83, 84, 65, 88] (by decide)
  have b8 := hb [83, 84, 65] (by decide)
  have b9 := hb [79, 85, 84] (by decide)
  have b10 := hb [83, 72, 76, 68] (by decide)
  have b11 := hb [76, 68, 65, 88] (by decide)
  have b12 := hb [76, 68, 65] (by decide)
  have b13 := hb [73, 78] (by decide)
  have b14 := hb [76, 72, 76, 68] (by decide)
  have b15 := hb [83, 80, 72, 76] (by decide)
  have b16 := hb [88, 67, 72, 71] (by decide)
  have b17 := hb [88, 84, 72, 76] (by decide)
  have b18 := hb [80, 67, 72, 76] (by decide)
  have b19 := hb [82, 83, 84] (by decide)
  clear hb hs
  go_enter Tryd.func30, Tryd.ntmps30
  go_wp2
  go_ret
  exact ⟨rfl, rfl⟩
end Go.Proofs.YtlindlmcojmhcaaDoor
