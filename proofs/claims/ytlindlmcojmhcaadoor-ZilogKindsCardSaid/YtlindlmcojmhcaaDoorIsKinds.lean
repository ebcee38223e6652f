/- Which opcodes jump, which end, and their conditions: the program's answers and the document's; no condition. -/
import Derived.Test.YtlindlmcojmhcaaDoorIsForm
namespace Go.Proofs.YtlindlmcojmhcaaDoor
open Go.RowKit

def condI (op : Nat) : Int := if 192 ≤ op ∧ (op % 8 = 0 ∨ op % 8 = 2 ∨ op % 8 = 4) then ((op / 8 % 8 : Nat) : Int) else -1
def jumpB (op : Nat) : Bool := decide (op = 195 ∨ op = 205 ∨ (192 ≤ op ∧ (op % 8 = 2 ∨ op % 8 = 4)))
def endB (op : Nat) : Bool := decide (op = 118 ∨ op = 195 ∨ op = 201 ∨ op = 233)
theorem and199 {n : Nat} (h : n < 256) : bits .and .u8 (n : Int) 199 = ((n / 64 * 64 + n % 8 : Nat) : Int) :=
  of_decide_eq_true (List.all_eq_true.1 (show ((List.range 256).all fun (n : Nat) => decide (bits .and .u8 (n : Int) 199 = ((n / 64 * 64 + n % 8 : Nat) : Int))) = true by kernel_rfl) n (List.mem_range.2 h))
theorem cond_any (op : Nat) (h : op < 256) (w : World) : Calls Tryd.prog 21 #[.int .u8 op] w fun e w' => e = .returned (.int .i64 (condI op)) ∧ w' = w := by
  have HM := Lib.hid (middle_any op h)
  have g := and199 h
  obtain ⟨q, hq⟩ : ∃ q, op / 64 * 64 + op % 8 = q := ⟨_, rfl⟩
  rw [hq] at g
  unfold condI
  by_cases h192 : q = 192
  · subst h192
    rw [if_pos (by omega)]
    go_enter Tryd.func21, Tryd.ntmps21
    go_wp2_with (go_at_call 41; refine (HM.out _).mono ?_; rintro _ _ ⟨rfl, rfl⟩)
    go_ret
    exact ⟨by simp, rfl⟩
  by_cases h194 : q = 194
  · subst h194
    rw [if_pos (by omega)]
    go_enter Tryd.func21, Tryd.ntmps21
    go_wp2_with (go_at_call 41; refine (HM.out _).mono ?_; rintro _ _ ⟨rfl, rfl⟩)
    go_ret
    exact ⟨by simp, rfl⟩
  by_cases h196 : q = 196
  · subst h196
    rw [if_pos (by omega)]
    go_enter Tryd.func21, Tryd.ntmps21
    go_wp2_with (go_at_call 41; refine (HM.out _).mono ?_; rintro _ _ ⟨rfl, rfl⟩)
    go_ret
    exact ⟨by simp, rfl⟩
  rw [if_neg (by omega)]
  have b192 : ((q : Int) == 192) = false := by rw [beq_eq_false_iff_ne]; omega
  have b194 : ((q : Int) == 194) = false := by rw [beq_eq_false_iff_ne]; omega
  have b196 : ((q : Int) == 196) = false := by rw [beq_eq_false_iff_ne]; omega
  go_enter Tryd.func21, Tryd.ntmps21
  go_wp2
  go_ret
  exact ⟨rfl, rfl⟩
end Go.Proofs.YtlindlmcojmhcaaDoor
