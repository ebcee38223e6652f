/- Which opcodes jump, which end, and their conditions: the program's answers and the document's; no condition. -/
import Derived.Test.YtlpbomdkcofhhaaDoorIsForm
namespace Go.Proofs.YtlpbomdkcofhhaaDoor
open Go.RowKit

def condI (op : Nat) : Int := if 192 ≤ op ∧ (op % 8 = 0 ∨ op % 8 = 2 ∨ op % 8 = 4) then ((op / 8 % 8 : Nat) : Int) else -1
def jumpB (op : Nat) : Bool := decide (op = 195 ∨ op = 205 ∨ (192 ≤ op ∧ (op % 8 = 2 ∨ op % 8 = 4)))
def endB (op : Nat) : Bool := decide (op = 118 ∨ op = 195 ∨ op = 201 ∨ op = 233)
theorem and199 {n : Nat} (h : n < 256) : bits .and .u8 (n : Int) 199 = ((n / 64 * 64 + n % 8 : Nat) : Int) :=
  of_decide_eq_true (List.all_eq_true.1 (show ((List.range 256).all fun (n : Nat) => decide (bits .and .u8 (n : Int) 199 = ((n / 64 * 64 + n % 8 : Nat) : Int))) = true by kernel_rfl) n (List.mem_range.2 h))
theorem cond_any (op : Nat) (h : op < 256) (w : World) : Calls Tryd.prog 26 #[.int .u8 op] w fun e w' => e = .returned (.int .i64 (condI op)) ∧ w' = w := by
  have HM := Lib.hid (middle_any op h)
  have g := and199 h
  obtain ⟨q, hq⟩ : ∃ q, op / 64 * 64 + op % 8 = q := ⟨_, rfl⟩
  rw [hq] at g
  unfold condI
  by_cases h192 : q = 192
  · subst h192
    rw [if_pos (by omega)]
    go_enter Tryd.func26, Tryd.ntmps26
    go_wp2_with (go_at_call 35; refine (HM.out _).mono ?_; rintro _ _ ⟨rfl, rfl⟩)
    go_ret
    exact ⟨by simp, rfl⟩
  by_cases h194 : q = 194
  · subst h194
    rw [if_pos (by omega)]
    go_enter Tryd.func26, Tryd.ntmps26
    go_wp2_with (go_at_call 35; refine (HM.out _).mono ?_; rintro _ _ ⟨rfl, rfl⟩)
    go_ret
    exact ⟨by simp, rfl⟩
  by_cases h196 : q = 196
  · subst h196
    rw [if_pos (by omega)]
    go_enter Tryd.func26, Tryd.ntmps26
    go_wp2_with (go_at_call 35; refine (HM.out _).mono ?_; rintro _ _ ⟨rfl, rfl⟩)
    go_ret
    exact ⟨by simp, rfl⟩
  rw [if_neg (by omega)]
  have b192 : ((q : Int) == 192) = false := by rw [beq_eq_false_iff_ne]; omega
  have b194 : ((q : Int) == 194) = false := by rw [beq_eq_false_iff_ne]; omega
  have b196 : ((q : Int) == 196) = false := by rw [beq_eq_false_iff_ne]; omega
  go_enter Tryd.func26, Tryd.ntmps26
  go_wp2
  go_ret
  exact ⟨rfl, rfl⟩
theorem rcond_any (op : Nat) (h : op < 256) (w : World) : Calls Tryd.prog 27 #[.int .u8 op] w fun e w' => e = .returned (.int .i64 (condI op)) ∧ w' = w := by
  unfold condI
  by_cases hlt : op < 192
  · rw [if_neg (by omega)]
    have d1 : decide ((op : Int) < 192) = true := decide_eq_true (by omega)
    go_enter Tryd.func27, Tryd.ntmps27
    go_wp2
    go_ret
    exact ⟨rfl, rfl⟩
  have d1 : decide ((op : Int) < 192) = false := decide_eq_false (by omega)
  by_cases h0 : op % 8 = 0
  · rw [if_pos (by omega)]
    have b0 : (((op : Int) % 8) == 0) = true := by rw [beq_iff_eq]; omega
    have e : (op : Int) % 8 = 0 := by omega
    go_enter Tryd.func27, Tryd.ntmps27
    go_wp2
    go_ret
    exact ⟨by simp, rfl⟩
  by_cases h2 : op % 8 = 2
  · rw [if_pos (by omega)]
    have b0 : (((op : Int) % 8) == 0) = false := by rw [beq_eq_false_iff_ne]; omega
    have b2 : (((op : Int) % 8) == 2) = true := by rw [beq_iff_eq]; omega
    have e : (op : Int) % 8 = 2 := by omega
    go_enter Tryd.func27, Tryd.ntmps27
    go_wp2
    go_ret
    exact ⟨by simp, rfl⟩
  by_cases h4 : op % 8 = 4
  · rw [if_pos (by omega)]
    have b0 : (((op : Int) % 8) == 0) = false := by rw [beq_eq_false_iff_ne]; omega
    have b2 : (((op : Int) % 8) == 2) = false := by rw [beq_eq_false_iff_ne]; omega
    have b4 : (((op : Int) % 8) == 4) = true := by rw [beq_iff_eq]; omega
    have e : (op : Int) % 8 = 4 := by omega
    go_enter Tryd.func27, Tryd.ntmps27
    go_wp2
    go_ret
    exact ⟨by simp, rfl⟩
  rw [if_neg (by omega)]
  have b0 : (((op : Int) % 8) == 0) = false := by rw [beq_eq_false_iff_ne]; omega
  have b2 : (((op : Int) % 8) == 2) = false := by rw [beq_eq_false_iff_ne]; omega
  have b4 : (((op : Int) % 8) == 4) = false := by rw [beq_eq_false_iff_ne]; omega
  go_enter Tryd.func27, Tryd.ntmps27
  go_wp2
  go_ret
  exact ⟨rfl, rfl⟩
theorem jumps_any (op : Nat) (h : op < 256) (w : World) : Calls Tryd.prog 22 #[.int .u8 op] w fun e w' => e = .returned (.bool (jumpB op)) ∧ w' = w := by
  have HC := Lib.hid (cond_any op h)
  by_cases h195 : op = 195
  · subst h195
    clear HC
    go_enter Tryd.func22, Tryd.ntmps22
    go_wp2
    go_ret
    exact ⟨rfl, rfl⟩
  by_cases h205 : op = 205
  · subst h205
    clear HC
    go_enter Tryd.func22, Tryd.ntmps22
    go_wp2
    go_ret
    exact ⟨rfl, rfl⟩
  have b195 : ((op : Int) == 195) = false := by rw [beq_eq_false_iff_ne]; omega
  have b205 : ((op : Int) == 205) = false := by rw [beq_eq_false_iff_ne]; omega
  by_cases hc : 192 ≤ op ∧ (op % 8 = 0 ∨ op % 8 = 2 ∨ op % 8 = 4)
  · have e : condI op = ((op / 8 % 8 : Nat) : Int) := by unfold condI; rw [if_pos hc]
    rw [e] at HC
    have d0 : decide (0 ≤ (op : Int) / 8 % 8) = true := decide_eq_true (by omega)
    by_cases h0 : op % 8 = 0
    · have ej : jumpB op = false := by unfold jumpB; exact decide_eq_false (by omega)
      rw [ej]
      have e8 : (op : Int) % 8 = 0 := by omega
      go_enter Tryd.func22, Tryd.ntmps22
      go_wp2_with (go_at_call 26; refine (HC.out _).mono ?_; rintro _ _ ⟨rfl, rfl⟩)
      go_ret
      exact ⟨rfl, rfl⟩
    · have ej : jumpB op = true := by unfold jumpB; exact decide_eq_true (by omega)
      rw [ej]
      have e8 : ((op : Int) % 8 != 0) = true := by rw [bne_iff_ne]; omega
      have e9 : ((op : Int) % 8 == 0) = false := by rw [beq_eq_false_iff_ne]; omega
      go_enter Tryd.func22, Tryd.ntmps22
      go_wp2_with (go_at_call 26; refine (HC.out _).mono ?_; rintro _ _ ⟨rfl, rfl⟩)
      go_ret
      exact ⟨rfl, rfl⟩
  · have e : condI op = -1 := by unfold condI; rw [if_neg hc]
    rw [e] at HC
    have ej : jumpB op = false := by unfold jumpB; exact decide_eq_false (by omega)
    rw [ej]
    go_enter Tryd.func22, Tryd.ntmps22
    go_wp2_with (go_at_call 26; refine (HC.out _).mono ?_; rintro _ _ ⟨rfl, rfl⟩)
    go_ret
    exact ⟨rfl, rfl⟩
theorem rjumps_any (op : Nat) (h : op < 256) (w : World) : Calls Tryd.prog 23 #[.int .u8 op] w fun e w' => e = .returned (.bool (jumpB op)) ∧ w' = w := by
  have HC := Lib.hid (rcond_any op h)
  by_cases h195 : op = 195
  · subst h195
    clear HC
    go_enter Tryd.func23, Tryd.ntmps23
    go_wp2
    go_ret
    exact ⟨rfl, rfl⟩
  by_cases h205 : op = 205
  · subst h205
    clear HC
    go_enter Tryd.func23, Tryd.ntmps23
    go_wp2
    go_ret
    exact ⟨rfl, rfl⟩
  have b195 : ((op : Int) == 195) = false := by rw [beq_eq_false_iff_ne]; omega
  have b205 : ((op : Int) == 205) = false := by rw [beq_eq_false_iff_ne]; omega
  by_cases hc : 192 ≤ op ∧ (op % 8 = 0 ∨ op % 8 = 2 ∨ op % 8 = 4)
  · have e : condI op = ((op / 8 % 8 : Nat) : Int) := by unfold condI; rw [if_pos hc]
    rw [e] at HC
    have d0 : decide (0 ≤ (op : Int) / 8 % 8) = true := decide_eq_true (by omega)
    by_cases h0 : op % 8 = 0
    · have ej : jumpB op = false := by unfold jumpB; exact decide_eq_false (by omega)
      rw [ej]
      have e8 : (op : Int) % 8 = 0 := by omega
      go_enter Tryd.func23, Tryd.ntmps23
      go_wp2_with (go_at_call 27; refine (HC.out _).mono ?_; rintro _ _ ⟨rfl, rfl⟩)
      go_ret
      exact ⟨rfl, rfl⟩
    · have ej : jumpB op = true := by unfold jumpB; exact decide_eq_true (by omega)
      rw [ej]
      have e8 : ((op : Int) % 8 != 0) = true := by rw [bne_iff_ne]; omega
      have e9 : ((op : Int) % 8 == 0) = false := by rw [beq_eq_false_iff_ne]; omega
      go_enter Tryd.func23, Tryd.ntmps23
      go_wp2_with (go_at_call 27; refine (HC.out _).mono ?_; rintro _ _ ⟨rfl, rfl⟩)
      go_ret
      exact ⟨rfl, rfl⟩
  · have e : condI op = -1 := by unfold condI; rw [if_neg hc]
    rw [e] at HC
    have ej : jumpB op = false := by unfold jumpB; exact decide_eq_false (by omega)
    rw [ej]
    go_enter Tryd.func23, Tryd.ntmps23
    go_wp2_with (go_at_call 27; refine (HC.out _).mono ?_; rintro _ _ ⟨rfl, rfl⟩)
    go_ret
    exact ⟨rfl, rfl⟩
theorem ends_any (op : Nat) (h : op < 256) (w : World) : Calls Tryd.prog 24 #[.int .u8 op] w fun e w' => e = .returned (.bool (endB op)) ∧ w' = w := by
  by_cases h118 : op = 118
  · subst h118
    go_enter Tryd.func24, Tryd.ntmps24
    go_wp2
    go_ret
    exact ⟨rfl, rfl⟩
  by_cases h195 : op = 195
  · subst h195
    go_enter Tryd.func24, Tryd.ntmps24
    go_wp2
    go_ret
    exact ⟨rfl, rfl⟩
  by_cases h201 : op = 201
  · subst h201
    go_enter Tryd.func24, Tryd.ntmps24
    go_wp2
    go_ret
    exact ⟨rfl, rfl⟩
  by_cases h233 : op = 233
  · subst h233
    go_enter Tryd.func24, Tryd.ntmps24
    go_wp2
    go_ret
    exact ⟨rfl, rfl⟩
  have b118 : ((op : Int) == 118) = false := by rw [beq_eq_false_iff_ne]; omega
  have b195 : ((op : Int) == 195) = false := by rw [beq_eq_false_iff_ne]; omega
  have b201 : ((op : Int) == 201) = false := by rw [beq_eq_false_iff_ne]; omega
  have b233 : ((op : Int) == 233) = false := by rw [beq_eq_false_iff_ne]; omega
  have ej : endB op = false := by unfold endB; exact decide_eq_false (by omega)
  rw [ej]
  go_enter Tryd.func24, Tryd.ntmps24
  go_wp2
  go_ret
  exact ⟨rfl, rfl⟩
theorem rends_any (op : Nat) (h : op < 256) (w : World) : Calls Tryd.prog 25 #[.int .u8 op] w fun e w' => e = .returned (.bool (endB op)) ∧ w' = w := by
  by_cases h118 : op = 118
  · subst h118
    go_enter Tryd.func25, Tryd.ntmps25
    go_wp2
    go_ret
    exact ⟨rfl, rfl⟩
  by_cases h195 : op = 195
  · subst h195
    go_enter Tryd.func25, Tryd.ntmps25
    go_wp2
    go_ret
    exact ⟨rfl, rfl⟩
  by_cases h201 : op = 201
  · subst h201
    go_enter Tryd.func25, Tryd.ntmps25
    go_wp2
    go_ret
    exact ⟨rfl, rfl⟩
  by_cases h233 : op = 233
  · subst h233
    go_enter Tryd.func25, Tryd.ntmps25
    go_wp2
    go_ret
    exact ⟨rfl, rfl⟩
  have b118 : ((op : Int) == 118) = false := by rw [beq_eq_false_iff_ne]; omega
  have b195 : ((op : Int) == 195) = false := by rw [beq_eq_false_iff_ne]; omega
  have b201 : ((op : Int) == 201) = false := by rw [beq_eq_false_iff_ne]; omega
  have b233 : ((op : Int) == 233) = false := by rw [beq_eq_false_iff_ne]; omega
  have ej : endB op = false := by unfold endB; exact decide_eq_false (by omega)
  rw [ej]
  go_enter Tryd.func25, Tryd.ntmps25
  go_wp2
  go_ret
  exact ⟨rfl, rfl⟩
end Go.Proofs.YtlpbomdkcofhhaaDoor
