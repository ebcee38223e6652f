/- What the small functions of the packages number and pidginref03 do when they are called: a digit's value, letters, a number's digits and its base; no condition but that a rune is at most 2147483647. -/
import Derived.Test.YtaoeipbofhkkcaaGreatDoorProg
import Derived.Test.YtaoeipbofhkkcaaGreatDoorNumMath
import Derived.WalkKit
import Derived.WalkSpells
import Derived.WalkLawsBesides
import Derived.Handy
import Derived.Deep.QuietTactic
import Derived.BigQuiet
import Derived.BigRegion
import Derived.LoopN
import Derived.Laws.RangeAny
import Derived.Lib.Hide
namespace Go.Proofs.YtaoeipbofhkkcaaGreatDoor
open Go.RowKit Go.Proofs.NumMath

theorem ret_int {k : IntKind} {a b : Int} (h : a = b) : Ending.returned (.int k a) = .returned (.int k b) := by rw [h]
theorem ret_bool {a b : Bool} (h : a = b) : Ending.returned (.bool a) = .returned (.bool b) := by rw [h]
theorem ret_pair {a b : ByteArray} {k : IntKind} {m n : Int} (h : a = b) (g : m = n) : Ending.returned (.tuple #[.string a, .int k m]) = .returned (.tuple #[.string b, .int k n]) := by rw [h, g]

theorem value_any (r : Nat) (hr : r ≤ 2147483647) (w : World) : Calls Tryz.prog 81 #[.int .i32 r] w fun e w' => e = .returned (.int .i64 (dg r : Nat)) ∧ w = w' := by
  by_cases h1 : 48 ≤ r <;> by_cases h2 : r ≤ 57 <;> by_cases h3 : 65 ≤ r <;> by_cases h4 : r ≤ 70 <;> by_cases h5 : 97 ≤ r <;> by_cases h6 : r ≤ 102
  all_goals try (exfalso; omega)
  all_goals
    go_enter Tryz.func81, Tryz.ntmps81
    go_wp2
    go_ret
    refine ⟨ret_int ?_, rfl⟩
    unfold dg
    simp only [h1, h2, h3, h4, h5, h6, and_self, and_true, and_false, if_true, if_false]
    omega
theorem dg_of_up (r x : Nat) (h : upN r = x) : (48 ≤ x → x ≤ 57 → dg r = x - 48) ∧ (65 ≤ x → x ≤ 70 → dg r = x - 55) ∧ ((x < 48 ∨ (57 < x ∧ x < 65) ∨ 70 < x) → dg r = 16) := by
  subst h
  unfold dg upN
  repeat' split
  all_goals omega
def digV (r : Nat) : Int := if dg r < 16 then (dg r : Int) else -1
/-- the byte at a place -/
theorem isSmall_any (r : Nat) (hr : r ≤ 2147483647) (w : World) : Calls Tryz.prog 84 #[.int .i32 r] w fun e w' => e = .returned (.bool (decide (97 ≤ r) && decide (r ≤ 122))) ∧ w = w' := by
  by_cases h1 : 97 ≤ r <;> by_cases h2 : r ≤ 122
  all_goals try (exfalso; omega)
  all_goals
    go_enter Tryz.func84, Tryz.ntmps84
    go_wp2
    go_ret
    refine ⟨ret_bool ?_, rfl⟩
    rw [Bool.eq_iff_iff]
    try (simp <;> omega)
theorem begins_any (r : Nat) (hr : r ≤ 2147483647) (w : World) : Calls Tryz.prog 82 #[.int .i32 r] w fun e w' => e = .returned (.bool (letter r)) ∧ w = w' := by
  go_enter Tryz.func82, Tryz.ntmps82
  go_wp2_with (go_at_call 84; refine (isSmall_any r hr _).mono ?_; rintro e w' ⟨rfl, rfl⟩)
  all_goals
    go_ret
    refine ⟨ret_bool ?_, rfl⟩
    rw [Bool.eq_iff_iff]
    simp [letter]
    omega
theorem letter_any (r : Nat) (hr : r ≤ 255) (w : World) : Calls Tryz.prog 77 #[.int .u8 r] w fun e w' => e = .returned (.bool (letter r)) ∧ w = w' := by
  go_enter Tryz.func77, Tryz.ntmps77
  go_wp2
  all_goals
    go_ret
    refine ⟨ret_bool ?_, rfl⟩
    rw [Bool.eq_iff_iff]
    simp [letter]
    omega

theorem lastN_at (s : ByteArray) (h : s.size - 1 < s.size) : lastN s.data.toList = (s[s.size - 1]'h).toNat := by
  unfold lastN
  have e : s.data.toList.getLast? = some (s[s.size - 1]'h) := by
    rw [List.getLast?_eq_getElem?]
    have hl : s.data.toList.length = s.size := by simp
    rw [hl, List.getElem?_eq_getElem (by rw [hl]; exact h)]
    rfl
  rw [e]
theorem isEmpty_pos (s : ByteArray) (h : s.size ≠ 0) : s.toList.isEmpty = false := by
  rw [ByteArray.toList_eq]
  cases hh : s.data.toList with
  | nil => exact absurd (by simpa using congrArg List.length hh) h
  | cons a l => rfl
def digsB (s : ByteArray) : ByteArray := if baseOf (lastN s.data.toList) = 0 then s else s.extract 0 (s.size - 1)
theorem digsB_data (s : ByteArray) : (digsB s).data.toList = digsL s.data.toList := by
  unfold digsB digsL
  split
  · rfl
  · simp [List.dropLast_eq_take]
theorem ret_split {a b : ByteArray} {m n : Int} (h : a = b) (g : m = n) : Ending.returned (.tuple #[.string a, .int .i64 m]) = .returned (.tuple #[.string b, .int .i64 n]) := by rw [h, g]
set_option maxHeartbeats 2000000 in
theorem split_any (s : ByteArray) (hs : s.size ≤ 9223372036854775807) (w : World) : Calls Tryz.prog 85 #[.string s] w fun e w' => e = .returned (.tuple #[.string (digsB s), .int .i64 (baseL s.data.toList : Nat)]) ∧ w = w' := by
  by_cases h0 : s.size = 0
  · obtain rfl : s = ByteArray.empty := by
      cases s; simp_all [ByteArray.size]; rfl
    go_enter Tryz.func85, Tryz.ntmps85
    go_wp2
    go_ret2
    exact ⟨rfl, rfl⟩
  · have hl : s.size - 1 < s.size := by omega
    have hlast := lastN_at s hl
    obtain ⟨c, hc⟩ : ∃ c, s[s.size - 1]'hl = c := ⟨_, rfl⟩
    have hc8 := c.toNat_lt
    have he : s.toList.isEmpty = false := isEmpty_pos s h0
    go_enter Tryz.func85, Tryz.ntmps85
    go_wp2
    all_goals
      go_ret2
      have hn : lastN s.data.toList = c.toNat := by rw [hlast, hc]
      refine ⟨ret_split ?_ ?_, rfl⟩
      all_goals simp only [beq_iff_eq, beq_eq_false_iff_ne] at *
      · unfold digsB baseOf
        rw [hn]
        repeat' split
        all_goals first | rfl | (exfalso; omega)
      · unfold baseL baseOf
        rw [hn]
        repeat' split
        all_goals first | rfl | (exfalso; omega)
end Go.Proofs.YtaoeipbofhkkcaaGreatDoor
