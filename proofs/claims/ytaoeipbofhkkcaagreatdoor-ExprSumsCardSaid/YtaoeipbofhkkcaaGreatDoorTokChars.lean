/- What the little functions of token and of the document say of a byte or of a rune; no condition but that a rune is at most 1114111. -/
import Derived.Test.YtaoeipbofhkkcaaGreatDoorTokb
import Derived.Test.YtaoeipbofhkkcaaGreatDoorNumRparse
import Derived.Laws.Runes
namespace Go.Proofs.YtaoeipbofhkkcaaGreatDoor
open Go.RowKit Go.Proofs.NumMath

theorem enc_small (r : Nat) (h : r < 128) : Utf8.encode (r : Int) = ⟨#[UInt8.ofNat r]⟩ := by
  have hv : Utf8.valid (r : Int) = true := by unfold Utf8.valid; simp; omega
  unfold Utf8.encode
  simp only [hv, if_true, Int.toNat_natCast]
  rw [if_pos h]
theorem enc_high (r : Nat) (h : 128 ≤ r) : ∃ c t, (Utf8.encode (r : Int)).data.toList = c :: t ∧ 128 ≤ c.toNat := by
  unfold Utf8.encode
  by_cases hv : Utf8.valid (r : Int) = true
  · have hr : r ≤ 1114111 := by unfold Utf8.valid at hv; simp at hv; omega
    simp only [hv, if_true, Int.toNat_natCast]
    rw [if_neg (by omega)]
    repeat' split
    all_goals exact ⟨_, _, rfl, by simp; omega⟩
  · have hv' : Utf8.valid (r : Int) = false := by simpa using hv
    simp only [hv', Bool.false_eq_true, if_false]
    exact ⟨239, [191, 189], by decide, by decide⟩
theorem letter_ofNat (r : Nat) (h : r < 128) : letter (UInt8.ofNat r).toNat = letter r := by
  congr 1; simp; omega
theorem name_rune (r : Nat) : nameL (Utf8.encode (r : Int)).data.toList = letter r := by
  by_cases h : r < 128
  · rw [enc_small r h]
    show nameL [UInt8.ofNat r] = _
    rw [name_cons, letter_ofNat r h]; simp
  · obtain ⟨c, t, e, hc⟩ := enc_high r (by omega)
    rw [e, name_cons, letter_high hc, letter_high (by omega : 128 ≤ r)]; simp

theorem tbegins_any (r : Nat) (w : World) : Calls Tryz.prog 45 #[.int .i32 r] w fun e w' => e = .returned (.bool (letter r)) ∧ Below w.heap.size w w' := by
  have hs : (Utf8.encode (r : Int)).size ≤ 9223372036854775807 := Nat.le_trans (encode_size_le (r : Int)) (by decide)
  have hn := name_rune r
  obtain ⟨s, es⟩ : ∃ s, s = Utf8.encode (r : Int) := ⟨_, rfl⟩
  rw [← es] at hs hn
  have hcv : ∀ W, (convert 21 9 (.int .i32 (r : Int))).run Tryz.prog W = .ok (.string s) W := fun W => by
    rw [es]; exact run_convert_int_string W 21 9 .i32 _ ((by rw [Tryz.underlying21]; exact Option.isSome_some)) Tryz.underlying9
  have hN := fun W => name_any s hs W
  rw [hn] at hN
  clear es hn hs
  go_enter Tryz.func45, Tryz.ntmps45
  go_wp2_with (go_at_call 65; refine (hN _).mono ?_; rintro e w' ⟨rfl, hb⟩)
  go_ret
  exact ⟨rfl, hb⟩
def digN (r : Nat) : Bool := decide (48 ≤ r) && decide (r ≤ 57)
theorem ret_dec {a b : Bool} (h : a = true ↔ b = true) : Ending.returned (.bool a) = .returned (.bool b) := by rw [Bool.eq_iff_iff.2 h]
theorem isDigit_any (r : Nat) (w : World) : Calls Tryz.prog 47 #[.int .i32 r] w fun e w' => e = .returned (.bool (digN r)) ∧ w' = w := by
  go_enter Tryz.func47, Tryz.ntmps47
  by_cases h1 : 48 ≤ r
  · by_cases h2 : r ≤ 57
    all_goals
      go_wp2
      go_ret
      exact ⟨ret_dec (by simp [digN]; omega), rfl⟩
  · go_wp2
    go_ret
    exact ⟨ret_dec (by simp [digN]; omega), rfl⟩
def azN (r : Nat) : Bool := (decide (97 ≤ r) && decide (r ≤ 122)) || (decide (65 ≤ r) && decide (r ≤ 90))
theorem isLetter_any (r : Nat) (w : World) : Calls Tryz.prog 70 #[.int .i32 r] w fun e w' => e = .returned (.bool (azN r)) ∧ w' = w := by
  go_enter Tryz.func70, Tryz.ntmps70
  by_cases h1 : 97 ≤ r
  · have h3 : 65 ≤ r := by omega
    have h4 : ¬ r ≤ 90 := by omega
    by_cases h2 : r ≤ 122
    all_goals
      go_wp2
      go_ret
      exact ⟨ret_dec (by simp [azN]; omega), rfl⟩
  · by_cases h3 : 65 ≤ r
    · by_cases h4 : r ≤ 90
      all_goals
        go_wp2
        go_ret
        exact ⟨ret_dec (by simp [azN]; omega), rfl⟩
    · go_wp2
      go_ret
      exact ⟨ret_dec (by simp [azN]; omega), rfl⟩
theorem name1_any (r : Nat) (w : World) : Calls Tryz.prog 67 #[.int .i32 r] w fun e w' => e = .returned (.bool (letter r || digN r)) ∧ Below w.heap.size w w' := by
  go_enter Tryz.func67, Tryz.ntmps67
  cases hl : letter r
  all_goals
    go_wp2_with (first | (go_at_call 45; refine (tbegins_any r _).mono ?_; rintro e w' ⟨rfl, hb⟩; rw [hl]) | (go_at_call 47; refine (isDigit_any r _).mono ?_; rintro e w' ⟨rfl, rfl⟩))
    go_ret
    exact ⟨ret_bool (by simp), hb⟩
theorem number1_any (r : Nat) (w : World) : Calls Tryz.prog 69 #[.int .i32 r] w fun e w' => e = .returned (.bool (azN r || digN r)) ∧ Below w.heap.size w w' := by
  go_enter Tryz.func69, Tryz.ntmps69
  cases hl : azN r
  all_goals
    go_wp2_with (first | (go_at_call 70; refine (isLetter_any r _).mono ?_; rintro e w' ⟨rfl, rfl⟩; rw [hl]) | (go_at_call 47; refine (isDigit_any r _).mono ?_; rintro e w' ⟨rfl, rfl⟩))
    go_ret
    exact ⟨ret_bool (by simp), Below.refl _ _⟩

/-! ### the document's -/
theorem byte_ne (c : UInt8) (k : Nat) (hk : k < 256) (h : c.toNat ≠ k) : c ≠ k.toUInt8 := fun e => h (by rw [e]; simp; omega)
theorem mark_at (k : Nat) (h : k < (⟨#[44, 40, 41, 91, 93, 43, 45, 42, 47, 58, 36]⟩ : ByteArray).size) : (⟨#[44, 40, 41, 91, 93, 43, 45, 42, 47, 58, 36]⟩ : ByteArray)[k]'h = markL[k]'h := rfl
end Go.Proofs.YtaoeipbofhkkcaaGreatDoor
