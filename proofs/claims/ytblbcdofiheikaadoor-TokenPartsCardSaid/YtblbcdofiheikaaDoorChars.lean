/- What the little functions of token and of the document say of a byte or of a rune; no condition but that a rune is at most 1114111. -/
import Derived.Test.YtblbcdofiheikaaDoorTokb
import Derived.Test.YtblbcdofiheikaaDoorNumRparse
import Derived.Laws.Runes
namespace Go.Proofs.YtblbcdofiheikaaDoor
open Go.RowKit Go.Proofs.NumMath

theorem enc_small (r : Nat) (h : r < 128) : Utf8.encode (r : Int) = ⟨#[UInt8.ofNat r]⟩ := by
  have hv : Utf8.valid (r : Int) = true := by unfold Utf8.valid; simp; omega
  unfold Utf8.encode
  simp only [hv, if_true, Int.toNat_natCast]
  rw [if_pos h]
theorem enc_high (r : Nat) (h : 128 ≤ r) : ∃ c t, (Utf8.encode (r : Int)).data.toList = c :: t ∧ 128 ≤ c.toNat := by
  unfold Utf8.encode
  by_cases hv : Utf8.valid (r : Int) = true
  · have hr : r ≤ 1114111 := by unfold Utf8.valid at hv; simp at hv; omega
    simp only [hv, if_true, Int.toNat_natCast]
    rw [if_neg (by omega)]
    repeat' split
    all_goals exact ⟨_, _, rfl, by simp; omega⟩
  · have hv' : Utf8.valid (r : Int) = false := by simpa using hv
    simp only [hv', Bool.false_eq_true, if_false]
    exact ⟨239, [191, 189], by decide, by decide⟩
theorem letter_ofNat (r : Nat) (h : r < 128) : letter (UInt8.ofNat r).toNat = letter r := by
  congr 1; simp; omega
theorem name_rune (r : Nat) : nameL (Utf8.encode (r : Int)).data.toList = letter r := by
  by_cases h : r < 128
  · rw [enc_small r h]
    show nameL [UInt8.ofNat r] = _
    rw [name_cons, letter_ofNat r h]; simp
  · obtain ⟨c, t, e, hc⟩ := enc_high r (by omega)
    rw [e, name_cons, letter_high hc, letter_high (by omega : 128 ≤ r)]; simp

theorem tbegins_any (r : Nat) (w : World) : Calls Tryd.prog 37 #[.int .i32 r] w fun e w' => e = .returned (.bool (letter r)) ∧ Below w.heap.size w w' := by
  have hs : (Utf8.encode (r : Int)).size ≤ 9223372036854775807 := Nat.le_trans (encode_size_le (r : Int)) (by decide)
  have hn := name_rune r
  obtain ⟨s, es⟩ : ∃ s, s = Utf8.encode (r : Int) := ⟨_, rfl⟩
  rw [← es] at hs hn
  have hcv : ∀ W, (convert 21 9 (.int .i32 (r : Int))).run Tryd.prog W = .ok (.string s) W := fun W => by
    rw [es]; exact run_convert_int_string W 21 9 .i32 _ ((by rw [Tryd.underlying21]; exact Option.isSome_some)) Tryd.underlying9
  have hN := fun W => name_any s hs W
  rw [hn] at hN
  clear es hn hs
  go_enter Tryd.func37, Tryd.ntmps37
  go_wp2_with (go_at_call 17; refine (hN _).mono ?_; rintro e w' ⟨rfl, hb⟩)
  go_ret
  exact ⟨rfl, hb⟩
def digN (r : Nat) : Bool := decide (48 ≤ r) && decide (r ≤ 57)
theorem ret_dec {a b : Bool} (h : a = true ↔ b = true) : Ending.returned (.bool a) = .returned (.bool b) := by rw [Bool.eq_iff_iff.2 h]
theorem isDigit_any (r : Nat) (w : World) : Calls Tryd.prog 39 #[.int .i32 r] w fun e w' => e = .returned (.bool (digN r)) ∧ w' = w := by
  go_enter Tryd.func39, Tryd.ntmps39
  by_cases h1 : 48 ≤ r
  · by_cases h2 : r ≤ 57
    all_goals
      go_wp2
      go_ret
      exact ⟨ret_dec (by simp [digN]; omega), rfl⟩
  · go_wp2
    go_ret
    exact ⟨ret_dec (by simp [digN]; omega), rfl⟩
def azN (r : Nat) : Bool := (decide (97 ≤ r) && decide (r ≤ 122)) || (decide (65 ≤ r) && decide (r ≤ 90))
theorem isLetter_any (r : Nat) (w : World) : Calls Tryd.prog 63 #[.int .i32 r] w fun e w' => e = .returned (.bool (azN r)) ∧ w' = w := by
  go_enter Tryd.func63, Tryd.ntmps63
  by_cases h1 : 97 ≤ r
  · have h3 : 65 ≤ r := by omega
    have h4 : ¬ r ≤ 90 := by omega
    by_cases h2 : r ≤ 122
    all_goals
      go_wp2
      go_ret
      exact ⟨ret_dec (by simp [azN]; omega), rfl⟩
  · by_cases h3 : 65 ≤ r
    · by_cases h4 : r ≤ 90
      all_goals
        go_wp2
        go_ret
        exact ⟨ret_dec (by simp [azN]; omega), rfl⟩
    · go_wp2
      go_ret
      exact ⟨ret_dec (by simp [azN]; omega), rfl⟩
theorem name1_any (r : Nat) (w : World) : Calls Tryd.prog 61 #[.int .i32 r] w fun e w' => e = .returned (.bool (letter r || digN r)) ∧ Below w.heap.size w w' := by
  go_enter Tryd.func61, Tryd.ntmps61
  cases hl : letter r
  all_goals
    go_wp2_with (first | (go_at_call 37; refine (tbegins_any r _).mono ?_; rintro e w' ⟨rfl, hb⟩; rw [hl]) | (go_at_call 39; refine (isDigit_any r _).mono ?_; rintro e w' ⟨rfl, rfl⟩))
    go_ret
    exact ⟨ret_bool (by simp), hb⟩
theorem number1_any (r : Nat) (w : World) : Calls Tryd.prog 62 #[.int .i32 r] w fun e w' => e = .returned (.bool (azN r || digN r)) ∧ Below w.heap.size w w' := by
  go_enter Tryd.func62, Tryd.ntmps62
  cases hl : azN r
  all_goals
    go_wp2_with (first | (go_at_call 63; refine (isLetter_any r _).mono ?_; rintro e w' ⟨rfl, rfl⟩; rw [hl]) | (go_at_call 39; refine (isDigit_any r _).mono ?_; rintro e w' ⟨rfl, rfl⟩))
    go_ret
    exact ⟨ret_bool (by simp), Below.refl _ _⟩

/-! ### the document's -/
theorem rtail_any (c : UInt8) (w : World) : Calls Tryd.prog 44 #[.int .u8 (c.toNat : Nat)] w fun e w' => e = .returned (.bool (tailB c)) ∧ w' = w := by
  have h255 : c.toNat ≤ 255 := by have := c.toNat_lt; omega
  go_enter Tryd.func44, Tryd.ntmps44
  cases hl : letter c.toNat
  · by_cases h1 : 48 ≤ c.toNat
    · by_cases h2 : c.toNat ≤ 57
      all_goals
        go_wp2_with (go_at_call 43; refine (letter_any c.toNat h255 _).mono ?_; rintro e w' ⟨rfl, rfl⟩; rw [hl])
        go_ret
        exact ⟨ret_dec (by simp [tailB, digB, hl]; omega), rfl⟩
    · go_wp2_with (go_at_call 43; refine (letter_any c.toNat h255 _).mono ?_; rintro e w' ⟨rfl, rfl⟩; rw [hl])
      go_ret
      exact ⟨ret_dec (by simp [tailB, digB, hl]; omega), rfl⟩
  · go_wp2_with (go_at_call 43; refine (letter_any c.toNat h255 _).mono ?_; rintro e w' ⟨rfl, rfl⟩; rw [hl])
    go_ret
    exact ⟨ret_bool (by simp [tailB, hl]), rfl⟩
theorem byte_ne (c : UInt8) (k : Nat) (hk : k < 256) (h : c.toNat ≠ k) : c ≠ k.toUInt8 := fun e => h (by rw [e]; simp; omega)
theorem ralnum_any (c : UInt8) (w : World) : Calls Tryd.prog 46 #[.int .u8 (c.toNat : Nat)] w fun e w' => e = .returned (.bool (alnB c)) ∧ w' = w := by
  go_enter Tryd.func46, Tryd.ntmps46
  cases hl : tailB c
  · go_wp2_with (go_at_call 44; refine (rtail_any c _).mono ?_; rintro e w' ⟨rfl, rfl⟩; rw [hl])
    go_ret
    exact ⟨ret_bool (by simp [alnB, hl]), rfl⟩
  · by_cases h1 : c.toNat = 63
    · obtain rfl : c = 63 := UInt8.toNat.inj h1
      go_wp2_with (go_at_call 44; refine (rtail_any 63 _).mono ?_; rintro e w' ⟨rfl, rfl⟩; rw [hl])
      go_ret
      exact ⟨ret_bool (by decide), rfl⟩
    · by_cases h2 : c.toNat = 64
      · obtain rfl : c = 64 := UInt8.toNat.inj h2
        go_wp2_with (go_at_call 44; refine (rtail_any 64 _).mono ?_; rintro e w' ⟨rfl, rfl⟩; rw [hl])
        go_ret
        exact ⟨ret_bool (by decide), rfl⟩
      · by_cases h3 : c.toNat = 95
        · obtain rfl : c = 95 := UInt8.toNat.inj h3
          go_wp2_with (go_at_call 44; refine (rtail_any 95 _).mono ?_; rintro e w' ⟨rfl, rfl⟩; rw [hl])
          go_ret
          exact ⟨ret_bool (by decide), rfl⟩
        · have n1 : c ≠ 63 := fun e => h1 (by rw [e]; rfl)
          have n2 : c ≠ 64 := fun e => h2 (by rw [e]; rfl)
          have n3 : c ≠ 95 := fun e => h3 (by rw [e]; rfl)
          go_wp2_with (go_at_call 44; refine (rtail_any c _).mono ?_; rintro e w' ⟨rfl, rfl⟩; rw [hl])
          go_ret
          exact ⟨ret_dec (by simp [alnB, hl, n1, n2, n3]; omega), rfl⟩
theorem mark_at (k : Nat) (h : k < (⟨#[44, 40, 41, 91, 93, 43, 45, 42, 47, 58, 36]⟩ : ByteArray).size) : (⟨#[44, 40, 41, 91, 93, 43, 45, 42, 47, 58, 36]⟩ : ByteArray)[k]'h = markL[k]'h := rfl
theorem rmark_any (c : UInt8) (w : World) : Calls Tryd.prog 49 #[.int .u8 (c.toNat : Nat)] w fun e w' => e = .returned (.bool (markB c)) ∧ w' = w := by
  obtain ⟨M, hM⟩ : ∃ M : ByteArray, M = ⟨#[44, 40, 41, 91, 93, 43, 45, 42, 47, 58, 36]⟩ := ⟨_, rfl⟩
  have hMs : M.size = 11 := by rw [hM]; rfl
  have hMl : M.data.toList = markL := by rw [hM]; rfl
  go_enter Tryd.func49, Tryd.ntmps49
  rw [← hM]
  have HM := Lib.hid hMl
  clear hM hMl
  go_wp2
  go_loop [4] (fun i => ∃ k : Nat, k ≤ 11 ∧ i = .int .i64 k ∧ c ∉ M.data.toList.take k) (fun i => 11 - (intOf i).toNat)
  case atStart => exact ⟨0, by omega, rfl, by simp⟩
  case round =>
    obtain ⟨k, hk, rfl, hno⟩ := hrel
    have HN := Lib.hid hno
    clear hno
    by_cases hlt : k < M.size
    · have hkl : k < 11 := by omega
      by_cases hc : (M[k]'hlt).toNat = c.toNat
      · go_wp2
        go_ret
        refine ⟨ret_bool ?_, rfl⟩
        have hcc : M[k]'hlt = c := UInt8.toNat.inj hc
        unfold markB
        rw [← HM.out]
        symm
        rw [decide_eq_true_eq, ← hcc]
        exact Array.mem_toList_iff.2 (Array.getElem_mem _)
      · go_wp2
        go_round
        case rel =>
          refine ⟨k + 1, by omega, by go_num, ?_⟩
          rw [take_snoc M k hlt]
          intro h
          rcases List.mem_append.1 h with h | h
          · exact HN.out h
          · simp only [List.mem_singleton] at h
            exact hc (by rw [h])
        case measure => simp [intOf]; omega
    · obtain rfl : k = 11 := by omega
      go_wp2
      go_ret
      refine ⟨ret_bool ?_, rfl⟩
      unfold markB
      rw [← HM.out]
      symm
      rw [decide_eq_false_iff_not]
      have := HN.out
      rwa [List.take_of_length_le (by rw [HM.out]; decide)] at this
end Go.Proofs.YtblbcdofiheikaaDoor
