/- What number.Show and the document's Show do when they are called: the text of a number from 0 to 65535; where the library's table of bits is laid. -/
import Derived.Test.YtaoeipbofhkkcaaGreatDoorNumHex
import Derived.Test.YtaoeipbofhkkcaaGreatDoorNumShelfA
namespace Go.Proofs.YtaoeipbofhkkcaaGreatDoor
open Go.RowKit Go.Proofs.NumMath

theorem up_ch (d : Nat) (h : d < 16) : up (ch false d) = ch true d := by
  have hh : ∀ i, i < 16 → up (ch false i) = ch true i := by decide
  exact hh d h
theorem upL_digits (b : Nat) (h2 : 2 ≤ b) (h16 : b ≤ 16) : ∀ (k n : Nat), n ≤ k → upL (digits false b n) = digits true b n := by
  intro k
  induction k with
  | zero =>
    intro n hn
    rw [digits_lt _ _ _ (by omega), digits_lt _ _ _ (by omega)]
    simp [upL, up_ch n (by omega)]
  | succ k ih =>
    intro n hn
    by_cases h : n < b
    · rw [digits_lt _ _ _ h, digits_lt _ _ _ h]
      simp [upL, up_ch n (by omega)]
    · have hd : n / b < n := Nat.div_lt_self (by omega) (by omega)
      have hr : n % b < b := Nat.mod_lt _ (by omega)
      rw [digits_ge false b n h2 (by omega), digits_ge true b n h2 (by omega), ← ih (n / b) (by omega)]
      simp [upL, up_ch (n % b) (by omega)]
theorem dec_small (i : Nat) (h : i < 10) : Lib.decDigits i = [ch true i] := by
  have hh : ∀ i, i < 10 → [UInt8.ofNat (48 + i)] = [ch true i] := by decide
  rw [Lib.decDigits, dif_pos h]
  exact hh i h
theorem size_mk (l : List UInt8) : (⟨l.toArray⟩ : ByteArray).size = l.length := by simp [ByteArray.size]
theorem headN_mk (l : List UInt8) (h : 0 < (⟨l.toArray⟩ : ByteArray).size) : (⟨l.toArray⟩ : ByteArray)[0].toNat = headN l := (headN_at ⟨l.toArray⟩ h).symm
set_option maxHeartbeats 1000000 in
theorem show_any (n : Nat) (hn : n ≤ 65535) (w : World) (hT : Tab16 w) : Calls Tryz.prog 63 #[.int .u16 n] w fun e w' => e = .returned (.string ⟨(showL n).toArray⟩) ∧ Below w.heap.size w w' := by
  by_cases h10 : n < 10
  · have HS : Hid (showL n = [ch true n]) := by unfold showL; rw [if_pos h10]; exact Lib.hid rfl
    have hI := Tryz.strconv_Itoa_small n (by omega)
    rw [dec_small n h10] at hI
    go_enter Tryz.func63, Tryz.ntmps63
    go_wp2_with (go_at_call 79; refine (hI _).mono ?_; rintro e w' ⟨rfl, hw⟩; rw [hw])
    go_ret
    exact ⟨ret_str (by rw [HS.out]), Below.refl _ _⟩
  · have hf := fmt_any n (by omega) hn
    have hlen := digits_len false 16 (by omega) 3 n (by omega)
    have hup := upL_digits 16 (by omega) (by omega) n n (Nat.le_refl _)
    have hlu : (digits true 16 n).length = (digits false 16 n).length := by rw [← hup]; simp [upL]
    obtain ⟨d, hd, hhd, _⟩ := headN_digits true 16 (by omega) (by omega) n n (Nat.le_refl _)
    have hne := digits_ne true 16 n
    have hU := upper_any ⟨(digits false 16 n).toArray⟩ (by rw [size_mk]; omega)
    have e1 : (⟨(digits false 16 n).toArray⟩ : ByteArray).data.toList = digits false 16 n := by simp
    rw [e1, hup] at hU
    have HS : Hid (showL n = if 10 ≤ d then 48 :: (digits true 16 n ++ [72]) else digits true 16 n ++ [72]) := by
      unfold showL hexL
      rw [if_neg h10, hhd, ← ch_toNat true d hd, dg_ch true d hd]
      exact Lib.hid rfl
    obtain ⟨l, hl⟩ : ∃ l, digits true 16 n = l := ⟨_, rfl⟩
    obtain ⟨f, hff⟩ : ∃ f, digits false 16 n = f := ⟨_, rfl⟩
    rw [hl] at hU HS hlu hhd hne
    rw [hff] at hU hf hlen hlu
    have hl0 : 0 < l.length := by cases l; exact absurd rfl hne; simp
    have hix := headN_mk l (by rw [size_mk]; omega)
    rw [hhd] at hix
    have hv := value_any (chN true d) (by have := chN_lt true d hd; omega)
    rw [← ch_toNat true d hd, dg_ch true d hd] at hv
    rw [ch_toNat true d hd] at hv
    have hcl := chN_lt true d hd
    have hls : l.length ≤ 4 := by omega
    clear hl hff hne hup hhd hlu hlen e1
    by_cases hd10 : 10 ≤ d
    all_goals
      go_enter Tryz.func63, Tryz.ntmps63
      go_wp2_with (first
        | (go_at_call 80; refine (hf _ hT).mono ?_; rintro e w1 ⟨rfl, hb1⟩)
        | (go_at_call 68; refine (hU _).mono ?_; rintro e w2 ⟨rfl, hb2⟩; (have hb : Below w.heap.size w w2 := hb1.trans (hb2.mono hb1.size)))
        | (go_at_call 81; refine (hv _).mono ?_; rintro e w' ⟨rfl, rfl⟩))
      go_ret
      refine ⟨ret_str ?_, hb⟩
      rw [HS.out]
      simp only [hd10, if_true, if_false]
      apply ByteArray.ext
      simp

end Go.Proofs.YtaoeipbofhkkcaaGreatDoor
