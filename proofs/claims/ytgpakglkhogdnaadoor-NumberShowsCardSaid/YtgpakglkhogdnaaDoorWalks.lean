/- The laws NumberParses, NumberShows, NumberNames, NumberBases and NumberDigits answer true, whatever they are given, and let all stand that was there; where the library's table of bits is laid. -/
import Derived.Test.YtgpakglkhogdnaaDoorAlive
import Derived.Test.YtgpakglkhogdnaaDoorRparse
namespace Go.Proofs.YtgpakglkhogdnaaDoor
open Go.RowKit Go.Proofs.NumMath

theorem shown (n : Nat) (hn : n ≤ 65535) (w : World) : Calls Tryd.prog 11 #[.string ⟨(showL n).toArray⟩] w fun e w' => e = .returned (.tuple #[.int .u16 n, .int .i64 0]) ∧ Below w.heap.size w w' := by
  have hl : (showL n).length ≤ 6 := by
    unfold showL hexL
    have := digits_len true 16 (by omega) 3 n (by omega)
    repeat' split
    all_goals simp
    all_goals omega
  have e1 : (⟨(showL n).toArray⟩ : ByteArray).data.toList = showL n := by simp
  have h := parse_any ⟨(showL n).toArray⟩ (by rw [size_mk]; omega) w
  rw [e1, parse_show n hn] at h
  exact h
set_option maxHeartbeats 1000000 in
theorem walkParses (s : ByteArray) (ws : s.size ≤ 9223372036854775807) (w : World) (hT : Tab16 w) : Calls Tryd.prog 3 #[.string s] w fun e w' => e = .returned (.bool true) ∧ Below w.heap.size w w' := by
  by_cases hbig : 1000 < s.size
  · go_enter Tryd.func3, Tryd.ntmps3
    go_wp2_with (go_at_call 10; refine (alive_any _ hT).mono ?_; rintro e w1 ⟨rfl, hb1⟩)
    go_ret
    exact ⟨rfl, hb1⟩
  · have hp := parse_any s ws
    have hr := rparse_any s (by omega)
    obtain ⟨P, hP⟩ : ∃ P, parseL s.data.toList = P := ⟨_, rfl⟩
    rw [hP] at hp hr
    clear hP
    go_enter Tryd.func3, Tryd.ntmps3
    go_wp2_with (first
      | (go_at_call 11; refine (hp _).mono ?_; rintro e w1 ⟨rfl, hb1⟩)
      | (go_at_call 12; refine (hr _).mono ?_; rintro e w2 ⟨rfl, hb2⟩; (have hc2 := below_two hb1 hb2); clear hb2)
      | (go_at_call 10; refine (alive_any _ (hT.below hc2)).mono ?_; rintro e w3 ⟨rfl, hb3⟩; (have hc3 := below_two hc2 hb3); clear hb3))
    go_ret
    exact ⟨rfl, hc3⟩
set_option maxHeartbeats 1000000 in
theorem walkShows (n : Nat) (hn : n ≤ 65535) (w : World) (hT : Tab16 w) : Calls Tryd.prog 4 #[.int .u16 n] w fun e w' => e = .returned (.bool true) ∧ Below w.heap.size w w' := by
  go_enter Tryd.func4, Tryd.ntmps4
  go_wp2_with (first
    | (go_at_call 13; refine (show_any n hn _ hT).mono ?_; rintro e w1 ⟨rfl, hb1⟩)
    | (go_at_call 11; refine (shown n hn _).mono ?_; rintro e w2 ⟨rfl, hb2⟩; (have hc2 := below_two hb1 hb2); clear hb2)
    | (go_at_call 14; refine (rshow_any n hn _).mono ?_; rintro e w3 ⟨rfl, hb3⟩; (have hc3 := below_two hc2 hb3); clear hb3)
    | (go_at_call 10; refine (alive_any _ (hT.below hc3)).mono ?_; rintro e w4 ⟨rfl, hb4⟩; (have hc4 := below_two hc3 hb4); clear hb4))
  go_ret
  exact ⟨rfl, hc4⟩
set_option maxHeartbeats 1000000 in
theorem walkNames (s : ByteArray) (ws : s.size ≤ 9223372036854775807) (w : World) (hT : Tab16 w) : Calls Tryd.prog 6 #[.string s] w fun e w' => e = .returned (.bool true) ∧ Below w.heap.size w w' := by
  by_cases hbig : 1000 < s.size
  · go_enter Tryd.func6, Tryd.ntmps6
    go_wp2_with (go_at_call 10; refine (alive_any _ hT).mono ?_; rintro e w1 ⟨rfl, hb1⟩)
    go_ret
    exact ⟨rfl, hb1⟩
  · have hn := name_any s ws
    have hr := rname_any s ws
    have hu := upper_any s (by omega)
    have hv := rupper_any s (by omega)
    have hu2 := upper_any ⟨(upL s.data.toList).toArray⟩ (by rw [size_mk]; simp [upL]; omega)
    rw [show (⟨(upL s.data.toList).toArray⟩ : ByteArray).data.toList = upL s.data.toList by simp, upL_upL] at hu2
    obtain ⟨N, hN⟩ : ∃ N, nameL s.data.toList = N := ⟨_, rfl⟩
    obtain ⟨U, hU⟩ : ∃ U : ByteArray, (⟨(upL s.data.toList).toArray⟩ : ByteArray) = U := ⟨_, rfl⟩
    rw [hN] at hn hr
    rw [hU] at hu hv hu2
    clear hN hU
    go_enter Tryd.func6, Tryd.ntmps6
    go_wp2_with (first
      | (go_at_call 21; refine (hn _).mono ?_; rintro e w1 ⟨rfl, hb1⟩)
      | (go_at_call 22; refine (hr _).mono ?_; rintro e w' ⟨rfl, rfl⟩)
      | (go_at_call 23; with_reducible refine (hu _).mono ?_; rintro e w2 ⟨rfl, hb2⟩; (have hc2 := below_two hb1 hb2); clear hb2)
      | (go_at_call 24; with_reducible refine (hv _).mono ?_; rintro e w3 ⟨rfl, hb3⟩; (have hc3 := below_two hc2 hb3); clear hb3)
      | (go_at_call 23; with_reducible refine (hu _).mono ?_; rintro e w4 ⟨rfl, hb4⟩; (have hc4 := below_two hc3 hb4); clear hb4)
      | (go_at_call 23; with_reducible refine (hu2 _).mono ?_; rintro e w5 ⟨rfl, hb5⟩; (have hc5 := below_two hc4 hb5); clear hb5)
      | (go_at_call 23; with_reducible refine (hu _).mono ?_; rintro e w6 ⟨rfl, hb6⟩; (have hc6 := below_two hc5 hb6); clear hb6)
      | (go_at_call 10; refine (alive_any _ (hT.below hc6)).mono ?_; rintro e w7 ⟨rfl, hb7⟩; (have hc7 := below_two hc6 hb7); clear hb7))
    go_ret
    exact ⟨rfl, hc7⟩

/-! ### bases -/
theorem hexed (n : Nat) (hn : n ≤ 65535) (w : World) : Calls Tryd.prog 11 #[.string ((⟨#[48]⟩ : ByteArray) ++ ⟨(digits false 16 n).toArray⟩ ++ ⟨#[72]⟩)] w fun e w' => e = .returned (.tuple #[.int .u16 n, .int .i64 0]) ∧ Below w.heap.size w w' := by
  have e1 : ((⟨#[48]⟩ : ByteArray) ++ ⟨(digits false 16 n).toArray⟩ ++ ⟨#[72]⟩).data.toList = 48 :: digits false 16 n ++ [72] := by simp
  have hl := digits_len false 16 (by omega) 3 n (by omega)
  have h := parse_any ((⟨#[48]⟩ : ByteArray) ++ ⟨(digits false 16 n).toArray⟩ ++ ⟨#[72]⟩) (by rw [← data_size, e1]; simp; omega) w
  rw [e1, parseL_hex0 false n 72 (by decide) hn] at h
  exact h
theorem based (b n : Nat) (c : UInt8) (b2 : 2 ≤ b) (b10 : b ≤ 10) (hc : baseOf c.toNat = b) (hn : n ≤ 65535) (w : World) : Calls Tryd.prog 11 #[.string ((⟨(digits false b n).toArray⟩ : ByteArray) ++ ⟨#[c]⟩)] w fun e w' => e = .returned (.tuple #[.int .u16 n, .int .i64 0]) ∧ Below w.heap.size w w' := by
  have e1 : ((⟨(digits false b n).toArray⟩ : ByteArray) ++ ⟨#[c]⟩).data.toList = digits false b n ++ [c] := by simp
  have hp : n < b ^ (15 + 1) := Nat.lt_of_lt_of_le (show n < 2 ^ 16 by omega) (Nat.pow_le_pow_left b2 16)
  have hl := digits_len false b b2 15 n hp
  have h := parse_any ((⟨(digits false b n).toArray⟩ : ByteArray) ++ ⟨#[c]⟩) (by rw [← data_size, e1]; simp; omega) w
  rw [e1, parseL_letter false b n c b2 (by omega) hn hc b10] at h
  exact h
theorem tens (n : Nat) (hn : n ≤ 65535) (w : World) : Calls Tryd.prog 11 #[.string ⟨(digits false 10 n).toArray⟩] w fun e w' => e = .returned (.tuple #[.int .u16 n, .int .i64 0]) ∧ Below w.heap.size w w' := by
  have e1 : (⟨(digits false 10 n).toArray⟩ : ByteArray).data.toList = digits false 10 n := by simp
  have hl := digits_len false 10 (by omega) 4 n (by omega)
  have h := parse_any ⟨(digits false 10 n).toArray⟩ (by rw [size_mk]; omega) w
  rw [e1, parseL_dec n hn] at h
  exact h
set_option maxHeartbeats 2000000 in
theorem walkBases (n : Nat) (hn : n ≤ 65535) (w : World) (hT : Tab16 w) : Calls Tryd.prog 7 #[.int .u16 n] w fun e w' => e = .returned (.bool true) ∧ Below w.heap.size w w' := by
  have d16 : ∀ w, Calls Tryd.prog 25 #[.int .u16 n, .int .u16 16] w _ := digits_any n 16 hn (by omega) (by omega)
  have d8 : ∀ w, Calls Tryd.prog 25 #[.int .u16 n, .int .u16 8] w _ := digits_any n 8 hn (by omega) (by omega)
  have d2 : ∀ w, Calls Tryd.prog 25 #[.int .u16 n, .int .u16 2] w _ := digits_any n 2 hn (by omega) (by omega)
  have d10 : ∀ w, Calls Tryd.prog 25 #[.int .u16 n, .int .u16 10] w _ := digits_any n 10 hn (by omega) (by omega)
  have p16 := hexed n hn
  have p8 := based 8 n 79 (by omega) (by omega) (by decide) hn
  have p8q := based 8 n 113 (by omega) (by omega) (by decide) hn
  have p2 := based 2 n 66 (by omega) (by omega) (by decide) hn
  have p10 := based 10 n 100 (by omega) (by omega) (by decide) hn
  have p0 := tens n hn
  have l16 := digits_len false 16 (by omega) 3 n (by omega)
  have l8 := digits_len false 8 (by omega) 5 n (by omega)
  have l2 := digits_len false 2 (by omega) 15 n (by omega)
  have l10 := digits_len false 10 (by omega) 4 n (by omega)
  obtain ⟨L16, e16⟩ : ∃ L, digits false 16 n = L := ⟨_, rfl⟩
  obtain ⟨L8, e8⟩ : ∃ L, digits false 8 n = L := ⟨_, rfl⟩
  obtain ⟨L2, e2⟩ : ∃ L, digits false 2 n = L := ⟨_, rfl⟩
  obtain ⟨L10, e10⟩ : ∃ L, digits false 10 n = L := ⟨_, rfl⟩
  rw [e16] at d16 p16 l16
  rw [e8] at d8 p8 p8q l8
  rw [e2] at d2 p2 l2
  rw [e10] at d10 p10 p0 l10
  clear e16 e8 e2 e10
  go_enter Tryd.func7, Tryd.ntmps7
  go_wp2_with (first
    | (go_at_call 25; with_reducible refine (d16 _).mono ?_; rintro e w1 ⟨rfl, hc1⟩)
    | (go_at_call 11; with_reducible refine (p16 _).mono ?_; rintro e w2 ⟨rfl, hb2⟩; (have hc2 := below_two hc1 hb2); clear hb2)
    | (go_at_call 25; with_reducible refine (d8 _).mono ?_; rintro e w3 ⟨rfl, hb3⟩; (have hc3 := below_two hc2 hb3); clear hb3)
    | (go_at_call 11; with_reducible refine (p8 _).mono ?_; rintro e w4 ⟨rfl, hb4⟩; (have hc4 := below_two hc3 hb4); clear hb4)
    | (go_at_call 25; with_reducible refine (d8 _).mono ?_; rintro e w5 ⟨rfl, hb5⟩; (have hc5 := below_two hc4 hb5); clear hb5)
    | (go_at_call 11; with_reducible refine (p8q _).mono ?_; rintro e w6 ⟨rfl, hb6⟩; (have hc6 := below_two hc5 hb6); clear hb6)
    | (go_at_call 25; with_reducible refine (d2 _).mono ?_; rintro e w7 ⟨rfl, hb7⟩; (have hc7 := below_two hc6 hb7); clear hb7)
    | (go_at_call 11; with_reducible refine (p2 _).mono ?_; rintro e w8 ⟨rfl, hb8⟩; (have hc8 := below_two hc7 hb8); clear hb8)
    | (go_at_call 25; with_reducible refine (d10 _).mono ?_; rintro e w9 ⟨rfl, hb9⟩; (have hc9 := below_two hc8 hb9); clear hb9)
    | (go_at_call 11; with_reducible refine (p10 _).mono ?_; rintro e w10 ⟨rfl, hb10⟩; (have hc10 := below_two hc9 hb10); clear hb10)
    | (go_at_call 25; with_reducible refine (d10 _).mono ?_; rintro e w11 ⟨rfl, hb11⟩; (have hc11 := below_two hc10 hb11); clear hb11)
    | (go_at_call 11; with_reducible refine (p0 _).mono ?_; rintro e w12 ⟨rfl, hb12⟩; (have hc12 := below_two hc11 hb12); clear hb12)
    | (go_at_call 10; refine (alive_any _ (hT.below hc12)).mono ?_; rintro e w13 ⟨rfl, hb13⟩; (have hc13 := below_two hc12 hb13); clear hb13))
  go_ret
  exact ⟨rfl, hc13⟩

/-! ### digits -/
def valN (b : Nat) : List UInt8 → Nat
  | [] => 0
  | c :: l => dg c.toNat * b ^ l.length + valN b l
theorem evalL_val (b : Nat) (hb : 1 ≤ b) : ∀ (l : List UInt8) (a : Nat), (∀ c ∈ l, dg c.toNat < b) → a ≤ 65536 → evalL b a l = some (min (a * b ^ l.length + valN b l) 65536)
  | [], a, _, ha => by simp [evalL, valN]; omega
  | c :: l, a, h, ha => by
    have hp : 1 ≤ b ^ l.length := Nat.pow_pos hb
    rw [evalL, if_pos (h c (by simp)), evalL_val b hb l _ (fun x hx => h x (by simp [hx])) (Nat.min_le_right _ _)]
    congr 1
    simp only [valN, List.length_cons, Nat.pow_succ]
    have e : a * (b ^ l.length * b) + (dg c.toNat * b ^ l.length + valN b l) = (a * b + dg c.toNat) * b ^ l.length + valN b l := by
      rw [Nat.add_mul, Nat.mul_assoc, Nat.mul_comm b, Nat.add_assoc]
    rw [e]
    by_cases hm : a * b + dg c.toNat ≤ 65536
    · rw [Nat.min_eq_left hm]
    · rw [Nat.min_eq_right (show 65536 ≤ a * b + dg c.toNat by omega)]
      have h2 : 65536 * b ^ l.length ≤ (a * b + dg c.toNat) * b ^ l.length := Nat.mul_le_mul_right _ (by omega)
      obtain ⟨X, hX⟩ : ∃ X, (a * b + dg c.toNat) * b ^ l.length = X := ⟨_, rfl⟩
      obtain ⟨Y, hY⟩ : ∃ Y, b ^ l.length = Y := ⟨_, rfl⟩
      rw [hX] at h2 ⊢
      rw [hY] at h2 hp ⊢
      clear hX hY e
      rw [Nat.min_eq_right (by omega), Nat.min_eq_right (by omega)]
theorem digits_dg (g : Bool) (b : Nat) (h2 : 2 ≤ b) (h16 : b ≤ 16) : ∀ (k n : Nat), n ≤ k → ∀ c ∈ digits g b n, dg c.toNat < b := by
  intro k
  induction k with
  | zero =>
    intro n hn c hc
    rw [digits_lt _ _ _ (by omega)] at hc
    obtain rfl : c = ch g n := by simpa using hc
    rw [dg_ch g n (by omega)]; omega
  | succ k ih =>
    intro n hn c hc
    by_cases h : n < b
    · rw [digits_lt _ _ _ h] at hc
      obtain rfl : c = ch g n := by simpa using hc
      rw [dg_ch g n (by omega)]; omega
    · have hd : n / b < n := Nat.div_lt_self (by omega) (by omega)
      have hr : n % b < b := Nat.mod_lt _ (by omega)
      rw [digits_ge _ _ _ h2 (by omega)] at hc
      rcases List.mem_append.1 hc with hc | hc
      · exact ih (n / b) (by omega) c hc
      · obtain rfl : c = ch g (n % b) := by simpa using hc
        rw [dg_ch g _ (by omega)]; exact hr
/-- without its first digit, a text of base 16 is another number -/
theorem shorter (n d : Nat) (hn : n ≤ 65535) (hd : 1 ≤ d) (hd16 : d < 16) (hh : headN (digits true 16 n) = chN true d) : ∃ m, m ≤ 65535 ∧ m ≠ n ∧ parseL (48 :: ((digits true 16 n).drop 1 ++ [72])) = (m, 0) := by
  have he := evalL_digits true 16 (by omega) (by omega) n n (Nat.le_refl _) hn
  have hdg := digits_dg true 16 (by omega) (by omega) n n (Nat.le_refl _)
  cases hl : digits true 16 n with
  | nil => exact absurd hl (digits_ne _ _ _)
  | cons c t =>
    rw [hl] at he hdg hh
    have hc : c.toNat = chN true d := hh
    have hcd : dg c.toNat = d := by rw [hc, ← ch_toNat true d hd16, dg_ch true d hd16]
    have ht : ∀ x ∈ t, dg x.toNat < 16 := fun x hx => hdg x (by simp [hx])
    rw [evalL_val 16 (by omega) _ _ hdg (by omega)] at he
    have he2 := Option.some.inj he
    simp only [valN, hcd, Nat.zero_mul, Nat.zero_add] at he2
    have hp : 1 ≤ 16 ^ t.length := Nat.pow_pos (by omega)
    have h3 : 1 * 1 ≤ d * 16 ^ t.length := Nat.mul_le_mul hd hp
    have e1 : baseOf (lastN (48 :: (t ++ [72]))) = 16 := by rw [← List.cons_append, lastN_snoc]; rfl
    have ed : digsL (48 :: (t ++ [72])) = 48 :: t := by unfold digsL; rw [e1, if_neg (by omega), ← List.cons_append]; exact List.dropLast_concat
    have eb : baseL (48 :: (t ++ [72])) = 16 := by unfold baseL; rw [e1, if_neg (by omega)]
    refine ⟨valN 16 t, by omega, by omega, ?_⟩
    show parseL (48 :: (t ++ [72])) = _
    unfold parseL
    rw [ed, eb, evalL_zero 16 (by omega), show headN (48 :: t) = 48 from rfl, if_neg (by decide), evalL_val 16 (by omega) _ _ ht (by omega), Nat.zero_mul, Nat.zero_add, Nat.min_eq_left (by omega)]
    simp only [finL]
    rw [if_neg (by omega)]
set_option maxHeartbeats 2000000 in
theorem walkDigits (n : Nat) (hn : n ≤ 65535) (w : World) (hT : Tab16 w) : Calls Tryd.prog 9 #[.int .u16 n] w fun e w' => e = .returned (.bool true) ∧ Below w.heap.size w w' := by
  have hs := show_any n hn
  obtain ⟨S, hS⟩ : ∃ S : ByteArray, (⟨(showL n).toArray⟩ : ByteArray) = S := ⟨_, rfl⟩
  have hSd : S.data.toList = showL n := by rw [← hS]
  rw [hS] at hs
  clear hS
  have hSs : S.size = (showL n).length := by rw [← data_size, hSd]
  by_cases h10 : n < 10
  · have e1 : showL n = [ch true n] := by unfold showL; rw [if_pos h10]
    have hs1 : S.size = 1 := by rw [hSs, e1]; rfl
    have hs0 : 0 < S.size := by rw [hs1]; exact Nat.one_pos
    have hx := headN_at S hs0
    rw [hSd, e1] at hx
    have hc : headN [ch true n] = 48 + n := by show (ch true n).toNat = _; rw [ch_toNat true n (by omega)]; unfold chN; rw [if_pos h10]
    rw [hc] at hx
    have hx2 : (S[0]'hs0).toNat = 48 + n := hx.symm
    clear hSs hSd e1 hc hx
    go_enter Tryd.func9, Tryd.ntmps9
    go_wp2_with (first
      | (go_at_call 13; refine (hs _ hT).mono ?_; rintro e w1 ⟨rfl, hb1⟩)
      | (go_at_call 10; refine (alive_any _ (hT.below hb1)).mono ?_; rintro e w2 ⟨rfl, hb2⟩; (have hc2 := below_two hb1 hb2); clear hb2))
    go_ret
    exact ⟨rfl, hc2⟩
  · obtain ⟨d, hd, hhd, hd1⟩ := headN_digits true 16 (by omega) (by omega) n n (Nat.le_refl _)
    have hd1 := hd1 (by omega)
    have hlen := digits_len true 16 (by omega) 3 n (by omega)
    have hne := digits_ne true 16 n
    have e0 : showL n = if 10 ≤ d then 48 :: hexL n else hexL n := by
      unfold showL
      rw [if_neg h10, hhd, ← ch_toNat true d hd, dg_ch true d hd]
    by_cases hd10 : 10 ≤ d
    · rw [if_pos hd10] at e0
      have hs1 : 1 ≤ S.size := by rw [hSs, e0]; simp
      have hs6 : S.size ≤ 6 := by rw [hSs, e0]; simp [hexL]; omega
      have hs0 : 0 < S.size := hs1
      have hx := headN_at S hs0
      rw [hSd, e0] at hx
      have hx2 : (S[0]'hs0).toNat = 48 := hx.symm
      have hp : ∀ w, Calls Tryd.prog 11 #[.string (S.extract 1 S.size)] w fun e w' => e = .returned (.tuple #[.int .u16 0, .int .i64 2]) ∧ Below w.heap.size w w' := by
        intro w
        have h := parse_any (S.extract 1 S.size) (by simp; omega) w
        have e2 : (S.extract 1 S.size).data.toList = hexL n := by
          simp only [ByteArray.data_extract, Array.toList_extract, List.extract_eq_take_drop]
          rw [hSd, e0]
          simp
          rw [hSs, e0]
          simp
        have e3 : baseOf (lastN (hexL n)) = 16 := by unfold hexL; rw [lastN_snoc]; rfl
        have ed : digsL (hexL n) = digits true 16 n := by unfold digsL; rw [e3, if_neg (by omega)]; simp [hexL]
        rw [e2, parse_syn (hexL n) (by rw [ed, hhd, ← ch_toNat true d hd, dg_ch true d hd]; exact hd10)] at h
        exact h
      clear hSs hSd e0 hx hhd hne
      go_enter Tryd.func9, Tryd.ntmps9
      go_wp2_with (first
        | (go_at_call 13; refine (hs _ hT).mono ?_; rintro e w1 ⟨rfl, hb1⟩)
        | (go_at_call 11; refine (hp _).mono ?_; rintro e w3 ⟨rfl, hb3⟩; (have hc3 := below_two hb1 hb3); clear hb3)
        | (go_at_call 10; refine (alive_any _ (hT.below hc3)).mono ?_; rintro e w2 ⟨rfl, hb2⟩; (have hc2 := below_two hc3 hb2); clear hb2))
      go_ret
      exact ⟨rfl, hc2⟩
    · rw [if_neg hd10] at e0
      obtain ⟨m, hm, hmn, hpm⟩ := shorter n d hn hd1 hd hhd
      have hl1 : 1 ≤ (digits true 16 n).length := by cases h : digits true 16 n with
        | nil => exact absurd h hne
        | cons => simp
      have hs1 : 1 ≤ S.size := by rw [hSs, e0]; simp [hexL]
      have hs6 : S.size ≤ 6 := by rw [hSs, e0]; simp [hexL]; omega
      have hs0 : 0 < S.size := hs1
      have hx := headN_at S hs0
      rw [hSd, e0] at hx
      unfold hexL at hx
      rw [headN_append _ _ hne, hhd] at hx
      have hx2 : (S[0]'hs0).toNat = 48 + d := by rw [← hx]; unfold chN; rw [if_pos (by omega)]
      have hp : ∀ w, Calls Tryd.prog 11 #[.string ((⟨#[48]⟩ : ByteArray) ++ S.extract 1 S.size)] w fun e w' => e = .returned (.tuple #[.int .u16 m, .int .i64 0]) ∧ Below w.heap.size w w' := by
        intro w
        have h := parse_any ((⟨#[48]⟩ : ByteArray) ++ S.extract 1 S.size) (by rw [← data_size]; simp; omega) w
        have e2 : ((⟨#[48]⟩ : ByteArray) ++ S.extract 1 S.size).data.toList = 48 :: ((digits true 16 n).drop 1 ++ [72]) := by
          simp only [ByteArray.data_append, Array.toList_append, ByteArray.data_extract, Array.toList_extract, List.extract_eq_take_drop]
          rw [hSd, e0, hSs, e0]
          unfold hexL
          cases hl : digits true 16 n with
          | nil => exact absurd hl hne
          | cons c t =>
            simp
            exact List.take_of_length_le (by simp)
        rw [e2, hpm] at h
        exact h
      have hb0 : ((m : Int) != n) = true := by rw [bne_iff_ne]; omega
      clear hSs hSd e0 hx hhd hne hpm
      go_enter Tryd.func9, Tryd.ntmps9
      go_wp2_with (first
        | (go_at_call 13; refine (hs _ hT).mono ?_; rintro e w1 ⟨rfl, hb1⟩)
        | (go_at_call 11; refine (hp _).mono ?_; rintro e w3 ⟨rfl, hb3⟩; (have hc3 := below_two hb1 hb3); clear hb3)
        | (go_at_call 10; refine (alive_any _ (hT.below hc3)).mono ?_; rintro e w2 ⟨rfl, hb2⟩; (have hc2 := below_two hc3 hb2); clear hb2))
      go_ret
      exact ⟨rfl, hc2⟩
end Go.Proofs.YtgpakglkhogdnaaDoor
