/- Plain mathematics of numbers and texts of sources: lists of bytes and natural numbers alone; no program, no condition. -/
import GoSem.Core.Utf8
namespace Go.Proofs.NumMath

/-- a digit's value; 16: none -/
def dg (n : Nat) : Nat := if 48 ≤ n ∧ n ≤ 57 then n - 48 else if 65 ≤ n ∧ n ≤ 70 then n - 55 else if 97 ≤ n ∧ n ≤ 102 then n - 87 else 16
def evalL (b : Nat) : Nat → List UInt8 → Option Nat
  | n, [] => some n
  | n, c :: l => if dg c.toNat < b then evalL b (min (n * b + dg c.toNat) 65536) l else none
/-- the base that a letter tells; 0: none -/
def baseOf (n : Nat) : Nat := if n = 72 ∨ n = 104 then 16 else if n = 79 ∨ n = 111 ∨ n = 81 ∨ n = 113 then 8 else if n = 66 ∨ n = 98 then 2 else if n = 68 ∨ n = 100 then 10 else 0
def lastN (l : List UInt8) : Nat := match l.getLast? with | none => 0 | some c => c.toNat
def digsL (l : List UInt8) : List UInt8 := if baseOf (lastN l) = 0 then l else l.dropLast
def baseL (l : List UInt8) : Nat := if baseOf (lastN l) = 0 then 10 else baseOf (lastN l)
def headN (l : List UInt8) : Nat := match l with | [] => 0 | c :: _ => c.toNat
def finL : Option Nat → Nat × Nat
  | none => (0, 2)
  | some n => if 65535 < n then (0, 5) else (n, 0)
def parseL (l : List UInt8) : Nat × Nat := if 10 ≤ dg (headN (digsL l)) then (0, 2) else finL (evalL (baseL l) 0 (digsL l))

theorem dg_le (n : Nat) : dg n ≤ 16 := by unfold dg; repeat' split
                                          all_goals omega
theorem baseOf_cases (n : Nat) : baseOf n = 0 ∨ baseOf n = 2 ∨ baseOf n = 8 ∨ baseOf n = 10 ∨ baseOf n = 16 := by
  unfold baseOf; repeat' split
  all_goals simp
theorem baseL_cases (l : List UInt8) : baseL l = 2 ∨ baseL l = 8 ∨ baseL l = 10 ∨ baseL l = 16 := by
  unfold baseL; have := baseOf_cases (lastN l); split <;> omega
theorem evalL_le (b : Nat) : ∀ (l : List UInt8) (n m : Nat), n ≤ 65536 → evalL b n l = some m → m ≤ 65536
  | [], n, m, h, e => by simp only [evalL, Option.some.injEq] at e; omega
  | c :: l, n, m, h, e => by
    simp only [evalL] at e
    split at e
    · exact evalL_le b l _ m (Nat.min_le_right _ _) e
    · cases e
theorem parseL_bd (l : List UInt8) : (parseL l).1 ≤ 65535 ∧ (parseL l).2 ≤ 5 := by
  unfold parseL finL
  repeat' split
  all_goals simp_all <;> omega
theorem evalL_append (b : Nat) : ∀ (l m : List UInt8) (n : Nat), evalL b n (l ++ m) = (evalL b n l).bind fun k => evalL b k m
  | [], m, n => rfl
  | c :: l, m, n => by
    simp only [List.cons_append, evalL]
    split
    · exact evalL_append b l m _
    · rfl

/-- a digit's byte, great or small -/
def chN (g : Bool) (d : Nat) : Nat := if d < 10 then 48 + d else if g then 55 + d else 87 + d
def ch (g : Bool) (d : Nat) : UInt8 := (chN g d).toUInt8
theorem chN_lt (g : Bool) (d : Nat) (h : d < 16) : chN g d < 128 := by unfold chN; repeat' split
                                                                       all_goals omega
theorem ch_toNat (g : Bool) (d : Nat) (h : d < 16) : (ch g d).toNat = chN g d := by
  unfold ch; have := chN_lt g d h; simp [Nat.toUInt8]; omega
theorem dg_ch (g : Bool) (d : Nat) (h : d < 16) : dg (ch g d).toNat = d := by
  rw [ch_toNat g d h]; unfold dg chN; cases g <;> simp <;> repeat' split
  all_goals omega
def digits (g : Bool) (b n : Nat) : List UInt8 :=
  if _h : n < b ∨ b < 2 then [ch g n] else digits g b (n / b) ++ [ch g (n % b)]
termination_by n
decreasing_by exact Nat.div_lt_self (by omega) (by omega)
theorem digits_lt (g : Bool) (b n : Nat) (h : n < b) : digits g b n = [ch g n] := by rw [digits, dif_pos (Or.inl h)]
theorem digits_ge (g : Bool) (b n : Nat) (h2 : 2 ≤ b) (h : b ≤ n) : digits g b n = digits g b (n / b) ++ [ch g (n % b)] := by rw [digits, dif_neg (by omega)]
theorem evalL_digits (g : Bool) (b : Nat) (h2 : 2 ≤ b) (h16 : b ≤ 16) : ∀ (k n : Nat), n ≤ k → n ≤ 65535 → evalL b 0 (digits g b n) = some n := by
  intro k
  induction k with
  | zero =>
    intro n hn _
    obtain rfl : n = 0 := by omega
    rw [digits_lt g b 0 (by omega)]
    simp only [evalL]
    rw [dg_ch g 0 (by omega), if_pos (by omega)]
    simp
  | succ k ih =>
    intro n hn hm
    by_cases h : n < b
    · rw [digits_lt g b n h]
      simp only [evalL]
      rw [dg_ch g n (by omega), if_pos h]
      congr 1
      omega
    · have hd : n / b < n := Nat.div_lt_self (by omega) (by omega)
      have hr : n % b < b := Nat.mod_lt _ (by omega)
      rw [digits_ge g b n h2 (by omega), evalL_append, ih (n / b) (by omega) (by omega)]
      simp only [Option.bind_some, evalL]
      rw [dg_ch g _ (by omega), if_pos hr]
      congr 1
      have := Nat.div_add_mod n b
      rw [Nat.mul_comm] at this
      omega
theorem digits_ne (g : Bool) (b n : Nat) : digits g b n ≠ [] := by
  rw [digits]; split <;> simp
theorem headN_append (l m : List UInt8) (h : l ≠ []) : headN (l ++ m) = headN l := by cases l <;> simp_all [headN]
theorem lastN_snoc (l : List UInt8) (c : UInt8) : lastN (l ++ [c]) = c.toNat := by simp [lastN]
theorem headN_digits (g : Bool) (b : Nat) (h2 : 2 ≤ b) (h16 : b ≤ 16) : ∀ (k n : Nat), n ≤ k → ∃ d, d < b ∧ headN (digits g b n) = chN g d ∧ (1 ≤ n → 1 ≤ d) := by
  intro k
  induction k with
  | zero =>
    intro n hn
    obtain rfl : n = 0 := by omega
    exact ⟨0, by omega, by rw [digits_lt g b 0 (by omega)]; exact ch_toNat g 0 (by omega), by omega⟩
  | succ k ih =>
    intro n hn
    by_cases h : n < b
    · exact ⟨n, h, by rw [digits_lt g b n h]; exact ch_toNat g n (by omega), fun h => h⟩
    · have hd : n / b < n := Nat.div_lt_self (by omega) (by omega)
      have h1 : 1 ≤ n / b := Nat.div_pos (by omega) (by omega)
      obtain ⟨d, a, e, p⟩ := ih (n / b) (by omega)
      exact ⟨d, a, by rw [digits_ge g b n h2 (by omega), headN_append _ _ (digits_ne _ _ _), e], fun _ => p h1⟩
theorem digits_len (g : Bool) (b : Nat) (h2 : 2 ≤ b) : ∀ (k n : Nat), n < b ^ (k + 1) → (digits g b n).length ≤ k + 1 := by
  intro k
  induction k with
  | zero => intro n hn; rw [digits_lt g b n (by simpa using hn)]; simp
  | succ k ih =>
    intro n hn
    by_cases h : n < b
    · rw [digits_lt g b n h]; simp
    · rw [digits_ge g b n h2 (by omega)]
      have : n / b < b ^ (k + 1) := by
        rw [Nat.div_lt_iff_lt_mul (by omega)]
        rw [← Nat.pow_succ]; exact hn
      have := ih _ this
      simp
      omega
/-- a text of digits and its base's letter is read as its number -/
theorem parseL_letter (g : Bool) (b n : Nat) (c : UInt8) (h2 : 2 ≤ b) (h16 : b ≤ 16) (hn : n ≤ 65535) (hc : baseOf c.toNat = b) (hd : b ≤ 10) : parseL (digits g b n ++ [c]) = (n, 0) := by
  have e1 : baseOf (lastN (digits g b n ++ [c])) = b := by rw [lastN_snoc, hc]
  have ed : digsL (digits g b n ++ [c]) = digits g b n := by unfold digsL; rw [e1, if_neg (by omega)]; simp
  have eb : baseL (digits g b n ++ [c]) = b := by unfold baseL; rw [e1, if_neg (by omega)]
  obtain ⟨d, hd1, hd2, _⟩ := headN_digits g b h2 h16 n n (Nat.le_refl _)
  unfold parseL
  rw [ed, eb, hd2, evalL_digits g b h2 h16 n n (Nat.le_refl _) hn, if_neg]
  · simp [finL]; omega
  · rw [← ch_toNat g d (by omega), dg_ch g d (by omega)]; omega
theorem evalL_zero (b : Nat) (h : 2 ≤ b) (l : List UInt8) : evalL b 0 (48 :: l) = evalL b 0 l := by
  simp only [evalL]
  have e : dg (48 : UInt8).toNat = 0 := by decide
  rw [e, if_pos (by omega)]
  simp
theorem parseL_hex0 (g : Bool) (n : Nat) (c : UInt8) (hc : baseOf c.toNat = 16) (hn : n ≤ 65535) : parseL (48 :: digits g 16 n ++ [c]) = (n, 0) := by
  have e1 : baseOf (lastN (48 :: digits g 16 n ++ [c])) = 16 := by rw [lastN_snoc, hc]
  have ed : digsL (48 :: digits g 16 n ++ [c]) = 48 :: digits g 16 n := by unfold digsL; rw [e1, if_neg (by omega)]; exact List.dropLast_concat
  have eb : baseL (48 :: digits g 16 n ++ [c]) = 16 := by unfold baseL; rw [e1, if_neg (by omega)]
  unfold parseL
  rw [ed, eb, evalL_zero 16 (by omega), evalL_digits g 16 (by omega) (by omega) n n (Nat.le_refl _) hn, show headN (48 :: digits g 16 n) = 48 from rfl, if_neg (by decide)]
  simp [finL]; omega
theorem parseL_dec (n : Nat) (hn : n ≤ 65535) : parseL (digits false 10 n) = (n, 0) := by
  have hl : ∃ d, d < 10 ∧ lastN (digits false 10 n) = chN false d := by
    by_cases h : n < 10
    · exact ⟨n, h, by rw [digits_lt _ _ _ h]; show (ch false n).toNat = _; exact ch_toNat _ _ (by omega)⟩
    · exact ⟨n % 10, by omega, by rw [digits_ge _ _ _ (by omega) (by omega), lastN_snoc, ch_toNat _ _ (by omega)]⟩
  obtain ⟨d, hd, el⟩ := hl
  have e0 : baseOf (chN false d) = 0 := by unfold chN baseOf; rw [if_pos hd]; repeat' split
                                           all_goals omega
  have ed : digsL (digits false 10 n) = digits false 10 n := by unfold digsL; rw [el, e0, if_pos rfl]
  have eb : baseL (digits false 10 n) = 10 := by unfold baseL; rw [el, e0, if_pos rfl]
  obtain ⟨d', hd1, hd2, _⟩ := headN_digits false 10 (by omega) (by omega) n n (Nat.le_refl _)
  unfold parseL
  rw [ed, eb, hd2, evalL_digits false 10 (by omega) (by omega) n n (Nat.le_refl _) hn, if_neg]
  · simp [finL]; omega
  · rw [← ch_toNat false d' (by omega), dg_ch false d' (by omega)]; omega

/-- the text of a number -/
def hexL (n : Nat) : List UInt8 := digits true 16 n ++ [72]
def showL (n : Nat) : List UInt8 := if n < 10 then [ch true n] else if 10 ≤ dg (headN (digits true 16 n)) then 48 :: hexL n else hexL n
theorem parse_show (n : Nat) (hn : n ≤ 65535) : parseL (showL n) = (n, 0) := by
  unfold showL
  split
  · rename_i h
    have := parseL_dec n hn
    rw [digits_lt _ _ _ h] at this
    have e : ch true n = ch false n := by unfold ch chN; rw [if_pos h, if_pos h]
    rw [e]; exact this
  · split
    · exact parseL_hex0 true n 72 (by decide) hn
    · rename_i h10 hd
      have e1 : baseOf (lastN (digits true 16 n ++ [72])) = 16 := by rw [lastN_snoc]; decide
      have ed : digsL (digits true 16 n ++ [72]) = digits true 16 n := by unfold digsL; rw [e1, if_neg (by omega)]; simp
      have eb : baseL (digits true 16 n ++ [72]) = 16 := by unfold baseL; rw [e1, if_neg (by omega)]
      show parseL (digits true 16 n ++ [72]) = _
      unfold parseL
      rw [ed, eb, if_neg hd, evalL_digits true 16 (by omega) (by omega) n n (Nat.le_refl _) hn]
      simp [finL]; omega

/-! ### names and great letters -/
def upN (n : Nat) : Nat := if 97 ≤ n ∧ n ≤ 122 then n - 32 else n
def up (c : UInt8) : UInt8 := (upN c.toNat).toUInt8
theorem upN_lt (c : UInt8) : upN c.toNat < 256 := by have := c.toNat_lt; unfold upN; split <;> omega
theorem up_toNat (c : UInt8) : (up c).toNat = upN c.toNat := by have := upN_lt c; unfold up; simp [Nat.toUInt8]; omega
theorem up_up (c : UInt8) : up (up c) = up c := by
  apply UInt8.toNat_inj.1
  rw [up_toNat, up_toNat]; unfold upN; repeat' split
  all_goals omega
def upL (l : List UInt8) : List UInt8 := l.map up
theorem upL_upL (l : List UInt8) : upL (upL l) = upL l := by simp [upL, up_up]
theorem dg_up (c : UInt8) : dg (upN c.toNat) = dg c.toNat := by
  unfold dg upN; repeat' split
  all_goals omega
def letter (n : Nat) : Bool := (97 ≤ n && n ≤ 122) || (65 ≤ n && n ≤ 90) || n == 63 || n == 64 || n == 95
def tailOk (l : List UInt8) : Bool := l.all fun c => letter c.toNat || decide (dg c.toNat < 10)
def nameL (l : List UInt8) : Bool := decide (1 ≤ l.length) && decide (l.length ≤ 16) && letter (headN l) && tailOk (l.drop 1)
end Go.Proofs.NumMath
