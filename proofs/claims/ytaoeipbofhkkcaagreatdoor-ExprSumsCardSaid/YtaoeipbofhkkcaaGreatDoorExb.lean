/- Plain mathematics of expressions: their texts, which are right, their values; no program, no condition. -/
import Derived.Test.YtaoeipbofhkkcaaGreatDoorEx
namespace Go.Proofs.YtaoeipbofhkkcaaGreatDoor
open Go.Proofs.NumMath

/-! ### texts -/
theorem good_mark (c : UInt8) (h : markB c = true) : Good ⟨4, [c], 0⟩ := .inr (.inr (.inr ⟨rfl, rfl, c, rfl, h⟩))
theorem good_tok2 (o : O2) : Good (tok2 o) := by
  cases o
  case or => exact .inl ⟨rfl, rfl, by decide, by decide⟩
  case xor => exact .inl ⟨rfl, rfl, by decide, by decide⟩
  case and => exact .inl ⟨rfl, rfl, by decide, by decide⟩
  case mod => exact .inl ⟨rfl, rfl, by decide, by decide⟩
  case shl => exact .inl ⟨rfl, rfl, by decide, by decide⟩
  case shr => exact .inl ⟨rfl, rfl, by decide, by decide⟩
  case add => exact good_mark 43 (by decide)
  case sub => exact good_mark 45 (by decide)
  case mul => exact good_mark 42 (by decide)
  case div => exact good_mark 47 (by decide)
theorem good_tok1 (o : O1) : Good (tok1 o) := by
  cases o
  case inv => exact .inl ⟨rfl, rfl, by decide, by decide⟩
  case neg => exact good_mark 45 (by decide)
theorem good_par {c : Bool} {l : List Tok} (h : ∀ x ∈ l, Good x) : ∀ x ∈ par c l, Good x := by
  unfold par
  cases c
  · simpa using h
  · intro x hx
    simp only [if_true, List.mem_cons, List.mem_append, List.not_mem_nil, or_false] at hx
    rcases hx with rfl | hx | rfl
    · exact good_mark 40 (by decide)
    · exact h x hx
    · exact good_mark 41 (by decide)
theorem good_tokR : ∀ (r : RE), okR r = true → ∀ w, ∀ x ∈ tokR r w, Good x
  | .num n, h, w, x, hx => by
    obtain rfl : x = ⟨2, [], n⟩ := by simpa [tokR] using hx
    exact .inr (.inl ⟨rfl, rfl, by simpa [okR] using h⟩)
  | .nam s, h, w, x, hx => by
    obtain rfl : x = ⟨1, s, 0⟩ := by simpa [tokR] using hx
    simp only [okR, Bool.and_eq_true, decide_eq_true_eq] at h
    exact .inl ⟨rfl, rfl, h.1.1, h.1.2⟩
  | .here, h, w, x, hx => by
    obtain rfl : x = ⟨4, [36], 0⟩ := by simpa [tokR] using hx
    exact good_mark 36 (by decide)
  | .un o a, h, w, x, hx => by
    rw [tokR] at hx
    refine good_par (fun y hy => ?_) x hx
    rcases List.mem_cons.1 hy with rfl | hy
    · exact good_tok1 o
    · exact good_tokR a h (rk1 o) y hy
  | .bin o a b, h, w, x, hx => by
    simp only [okR, Bool.and_eq_true] at h
    rw [tokR] at hx
    refine good_par (fun y hy => ?_) x hx
    rcases List.mem_append.1 hy with hy | hy
    · exact good_tokR a h.1 (rk2 o) y hy
    · rcases List.mem_cons.1 hy with rfl | hy
      · exact good_tok2 o
      · exact good_tokR b h.2 (rk2 o + 1) y hy
/-- the text of an expression, in a place for what binds so, or more -/
def parT (c : Bool) (s : List UInt8) : List UInt8 := if c = true then [40, 32] ++ s ++ [32, 41] else s
def textR : RE → Nat → List UInt8
  | .num n, _ => showL n
  | .nam s, _ => s
  | .here, _ => [36]
  | .un .inv a, w => parT (decide (3 < w)) ([78, 79, 84, 32] ++ textR a 3)
  | .un .neg a, w => parT (decide (6 < w)) ([45, 32] ++ textR a 6)
  | .bin o a b, w => parT (decide (rk2 o < w)) (textR a (rk2 o) ++ [32] ++ txt2 o ++ [32] ++ textR b (rk2 o + 1))
theorem showT_app : ∀ (l m : List Tok), l ≠ [] → m ≠ [] → showT (l ++ m) = showT l ++ 32 :: showT m
  | [], _, h, _ => absurd rfl h
  | [x], m, _, hm => by
    cases m with
    | nil => exact absurd rfl hm
    | cons y m => rfl
  | x :: y :: l, m, _, hm => by
    have ih := showT_app (y :: l) m (by simp) hm
    show showTok x ++ 32 :: showT ((y :: l) ++ m) = (showTok x ++ 32 :: showT (y :: l)) ++ 32 :: showT m
    rw [ih]; simp
theorem tokR_ne (r : RE) (w : Nat) : tokR r w ≠ [] := by
  cases r with
  | num n => simp [tokR]
  | nam s => simp [tokR]
  | here => simp [tokR]
  | un o a => rw [tokR]; unfold par; split <;> simp
  | bin o a b => rw [tokR]; unfold par; split <;> simp
theorem show_par (c : Bool) (l : List Tok) (h : l ≠ []) : showT (par c l) = parT c (showT l) := by
  cases c
  · rfl
  · show showT (lpT :: (l ++ [rpT])) = _
    rw [show lpT :: (l ++ [rpT]) = [lpT] ++ (l ++ [rpT]) from rfl, showT_app [lpT] (l ++ [rpT]) (by simp) (by simp), showT_app l [rpT] h (by simp)]
    simp [parT, showT, showTok, lpT, rpT]
theorem show_tok2 (o : O2) : showTok (tok2 o) = txt2 o := by cases o <;> rfl
theorem text_show : ∀ (r : RE) (w : Nat), showT (tokR r w) = textR r w
  | .num n, w => rfl
  | .nam s, w => rfl
  | .here, w => rfl
  | .un o a, w => by
    rw [tokR, show_par _ _ (by simp)]
    have e : tok1 o :: tokR a (rk1 o) = [tok1 o] ++ tokR a (rk1 o) := rfl
    rw [e, showT_app _ _ (by simp) (tokR_ne a _), text_show a (rk1 o)]
    cases o <;> rfl
  | .bin o a b, w => by
    rw [tokR, show_par _ _ (by simp)]
    have e : tok2 o :: tokR b (rk2 o + 1) = [tok2 o] ++ tokR b (rk2 o + 1) := rfl
    rw [e, showT_app _ _ (tokR_ne a _) (by simp), showT_app _ _ (by simp) (tokR_ne b _), text_show a (rk2 o), text_show b (rk2 o + 1)]
    show parT _ (textR a (rk2 o) ++ 32 :: (showTok (tok2 o) ++ 32 :: textR b (rk2 o + 1))) = _
    rw [show_tok2, textR]
    simp
/-- a right expression's text is a line of its tokens -/
theorem line_text (r : RE) (h : okR r = true) : lineT (textR r 1) = .ok (tokR r 1) := by
  rw [← text_show]; exact line_show _ (good_tokR r h 1)
/-- the text of a right expression is that of no other -/
theorem textR_inj {a b : RE} (ha : okR a = true) (hb : okR b = true) (h : textR a 1 = textR b 1) : a = b := by
  have h1 := line_text a ha
  rw [h, line_text b hb] at h1
  exact tokR_inj ha hb (Except.ok.inj h1).symm

/-! ### trees, and which are right -/
inductive Ex where
  | mk (op : List UInt8) (n : Nat) (name : List UInt8) (sub : List Ex)
def toEx : RE → Ex
  | .num n => .mk [35] n [] []
  | .nam s => .mk [110] 0 s []
  | .here => .mk [36] 0 [] []
  | .un o a => .mk (txt1 o) 0 [] [toEx a]
  | .bin o a b => .mk (txt2 o) 0 [] [toEx a, toEx b]
def op2 (s : List UInt8) : Option O2 := [O2.or, .xor, .and, .add, .sub, .mul, .div, .mod, .shl, .shr].find? fun o => decide (txt2 o = s)
def op1 (s : List UInt8) : Option O1 := [O1.inv, .neg].find? fun o => decide (txt1 o = s)
/-- how tightly an operator binds (0: none), and how many parts it has -/
def rankL (s : List UInt8) : Nat × Nat :=
  if s ∈ [[79, 82], [88, 79, 82]] then (1, 2)
  else if s ∈ [[65, 78, 68]] then (2, 2)
  else if s ∈ [[78, 79, 84]] then (3, 1)
  else if s ∈ [[43], [45]] then (4, 2)
  else if s ∈ [[42], [47], [77, 79, 68], [83, 72, 76], [83, 72, 82]] then (5, 2)
  else if s ∈ [[78, 69, 71]] then (6, 1)
  else if s ∈ [[35], [110], [36]] then (7, 0)
  else (0, 0)
mutual
def rightX : Nat → Ex → Bool
  | d, .mk op n name sub => decide (d ≤ 24) && decide ((rankL op).1 ≠ 0) && decide (sub.length = (rankL op).2) && (if op = [35] then decide (n ≤ 65535) else decide (n = 0)) &&
      (if op = [110] then nameL name && decide (upL name = name) && !wordB name else decide (name = [])) && rightS (d + 1) sub
def rightS : Nat → List Ex → Bool
  | _, [] => true
  | d, e :: l => rightX d e && rightS d l
end
theorem toEx_right : ∀ (r : RE) (d : Nat), okR r = true → d + deepR r ≤ 25 → rightX d (toEx r) = true
  | .num n, d, h, hd => by
    simp only [deepR] at hd
    simp only [okR, decide_eq_true_eq] at h
    simp [toEx, rightX, rightS, rankL, decide_eq_true (show d ≤ 24 by omega), h]
  | .nam s, d, h, hd => by
    simp only [deepR] at hd
    simp only [okR] at h
    simp only [toEx, rightX, rightS, decide_eq_true (show d ≤ 24 by omega), if_true, h, List.length_nil]
    decide
  | .here, d, h, hd => by
    simp only [deepR] at hd
    simp [toEx, rightX, rightS, rankL, decide_eq_true (show d ≤ 24 by omega)]
  | .un o a, d, h, hd => by
    simp only [deepR] at hd
    have ih := toEx_right a (d + 1) h (by omega)
    simp only [toEx, rightX, rightS, decide_eq_true (show d ≤ 24 by omega), ih, List.length_cons, List.length_nil]
    cases o <;> simp [rankL, txt1]
  | .bin o a b, d, h, hd => by
    simp only [deepR] at hd
    simp only [okR, Bool.and_eq_true] at h
    have iha := toEx_right a (d + 1) h.1 (by omega)
    have ihb := toEx_right b (d + 1) h.2 (by omega)
    simp only [toEx, rightX, rightS, decide_eq_true (show d ≤ 24 by omega), iha, ihb, List.length_cons, List.length_nil]
    cases o <;> simp [rankL, txt2]
theorem rank_cases (op : List UInt8) (h : (rankL op).1 ≠ 0) : (∃ o, op = txt2 o ∧ rankL op = (rk2 o, 2)) ∨ (∃ o, op = txt1 o ∧ rankL op = (rk1 o, 1)) ∨ ((op = [35] ∨ op = [110] ∨ op = [36]) ∧ rankL op = (7, 0)) := by
  unfold rankL at h ⊢
  by_cases h1 : op ∈ [[79, 82], [88, 79, 82]]
  · rw [if_pos h1]
    simp only [List.mem_cons, List.not_mem_nil, or_false] at h1
    rcases h1 with rfl | rfl
    · exact .inl ⟨.or, rfl, rfl⟩
    · exact .inl ⟨.xor, rfl, rfl⟩
  rw [if_neg h1] at h ⊢
  by_cases h2 : op ∈ [[65, 78, 68]]
  · rw [if_pos h2]
    simp only [List.mem_cons, List.not_mem_nil, or_false] at h2
    subst h2
    exact .inl ⟨.and, rfl, rfl⟩
  rw [if_neg h2] at h ⊢
  by_cases h3 : op ∈ [[78, 79, 84]]
  · rw [if_pos h3]
    simp only [List.mem_cons, List.not_mem_nil, or_false] at h3
    subst h3
    exact .inr (.inl ⟨.inv, rfl, rfl⟩)
  rw [if_neg h3] at h ⊢
  by_cases h4 : op ∈ [[43], [45]]
  · rw [if_pos h4]
    simp only [List.mem_cons, List.not_mem_nil, or_false] at h4
    rcases h4 with rfl | rfl
    · exact .inl ⟨.add, rfl, rfl⟩
    · exact .inl ⟨.sub, rfl, rfl⟩
  rw [if_neg h4] at h ⊢
  by_cases h5 : op ∈ [[42], [47], [77, 79, 68], [83, 72, 76], [83, 72, 82]]
  · rw [if_pos h5]
    simp only [List.mem_cons, List.not_mem_nil, or_false] at h5
    rcases h5 with rfl | rfl | rfl | rfl | rfl
    · exact .inl ⟨.mul, rfl, rfl⟩
    · exact .inl ⟨.div, rfl, rfl⟩
    · exact .inl ⟨.mod, rfl, rfl⟩
    · exact .inl ⟨.shl, rfl, rfl⟩
    · exact .inl ⟨.shr, rfl, rfl⟩
  rw [if_neg h5] at h ⊢
  by_cases h6 : op ∈ [[78, 69, 71]]
  · rw [if_pos h6]
    simp only [List.mem_cons, List.not_mem_nil, or_false] at h6
    subst h6
    exact .inr (.inl ⟨.neg, rfl, rfl⟩)
  rw [if_neg h6] at h ⊢
  by_cases h7 : op ∈ [[35], [110], [36]]
  · rw [if_pos h7]
    simp only [List.mem_cons, List.not_mem_nil, or_false] at h7
    exact .inr (.inr ⟨h7, rfl⟩)
  rw [if_neg h7] at h
  exact absurd rfl h
theorem txt2_other (o : O2) : txt2 o ≠ [35] ∧ txt2 o ≠ [110] := by cases o <;> decide
theorem txt1_other (o : O1) : txt1 o ≠ [35] ∧ txt1 o ≠ [110] := by cases o <;> decide
/-- a right tree is a right expression's -/
theorem right_toExK : ∀ (k : Nat) (e : Ex) (d : Nat), 25 - d ≤ k → rightX d e = true → ∃ r, toEx r = e ∧ okR r = true ∧ d + deepR r ≤ 25
  | 0, .mk op n name sub, d, hk, h => by
    simp only [rightX, Bool.and_eq_true, decide_eq_true_eq] at h
    omega
  | k + 1, .mk op n name sub, d, hk, h => by
    simp only [rightX, Bool.and_eq_true, decide_eq_true_eq] at h
    obtain ⟨⟨⟨⟨⟨hd, hr⟩, hs⟩, hn⟩, hm⟩, hsub⟩ := h
    rcases rank_cases op hr with ⟨o, rfl, hro⟩ | ⟨o, rfl, hro⟩ | ⟨ho, hro⟩
    · rw [hro] at hs
      obtain ⟨t1, t2⟩ := txt2_other o
      rw [if_neg t1, decide_eq_true_eq] at hn
      rw [if_neg t2, decide_eq_true_eq] at hm
      obtain ⟨x, y, rfl⟩ : ∃ x y, sub = [x, y] := by
        match sub, hs with
        | [x, y], _ => exact ⟨x, y, rfl⟩
      simp only [rightS, Bool.and_eq_true] at hsub
      obtain ⟨a, ha, oa, da⟩ := right_toExK k x (d + 1) (by omega) hsub.1
      obtain ⟨b, hb, ob, db⟩ := right_toExK k y (d + 1) (by omega) hsub.2.1
      refine ⟨.bin o a b, by rw [toEx, ha, hb, hn, hm], by simp [okR, oa, ob], ?_⟩
      simp only [deepR]; omega
    · rw [hro] at hs
      obtain ⟨t1, t2⟩ := txt1_other o
      rw [if_neg t1, decide_eq_true_eq] at hn
      rw [if_neg t2, decide_eq_true_eq] at hm
      obtain ⟨x, rfl⟩ : ∃ x, sub = [x] := by
        match sub, hs with
        | [x], _ => exact ⟨x, rfl⟩
      simp only [rightS, Bool.and_eq_true] at hsub
      obtain ⟨a, ha, oa, da⟩ := right_toExK k x (d + 1) (by omega) hsub.1
      exact ⟨.un o a, by rw [toEx, ha, hn, hm], oa, by simp only [deepR]; omega⟩
    · rw [hro] at hs
      have hs0 : sub = [] := List.eq_nil_of_length_eq_zero hs
      subst hs0
      rcases ho with rfl | rfl | rfl
      · rw [if_pos rfl, decide_eq_true_eq] at hn
        rw [if_neg (by decide), decide_eq_true_eq] at hm
        exact ⟨.num n, by rw [toEx, hm], by simp [okR, hn], by simp only [deepR]; omega⟩
      · rw [if_neg (by decide), decide_eq_true_eq] at hn
        rw [if_pos rfl] at hm
        exact ⟨.nam name, by rw [toEx, hn], hm, by simp only [deepR]; omega⟩
      · rw [if_neg (by decide), decide_eq_true_eq] at hn
        rw [if_neg (by decide), decide_eq_true_eq] at hm
        exact ⟨.here, by rw [toEx, hn, hm], rfl, by simp only [deepR]; omega⟩
theorem right_toEx (e : Ex) (d : Nat) (h : rightX d e = true) : ∃ r, toEx r = e ∧ okR r = true ∧ d + deepR r ≤ 25 := right_toExK 25 e d (by omega) h
theorem txt_inj2 {o p : O2} (h : txt2 o = txt2 p) : o = p := by revert h; cases o <;> cases p <;> decide
theorem txt_inj1 {o p : O1} (h : txt1 o = txt1 p) : o = p := by revert h; cases o <;> cases p <;> decide
theorem txt_diff (o : O2) (p : O1) : txt2 o ≠ txt1 p := by cases o <;> cases p <;> decide
theorem txt2_here (o : O2) : txt2 o ≠ [36] := by cases o <;> decide
theorem txt1_here (o : O1) : txt1 o ≠ [36] := by cases o <;> decide
theorem toEx_inj : ∀ (a b : RE), toEx a = toEx b → a = b
  | .num n, .num m, h => by simp only [toEx, Ex.mk.injEq] at h; rw [h.2.1]
  | .num n, .nam s, h => by simp only [toEx, Ex.mk.injEq] at h; exact absurd h.1 (by decide)
  | .num n, .here, h => by simp only [toEx, Ex.mk.injEq] at h; exact absurd h.1 (by decide)
  | .num n, .un o a, h => by simp only [toEx, Ex.mk.injEq] at h; exact absurd h.1.symm (txt1_other o).1
  | .num n, .bin o a b, h => by simp only [toEx, Ex.mk.injEq] at h; exact absurd h.1.symm (txt2_other o).1
  | .nam s, .num m, h => by simp only [toEx, Ex.mk.injEq] at h; exact absurd h.1 (by decide)
  | .nam s, .nam t, h => by simp only [toEx, Ex.mk.injEq] at h; rw [h.2.2.1]
  | .nam s, .here, h => by simp only [toEx, Ex.mk.injEq] at h; exact absurd h.1 (by decide)
  | .nam s, .un o a, h => by simp only [toEx, Ex.mk.injEq] at h; exact absurd h.1.symm (txt1_other o).2
  | .nam s, .bin o a b, h => by simp only [toEx, Ex.mk.injEq] at h; exact absurd h.1.symm (txt2_other o).2
  | .here, .num m, h => by simp only [toEx, Ex.mk.injEq] at h; exact absurd h.1 (by decide)
  | .here, .nam t, h => by simp only [toEx, Ex.mk.injEq] at h; exact absurd h.1 (by decide)
  | .here, .here, _ => rfl
  | .here, .un o a, h => by simp only [toEx, Ex.mk.injEq] at h; exact absurd h.1.symm (txt1_here o)
  | .here, .bin o a b, h => by simp only [toEx, Ex.mk.injEq] at h; exact absurd h.1.symm (txt2_here o)
  | .un o a, .num m, h => by simp only [toEx, Ex.mk.injEq] at h; exact absurd h.1 (txt1_other o).1
  | .un o a, .nam t, h => by simp only [toEx, Ex.mk.injEq] at h; exact absurd h.1 (txt1_other o).2
  | .un o a, .here, h => by simp only [toEx, Ex.mk.injEq] at h; exact absurd h.1 (txt1_here o)
  | .un o a, .un p b, h => by
    simp only [toEx, Ex.mk.injEq, List.cons.injEq, and_true, true_and] at h
    rw [txt_inj1 h.1, toEx_inj a b h.2]
  | .un o a, .bin p b c, h => by simp only [toEx, Ex.mk.injEq] at h; exact absurd h.1.symm (txt_diff p o)
  | .bin o a b, .num m, h => by simp only [toEx, Ex.mk.injEq] at h; exact absurd h.1 (txt2_other o).1
  | .bin o a b, .nam t, h => by simp only [toEx, Ex.mk.injEq] at h; exact absurd h.1 (txt2_other o).2
  | .bin o a b, .here, h => by simp only [toEx, Ex.mk.injEq] at h; exact absurd h.1 (txt2_here o)
  | .bin o a b, .un p c, h => by simp only [toEx, Ex.mk.injEq] at h; exact absurd h.1 (txt_diff o p)
  | .bin o a b, .bin p c d, h => by
    simp only [toEx, Ex.mk.injEq, List.cons.injEq, and_true, true_and] at h
    rw [txt_inj2 h.1, toEx_inj a c h.2.1, toEx_inj b d h.2.2]

/-! ### values -/
def two16 (o : O2) (a b : Nat) : Nat × Nat := match o with
  | .or => (a ||| b, 0)
  | .xor => (a ^^^ b, 0)
  | .and => (a &&& b, 0)
  | .add => ((a + b) % 65536, 0)
  | .sub => ((a + (65536 - b)) % 65536, 0)
  | .mul => (a * b % 65536, 0)
  | .div => if b = 0 then (0, 5) else (a / b, 0)
  | .mod => if b = 0 then (0, 5) else (a % b, 0)
  | .shl => if b < 16 then (a * 2 ^ b % 65536, 0) else (0, 0)
  | .shr => if b < 16 then (a / 2 ^ b, 0) else (0, 0)
def one16 (o : O1) (a : Nat) : Nat := match o with
  | .inv => 65535 - a
  | .neg => (65536 - a) % 65536
/-- an expression's value, or the kind of the leftmost error -/
def evalR (here : Nat) (val : List UInt8 → Nat × Nat) : RE → Nat × Nat
  | .num n => (n, 0)
  | .nam s => val s
  | .here => (here, 0)
  | .un o a => let x := evalR here val a; if x.2 = 0 then (one16 o x.1, 0) else (0, x.2)
  | .bin o a b =>
    let x := evalR here val a
    if x.2 = 0 then (let y := evalR here val b; if y.2 = 0 then two16 o x.1 y.1 else (0, y.2)) else (0, x.2)
theorem two16_le (o : O2) (a b : Nat) (ha : a ≤ 65535) (hb : b ≤ 65535) : (two16 o a b).1 ≤ 65535 := by
  have ha' : a < 2 ^ 16 := by omega
  have hb' : b < 2 ^ 16 := by omega
  cases o
  · have := Nat.or_lt_two_pow ha' hb'; show a ||| b ≤ 65535; omega
  · have := Nat.xor_lt_two_pow ha' hb'; show a ^^^ b ≤ 65535; omega
  · have := Nat.and_lt_two_pow a hb'; show a &&& b ≤ 65535; omega
  · show (a + b) % 65536 ≤ 65535; omega
  · show (a + (65536 - b)) % 65536 ≤ 65535; omega
  · show a * b % 65536 ≤ 65535; omega
  · unfold two16; simp only; split
    · simp
    · have := Nat.div_le_self a b; show a / b ≤ 65535; omega
  · unfold two16; simp only; split
    · simp
    · have := Nat.mod_le a b; show a % b ≤ 65535; omega
  · unfold two16; simp only; split
    · show a * 2 ^ b % 65536 ≤ 65535; omega
    · simp
  · unfold two16; simp only; split
    · have := Nat.div_le_self a (2 ^ b); show a / 2 ^ b ≤ 65535; omega
    · simp
theorem one16_le (o : O1) (a : Nat) : one16 o a ≤ 65535 := by
  cases o
  · show 65535 - a ≤ 65535; omega
  · show (65536 - a) % 65536 ≤ 65535; omega
/-- with a kind of error the value is 0 -/
theorem evalR_bd (here : Nat) (val : List UInt8 → Nat × Nat) (hh : here ≤ 65535) (hv : ∀ s, (val s).1 ≤ 65535) : ∀ r, okR r = true → (evalR here val r).1 ≤ 65535
  | .num n, h => by simpa [okR, evalR] using h
  | .nam s, _ => hv s
  | .here, _ => hh
  | .un o a, h => by
    unfold evalR
    simp only
    split
    · exact one16_le o _
    · simp
  | .bin o a b, h => by
    simp only [okR, Bool.and_eq_true] at h
    have ha := evalR_bd here val hh hv a h.1
    have hb := evalR_bd here val hh hv b h.2
    unfold evalR
    simp only
    split
    · split
      · exact two16_le o _ _ ha hb
      · simp
    · simp

/-! ### what the statements of sums and parts ask -/
theorem inv_inv (a : Nat) (h : a ≤ 65535) : one16 .inv (one16 .inv a) = a := by show 65535 - (65535 - a) = a; omega
theorem neg_neg (a : Nat) (h : a ≤ 65535) : one16 .neg (one16 .neg a) = a := by show (65536 - (65536 - a) % 65536) % 65536 = a; omega
theorem sub_sub (a b c : Nat) (_ha : a ≤ 65535) (hb : b ≤ 65535) (hc : c ≤ 65535) : (two16 .sub (two16 .sub a b).1 c).1 = (two16 .sub a (two16 .add b c).1).1 := by
  show (((a + (65536 - b)) % 65536) + (65536 - c)) % 65536 = (a + (65536 - (b + c) % 65536)) % 65536
  omega
theorem div_mod (a b : Nat) (hb : b ≠ 0) : (two16 .div a b).1 * b + (two16 .mod a b).1 = a ∧ (two16 .mod a b).1 < b := by
  unfold two16
  simp only [if_neg hb]
  exact ⟨by have := Nat.div_add_mod a b; rw [Nat.mul_comm] at this; exact this, Nat.mod_lt a (by omega)⟩
end Go.Proofs.YtaoeipbofhkkcaaGreatDoor
