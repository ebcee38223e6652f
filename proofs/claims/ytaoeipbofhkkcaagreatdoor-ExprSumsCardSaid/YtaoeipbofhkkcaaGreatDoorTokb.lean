/- Plain mathematics of tokens shown and cut: lists of bytes and of tokens alone; no program, no condition. -/
import Derived.Test.YtaoeipbofhkkcaaGreatDoorTok
namespace Go.Proofs.YtaoeipbofhkkcaaGreatDoor
open Go.Proofs.NumMath

/-- the tokens that a line can have -/
def Good (x : Tok) : Prop :=
  (x.k = 1 ∧ x.n = 0 ∧ nameL x.s = true ∧ upL x.s = x.s) ∨ (x.k = 2 ∧ x.s = [] ∧ x.n ≤ 65535) ∨ (x.k = 3 ∧ x.n = 0 ∧ prt x.s = true) ∨ (x.k = 4 ∧ x.n = 0 ∧ ∃ c, x.s = [c] ∧ markB c = true)
theorem unqIn_prt : ∀ (N : Nat) (l u : List UInt8), l.length ≤ N → unqIn l = some u → prt u = true
  | _, [], u, _, h => by rw [unqIn] at h; cases h; rfl
  | _, [c], u, _, h => by
    rw [unqIn] at h
    by_cases hc : c = 39 ∨ ok c = false
    · rw [if_pos hc] at h; cases h
    · rw [if_neg hc] at h; cases h
      rw [prt_cons]
      have : ok c = true := by cases ho : ok c <;> simp_all
      rw [this]; rfl
  | 0, c :: d :: l, u, hN, _ => by simp at hN
  | N + 1, c :: d :: l, u, hN, h => by
    rw [unqIn] at h
    by_cases ho : ok c = false
    · rw [if_pos ho] at h; cases h
    rw [if_neg ho] at h
    by_cases hc : c = 39
    · rw [if_pos hc] at h
      by_cases hd : d = 39
      · rw [if_pos hd] at h
        cases hu : unqIn l with
        | none => rw [hu] at h; cases h
        | some v =>
          rw [hu] at h; cases h
          rw [prt_cons, ok39, unqIn_prt N l v (by simp at hN; omega) hu]; rfl
      · rw [if_neg hd] at h; cases h
    · rw [if_neg hc] at h
      cases hu : unqIn (d :: l) with
      | none => rw [hu] at h; cases h
      | some v =>
        rw [hu] at h; cases h
        rw [prt_cons, unqIn_prt N (d :: l) v (by simp at hN ⊢; omega) hu]
        cases ho' : ok c
        · exact absurd ho' ho
        · rfl
theorem unqL_prt (l u : List UInt8) (h : unqL l = some u) : prt u = true := by
  unfold unqL at h
  split at h
  · exact unqIn_prt _ _ _ (Nat.le_refl _) h
  · cases h
theorem letter_up (c : UInt8) : letter (up c).toNat = letter c.toNat := by
  rw [up_toNat]; unfold upN; split
  · rename_i h
    unfold letter
    have h1 : (decide (97 ≤ c.toNat) && decide (c.toNat ≤ 122)) = true := by simp; omega
    have h2 : (decide (65 ≤ c.toNat - 32) && decide (c.toNat - 32 ≤ 90)) = true := by simp; omega
    rw [h1, h2]; simp
  · rfl
theorem dig_dg (c : UInt8) : digB c = decide (dg c.toNat < 10) := by
  unfold digB dg
  rw [Bool.eq_iff_iff]
  simp only [Bool.and_eq_true, decide_eq_true_eq]
  repeat' split
  all_goals omega
theorem tail_up (c : UInt8) : tailB (up c) = tailB c := by
  unfold tailB; rw [letter_up, dig_dg, dig_dg, up_toNat, dg_up]
theorem tailOk_eq (l : List UInt8) : tailOk l = l.all tailB := by
  unfold tailOk; congr 1; funext c; unfold tailB; rw [dig_dg]
theorem name_cons (c : UInt8) (t : List UInt8) : nameL (c :: t) = (decide (t.length + 1 ≤ 16) && letter c.toNat && t.all tailB) := by
  unfold nameL; rw [tailOk_eq]; simp [headN]
theorem all_take_while (p : UInt8 → Bool) : ∀ t : List UInt8, (t.takeWhile p).all p = true
  | [] => rfl
  | c :: t => by
    rw [List.takeWhile_cons]
    cases h : p c
    · rfl
    · simp [h, all_take_while p t]
theorem take_while_all (p : UInt8 → Bool) (r : List UInt8) (hd : ∀ d ∈ r.head?, p d = false) : ∀ t : List UInt8, t.all p = true → (t ++ r).takeWhile p = t
  | [], _ => by
    cases r with
    | nil => rfl
    | cons d r => have := hd d rfl; simp [this]
  | c :: t, h => by
    simp only [List.all_cons, Bool.and_eq_true] at h
    rw [List.cons_append, List.takeWhile_cons, h.1, if_pos rfl, take_while_all p r hd t h.2]
theorem next_good (c : UInt8) (t : List UInt8) (x : Tok) (m : Nat) (h : nextL c t = .ok (x, m)) : Good x := by
  unfold nextL at h
  by_cases hl : letter c.toNat = true
  · rw [if_pos hl] at h
    by_cases h16 : 16 < (t.takeWhile tailB).length + 1
    · rw [if_pos h16] at h; cases h
    · rw [if_neg h16] at h; cases h
      refine .inl ⟨rfl, rfl, ?_, upL_upL _⟩
      show nameL (up c :: (t.takeWhile tailB).map up) = true
      rw [name_cons, letter_up, hl, List.all_map]
      have : (tailB ∘ up) = tailB := by funext z; exact tail_up z
      rw [this, all_take_while]
      simp; omega
  rw [if_neg hl] at h
  by_cases hg : digB c = true
  · rw [if_pos hg] at h
    by_cases hp : (parseL (c :: t.takeWhile alnB)).2 = 0
    · rw [if_pos hp] at h; cases h; exact .inr (.inl ⟨rfl, rfl, (parseL_bd _).1⟩)
    · rw [if_neg hp] at h; cases h
  rw [if_neg hg] at h
  by_cases hq : c = 39
  · rw [if_pos hq] at h
    cases hs : scanQ t with
    | none => rw [hs] at h; cases h
    | some q =>
      rw [hs] at h
      simp only at h
      cases hu : unqL (c :: t.take q) with
      | none => rw [hu] at h; cases h
      | some u => rw [hu] at h; cases h; exact .inr (.inr (.inl ⟨rfl, rfl, unqL_prt _ _ hu⟩))
  rw [if_neg hq] at h
  by_cases hm : markB c = true
  · rw [if_pos hm] at h; cases h; exact .inr (.inr (.inr ⟨rfl, rfl, c, rfl, hm⟩))
  · rw [if_neg hm] at h; cases h
theorem line_good : ∀ (N : Nat) (a : List UInt8) (l : List Tok), a.length ≤ N → lineT a = .ok l → ∀ x ∈ l, Good x
  | _, [], l, _, h => by rw [lineT_nil] at h; cases h; simp
  | 0, c :: t, l, hN, _ => by simp at hN
  | N + 1, c :: t, l, hN, h => by
    have hN : t.length ≤ N := by simpa using hN
    by_cases h1 : c = 32 ∨ c = 9
    · rw [lineT, if_pos h1] at h; exact line_good N t l hN h
    by_cases h2 : c = 59
    · rw [lineT, if_neg h1, if_pos h2] at h; cases h; simp
    cases hx : nextL c t with
    | error k => rw [lineT_err c t k h1 h2 hx] at h; cases h
    | ok v =>
      obtain ⟨x, q⟩ := v
      rw [lineT_ok c t x q h1 h2 hx] at h
      cases hq : lineT (t.drop q) with
      | error k => rw [hq] at h; cases h
      | ok l' =>
        rw [hq] at h; cases h
        intro y hy
        rcases List.mem_cons.1 hy with rfl | hy
        · exact next_good c t _ q hx
        · exact line_good N (t.drop q) l' (by simp; omega) hq y hy

theorem ch_aln (d : Nat) (h : d < 16) : alnB (ch true d) = true ∧ (d < 10 → digB (ch true d) = true) := by
  have hall : ∀ d ∈ List.range 16, alnB (ch true d) = true ∧ (d < 10 → digB (ch true d) = true) := by decide
  exact hall d (List.mem_range.2 h)
theorem digits_aln : ∀ (k n : Nat), n ≤ k → (digits true 16 n).all alnB = true
  | k, n, hk => by
    by_cases h : n < 16
    · rw [digits_lt true 16 n h]; simp [(ch_aln n h).1]
    · rw [digits_ge true 16 n (by omega) (by omega), List.all_append]
      match k with
      | 0 => omega
      | k + 1 =>
        rw [digits_aln k (n / 16) (by omega)]
        simp [(ch_aln (n % 16) (by omega)).1]
theorem dig_of_head (c : UInt8) (h : dg c.toNat < 10) : digB c = true := by rw [dig_dg]; simpa using h
theorem show_dig (n : Nat) (hn : n ≤ 65535) : ∃ c t, showL n = c :: t ∧ digB c = true ∧ t.all alnB = true := by
  unfold showL
  by_cases h : n < 10
  · rw [if_pos h]; exact ⟨_, [], rfl, (ch_aln n (by omega)).2 h, rfl⟩
  rw [if_neg h]
  have ha : (hexL n).all alnB = true := by unfold hexL; rw [List.all_append, digits_aln n n (Nat.le_refl _)]; decide
  by_cases hh : 10 ≤ dg (headN (digits true 16 n))
  · rw [if_pos hh]; exact ⟨48, hexL n, rfl, by decide, ha⟩
  · rw [if_neg hh]
    cases hd : digits true 16 n with
    | nil => exact absurd hd (digits_ne _ _ _)
    | cons c t =>
      rw [hd] at hh
      have he : hexL n = c :: (t ++ [72]) := by unfold hexL; rw [hd]; rfl
      rw [he] at ha ⊢
      simp only [List.all_cons, Bool.and_eq_true] at ha
      exact ⟨c, _, rfl, dig_of_head c (by simpa [headN] using hh), ha.2⟩
theorem dig_not_letter (c : UInt8) (h : digB c = true) : letter c.toNat = false := by
  unfold digB at h
  simp only [Bool.and_eq_true, decide_eq_true_eq] at h
  unfold letter
  simp; omega
theorem scan_quo (r : List UInt8) (hd : ∀ d ∈ r.head?, d ≠ 39) : ∀ l : List UInt8, scanQ (quoL l ++ 39 :: r) = some ((quoL l).length + 1)
  | [] => by
    show scanQ (39 :: r) = _
    cases r with
    | nil => rfl
    | cons d r => rw [scanQ, if_pos rfl, if_neg (hd d rfl)]; rfl
  | c :: l => by
    have e : quoL (c :: l) = quoB c ++ quoL l := by simp [quoL]
    have ih := scan_quo r hd l
    rw [e]
    by_cases h : c = 39
    · subst h
      show scanQ (39 :: 39 :: (quoL l ++ 39 :: r)) = some ((quoL l).length + 1 + 1 + 1)
      rw [scanQ, if_pos rfl, if_pos rfl, ih]; rfl
    · rw [show quoB c = [c] by simp [quoB, h]]
      show scanQ (c :: (quoL l ++ 39 :: r)) = some ((quoL l).length + 1 + 1)
      cases hq : quoL l ++ 39 :: r with
      | nil => simp at hq
      | cons z u =>
        rw [scanQ, if_neg h, ← hq, ih]; rfl
/-- What was shown is read as the same token. -/
theorem next_show (x : Tok) (hx : Good x) (r : List UInt8) (hr : ∀ d ∈ r.head?, d = 32) : ∃ c t, showTok x = c :: t ∧ ¬ (c = 32 ∨ c = 9) ∧ c ≠ 59 ∧ nextL c (t ++ r) = .ok (x, t.length) := by
  obtain ⟨k, s, n⟩ := x
  rcases hx with ⟨h1, h2, h3, h4⟩ | ⟨h1, h2, h3⟩ | ⟨h1, h2, h3⟩ | ⟨h1, h2, c, h3, h4⟩
  · simp only at h1 h2 h3 h4
    subst h1; subst h2
    cases s with
    | nil => cases h3
    | cons c t =>
      rw [name_cons] at h3
      simp only [Bool.and_eq_true, decide_eq_true_eq] at h3
      obtain ⟨⟨h16, hl⟩, ht⟩ := h3
      have hne : ∀ z : UInt8, letter z.toNat = false → c ≠ z := fun z hz e => by rw [e, hz] at hl; cases hl
      refine ⟨c, t, rfl, fun h => h.elim (hne 32 (by decide)) (hne 9 (by decide)), hne 59 (by decide), ?_⟩
      unfold nextL
      rw [if_pos hl, take_while_all tailB r (fun d h => by rw [hr d h]; decide) t ht, if_neg (by omega), h4]
  · simp only at h1 h2 h3
    subst h1; subst h2
    obtain ⟨c, t, e, hd, ht⟩ := show_dig n h3
    have hne : ∀ z : UInt8, digB z = false → c ≠ z := fun z hz e => by rw [e, hz] at hd; cases hd
    refine ⟨c, t, e, fun h => h.elim (hne 32 (by decide)) (hne 9 (by decide)), hne 59 (by decide), ?_⟩
    unfold nextL
    rw [dig_not_letter c hd, if_neg (by simp), if_pos hd, take_while_all alnB r (fun d h => by rw [hr d h]; decide) t ht, ← e, parse_show n h3, if_pos rfl]
  · simp only at h1 h2 h3
    subst h1; subst h2
    refine ⟨39, quoL s ++ [39], rfl, by decide, by decide, ?_⟩
    unfold nextL
    rw [if_neg (by decide), if_neg (by decide), if_pos rfl]
    have e : (quoL s ++ [39]) ++ r = quoL s ++ 39 :: r := by simp
    rw [e, scan_quo r (fun d h => by rw [hr d h]; decide) s]
    have e2 : (39 : UInt8) :: (quoL s ++ 39 :: r).take ((quoL s).length + 1) = quoteL s := by
      rw [← e, List.take_append_of_le_length (by simp), List.take_of_length_le (by simp)]; rfl
    simp only [e2]
    rw [unqL_quote, if_pos h3]
    simp
  · simp only at h1 h2 h3
    subst h1; subst h2; subst h3
    have hm : c ∈ markL := by simpa [markB] using h4
    have hall : ∀ c ∈ markL, letter c.toNat = false ∧ digB c = false ∧ c ≠ 39 ∧ ¬ (c = 32 ∨ c = 9) ∧ c ≠ 59 := by decide
    obtain ⟨a1, a2, a3, a4, a5⟩ := hall c hm
    refine ⟨c, [], rfl, a4, a5, ?_⟩
    unfold nextL
    rw [a1, a2, if_neg (by simp), if_neg (by simp), if_neg a3, if_pos h4]; rfl
/-- What was shown is read as the same tokens. -/
theorem line_show : ∀ l : List Tok, (∀ x ∈ l, Good x) → lineT (showT l) = .ok l
  | [], _ => lineT_nil
  | [x], h => by
    obtain ⟨c, t, e, h1, h2, h3⟩ := next_show x (h x (by simp)) [] (by simp)
    rw [showT, e]
    rw [List.append_nil] at h3
    rw [lineT_ok c t x _ h1 h2 h3, List.drop_length, lineT_nil]
  | x :: y :: l, h => by
    obtain ⟨c, t, e, h1, h2, h3⟩ := next_show x (h x (by simp)) (32 :: showT (y :: l)) (by simp)
    rw [showT, e, List.cons_append, lineT_ok c _ x _ h1 h2 h3, List.drop_left, lineT_space, line_show (y :: l) (fun z hz => h z (by simp [hz]))]
theorem line_back (a : List UInt8) (l : List Tok) (h : lineT a = .ok l) : lineT (showT l) = .ok l := line_show l (line_good _ a l (Nat.le_refl _) h)

/-- is it the mark m? -/
def isM (m : List UInt8) (x : Tok) : Bool := decide (x.k = 4) && decide (x.s = m)
def opens (x : Tok) : Bool := isM [40] x || isM [91] x
def closes (x : Tok) : Bool := isM [41] x || isM [93] x
/-- the depth at a token, and behind it -/
def dAt (d : Nat) (x : Tok) : Nat := if closes x = true then d - 1 else d
def dOn (d : Nat) (x : Tok) : Nat := if opens x = true then dAt d x + 1 else dAt d x
def glue (a : List Tok) : List (List Tok) → List (List Tok)
  | [] => [a]
  | h :: t => (a ++ h) :: t
def cutG (m : List UInt8) : Nat → List Tok → List (List Tok)
  | _, [] => [[]]
  | d, x :: l => if isM m x = true ∧ dAt d x = 0 then [] :: cutG m (dOn d x) l else glue [x] (cutG m (dOn d x) l)
def cutL (m : List UInt8) (l : List Tok) : List (List Tok) := if l = [] then [] else cutG m 0 l
theorem glue_ne (a : List Tok) (p : List (List Tok)) : glue a p ≠ [] := by cases p <;> simp [glue]
theorem glue_glue (a b : List Tok) (p : List (List Tok)) : glue a (glue b p) = glue (a ++ b) p := by cases p <;> simp [glue]
theorem cutG_ne (m : List UInt8) (d : Nat) (l : List Tok) : cutG m d l ≠ [] := by
  cases l with
  | nil => simp [cutG]
  | cons x l => unfold cutG; split
                · simp
                · exact glue_ne _ _
theorem cutG_mark (m : List UInt8) (d : Nat) (x : Tok) (l : List Tok) (h : isM m x = true ∧ dAt d x = 0) : cutG m d (x :: l) = [] :: cutG m (dOn d x) l := by rw [cutG, if_pos h]
theorem cutG_more (m : List UInt8) (d : Nat) (x : Tok) (l : List Tok) (h : ¬ (isM m x = true ∧ dAt d x = 0)) : cutG m d (x :: l) = glue [x] (cutG m (dOn d x) l) := by rw [cutG, if_neg h]
/-- the parts, with a mark between each two -/
def joinM (y : Tok) : List (List Tok) → List Tok
  | [] => []
  | [p] => p
  | p :: q :: r => p ++ y :: joinM y (q :: r)
theorem joinM_glue (y : Tok) (a : List Tok) (p : List (List Tok)) (h : p ≠ []) : joinM y (glue a p) = a ++ joinM y p := by
  match p, h with
  | [p], _ => rfl
  | p :: q :: r, _ => simp [glue, joinM]
theorem joinM_nil (y : Tok) (p : List (List Tok)) (h : p ≠ []) : joinM y ([] :: p) = y :: joinM y p := by
  match p, h with
  | p :: r, _ => rfl
theorem join_cut (m : List UInt8) : ∀ (l : List Tok) (d : Nat), (∀ x ∈ l, isM m x = true → x.n = 0) → joinM ⟨4, m, 0⟩ (cutG m d l) = l
  | [], d, _ => rfl
  | x :: l, d, h => by
    have ih := join_cut m l (dOn d x) (fun y hy => h y (by simp [hy]))
    by_cases hm : isM m x = true ∧ dAt d x = 0
    · rw [cutG_mark m d x l hm, joinM_nil _ _ (cutG_ne _ _ _), ih]
      have h0 := h x (by simp) hm.1
      have h1 := hm.1
      unfold isM at h1
      simp only [Bool.and_eq_true, decide_eq_true_eq] at h1
      obtain ⟨k, s, n⟩ := x
      simp only at h0 h1
      rw [h0, h1.1, h1.2]
    · rw [cutG_more m d x l hm, joinM_glue _ _ _ (cutG_ne _ _ _), ih]; rfl
/-- No part has the mark out of parentheses: a part is cut in one. -/
theorem cut_one (m : List UInt8) (hm : opens ⟨4, m, 0⟩ = false) : ∀ (l : List Tok) (d : Nat), (∃ h t, cutG m d l = h :: t ∧ cutG m d h = [h] ∧ ∀ p ∈ t, cutG m 0 p = [p])
  | [], d => ⟨[], [], rfl, rfl, by simp⟩
  | x :: l, d => by
    obtain ⟨h, t, e, h1, h2⟩ := cut_one m hm l (dOn d x)
    by_cases hx : isM m x = true ∧ dAt d x = 0
    · have ho : opens x = false := by
        have h3 := hx.1
        unfold isM at h3
        simp only [Bool.and_eq_true, decide_eq_true_eq] at h3
        unfold opens isM at hm ⊢
        rw [h3.1, h3.2]; exact hm
      have hd : dOn d x = 0 := by unfold dOn; rw [ho, if_neg (by simp)]; exact hx.2
      rw [hd] at e h1
      refine ⟨[], cutG m (dOn d x) l, cutG_mark m d x l hx, rfl, ?_⟩
      rw [hd, e]
      intro p hp
      rcases List.mem_cons.1 hp with rfl | hp
      · exact h1
      · exact h2 p hp
    · refine ⟨x :: h, t, by rw [cutG_more m d x l hx, e]; rfl, ?_, h2⟩
      rw [cutG_more m d x h hx, h1]; rfl
theorem cut_parts (m : List UInt8) (hm : opens ⟨4, m, 0⟩ = false) (l : List Tok) : ∀ p ∈ cutL m l, p ≠ [] → (cutL m p).length = 1 := by
  intro p hp hne
  unfold cutL at hp ⊢
  rw [if_neg hne]
  by_cases hl : l = []
  · rw [if_pos hl] at hp; simp at hp
  rw [if_neg hl] at hp
  obtain ⟨h, t, e, h1, h2⟩ := cut_one m hm l 0
  rw [e] at hp
  rcases List.mem_cons.1 hp with rfl | hp
  · rw [h1]; rfl
  · rw [h2 p hp]; rfl
end Go.Proofs.YtaoeipbofhkkcaaGreatDoor
