/- Plain mathematics of a line's tokens: lists of bytes and of tokens alone; no program, no condition. -/
import Derived.Test.YtaoeipbofhkkcaaGreatDoorNumRep
namespace Go.Proofs.YtaoeipbofhkkcaaGreatDoor
open Go.Proofs.NumMath

structure Tok where
  k : Int
  s : List UInt8
  n : Nat
deriving DecidableEq
def digB (c : UInt8) : Bool := decide (48 ≤ c.toNat) && decide (c.toNat ≤ 57)
def tailB (c : UInt8) : Bool := letter c.toNat || digB c
def alnB (c : UInt8) : Bool := tailB c && decide (c ≠ 63) && decide (c ≠ 64) && decide (c ≠ 95)
def markL : List UInt8 := [44, 40, 41, 91, 93, 43, 45, 42, 47, 58, 36]
def markB (c : UInt8) : Bool := decide (c ∈ markL)
/-- how far a text goes behind its first quote, the last quote too -/
def scanQ : List UInt8 → Option Nat
  | [] => none
  | [c] => if c = 39 then some 1 else none
  | c :: d :: u => if c = 39 then (if d = 39 then (scanQ u).map (· + 2) else some 1) else (scanQ (d :: u)).map (· + 1)
/-- the token that begins with c: it, and how many more bytes it has; else what is wrong -/
def nextL (c : UInt8) (t : List UInt8) : Except Nat (Tok × Nat) :=
  if letter c.toNat = true then (if 16 < (t.takeWhile tailB).length + 1 then .error 11 else .ok (⟨1, upL (c :: t.takeWhile tailB), 0⟩, (t.takeWhile tailB).length))
  else if digB c = true then (if (parseL (c :: t.takeWhile alnB)).2 = 0 then .ok (⟨2, [], (parseL (c :: t.takeWhile alnB)).1⟩, (t.takeWhile alnB).length) else .error (parseL (c :: t.takeWhile alnB)).2)
  else if c = 39 then (match scanQ t with
    | none => .error 2
    | some m => match unqL (c :: t.take m) with
      | none => .error 2
      | some u => .ok (⟨3, u, 0⟩, m))
  else if markB c = true then .ok (⟨4, [c], 0⟩, 0)
  else .error 2
/-- a line's tokens, or what is wrong; its length does not count -/
def lineT : List UInt8 → Except Nat (List Tok)
  | [] => .ok []
  | c :: t =>
    if c = 32 ∨ c = 9 then lineT t
    else if c = 59 then .ok []
    else match nextL c t with
      | .error k => .error k
      | .ok (x, m) => match lineT (t.drop m) with
        | .error k => .error k
        | .ok l => .ok (x :: l)
termination_by l => l.length
decreasing_by all_goals simp <;> omega
def lineL (l : List UInt8) : Except Nat (List Tok) := if 200 < l.length then .error 11 else lineT l
def showTok (x : Tok) : List UInt8 := if x.k = 2 then showL x.n else if x.k = 3 then quoteL x.s else x.s
def showT : List Tok → List UInt8
  | [] => []
  | [x] => showTok x
  | x :: y :: l => showTok x ++ 32 :: showT (y :: l)

theorem lineT_nil : lineT [] = .ok [] := by rw [lineT]
theorem lineT_space (t : List UInt8) : lineT (32 :: t) = lineT t := by rw [lineT, if_pos (.inl rfl)]
theorem lineT_tab (t : List UInt8) : lineT (9 :: t) = lineT t := by rw [lineT, if_pos (.inr rfl)]
theorem lineT_end (t : List UInt8) : lineT (59 :: t) = .ok [] := by rw [lineT, if_neg (by decide), if_pos rfl]
theorem lineT_err (c : UInt8) (t : List UInt8) (k : Nat) (h : ¬ (c = 32 ∨ c = 9)) (h2 : c ≠ 59) (h3 : nextL c t = .error k) : lineT (c :: t) = .error k := by
  rw [lineT, if_neg h, if_neg h2, h3]
theorem lineT_ok (c : UInt8) (t : List UInt8) (x : Tok) (m : Nat) (h : ¬ (c = 32 ∨ c = 9)) (h2 : c ≠ 59) (h3 : nextL c t = .ok (x, m)) :
    lineT (c :: t) = match lineT (t.drop m) with | .error k => .error k | .ok l => .ok (x :: l) := by
  rw [lineT, if_neg h, if_neg h2, h3]

theorem take_while_app (p : UInt8 → Bool) (d : UInt8) (r : List UInt8) (hd : p d = false) : ∀ t : List UInt8, (t ++ d :: r).takeWhile p = t.takeWhile p
  | [] => by simp [hd]
  | c :: t => by
    rw [List.cons_append, List.takeWhile_cons, List.takeWhile_cons, take_while_app p d r hd t]
theorem scan_app (d : UInt8) (r : List UInt8) (hd : d ≠ 39) : ∀ (t : List UInt8) (m : Nat), scanQ t = some m → m ≤ t.length ∧ scanQ (t ++ d :: r) = some m
  | [], m, h => by simp [scanQ] at h
  | [c], m, h => by
    rw [scanQ] at h
    by_cases hc : c = 39
    · rw [if_pos hc] at h; cases h
      refine ⟨by simp, ?_⟩
      show scanQ (c :: d :: r) = _
      rw [scanQ, if_pos hc, if_neg hd]
    · rw [if_neg hc] at h; cases h
  | c :: e :: u, m, h => by
    rw [scanQ] at h
    show _ ∧ scanQ (c :: e :: (u ++ d :: r)) = _
    rw [scanQ]
    by_cases hc : c = 39
    · rw [if_pos hc] at h ⊢
      by_cases he : e = 39
      · rw [if_pos he] at h ⊢
        cases hq : scanQ u with
        | none => rw [hq] at h; cases h
        | some q =>
          rw [hq] at h; cases h
          obtain ⟨h1, h2⟩ := scan_app d r hd u q hq
          exact ⟨by simp; omega, by rw [h2]; rfl⟩
      · rw [if_neg he] at h ⊢; cases h; exact ⟨by simp, rfl⟩
    · rw [if_neg hc] at h ⊢
      cases hq : scanQ (e :: u) with
      | none => rw [hq] at h; cases h
      | some q =>
        rw [hq] at h; cases h
        obtain ⟨h1, h2⟩ := scan_app d r hd (e :: u) q hq
        have h2 : scanQ (e :: (u ++ d :: r)) = some q := h2
        exact ⟨by simp at h1 ⊢; omega, by rw [h2]; rfl⟩
theorem tail_of_aln {c : UInt8} (h : tailB c = false) : alnB c = false := by unfold alnB; rw [h]; rfl
/-- What a byte that ends each token leaves of the token ahead of it. -/
theorem next_app (d : UInt8) (r : List UInt8) (h1 : tailB d = false) (h2 : d ≠ 39) (c : UInt8) (t : List UInt8) (x : Tok) (m : Nat) (h : nextL c t = .ok (x, m)) :
    m ≤ t.length ∧ nextL c (t ++ d :: r) = .ok (x, m) := by
  have hle : ∀ p : UInt8 → Bool, (t.takeWhile p).length ≤ t.length := fun p => (List.takeWhile_sublist p).length_le
  unfold nextL at h ⊢
  rw [take_while_app tailB d r h1, take_while_app alnB d r (tail_of_aln h1)]
  by_cases hl : letter c.toNat = true
  · rw [if_pos hl] at h ⊢
    by_cases h16 : 16 < (t.takeWhile tailB).length + 1
    · rw [if_pos h16] at h; cases h
    · rw [if_neg h16] at h ⊢
      cases h
      exact ⟨hle _, rfl⟩
  rw [if_neg hl] at h ⊢
  by_cases hg : digB c = true
  · rw [if_pos hg] at h ⊢
    by_cases hp : (parseL (c :: t.takeWhile alnB)).2 = 0
    · rw [if_pos hp] at h ⊢; cases h; exact ⟨hle _, rfl⟩
    · rw [if_neg hp] at h; cases h
  rw [if_neg hg] at h ⊢
  by_cases hq : c = 39
  · rw [if_pos hq] at h ⊢
    cases hs : scanQ t with
    | none => rw [hs] at h; cases h
    | some q =>
      rw [hs] at h
      obtain ⟨h3, h4⟩ := scan_app d r h2 t q hs
      rw [h4]
      have h5 : (t ++ d :: r).take q = t.take q := List.take_append_of_le_length h3
      simp only [h5]
      simp only at h
      cases hu : unqL (c :: t.take q) with
      | none => rw [hu] at h; cases h
      | some u => rw [hu] at h; cases h; exact ⟨h3, rfl⟩
  rw [if_neg hq] at h ⊢
  by_cases hm : markB c = true
  · rw [if_pos hm] at h ⊢; cases h; exact ⟨by omega, rfl⟩
  · rw [if_neg hm] at h; cases h
theorem drop_app (d : UInt8) (r t : List UInt8) (m : Nat) (h : m ≤ t.length) : (t ++ d :: r).drop m = t.drop m ++ d :: r := List.drop_append_of_le_length h

/-- A comment behind changes nothing. -/
theorem line_note (r : List UInt8) : ∀ (N : Nat) (a : List UInt8) (l : List Tok), a.length ≤ N → lineT a = .ok l → lineT (a ++ 59 :: r) = .ok l
  | _, [], l, _, h => by rw [lineT_nil] at h; cases h; exact lineT_end r
  | 0, c :: t, l, hN, _ => by simp at hN
  | N + 1, c :: t, l, hN, h => by
    have hN : t.length ≤ N := by simpa using hN
    rw [List.cons_append]
    by_cases h1 : c = 32 ∨ c = 9
    · rw [lineT, if_pos h1] at h ⊢; exact line_note r N t l hN h
    by_cases h2 : c = 59
    · rw [lineT, if_neg h1, if_pos h2] at h ⊢; exact h
    cases hx : nextL c t with
    | error k => rw [lineT_err c t k h1 h2 hx] at h; cases h
    | ok v =>
      obtain ⟨x, m⟩ := v
      obtain ⟨h3, h4⟩ := next_app 59 r (by decide) (by decide) c t x m hx
      rw [lineT_ok c t x m h1 h2 hx] at h
      rw [lineT_ok c _ x m h1 h2 h4, drop_app _ _ _ _ h3]
      cases hr : lineT (t.drop m) with
      | error k => rw [hr] at h; cases h
      | ok l' =>
        rw [hr] at h; cases h
        rw [line_note r N (t.drop m) l' (by simp; omega) hr]
/-- Two lines with a space between are the tokens of both. -/
theorem line_both (r : List UInt8) (m : List Tok) (hr : lineT r = .ok m) : ∀ (N : Nat) (a : List UInt8) (l : List Tok), a.length ≤ N → 59 ∉ a → lineT a = .ok l → lineT (a ++ 32 :: r) = .ok (l ++ m)
  | _, [], l, _, _, h => by rw [lineT_nil] at h; cases h; exact (lineT_space r).trans hr
  | 0, c :: t, l, hN, _, _ => by simp at hN
  | N + 1, c :: t, l, hN, hs, h => by
    have hN : t.length ≤ N := by simpa using hN
    have hst : 59 ∉ t := fun h => hs (List.mem_cons_of_mem _ h)
    rw [List.cons_append]
    by_cases h1 : c = 32 ∨ c = 9
    · rw [lineT, if_pos h1] at h ⊢; exact line_both r m hr N t l hN hst h
    have h2 : c ≠ 59 := fun e => hs (by rw [e]; exact List.mem_cons_self)
    cases hx : nextL c t with
    | error k => rw [lineT_err c t k h1 h2 hx] at h; cases h
    | ok v =>
      obtain ⟨x, q⟩ := v
      obtain ⟨h3, h4⟩ := next_app 32 r (by decide) (by decide) c t x q hx
      rw [lineT_ok c t x q h1 h2 hx] at h
      rw [lineT_ok c _ x q h1 h2 h4, drop_app _ _ _ _ h3]
      cases hq : lineT (t.drop q) with
      | error k => rw [hq] at h; cases h
      | ok l' =>
        rw [hq] at h; cases h
        rw [line_both r m hr N (t.drop q) l' (by simp; omega) (fun h => hst (List.mem_of_mem_drop h)) hq]
        rfl
theorem line_spaces (a b note : List UInt8) (l m : List Tok) (ha : lineT a = .ok l) (hs : 59 ∉ a) (hb : lineT b = .ok m) :
    lineT (32 :: 9 :: (a ++ 32 :: (b ++ 59 :: note))) = .ok (l ++ m) := by
  rw [lineT_space, lineT_tab]
  exact line_both _ m (line_note note _ b m (Nat.le_refl _) hb) _ a l (Nat.le_refl _) hs ha
theorem line_length : ∀ (N : Nat) (a : List UInt8) (l : List Tok), a.length ≤ N → lineT a = .ok l → l.length ≤ a.length
  | _, [], l, _, h => by rw [lineT_nil] at h; cases h; exact Nat.le_refl _
  | 0, c :: t, l, hN, _ => by simp at hN
  | N + 1, c :: t, l, hN, h => by
    have hN : t.length ≤ N := by simpa using hN
    by_cases h1 : c = 32 ∨ c = 9
    · rw [lineT, if_pos h1] at h; have := line_length N t l hN h; simp; omega
    by_cases h2 : c = 59
    · rw [lineT, if_neg h1, if_pos h2] at h; cases h; simp
    cases hx : nextL c t with
    | error k => rw [lineT_err c t k h1 h2 hx] at h; cases h
    | ok v =>
      obtain ⟨x, q⟩ := v
      rw [lineT_ok c t x q h1 h2 hx] at h
      cases hq : lineT (t.drop q) with
      | error k => rw [hq] at h; cases h
      | ok l' =>
        rw [hq] at h; cases h
        have := line_length N (t.drop q) l' (by simp; omega) hq
        simp at this ⊢; omega
end Go.Proofs.YtaoeipbofhkkcaaGreatDoor
