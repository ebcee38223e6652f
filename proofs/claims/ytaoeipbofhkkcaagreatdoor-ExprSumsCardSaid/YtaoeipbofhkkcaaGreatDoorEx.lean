/- Plain mathematics of expressions, as they are shown and read: lists of tokens and trees alone; no program, no condition. -/
import Derived.Test.YtaoeipbofhkkcaaGreatDoorTokb
namespace Go.Proofs.YtaoeipbofhkkcaaGreatDoor
open Go.Proofs.NumMath

inductive O1 where
  | inv | neg
deriving DecidableEq
inductive O2 where
  | or | xor | and | add | sub | mul | div | mod | shl | shr
deriving DecidableEq
/-- right expressions -/
inductive RE where
  | num (n : Nat)
  | nam (s : List UInt8)
  | here
  | un (o : O1) (a : RE)
  | bin (o : O2) (a b : RE)
def txt1 : O1 → List UInt8
  | .inv => [78, 79, 84]
  | .neg => [78, 69, 71]
def txt2 : O2 → List UInt8
  | .or => [79, 82]
  | .xor => [88, 79, 82]
  | .and => [65, 78, 68]
  | .add => [43]
  | .sub => [45]
  | .mul => [42]
  | .div => [47]
  | .mod => [77, 79, 68]
  | .shl => [83, 72, 76]
  | .shr => [83, 72, 82]
def rk1 : O1 → Nat
  | .inv => 3
  | .neg => 6
def rk2 : O2 → Nat
  | .or => 1
  | .xor => 1
  | .and => 2
  | .add => 4
  | .sub => 4
  | .mul => 5
  | .div => 5
  | .mod => 5
  | .shl => 5
  | .shr => 5
def rkR : RE → Nat
  | .un o _ => rk1 o
  | .bin o _ _ => rk2 o
  | _ => 7
/-- the token of an operator: a word is a name, else a mark -/
def tok2 (o : O2) : Tok := if 2 ≤ (txt2 o).length then ⟨1, txt2 o, 0⟩ else ⟨4, txt2 o, 0⟩
def tok1 : O1 → Tok
  | .inv => ⟨1, [78, 79, 84], 0⟩
  | .neg => ⟨4, [45], 0⟩
def lpT : Tok := ⟨4, [40], 0⟩
def rpT : Tok := ⟨4, [41], 0⟩
def par (c : Bool) (l : List Tok) : List Tok := if c = true then lpT :: (l ++ [rpT]) else l
/-- the tokens of an expression, in a place for what binds so, or more -/
def tokR : RE → Nat → List Tok
  | .num n, _ => [⟨2, [], n⟩]
  | .nam s, _ => [⟨1, s, 0⟩]
  | .here, _ => [⟨4, [36], 0⟩]
  | .un o a, w => par (decide (rk1 o < w)) (tok1 o :: tokR a (rk1 o))
  | .bin o a b, w => par (decide (rk2 o < w)) (tokR a (rk2 o) ++ tok2 o :: tokR b (rk2 o + 1))
def wordB (s : List UInt8) : Bool := decide (s ∈ [[79, 82], [88, 79, 82], [65, 78, 68], [78, 79, 84], [77, 79, 68], [83, 72, 76], [83, 72, 82]])
/-- numbers and names as they may be -/
def okR : RE → Bool
  | .num n => decide (n ≤ 65535)
  | .nam s => nameL s && decide (upL s = s) && !wordB s
  | .here => true
  | .un _ a => okR a
  | .bin _ a b => okR a && okR b
def deepR : RE → Nat
  | .un _ a => deepR a + 1
  | .bin _ a b => max (deepR a) (deepR b) + 1
  | _ => 1

/-! ### reading -/
def opOf (n : Nat) (t : Tok) : Option O2 := [O2.or, .xor, .and, .add, .sub, .mul, .div, .mod, .shl, .shr].find? fun o => decide (tok2 o = t) && decide (rk2 o = n)
def isOp (n : Nat) (t : Tok) : Bool := (opOf n t).isSome
def atomE (t : Tok) : Option RE :=
  if t.k = 2 then some (.num t.n)
  else if t.k = 1 then (if wordB t.s = true then none else some (.nam t.s))
  else if t.k = 4 ∧ t.s = [36] then some .here
  else none
mutual
def lev : Nat → Nat → List Tok → Option (RE × List Tok)
  | 0, _, _ => none
  | f + 1, n, l =>
    match l with
    | [] => none
    | t :: u =>
      if n = 3 then (if t = tok1 .inv then (lev f 3 u).map (fun x => (.un .inv x.1, x.2)) else lev f 4 (t :: u))
      else if n = 6 then (if t = tok1 .neg then (lev f 6 u).map (fun x => (.un .neg x.1, x.2)) else lev f 7 (t :: u))
      else if n = 7 then
        (if t = lpT then (match lev f 1 u with
          | some (e, r :: v) => if r = rpT then some (e, v) else none
          | _ => none)
        else (atomE t).map (fun e => (e, u)))
      else match lev f (n + 1) (t :: u) with
        | none => none
        | some (e, r) => loopE f n e r
def loopE : Nat → Nat → RE → List Tok → Option (RE × List Tok)
  | 0, _, _, _ => none
  | f + 1, n, e, l =>
    match l with
    | [] => some (e, [])
    | t :: u => match opOf n t with
      | none => some (e, t :: u)
      | some o => match lev f (n + 1) u with
        | none => none
        | some (b, r) => loopE f n (.bin o e b) r
end
theorem lev_more : ∀ f : Nat, (∀ n l x, lev f n l = some x → lev (f + 1) n l = some x) ∧ (∀ n e l x, loopE f n e l = some x → loopE (f + 1) n e l = some x)
  | 0 => ⟨fun n l x h => by simp [lev] at h, fun n e l x h => by simp [loopE] at h⟩
  | f + 1 => by
    obtain ⟨h1, h2⟩ := lev_more f
    refine ⟨fun n l x h => ?_, fun n e l x h => ?_⟩
    · cases l with
      | nil => simp [lev] at h
      | cons t u =>
        rw [lev] at h ⊢
        by_cases n3 : n = 3
        · rw [if_pos n3] at h ⊢
          by_cases ht : t = tok1 .inv
          · rw [if_pos ht] at h ⊢
            cases hu : lev f 3 u with
            | none => rw [hu] at h; cases h
            | some y => rw [hu] at h; rw [h1 _ _ _ hu]; exact h
          · rw [if_neg ht] at h ⊢; exact h1 _ _ _ h
        rw [if_neg n3] at h ⊢
        by_cases n6 : n = 6
        · rw [if_pos n6] at h ⊢
          by_cases ht : t = tok1 .neg
          · rw [if_pos ht] at h ⊢
            cases hu : lev f 6 u with
            | none => rw [hu] at h; cases h
            | some y => rw [hu] at h; rw [h1 _ _ _ hu]; exact h
          · rw [if_neg ht] at h ⊢; exact h1 _ _ _ h
        rw [if_neg n6] at h ⊢
        by_cases n7 : n = 7
        · rw [if_pos n7] at h ⊢
          by_cases ht : t = lpT
          · rw [if_pos ht] at h ⊢
            cases hu : lev f 1 u with
            | none => rw [hu] at h; cases h
            | some y => rw [hu] at h; rw [h1 _ _ _ hu]; exact h
          · rw [if_neg ht] at h ⊢; exact h
        rw [if_neg n7] at h ⊢
        cases hu : lev f (n + 1) (t :: u) with
        | none => rw [hu] at h; cases h
        | some y =>
          obtain ⟨e, r⟩ := y
          rw [hu] at h; rw [h1 _ _ _ hu]
          exact h2 _ _ _ _ h
    · cases l with
      | nil => rw [loopE] at h ⊢; exact h
      | cons t u =>
        rw [loopE] at h ⊢
        cases ho : opOf n t with
        | none => rw [ho] at h; exact h
        | some o =>
          rw [ho] at h
          simp only at h ⊢
          cases hu : lev f (n + 1) u with
          | none => rw [hu] at h; cases h
          | some y =>
            obtain ⟨b, r⟩ := y
            rw [hu] at h; rw [h1 _ _ _ hu]
            exact h2 _ _ _ _ h
theorem lev_le {f g n : Nat} {l : List Tok} {x : RE × List Tok} (h : lev f n l = some x) (hg : f ≤ g) : lev g n l = some x := by
  induction hg with
  | refl => exact h
  | step _ ih => exact (lev_more _).1 _ _ _ ih
theorem loop_le {f g n : Nat} {e : RE} {l : List Tok} {x : RE × List Tok} (h : loopE f n e l = some x) (hg : f ≤ g) : loopE g n e l = some x := by
  induction hg with
  | refl => exact h
  | step _ ih => exact (lev_more _).2 _ _ _ _ ih
/-- with enough steps -/
def Lev (n : Nat) (l : List Tok) (x : RE × List Tok) : Prop := ∃ f, lev f n l = some x
def Loop (n : Nat) (e : RE) (l : List Tok) (x : RE × List Tok) : Prop := ∃ f, loopE f n e l = some x
theorem Lev.det {n : Nat} {l : List Tok} {x y : RE × List Tok} (h : Lev n l x) (k : Lev n l y) : x = y := by
  obtain ⟨f, h⟩ := h
  obtain ⟨g, k⟩ := k
  have h1 := lev_le h (Nat.le_max_left f g)
  have k1 := lev_le k (Nat.le_max_right f g)
  exact Option.some.inj (h1.symm.trans k1)
theorem lev_not {u r : List Tok} {a : RE} (h : Lev 3 u (a, r)) : Lev 3 (tok1 .inv :: u) (.un .inv a, r) := by
  obtain ⟨f, h⟩ := h
  exact ⟨f + 1, by rw [lev]; rw [if_pos rfl, if_pos rfl, h]; rfl⟩
theorem lev_neg {u r : List Tok} {a : RE} (h : Lev 6 u (a, r)) : Lev 6 (tok1 .neg :: u) (.un .neg a, r) := by
  obtain ⟨f, h⟩ := h
  exact ⟨f + 1, by rw [lev]; rw [if_neg (by decide), if_pos rfl, if_pos rfl, h]; rfl⟩
theorem lev_pass3 {t : Tok} {u : List Tok} {x : RE × List Tok} (ht : t ≠ tok1 .inv) (h : Lev 4 (t :: u) x) : Lev 3 (t :: u) x := by
  obtain ⟨f, h⟩ := h
  exact ⟨f + 1, by rw [lev]; rw [if_pos rfl, if_neg ht]; exact h⟩
theorem lev_pass6 {t : Tok} {u : List Tok} {x : RE × List Tok} (ht : t ≠ tok1 .neg) (h : Lev 7 (t :: u) x) : Lev 6 (t :: u) x := by
  obtain ⟨f, h⟩ := h
  exact ⟨f + 1, by rw [lev]; rw [if_neg (by decide), if_pos rfl, if_neg ht]; exact h⟩
theorem lev_atom {t : Tok} {u : List Tok} {e : RE} (ht : t ≠ lpT) (h : atomE t = some e) : Lev 7 (t :: u) (e, u) :=
  ⟨1, by rw [lev]; rw [if_neg (by decide), if_neg (by decide), if_pos rfl, if_neg ht, h]; rfl⟩
theorem lev_par {u v : List Tok} {e : RE} (h : Lev 1 u (e, rpT :: v)) : Lev 7 (lpT :: u) (e, v) := by
  obtain ⟨f, h⟩ := h
  exact ⟨f + 1, by rw [lev]; rw [if_neg (by decide), if_neg (by decide), if_pos rfl, if_pos rfl, h]; simp⟩
theorem lev_bin {n : Nat} {l r : List Tok} {e : RE} {x : RE × List Tok} (h3 : n ≠ 3) (h6 : n ≠ 6) (h7 : n ≠ 7) (h : Lev (n + 1) l (e, r)) (k : Loop n e r x) : Lev n l x := by
  obtain ⟨f, h⟩ := h
  obtain ⟨g, k⟩ := k
  cases l with
  | nil => cases f <;> simp [lev] at h
  | cons t u =>
    refine ⟨max f g + 1, ?_⟩
    rw [lev]
    rw [if_neg h3, if_neg h6, if_neg h7, lev_le h (Nat.le_max_left f g)]
    exact loop_le k (Nat.le_max_right f g)
theorem loop_end {n : Nat} {e : RE} {l : List Tok} (h : ∀ t ∈ l.head?, opOf n t = none) : Loop n e l (e, l) := by
  refine ⟨1, ?_⟩
  cases l with
  | nil => rfl
  | cons t u => rw [loopE]; rw [h t rfl]
theorem loop_on {n : Nat} {e b : RE} {t : Tok} {u r : List Tok} {o : O2} {x : RE × List Tok} (ho : opOf n t = some o) (h : Lev (n + 1) u (b, r)) (k : Loop n (.bin o e b) r x) : Loop n e (t :: u) x := by
  obtain ⟨f, h⟩ := h
  obtain ⟨g, k⟩ := k
  refine ⟨max f g + 1, ?_⟩
  rw [loopE]
  simp only [ho]
  rw [lev_le h (Nat.le_max_left f g)]
  exact loop_le k (Nat.le_max_right f g)

/-- no operator that binds so, or more, stands at the head -/
def Stops (w : Nat) (l : List Tok) : Prop := ∀ t ∈ l.head?, ∀ n, w ≤ n → opOf n t = none
theorem Stops.up {w v : Nat} {l : List Tok} (h : Stops w l) (hv : w ≤ v) : Stops v l := fun t ht n hn => h t ht n (Nat.le_trans hv hn)
theorem op_tok (o : O2) : opOf (rk2 o) (tok2 o) = some o := by cases o <;> decide
theorem op_other (n : Nat) (o : O2) (h : rk2 o ≠ n) : opOf n (tok2 o) = none := by
  unfold opOf
  rw [List.find?_eq_none]
  intro o' _
  simp only [Bool.and_eq_true, decide_eq_true_eq, not_and]
  intro e e2
  have : o' = o := by revert e; cases o' <;> cases o <;> decide
  exact h (this ▸ e2)
theorem op_rp (n : Nat) : opOf n rpT = none := by
  unfold opOf
  rw [List.find?_eq_none]
  intro o _
  have : tok2 o ≠ rpT := by cases o <;> decide
  simp [this]
theorem stops_tok2 (n : Nat) (o : O2) (l : List Tok) (h : rk2 o < n) : Stops n (tok2 o :: l) := fun t ht m hm => by
  obtain rfl : tok2 o = t := by simpa using ht
  exact op_other m o (by omega)
theorem stops_rp (n : Nat) (l : List Tok) : Stops n (rpT :: l) := fun t ht m _ => by
  obtain rfl : rpT = t := by simpa using ht
  exact op_rp m
theorem rk2_cases (o : O2) : rk2 o = 1 ∨ rk2 o = 2 ∨ rk2 o = 4 ∨ rk2 o = 5 := by cases o <;> decide
/-- from what binds more down to what binds less -/
theorem lev_down {l : List Tok} {r : RE} {rest : List Tok} : ∀ (d m w : Nat), m = w + d → m ≤ 7 → Lev m l (r, rest) → Stops w rest → (w ≤ 3 → 3 < m → ∀ t ∈ l.head?, t ≠ tok1 .inv) → (w ≤ 6 → 6 < m → ∀ t ∈ l.head?, t ≠ tok1 .neg) → Lev w l (r, rest)
  | 0, m, w, hm, _, h, _, _, _ => by rw [show w = m by omega]; exact h
  | d + 1, m, w, hm, h7, h, hs, h3, h6 => by
    have ih := lev_down d m (w + 1) (by omega) h7 h (hs.up (Nat.le_succ w)) (fun a b => h3 (by omega) b) (fun a b => h6 (by omega) b)
    cases l with
    | nil => obtain ⟨f, hf⟩ := h; cases f <;> simp [lev] at hf
    | cons t u =>
      by_cases e3 : w = 3
      · subst e3; exact lev_pass3 (h3 (by omega) (by omega) t rfl) ih
      by_cases e6 : w = 6
      · subst e6; exact lev_pass6 (h6 (by omega) (by omega) t rfl) ih
      exact lev_bin e3 e6 (by omega) ih (loop_end fun t ht => hs t ht w (Nat.le_refl w))
theorem tokR_high (r : RE) (w : Nat) (h : rkR r < w) (h7 : w ≤ 7) : tokR r w = lpT :: (tokR r 1 ++ [rpT]) := by
  cases r with
  | num n => exact absurd (show 7 < w from h) (by omega)
  | nam s => exact absurd (show 7 < w from h) (by omega)
  | here => exact absurd (show 7 < w from h) (by omega)
  | un o a =>
    have h' : rk1 o < w := h
    have h1 : ¬ rk1 o < 1 := by cases o <;> decide
    rw [tokR, tokR, decide_eq_true h', decide_eq_false h1]; rfl
  | bin o a b =>
    have h' : rk2 o < w := h
    have h1 : ¬ rk2 o < 1 := by cases o <;> decide
    rw [tokR, tokR, decide_eq_true h', decide_eq_false h1]; rfl
theorem tokR_low (r : RE) (w : Nat) (h : w ≤ rkR r) : tokR r w = tokR r 1 := by
  cases r with
  | num n => rfl
  | nam s => rfl
  | here => rfl
  | un o a =>
    have h' : ¬ rk1 o < w := Nat.not_lt.2 h
    have h1 : ¬ rk1 o < 1 := by cases o <;> decide
    rw [tokR, tokR, decide_eq_false h', decide_eq_false h1]
  | bin o a b =>
    have h' : ¬ rk2 o < w := Nat.not_lt.2 h
    have h1 : ¬ rk2 o < 1 := by cases o <;> decide
    rw [tokR, tokR, decide_eq_false h', decide_eq_false h1]
theorem kind_ne {k k' : Int} {s s' : List UInt8} {n n' : Nat} (h : k ≠ k') : (⟨k, s, n⟩ : Tok) ≠ ⟨k', s', n'⟩ := fun e => h (congrArg Tok.k e)
theorem rk_pos : ∀ r : RE, 1 ≤ rkR r
  | .num _ => by show 1 ≤ 7; omega
  | .nam _ => by show 1 ≤ 7; omega
  | .here => by show 1 ≤ 7; omega
  | .un o _ => by show 1 ≤ rk1 o; cases o <;> decide
  | .bin o _ _ => by show 1 ≤ rk2 o; cases o <;> decide
theorem nam_not {s : List UInt8} (h : wordB s = false) (o : List UInt8) (ho : wordB o = true) : s ≠ o := fun e => by rw [e, ho] at h; cases h
/-- what is shown where at least a sum may stand does not begin with NOT -/
theorem head_not : ∀ (r : RE), okR r = true → ∀ w, 4 ≤ w → ∀ rest, ∀ t ∈ (tokR r w ++ rest).head?, t ≠ tok1 .inv
  | .num n, _, w, _, rest, t, ht => by
    obtain rfl : (⟨2, [], n⟩ : Tok) = t := by simpa [tokR] using ht
    exact kind_ne (by decide)
  | .nam s, h, w, _, rest, t, ht => by
    obtain rfl : (⟨1, s, 0⟩ : Tok) = t := by simpa [tokR] using ht
    simp only [okR, Bool.and_eq_true, Bool.not_eq_true'] at h
    intro e; exact nam_not h.2 [78, 79, 84] (by decide) (congrArg Tok.s e)
  | .here, _, w, _, rest, t, ht => by
    obtain rfl : (⟨4, [36], 0⟩ : Tok) = t := by simpa [tokR] using ht
    decide
  | .un .inv a, _, w, hw, rest, t, ht => by
    rw [tokR, show decide (rk1 .inv < w) = true from decide_eq_true (by show 3 < w; omega)] at ht
    obtain rfl : lpT = t := by simpa [par] using ht
    decide
  | .un .neg a, _, w, hw, rest, t, ht => by
    rw [tokR] at ht
    cases hd : decide (rk1 .neg < w)
    · rw [hd] at ht
      obtain rfl : tok1 .neg = t := by simpa [par] using ht
      decide
    · rw [hd] at ht
      obtain rfl : lpT = t := by simpa [par] using ht
      decide
  | .bin o a b, h, w, hw, rest, t, ht => by
    simp only [okR, Bool.and_eq_true] at h
    rw [tokR] at ht
    cases hd : decide (rk2 o < w)
    · rw [hd] at ht
      have h4 : 4 ≤ rk2 o := by have := of_decide_eq_false hd; omega
      simp only [par, Bool.false_eq_true, if_false] at ht
      rw [List.append_assoc] at ht
      exact head_not a h.1 (rk2 o) h4 _ t ht
    · rw [hd] at ht
      obtain rfl : lpT = t := by simpa [par] using ht
      decide
/-- what was shown is read as the same expression, and no more than that -/
theorem lev_tok : ∀ (r : RE), okR r = true →
    (∀ w, 1 ≤ w → w ≤ 7 → ∀ rest, Stops w rest → Lev w (tokR r w ++ rest) (r, rest)) ∧
    (∀ n, n = 1 ∨ n = 2 ∨ n = 4 ∨ n = 5 → ∀ rest x, Stops (n + 1) rest → Loop n r rest x → Lev n (tokR r n ++ rest) x) := by
  -- from where it stands without parentheses
  have main : ∀ r : RE, okR r = true → (∀ w, 1 ≤ w → w ≤ rkR r → ∀ rest, Stops w rest → Lev w (tokR r 1 ++ rest) (r, rest)) →
      ∀ w, 1 ≤ w → w ≤ 7 → ∀ rest, Stops w rest → Lev w (tokR r w ++ rest) (r, rest) := fun r hok h w hw1 hw7 rest hs => by
    by_cases hr : w ≤ rkR r
    · rw [tokR_low r w hr]; exact h w hw1 hr rest hs
    · rw [tokR_high r w (by omega) hw7]
      have hrk := rk_pos r
      have h1 := h 1 (Nat.le_refl 1) hrk (rpT :: rest) (stops_rp 1 rest)
      have h2 := lev_par h1
      have e : lpT :: (tokR r 1 ++ [rpT]) ++ rest = lpT :: (tokR r 1 ++ rpT :: rest) := by simp
      rw [e]
      refine lev_down (7 - w) 7 w (by omega) (Nat.le_refl 7) h2 hs (fun _ _ t ht => ?_) (fun _ _ t ht => ?_)
      · obtain rfl : lpT = t := by simpa using ht
        decide
      · obtain rfl : lpT = t := by simpa using ht
        decide
  -- where the rank is another than the loop's
  have other : ∀ r : RE, (∀ w, 1 ≤ w → w ≤ 7 → ∀ rest, Stops w rest → Lev w (tokR r w ++ rest) (r, rest)) → ∀ n, n = 1 ∨ n = 2 ∨ n = 4 ∨ n = 5 → rkR r ≠ n →
      ∀ rest x, Stops (n + 1) rest → Loop n r rest x → Lev n (tokR r n ++ rest) x := fun r h n hn hr rest x hs hl => by
    have e : tokR r n = tokR r (n + 1) := by
      by_cases hlt : rkR r < n
      · rw [tokR_high r n hlt (by omega), tokR_high r (n + 1) (by omega) (by omega)]
      · rw [tokR_low r n (by omega), tokR_low r (n + 1) (by omega)]
    rw [e]
    exact lev_bin (by omega) (by omega) (by omega) (h (n + 1) (by omega) (by omega) rest hs) hl
  intro r
  induction r with
  | num n =>
    intro hok
    have h1 : ∀ w, 1 ≤ w → w ≤ 7 → ∀ rest, Stops w rest → Lev w (tokR (.num n) w ++ rest) (.num n, rest) := fun w hw1 hw7 rest hs => by
      have h7 : Lev 7 (tokR (.num n) w ++ rest) (.num n, rest) := lev_atom (by exact kind_ne (by decide)) rfl
      refine lev_down (7 - w) 7 w (by omega) (Nat.le_refl 7) h7 hs (fun _ _ t ht => ?_) (fun _ _ t ht => ?_)
      · obtain rfl : (⟨2, [], n⟩ : Tok) = t := by simpa [tokR] using ht
        exact kind_ne (by decide)
      · obtain rfl : (⟨2, [], n⟩ : Tok) = t := by simpa [tokR] using ht
        exact kind_ne (by decide)
    exact ⟨h1, fun m hm rest x hs hl => other _ h1 m hm (by show 7 ≠ m; omega) rest x hs hl⟩
  | nam s =>
    intro hok
    have hw : wordB s = false := by simp only [okR, Bool.and_eq_true, Bool.not_eq_true'] at hok; exact hok.2
    have h1 : ∀ w, 1 ≤ w → w ≤ 7 → ∀ rest, Stops w rest → Lev w (tokR (.nam s) w ++ rest) (.nam s, rest) := fun w hw1 hw7 rest hs => by
      have h7 : Lev 7 (tokR (.nam s) w ++ rest) (.nam s, rest) := lev_atom (by exact kind_ne (by decide)) (by
        unfold atomE
        rw [if_neg (by show ¬ (1 : Int) = 2; decide), if_pos rfl, hw]; rfl)
      refine lev_down (7 - w) 7 w (by omega) (Nat.le_refl 7) h7 hs (fun _ _ t ht => ?_) (fun _ _ t ht => ?_)
      · obtain rfl : (⟨1, s, 0⟩ : Tok) = t := by simpa [tokR] using ht
        intro e; exact nam_not hw [78, 79, 84] (by decide) (congrArg Tok.s e)
      · obtain rfl : (⟨1, s, 0⟩ : Tok) = t := by simpa [tokR] using ht
        exact kind_ne (by decide)
    exact ⟨h1, fun m hm rest x hs hl => other _ h1 m hm (by show 7 ≠ m; omega) rest x hs hl⟩
  | here =>
    intro hok
    have h1 : ∀ w, 1 ≤ w → w ≤ 7 → ∀ rest, Stops w rest → Lev w (tokR .here w ++ rest) (.here, rest) := fun w hw1 hw7 rest hs => by
      have h7 : Lev 7 (tokR .here w ++ rest) (.here, rest) := lev_atom (by decide) rfl
      refine lev_down (7 - w) 7 w (by omega) (Nat.le_refl 7) h7 hs (fun _ _ t ht => ?_) (fun _ _ t ht => ?_)
      · obtain rfl : (⟨4, [36], 0⟩ : Tok) = t := by simpa [tokR] using ht
        decide
      · obtain rfl : (⟨4, [36], 0⟩ : Tok) = t := by simpa [tokR] using ht
        decide
    exact ⟨h1, fun m hm rest x hs hl => other _ h1 m hm (by show 7 ≠ m; omega) rest x hs hl⟩
  | un o a iha =>
    intro hok
    obtain ⟨ia, _⟩ := iha hok
    have h1 := main (.un o a) hok (fun w hw1 hwr rest hs => by
      cases o with
      | inv =>
        have hw3 : w ≤ 3 := hwr
        have hL := lev_not (ia 3 (by omega) (by omega) rest (hs.up hw3))
        have e : tokR (.un .inv a) 1 ++ rest = tok1 .inv :: (tokR a 3 ++ rest) := rfl
        rw [e]
        exact lev_down (3 - w) 3 w (by omega) (by omega) hL hs (fun _ h => absurd h (by omega)) (fun _ h => absurd h (by omega))
      | neg =>
        have hw6 : w ≤ 6 := hwr
        have hL := lev_neg (ia 6 (by omega) (by omega) rest (hs.up hw6))
        have e : tokR (.un .neg a) 1 ++ rest = tok1 .neg :: (tokR a 6 ++ rest) := rfl
        rw [e]
        refine lev_down (6 - w) 6 w (by omega) (by omega) hL hs (fun _ _ t ht => ?_) (fun _ h => absurd h (by omega))
        obtain rfl : tok1 .neg = t := by simpa using ht
        decide)
    exact ⟨h1, fun m hm rest x hs hl => other _ h1 m hm (by cases o <;> (first | (show 3 ≠ m; omega) | (show 6 ≠ m; omega))) rest x hs hl⟩
  | bin o a b iha ihb =>
    intro hok
    have hok' := hok
    simp only [okR, Bool.and_eq_true] at hok'
    obtain ⟨ia, ca⟩ := iha hok'.1
    obtain ⟨ib, _⟩ := ihb hok'.2
    have hrc := rk2_cases o
    -- at its own place, with whatever goes on behind it
    have own : ∀ rest x, Stops (rk2 o + 1) rest → Loop (rk2 o) (.bin o a b) rest x → Lev (rk2 o) (tokR a (rk2 o) ++ tok2 o :: (tokR b (rk2 o + 1) ++ rest)) x := fun rest x hs hl =>
      ca (rk2 o) (by omega) _ x (stops_tok2 _ o _ (by omega)) (loop_on (op_tok o) (ib (rk2 o + 1) (by omega) (by omega) rest hs) hl)
    have e : ∀ rest, tokR (.bin o a b) 1 ++ rest = tokR a (rk2 o) ++ tok2 o :: (tokR b (rk2 o + 1) ++ rest) := fun rest => by
      rw [tokR, decide_eq_false (by omega : ¬ rk2 o < 1)]
      simp [par]
    have h1 := main (.bin o a b) hok (fun w hw1 hwr rest hs => by
      have hwr : w ≤ rk2 o := hwr
      rw [e]
      have hL := own rest (.bin o a b, rest) (hs.up (by omega)) (loop_end fun t ht => hs t ht (rk2 o) hwr)
      exact lev_down (rk2 o - w) (rk2 o) w (by omega) (by omega) hL hs (fun _ h t ht => head_not a hok'.1 (rk2 o) (by omega) _ t ht) (fun _ h => absurd h (by omega)))
    refine ⟨h1, fun m hm rest x hs hl => ?_⟩
    by_cases hmr : rk2 o = m
    · subst hmr
      rw [tokR_low (.bin o a b) (rk2 o) (Nat.le_refl _), e]
      exact own rest x hs hl
    · exact other _ h1 m hm hmr rest x hs hl
/-- the tokens of a right expression are those of no other -/
theorem tokR_inj {a b : RE} (ha : okR a = true) (hb : okR b = true) (h : tokR a 1 = tokR b 1) : a = b := by
  have h1 := (lev_tok a ha).1 1 (Nat.le_refl 1) (by omega) [] (fun t ht => by simp at ht)
  have h2 := (lev_tok b hb).1 1 (Nat.le_refl 1) (by omega) [] (fun t ht => by simp at ht)
  rw [h] at h1
  exact (Prod.mk.inj (h1.det h2)).1
end Go.Proofs.YtaoeipbofhkkcaaGreatDoor
