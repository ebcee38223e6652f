/- Plain mathematics of quotes: a text between quotes, and the text of any quotes, as lists of bytes; no program, no condition. -/
import Derived.Lib.ReplaceLaws
import Derived.Lib.CountLaws
import Derived.Lib.IndexLaws
import Derived.Test.YtaoeipbofhkkcaaGreatDoorNumTexts
namespace Go.Proofs.YtaoeipbofhkkcaaGreatDoor
open Go.RowKit Go.Proofs.NumMath

def RA (old nw s : List UInt8) : List UInt8 := Lib.replaceK old nw (Lib.count s old) s
theorem RA_of (s old nw : List UInt8) (h : old ≠ nw) : Lib.replaceAll s old nw = RA old nw s := by
  unfold Lib.replaceAll Lib.replace Lib.replaceNum RA
  rw [if_neg (by simpa using h), if_pos (.inl (by omega))]
theorem RA_nil (old nw : List UInt8) (h : old ≠ []) : RA old nw [] = [] := by
  unfold RA
  have : Lib.index [] old = -1 := by cases old; exact absurd rfl h; rfl
  rw [Lib.count_miss this]
  rfl
theorem RA_hit (old nw s : List UInt8) (h : old ≠ []) (hp : old.isPrefixOf s = true) : RA old nw s = nw ++ RA old nw (s.drop old.length) := by
  have hi : Lib.index s old = ((0 : Nat) : Int) := by
    cases s with
    | nil => cases old with
      | nil => exact absurd rfl h
      | cons => simp at hp
    | cons b l => unfold Lib.index; rw [if_pos hp]; rfl
  unfold RA
  rw [Lib.count_hit h hi, Nat.add_comm 1, Lib.replaceK_hit _ _ _ _ _ hi]
  simp
theorem RA_step (old nw : List UInt8) (c : UInt8) (t : List UInt8) (h : old ≠ []) (hp : old.isPrefixOf (c :: t) = false) : RA old nw (c :: t) = c :: RA old nw t := by
  by_cases hm : Lib.index t old = -1
  · have hi : Lib.index (c :: t) old = -1 := by unfold Lib.index; rw [if_neg (by simp [hp]), if_pos (by simp [hm])]
    unfold RA
    rw [Lib.count_miss hi, Lib.count_miss hm]
    rfl
  · have hge := Lib.index_ge t old
    obtain ⟨i, hi⟩ : ∃ i : Nat, Lib.index t old = i := ⟨(Lib.index t old).toNat, by omega⟩
    have hi2 : Lib.index (c :: t) old = ((i + 1 : Nat) : Int) := by unfold Lib.index; rw [if_neg (by simp [hp]), if_neg (by simp [hm]), hi]; rfl
    unfold RA
    rw [Lib.count_hit h hi, Lib.count_hit h hi2, Nat.add_comm 1, Nat.add_comm 1, Lib.replaceK_hit _ _ _ _ _ hi, Lib.replaceK_hit _ _ _ _ _ hi2]
    have e : i + 1 + old.length = i + old.length + 1 := by omega
    rw [e]
    simp
theorem pre1 (c : UInt8) (t : List UInt8) (h : c ≠ 39) : ([39] : List UInt8).isPrefixOf (c :: t) = false := by
  have : (39 == c) = false := by rw [beq_eq_false_iff_ne]; exact Ne.symm h
  rw [List.isPrefixOf_cons_cons, this]
  rfl
theorem pre2 (c d : UInt8) (t : List UInt8) (h : ¬ (c = 39 ∧ d = 39)) : ([39, 39] : List UInt8).isPrefixOf (c :: d :: t) = false := by
  rw [List.isPrefixOf_cons_cons, List.isPrefixOf_cons_cons]
  by_cases hc : c = 39
  · have hd : (39 == d) = false := by rw [beq_eq_false_iff_ne]; exact fun e => h ⟨hc, e.symm⟩
    rw [hd]; simp
  · have hc' : (39 == c) = false := by rw [beq_eq_false_iff_ne]; exact Ne.symm hc
    rw [hc']; rfl
theorem pre3 (c : UInt8) : ([39, 39] : List UInt8).isPrefixOf [c] = false := by
  rw [List.isPrefixOf_cons_cons]
  simp
/-- one quote becomes two -/
theorem RA_quote : ∀ l : List UInt8, RA [39] [39, 39] l = quoL l
  | [] => RA_nil _ _ (by simp)
  | c :: l => by
    by_cases h : c = 39
    · subst h
      rw [RA_hit _ _ _ (by simp) (by simp)]
      show [39, 39] ++ RA [39] [39, 39] l = quoB 39 ++ quoL l
      rw [RA_quote l]
      rfl
    · rw [RA_step _ _ _ _ (by simp) (pre1 _ _ h), RA_quote l]
      have e : quoL (c :: l) = quoB c ++ quoL l := by simp [quoL]
      rw [e]
      simp [quoB, h]
/-- two quotes become nw -/
def rep (nw : List UInt8) : List UInt8 → List UInt8
  | [] => []
  | [c] => [c]
  | c :: d :: l => if c = 39 ∧ d = 39 then nw ++ rep nw l else c :: rep nw (d :: l)
theorem RA_rep (nw : List UInt8) : ∀ l : List UInt8, RA [39, 39] nw l = rep nw l
  | [] => RA_nil _ _ (by simp)
  | [c] => by rw [RA_step _ _ _ _ (by simp) (pre3 c), RA_nil _ _ (by simp), rep]
  | c :: d :: l => by
    rw [rep]
    by_cases h : c = 39 ∧ d = 39
    · obtain ⟨rfl, rfl⟩ := h
      rw [if_pos ⟨rfl, rfl⟩, RA_hit _ _ _ (by simp) (by simp)]
      show nw ++ RA [39, 39] nw l = _
      rw [RA_rep nw l]
    · rw [if_neg h, RA_step _ _ _ _ (by simp) (pre2 _ _ _ h), RA_rep nw (d :: l)]
def ok (c : UInt8) : Bool := decide (32 ≤ c.toNat) && decide (c.toNat ≤ 126)
theorem prt_cons (c : UInt8) (l : List UInt8) : prt (c :: l) = (ok c && prt l) := rfl
/-- the text between its quotes, if it is right -/
def unqIn : List UInt8 → Option (List UInt8)
  | [] => some []
  | [c] => if c = 39 ∨ ok c = false then none else some [c]
  | c :: d :: l => if ok c = false then none else if c = 39 then (if d = 39 then (unqIn l).map (39 :: ·) else none) else (unqIn (d :: l)).map (c :: ·)
theorem ok39 : ok 39 = true := by decide
theorem unqIn_eq : ∀ l : List UInt8, unqIn l = if 39 ∈ rep [] l ∨ prt l = false then none else some (rep [39] l)
  | [] => by rw [unqIn, rep, rep, if_neg (by simp [prt])]
  | [c] => by
    rw [unqIn, rep, rep, prt_cons]
    by_cases h : c = 39
    · subst h; simp
    · cases ho : ok c <;> simp [prt, h, Ne.symm h]
  | c :: d :: l => by
    rw [unqIn]
    by_cases h : c = 39 ∧ d = 39
    · obtain ⟨rfl, rfl⟩ := h
      rw [if_neg (by simp [ok39]), if_pos rfl, if_pos rfl, unqIn_eq l, rep, rep, if_pos (show (39 : UInt8) = 39 ∧ (39 : UInt8) = 39 from ⟨rfl, rfl⟩), if_pos (show (39 : UInt8) = 39 ∧ (39 : UInt8) = 39 from ⟨rfl, rfl⟩), prt_cons, prt_cons, ok39]
      simp only [Bool.true_and, List.nil_append]
      split <;> simp
    · rw [rep, rep, if_neg h, if_neg h, prt_cons]
      by_cases hc : c = 39
      · subst hc
        have hd : d ≠ 39 := fun e => h ⟨rfl, e⟩
        rw [if_neg (by simp [ok39]), if_pos rfl, if_neg hd, if_pos (.inl (by simp))]
      · rw [if_neg hc, unqIn_eq (d :: l)]
        cases ho : ok c
        · simp
        · simp only [Bool.true_and, List.mem_cons, Ne.symm hc, false_or, Bool.true_eq_false, if_false]
          split <;> simp
def unqL (l : List UInt8) : Option (List UInt8) := if 2 ≤ l.length ∧ headN l = 39 ∧ lastN l = 39 then unqIn ((l.drop 1).dropLast) else none
def unR : Option (List UInt8) → List UInt8 × Nat
  | none => ([], 2)
  | some l => (l, 0)
theorem mem_index : ∀ (l : List UInt8) (c : UInt8), (0 ≤ Lib.indexByte l c) ↔ c ∈ l
  | [], c => by simp [Lib.indexByte]
  | b :: l, c => by
    have ih := mem_index l c
    unfold Lib.indexByte
    by_cases h : b = c
    · subst h; simp
    · rw [if_neg (by simpa using h)]
      by_cases hm : Lib.indexByte l c = -1
      · rw [if_pos (by simp [hm])]
        rw [hm] at ih
        simp only [List.mem_cons, Ne.symm h, false_or, ← ih]
      · rw [if_neg (by simp [hm])]
        simp only [List.mem_cons, Ne.symm h, false_or, ← ih]
        have : -1 ≤ Lib.indexByte l c := by rw [← Lib.index_one]; exact Lib.index_ge _ _
        omega
/-! ### what was quoted is unquoted -/
theorem headN39 (l : List UInt8) : Lib.hasPrefix l [39] = decide (headN l = 39) := by
  cases l with
  | nil => rfl
  | cons c t =>
    unfold Lib.hasPrefix headN
    rw [Bool.eq_iff_iff]
    simp only [List.isPrefixOf, Bool.and_true, beq_iff_eq, decide_eq_true_eq]
    rw [toNat39]
    exact eq_comm
theorem lastN39 (l : List UInt8) : Lib.hasSuffix l [39] = decide (lastN l = 39) := by
  unfold Lib.hasSuffix lastN
  rw [Bool.eq_iff_iff, List.isSuffixOf_iff_suffix, decide_eq_true_eq]
  cases h : l.getLast? with
  | none =>
    have : l = [] := List.getLast?_eq_none_iff.1 h
    subst this
    simp
  | some c =>
    simp only
    rw [toNat39]
    constructor
    · rintro ⟨t, rfl⟩
      simp at h
      exact h.symm
    · rintro rfl
      obtain ⟨t, rfl⟩ := List.getLast?_eq_some_iff.1 h
      exact ⟨t, rfl⟩
/-- what the program looks at is what the document asks for -/
def codeU (l : List UInt8) : Option (List UInt8) :=
  if Lib.hasPrefix l [39] = false ∨ Lib.hasSuffix (Lib.trimPrefix l [39]) [39] = false then none else unqIn (Lib.trimSuffix (Lib.trimPrefix l [39]) [39])
theorem codeU_eq (l : List UInt8) : codeU l = unqL l := by
  unfold codeU unqL
  cases l with
  | nil => rfl
  | cons c t =>
    by_cases hc : c = 39
    · subst hc
      have hp : Lib.hasPrefix (39 :: t) [39] = true := by simp [Lib.hasPrefix]
      have ht : Lib.trimPrefix (39 :: t) [39] = t := by unfold Lib.trimPrefix; rw [if_pos hp]; rfl
      rw [hp, ht, lastN39]
      cases t with
      | nil => rfl
      | cons d u =>
        have hl : lastN (39 :: d :: u) = lastN (d :: u) := by simp [lastN]
        rw [hl]
        by_cases h39 : lastN (d :: u) = 39
        · rw [if_neg (by simp [h39]), if_pos ⟨by simp, rfl, h39⟩]
          unfold Lib.trimSuffix
          rw [lastN39, h39, if_pos (by simp), List.dropLast_eq_take]
          rfl
        · rw [if_pos (by simp [h39]), if_neg (fun h => h39 h.2.2)]
    · have hp : Lib.hasPrefix (c :: t) [39] = false := pre1 c t hc
      rw [if_pos (.inl hp), if_neg]
      rintro ⟨_, h, _⟩
      exact hc ((toNat39 c).1 h)
theorem unq_quo : ∀ l : List UInt8, unqIn (quoL l) = if prt l = true then some l else none
  | [] => by rw [show quoL [] = [] from rfl, unqIn, if_pos (by rfl)]
  | c :: l => by
    have e : quoL (c :: l) = quoB c ++ quoL l := by simp [quoL]
    rw [e]
    by_cases h : c = 39
    · subst h
      rw [show quoB 39 ++ quoL l = 39 :: 39 :: quoL l from rfl, unqIn, if_neg (by simp [ok39]), if_pos rfl, if_pos rfl, unq_quo l, prt_cons, ok39, Bool.true_and]
      split <;> rfl
    · rw [show quoB c ++ quoL l = c :: quoL l by simp [quoB, h]]
      cases hq : quoL l with
      | nil =>
        have hl : l = [] := by
          cases l with
          | nil => rfl
          | cons d u =>
            have e2 : quoL (d :: u) = quoB d ++ quoL u := by simp [quoL]
            rw [e2] at hq
            unfold quoB at hq
            split at hq <;> simp at hq
        subst hl
        rw [unqIn, prt_cons]
        cases ho : ok c <;> simp [h, prt]
      | cons d u =>
        have ih := unq_quo l
        rw [hq] at ih
        rw [unqIn, if_neg h, ih, prt_cons]
        cases ho : ok c
        · simp
        · simp only [Bool.true_and, Bool.true_eq_false, if_false]
          split <;> rfl
theorem unqL_quote (l : List UInt8) : unqL (quoteL l) = if prt l = true then some l else none := by
  unfold unqL quoteL
  have h1 : lastN ([39] ++ quoL l ++ [39]) = 39 := lastN_snoc _ _
  rw [if_pos ⟨by simp, rfl, h1⟩]
  have e : (([39] ++ quoL l ++ [39]).drop 1).dropLast = quoL l := by
    rw [List.append_assoc]
    show (quoL l ++ [39]).dropLast = _
    exact List.dropLast_concat
  rw [e, unq_quo]
end Go.Proofs.YtaoeipbofhkkcaaGreatDoor
