/- The plain mathematics of an image: its bytes as a list by addresses, the bits of its words, its runs; without the program. -/
import Derived.Lib.TrailingZeros
namespace Go.Proofs.YtjodidkjpdjmoaaDoor

/-- A byte at an address. -/
structure Ent where
  a : Nat
  v : Int
  h : a < 65536

theorem Ent.eq_of {x y : Ent} (h1 : x.a = y.a) (h2 : x.v = y.v) : x = y := by
  cases x; cases y; simp at h1 h2; subst h1; subst h2; rfl

/-- What stands at address a, as a list. -/
def entAt (g : Nat → Option Int) (a : Nat) : List Ent :=
  if h : a < 65536 then (match g a with | some v => [⟨a, v, h⟩] | none => []) else []
/-- What stands at the n addresses from lo on. -/
def seg (g : Nat → Option Int) (lo n : Nat) : List Ent := (List.range' lo n).flatMap (entAt g)
/-- All of it. -/
def lst (g : Nat → Option Int) : List Ent := seg g 0 65536

theorem seg_zero (g : Nat → Option Int) (lo : Nat) : seg g lo 0 = [] := rfl
theorem seg_add (g : Nat → Option Int) (lo m n : Nat) : seg g lo (m + n) = seg g lo m ++ seg g (lo + m) n := by
  unfold seg
  rw [← List.range'_append_1, List.flatMap_append]
theorem seg_succ (g : Nat → Option Int) (lo n : Nat) : seg g lo (n + 1) = seg g lo n ++ entAt g (lo + n) := by
  rw [seg_add]; simp [seg, List.range']

theorem mem_entAt {g : Nat → Option Int} {a : Nat} {x : Ent} : x ∈ entAt g a ↔ x.a = a ∧ g a = some x.v := by
  unfold entAt
  split
  · rename_i h
    cases hg : g a with
    | none => simp
    | some v =>
      simp only [List.mem_singleton, Option.some.injEq]
      constructor
      · rintro rfl; exact ⟨rfl, rfl⟩
      · rintro ⟨h1, h2⟩; exact Ent.eq_of h1 h2.symm
  · rename_i h
    simp only [List.not_mem_nil, false_iff, not_and]
    intro h1; have := x.h; omega
theorem mem_seg {g : Nat → Option Int} {lo n : Nat} {x : Ent} : x ∈ seg g lo n ↔ (lo ≤ x.a ∧ x.a < lo + n) ∧ g x.a = some x.v := by
  unfold seg
  simp only [List.mem_flatMap, List.mem_range'_1, mem_entAt]
  constructor
  · rintro ⟨a, h1, h2, h3⟩; subst h2; exact ⟨h1, h3⟩
  · rintro ⟨h1, h2⟩; exact ⟨x.a, h1, rfl, h2⟩
theorem mem_lst {g : Nat → Option Int} {x : Ent} : x ∈ lst g ↔ g x.a = some x.v := by
  unfold lst; rw [mem_seg]; have := x.h; constructor
  · exact fun h => h.2
  · exact fun h => ⟨⟨by omega, by omega⟩, h⟩

theorem entAt_congr {g g' : Nat → Option Int} {a : Nat} (h : g a = g' a) : entAt g a = entAt g' a := by
  unfold entAt; rw [h]
theorem seg_congr {g g' : Nat → Option Int} {lo : Nat} : ∀ {n : Nat}, (∀ a, lo ≤ a → a < lo + n → g a = g' a) → seg g lo n = seg g' lo n
  | 0, _ => rfl
  | n + 1, h => by
    rw [seg_succ, seg_succ, seg_congr (n := n) (fun a h1 h2 => h a h1 (by omega)), entAt_congr (h (lo + n) (by omega) (by omega))]
theorem seg_none {g : Nat → Option Int} {lo : Nat} : ∀ {n : Nat}, (∀ a, lo ≤ a → a < lo + n → g a = none) → seg g lo n = []
  | 0, _ => rfl
  | n + 1, h => by
    rw [seg_succ, seg_none (n := n) (fun a h1 h2 => h a h1 (by omega))]
    simp only [entAt, h (lo + n) (by omega) (by omega), List.nil_append]
    split <;> rfl

/-- The image behind a Put. -/
def putG (g : Nat → Option Int) (at_ n : Nat) (b : Nat → Int) : Nat → Option Int := fun a => if at_ ≤ a ∧ a < at_ + n then some (b (a - at_)) else g a
/-- What a Put brings. -/
def news (at_ n : Nat) (b : Nat → Int) : List Ent := seg (fun a => some (b (a - at_))) at_ n
theorem news_zero (at_ : Nat) (b : Nat → Int) : news at_ 0 b = [] := rfl
theorem news_succ (at_ n : Nat) (b : Nat → Int) (h : at_ + n < 65536) : news at_ (n + 1) b = news at_ n b ++ [⟨at_ + n, b n, h⟩] := by
  unfold news
  rw [seg_succ]
  simp only [entAt, dif_pos h]
  congr 4
  omega
theorem news_length (at_ : Nat) (b : Nat → Int) : ∀ n, at_ + n ≤ 65536 → (news at_ n b).length = n
  | 0, _ => rfl
  | n + 1, h => by rw [news_succ at_ n b (by omega)]; simp [news_length at_ b n (by omega)]

theorem lst_split (g : Nat → Option Int) (at_ n : Nat) (h : at_ + n ≤ 65536) :
    lst g = seg g 0 at_ ++ (seg g at_ n ++ seg g (at_ + n) (65536 - (at_ + n))) := by
  unfold lst
  have e : 65536 = at_ + (n + (65536 - (at_ + n))) := by omega
  conv => lhs; rw [e]
  rw [seg_add, seg_add, Nat.zero_add]
theorem lst_putG (g : Nat → Option Int) (at_ n : Nat) (b : Nat → Int) (h : at_ + n ≤ 65536) :
    lst (putG g at_ n b) = seg g 0 at_ ++ (news at_ n b ++ seg g (at_ + n) (65536 - (at_ + n))) := by
  rw [lst_split _ at_ n h]
  congr 1
  · exact seg_congr (fun a h1 h2 => by unfold putG; rw [if_neg (by omega)])
  congr 1
  · exact seg_congr (fun a h1 h2 => by unfold putG; rw [if_pos (by omega)])
  · exact seg_congr (fun a h1 h2 => by unfold putG; rw [if_neg (by omega)])
/-- Where nothing stands between. -/
theorem lst_free (g : Nat → Option Int) (at_ n : Nat) (h : at_ + n ≤ 65536) (hf : ∀ a, at_ ≤ a → a < at_ + n → g a = none) :
    lst g = seg g 0 at_ ++ seg g (at_ + n) (65536 - (at_ + n)) := by
  rw [lst_split g at_ n h, seg_none hf, List.nil_append]

theorem seg_length_le (g : Nat → Option Int) (lo : Nat) : ∀ n, (seg g lo n).length ≤ n
  | 0 => Nat.le_refl _
  | n + 1 => by
    rw [seg_succ, List.length_append]
    have := seg_length_le g lo n
    have : (entAt g (lo + n)).length ≤ 1 := by
      unfold entAt; split
      · split <;> simp
      · simp
    omega
theorem lst_length_le (g : Nat → Option Int) : (lst g).length ≤ 65536 := seg_length_le g 0 65536

/-! ### A word's bits -/
theorem bit_of_lowest (w : Nat) (h0 : w ≠ 0) (hw : w < 2 ^ 64) :
    Lib.ctz 64 w < 64 ∧ w.testBit (Lib.ctz 64 w) = true ∧ (∀ i, i < Lib.ctz 64 w → w.testBit i = false) ∧
      ∀ i, (w &&& (w - 1)).testBit i = (w.testBit i && !decide (i = Lib.ctz 64 w)) := by
  obtain ⟨m, hm, hk⟩ := Lib.ctzFrom_spec 64 w (by omega) hw
  have e : Lib.ctz 64 w = Lib.ctzFrom 64 w := by simp [Lib.ctz, h0]
  rw [e]
  generalize Lib.ctzFrom 64 w = k at hm hk
  have hb : ∀ i, w.testBit i = (decide (i ≥ k) && (2 * m + 1).testBit (i - k)) := fun i => by rw [hm, Nat.testBit_two_pow_mul]
  have hp : 0 < 2 ^ k := Nat.two_pow_pos k
  have hw1 : w - 1 = 2 ^ k * (2 * m) + (2 ^ k - 1) := by
    rw [hm, Nat.mul_add, Nat.mul_one]; omega
  have hb1 : ∀ i, (w - 1).testBit i = if i < k then (2 ^ k - 1).testBit i else (2 * m).testBit (i - k) := fun i => by
    rw [hw1, Nat.testBit_two_pow_mul_add _ (by omega)]
  refine ⟨hk, ?_, ?_, ?_⟩
  · rw [hb]; simp
  · intro i hi; rw [hb]; simp; omega
  · intro i
    rw [Nat.testBit_and, hb, hb1]
    by_cases h1 : i < k
    · simp [h1]; omega
    · by_cases h2 : i = k
      · subst h2; simp
      · have h3 : i - k ≠ 0 := by omega
        obtain ⟨j, hj⟩ := Nat.exists_eq_succ_of_ne_zero h3
        have e1 : (2 * m + 1).testBit (i - k) = m.testBit j := by
          rw [hj, Nat.testBit_succ]; congr 1; omega
        have e2 : (2 * m).testBit (i - k) = m.testBit j := by
          rw [hj, Nat.testBit_succ]; congr 1; omega
        rw [e1, e2]
        simp [h1, h2]

/-! ### Runs, the last one ahead -/
structure Run where
  p : Nat
  bs : List Int
def stepR : List Run → Ent → List Run
  | [], x => [⟨x.a, [x.v]⟩]
  | r :: t, x => if r.p + r.bs.length = x.a then ⟨r.p, r.bs ++ [x.v]⟩ :: t else ⟨x.a, [x.v]⟩ :: r :: t
def runsRev (l : List Ent) : List Run := l.foldl stepR []
theorem runsRev_snoc (l : List Ent) (x : Ent) : runsRev (l ++ [x]) = stepR (runsRev l) x := by simp [runsRev]
theorem runsRev_nil : runsRev [] = [] := rfl
/-- The last run ends behind the last byte. -/
theorem runsRev_last (l : List Ent) (x : Ent) : ∃ r t, runsRev (l ++ [x]) = r :: t ∧ r.p + r.bs.length = x.a + 1 := by
  rw [runsRev_snoc]
  cases runsRev l with
  | nil => exact ⟨_, _, rfl, by simp⟩
  | cons r t =>
    by_cases h : r.p + r.bs.length = x.a
    · exact ⟨_, _, by rw [stepR, if_pos h], by simp; omega⟩
    · exact ⟨_, _, by rw [stepR, if_neg h], by simp⟩
end Go.Proofs.YtjodidkjpdjmoaaDoor
