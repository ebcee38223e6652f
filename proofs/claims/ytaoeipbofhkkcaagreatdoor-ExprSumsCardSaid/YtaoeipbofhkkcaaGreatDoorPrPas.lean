/- Reading as the program does it: which tokens are passed, how many parentheses, NOT and - may be open; what is shown is read so. Plain mathematics. Expressions in memory whose parts lie in blocks that are told: what keeps those blocks keeps them. What the reader's here and pass of the program do when they are called; the tokens lie in memory older than the reader. -/
import Derived.Test.YtaoeipbofhkkcaaGreatDoorExb
import Derived.Test.YtaoeipbofhkkcaaGreatDoorExm
import Derived.Test.YtaoeipbofhkkcaaGreatDoorPrNam
import Derived.Test.YtaoeipbofhkkcaaGreatDoorPrEva
import Derived.Test.YtaoeipbofhkkcaaGreatDoorToks
import Derived.Test.YtaoeipbofhkkcaaGreatDoorTokShelfC
namespace Go.Proofs.YtaoeipbofhkkcaaGreatDoor
open Go.RowKit Go.Proofs.NumMath

/-- is the token one of these words and marks -/
def passB (ops : List (List UInt8)) (t : Tok) : Bool := decide (t.k = if nameL t.s = true then 1 else 4) && decide (t.s ∈ ops)
/-- the operators of a level -/
def opsN : Nat → List (List UInt8)
  | 1 => [[79, 82], [88, 79, 82]]
  | 2 => [[65, 78, 68]]
  | 4 => [[43], [45]]
  | 5 => [[42], [47], [77, 79, 68], [83, 72, 76], [83, 72, 82]]
  | _ => []
def isRow (n : Nat) : Prop := n = 1 ∨ n = 2 ∨ n = 4 ∨ n = 5
mutual
/-- at a level, with so many that may still be open, tokens are read as an expression, and what is left -/
inductive Rd : Nat → Nat → List Tok → RE → List Tok → Prop
  | num (o n u) : n ≤ 65535 → Rd 7 o (⟨2, [], n⟩ :: u) (.num n) u
  | nam (o s u) : (nameL s && decide (upL s = s) && !wordB s) = true → Rd 7 o (⟨1, s, 0⟩ :: u) (.nam s) u
  | here (o u) : Rd 7 o (⟨4, [36], 0⟩ :: u) .here u
  | par (o u e v) : Rd 1 o u e (rpT :: v) → Rd 7 (o + 1) (lpT :: u) e v
  | neg (o u a r) : Rd 6 o u a r → Rd 6 (o + 1) (tok1 .neg :: u) (.un .neg a) r
  | inv (o u a r) : Rd 3 o u a r → Rd 3 (o + 1) (tok1 .inv :: u) (.un .inv a) r
  | pass6 (o t u e r) : passB [[45]] t = false → Rd 7 o (t :: u) e r → Rd 6 o (t :: u) e r
  | pass3 (o t u e r) : passB [[78, 79, 84]] t = false → Rd 4 o (t :: u) e r → Rd 3 o (t :: u) e r
  | row (n o l e r x r') : isRow n → Rd (n + 1) o l e r → Rl n o e r x r' → Rd n o l x r'
/-- what goes on behind the left part -/
inductive Rl : Nat → Nat → RE → List Tok → RE → List Tok → Prop
  | stop (n o e l) : (∀ t ∈ l.head?, passB (opsN n) t = false) → Rl n o e l e l
  | on (n o e op u b r x r') : rk2 op = n → Rd (n + 1) o u b r → Rl n o (.bin op e b) r x r' → Rl n o e (tok2 op :: u) x r'
end
theorem pass_tok2 (op : O2) : passB (opsN (rk2 op)) (tok2 op) = true := by cases op <;> decide
theorem pass_other (op : O2) (n : Nat) (hn : isRow n) (h : rk2 op ≠ n) : passB (opsN n) (tok2 op) = false := by
  rcases hn with rfl | rfl | rfl | rfl <;> revert h <;> cases op <;> decide
theorem pass_rp (n : Nat) (hn : isRow n) : passB (opsN n) rpT = false := by rcases hn with rfl | rfl | rfl | rfl <;> decide
def StopsP (w : Nat) (l : List Tok) : Prop := ∀ t ∈ l.head?, ∀ n, isRow n → w ≤ n → passB (opsN n) t = false
theorem StopsP.up {w v : Nat} {l : List Tok} (h : StopsP w l) (hv : w ≤ v) : StopsP v l := fun t ht n hn hw => h t ht n hn (Nat.le_trans hv hw)
theorem stopsP_tok2 (n : Nat) (op : O2) (l : List Tok) (h : rk2 op < n) : StopsP n (tok2 op :: l) := fun t ht m hm hw => by
  obtain rfl : tok2 op = t := by simpa using ht
  exact pass_other op m hm (by omega)
theorem stopsP_rp (n : Nat) (l : List Tok) : StopsP n (rpT :: l) := fun t ht m hm _ => by
  obtain rfl : rpT = t := by simpa using ht
  exact pass_rp m hm
theorem rd_down {o : Nat} {t : Tok} {u : List Tok} {r : RE} {rest : List Tok} : ∀ (d m w : Nat), m = w + d → 1 ≤ w → m ≤ 7 → Rd m o (t :: u) r rest → StopsP w rest → (w ≤ 3 → 3 < m → passB [[78, 79, 84]] t = false) → (w ≤ 6 → 6 < m → passB [[45]] t = false) → Rd w o (t :: u) r rest
  | 0, m, w, hm, _, _, h, _, _, _ => by rw [show w = m by omega]; exact h
  | d + 1, m, w, hm, h1, h7, h, hs, h3, h6 => by
    have ih := rd_down d m (w + 1) (by omega) (by omega) h7 h (hs.up (Nat.le_succ w)) (fun a b => h3 (by omega) b) (fun a b => h6 (by omega) b)
    by_cases e3 : w = 3
    · subst e3; exact .pass3 _ _ _ _ _ (h3 (by omega) (by omega)) ih
    by_cases e6 : w = 6
    · subst e6; exact .pass6 _ _ _ _ _ (h6 (by omega) (by omega)) ih
    have hr : isRow w := by unfold isRow; omega
    exact .row _ _ _ _ _ _ _ hr ih (.stop _ _ _ _ fun x hx => hs x hx w hr (Nat.le_refl w))
theorem pass_not (t : Tok) (hg : Good t) (h : t ≠ tok1 .inv) : passB [[78, 79, 84]] t = false := by
  rw [Bool.eq_false_iff]
  intro hp
  simp only [passB, Bool.and_eq_true, decide_eq_true_eq, List.mem_singleton] at hp
  obtain ⟨hk, hs⟩ := hp
  have hn : nameL t.s = true := by rw [hs]; decide
  rw [if_pos hn] at hk
  obtain ⟨k, s, n⟩ := t
  dsimp only at hk hs
  subst hk hs
  rcases hg with ⟨_, hn0, _⟩ | ⟨hk, _⟩ | ⟨hk, _⟩ | ⟨hk, _⟩
  · dsimp only at hn0
    subst hn0
    exact h rfl
  · exact absurd (show (1 : Int) = 2 from hk) (by decide)
  · exact absurd (show (1 : Int) = 3 from hk) (by decide)
  · exact absurd (show (1 : Int) = 4 from hk) (by decide)
/-- how many are open at once -/
def nd0 : RE → Nat
  | .un o a => 1 + (if rkR a < rk1 o then nd0 a + 1 else nd0 a)
  | .bin o a b => max (if rkR a < rk2 o then nd0 a + 1 else nd0 a) (if rkR b < rk2 o + 1 then nd0 b + 1 else nd0 b)
  | _ => 0
def nd (r : RE) (w : Nat) : Nat := if rkR r < w then nd0 r + 1 else nd0 r
theorem nd_le : ∀ r : RE, nd0 r + 2 ≤ 2 * deepR r
  | .num _ => by simp [nd0, deepR]
  | .nam _ => by simp [nd0, deepR]
  | .here => by simp [nd0, deepR]
  | .un o a => by
    have := nd_le a
    simp only [nd0, deepR]
    split <;> omega
  | .bin o a b => by
    have := nd_le a
    have := nd_le b
    simp only [nd0, deepR]
    split <;> split <;> omega
theorem head_some (r : RE) (w : Nat) (rest : List Tok) : ∃ t u, tokR r w ++ rest = t :: u := by
  cases h : tokR r w with
  | nil => exact absurd h (tokR_ne r w)
  | cons t u => exact ⟨t, u ++ rest, rfl⟩
theorem rd_tok : ∀ (r : RE), okR r = true →
    (∀ w, 1 ≤ w → w ≤ 7 → ∀ rest, StopsP w rest → ∀ o, nd r w ≤ o → Rd w o (tokR r w ++ rest) r rest) ∧
    (∀ n, isRow n → ∀ rest x r', StopsP (n + 1) rest → ∀ o, nd r n ≤ o → Rl n o r rest x r' → Rd n o (tokR r n ++ rest) x r') := by
  have main : ∀ r : RE, okR r = true → (∀ w, 1 ≤ w → w ≤ rkR r → ∀ rest, StopsP w rest → ∀ o, nd0 r ≤ o → Rd w o (tokR r 1 ++ rest) r rest) →
      ∀ w, 1 ≤ w → w ≤ 7 → ∀ rest, StopsP w rest → ∀ o, nd r w ≤ o → Rd w o (tokR r w ++ rest) r rest := fun r hok h w hw1 hw7 rest hs o ho => by
    by_cases hr : w ≤ rkR r
    · rw [nd, if_neg (by omega)] at ho
      rw [tokR_low r w hr]; exact h w hw1 hr rest hs o ho
    · rw [nd, if_pos (by omega)] at ho
      obtain ⟨p, rfl⟩ : ∃ p, o = p + 1 := ⟨o - 1, by omega⟩
      rw [tokR_high r w (by omega) hw7]
      have h1 := h 1 (Nat.le_refl 1) (rk_pos r) (rpT :: rest) (stopsP_rp 1 rest) p (by omega)
      have e : lpT :: (tokR r 1 ++ [rpT]) ++ rest = lpT :: (tokR r 1 ++ rpT :: rest) := by simp
      rw [e]
      exact rd_down (7 - w) 7 w (by omega) hw1 (Nat.le_refl 7) (.par _ _ _ _ h1) hs (fun _ _ => by decide) (fun _ _ => by decide)
  have other : ∀ r : RE, (∀ w, 1 ≤ w → w ≤ 7 → ∀ rest, StopsP w rest → ∀ o, nd r w ≤ o → Rd w o (tokR r w ++ rest) r rest) → ∀ n, isRow n → rkR r ≠ n →
      ∀ rest x r', StopsP (n + 1) rest → ∀ o, nd r n ≤ o → Rl n o r rest x r' → Rd n o (tokR r n ++ rest) x r' := fun r h n hn hr rest x r' hs o ho hl => by
    have hn5 : 1 ≤ n ∧ n ≤ 5 := by unfold isRow at hn; omega
    have e : tokR r n = tokR r (n + 1) ∧ nd r n = nd r (n + 1) := by
      by_cases hlt : rkR r < n
      · exact ⟨by rw [tokR_high r n hlt (by omega), tokR_high r (n + 1) (by omega) (by omega)], by rw [nd, nd, if_pos hlt, if_pos (by omega)]⟩
      · exact ⟨by rw [tokR_low r n (by omega), tokR_low r (n + 1) (by omega)], by rw [nd, nd, if_neg hlt, if_neg (by omega)]⟩
    rw [e.1]
    rw [e.2] at ho
    exact .row _ _ _ _ _ _ _ hn (h (n + 1) (by omega) (by omega) rest hs o ho) hl
  have leaf : ∀ (r : RE) (t : Tok), (∀ w, tokR r w = [t]) → (∀ o u, Rd 7 o (t :: u) r u) → passB [[78, 79, 84]] t = false → passB [[45]] t = false → rkR r = 7 →
      ∀ w, 1 ≤ w → w ≤ 7 → ∀ rest, StopsP w rest → ∀ o, nd r w ≤ o → Rd w o (tokR r w ++ rest) r rest := fun r t ht h7 hp hq _ w hw1 hw7 rest hs o _ => by
    rw [ht w]
    exact rd_down (7 - w) 7 w (by omega) hw1 (Nat.le_refl 7) (h7 o rest) hs (fun _ _ => hp) (fun _ _ => hq)
  intro r
  induction r with
  | num n =>
    intro hok
    have hn : n ≤ 65535 := by simpa [okR] using hok
    have h1 := leaf (.num n) ⟨2, [], n⟩ (fun _ => rfl) (fun o u => .num o n u hn) (by simp [passB]) (by simp [passB]) rfl
    exact ⟨h1, fun m hm rest x r' hs o ho hl => other _ h1 m hm (by show 7 ≠ m; unfold isRow at hm; omega) rest x r' hs o ho hl⟩
  | nam s =>
    intro hok
    have hok' : (nameL s && decide (upL s = s) && !wordB s) = true := hok
    have hw : wordB s = false := by simp only [Bool.and_eq_true, Bool.not_eq_true'] at hok'; exact hok'.2
    have hn : nameL s = true := by simp only [Bool.and_eq_true] at hok'; exact hok'.1.1
    have h1 := leaf (.nam s) ⟨1, s, 0⟩ (fun _ => rfl) (fun o u => .nam o s u hok') (by
      have := nam_not hw [78, 79, 84] (by decide)
      simp [passB, hn, this]) (by
      have : s ≠ [45] := by rintro rfl; revert hn; decide
      simp [passB, hn, this]) rfl
    exact ⟨h1, fun m hm rest x r' hs o ho hl => other _ h1 m hm (by show 7 ≠ m; unfold isRow at hm; omega) rest x r' hs o ho hl⟩
  | here =>
    intro hok
    have h1 := leaf .here ⟨4, [36], 0⟩ (fun _ => rfl) (fun o u => .here o u) (by decide) (by decide) rfl
    exact ⟨h1, fun m hm rest x r' hs o ho hl => other _ h1 m hm (by show 7 ≠ m; unfold isRow at hm; omega) rest x r' hs o ho hl⟩
  | un op a iha =>
    intro hok
    obtain ⟨ia, _⟩ := iha hok
    have h1 := main (.un op a) hok (fun w hw1 hwr rest hs o ho => by
      cases op with
      | inv =>
        have hw3 : w ≤ 3 := hwr
        have ho' : 1 + nd a 3 ≤ o := ho
        obtain ⟨p, rfl⟩ : ∃ p, o = p + 1 := ⟨o - 1, by omega⟩
        have hL := Rd.inv p _ a rest (ia 3 (by omega) (by omega) rest (hs.up hw3) p (by omega))
        have e : tokR (.un .inv a) 1 ++ rest = tok1 .inv :: (tokR a 3 ++ rest) := rfl
        rw [e]
        exact rd_down (3 - w) 3 w (by omega) hw1 (by omega) hL hs (fun _ h => absurd h (by omega)) (fun _ h => absurd h (by omega))
      | neg =>
        have hw6 : w ≤ 6 := hwr
        have ho' : 1 + nd a 6 ≤ o := ho
        obtain ⟨p, rfl⟩ : ∃ p, o = p + 1 := ⟨o - 1, by omega⟩
        have hL := Rd.neg p _ a rest (ia 6 (by omega) (by omega) rest (hs.up hw6) p (by omega))
        have e : tokR (.un .neg a) 1 ++ rest = tok1 .neg :: (tokR a 6 ++ rest) := rfl
        rw [e]
        exact rd_down (6 - w) 6 w (by omega) hw1 (by omega) hL hs (fun _ _ => by decide) (fun _ h => absurd h (by omega)))
    exact ⟨h1, fun m hm rest x r' hs o ho hl => other _ h1 m hm (by unfold isRow at hm; cases op <;> (first | (show 3 ≠ m; omega) | (show 6 ≠ m; omega))) rest x r' hs o ho hl⟩
  | bin op a b iha ihb =>
    intro hok
    have hok' := hok
    simp only [okR, Bool.and_eq_true] at hok'
    obtain ⟨ia, ca⟩ := iha hok'.1
    obtain ⟨ib, _⟩ := ihb hok'.2
    have hrc : isRow (rk2 op) := rk2_cases op
    have hrc' := rk2_cases op
    have hmax : ∀ o, nd0 (.bin op a b) ≤ o → nd a (rk2 op) ≤ o ∧ nd b (rk2 op + 1) ≤ o := fun o h => by
      have e : nd0 (.bin op a b) = max (nd a (rk2 op)) (nd b (rk2 op + 1)) := rfl
      omega
    have own : ∀ rest x r', StopsP (rk2 op + 1) rest → ∀ o, nd0 (.bin op a b) ≤ o → Rl (rk2 op) o (.bin op a b) rest x r' → Rd (rk2 op) o (tokR a (rk2 op) ++ tok2 op :: (tokR b (rk2 op + 1) ++ rest)) x r' := fun rest x r' hs o ho hl =>
      ca (rk2 op) hrc _ x r' (stopsP_tok2 _ op _ (by omega)) o (hmax o ho).1 (.on _ _ _ op _ _ _ _ _ rfl (ib (rk2 op + 1) (by omega) (by omega) rest hs o (hmax o ho).2) hl)
    have e : ∀ rest, tokR (.bin op a b) 1 ++ rest = tokR a (rk2 op) ++ tok2 op :: (tokR b (rk2 op + 1) ++ rest) := fun rest => by
      rw [tokR, decide_eq_false (by omega : ¬ rk2 op < 1)]
      simp [par]
    have h1 := main (.bin op a b) hok (fun w hw1 hwr rest hs o ho => by
      have hwr : w ≤ rk2 op := hwr
      rw [e]
      have hL := own rest (.bin op a b) rest (hs.up (by omega)) o ho (.stop _ _ _ _ fun t ht => hs t ht (rk2 op) hrc hwr)
      obtain ⟨t, u, htu⟩ := head_some a (rk2 op) (tok2 op :: (tokR b (rk2 op + 1) ++ rest))
      have hd : rk2 op = 4 ∨ rk2 op = 5 → t ≠ tok1 .inv := fun h => head_not a hok'.1 (rk2 op) (by omega) (tok2 op :: (tokR b (rk2 op + 1) ++ rest)) t (by rw [htu]; rfl)
      have hg : Good t := by
        cases hq : tokR a (rk2 op) with
        | nil => exact absurd hq (tokR_ne a _)
        | cons y l =>
          rw [hq] at htu
          have : y = t := (List.cons.inj htu).1
          exact good_tokR a hok'.1 (rk2 op) t (by rw [hq, this]; exact List.mem_cons_self ..)
      rw [htu] at hL ⊢
      exact rd_down (rk2 op - w) (rk2 op) w (by omega) hw1 (by omega) hL hs (fun _ h => pass_not t hg (hd (by omega))) (fun _ h => absurd h (by omega)))
    refine ⟨h1, fun m hm rest x r' hs o ho hl => ?_⟩
    by_cases hmr : rk2 op = m
    · subst hmr
      rw [nd, if_neg (show ¬ rkR (.bin op a b) < rk2 op from Nat.lt_irrefl _)] at ho
      rw [tokR_low (.bin op a b) (rk2 op) (Nat.le_refl _), e]
      exact own rest x r' hs o ho hl
    · exact other _ h1 m hm hmr rest x r' hs o ho hl
/-- what a right expression shows is read as it -/
theorem rd_all (r : RE) (h : okR r = true) (hd : deepR r ≤ 24) : Rd 1 48 (tokR r 1) r [] := by
  have := (rd_tok r h).1 1 (Nat.le_refl 1) (by omega) [] (fun t ht => by simp at ht) 48 (by
    rw [nd, if_neg (by have := rk_pos r; omega)]
    have := nd_le r
    omega)
  simpa using this
end Go.Proofs.YtaoeipbofhkkcaaGreatDoor
namespace Go.Proofs.YtaoeipbofhkkcaaGreatDoor
open Go.RowKit

mutual
def CellsP (P : Nat → Prop) (W : World) : Ex → Nat → Nat → Prop
  | .mk op n name sub, b, o => W.cell? ⟨b, o, none⟩ = some (.string ⟨op.toArray⟩) ∧ W.cell? ⟨b, o + 1, none⟩ = some (.int .u16 (n : Nat)) ∧ n ≤ 65535 ∧ W.cell? ⟨b, o + 2, none⟩ = some (.string ⟨name.toArray⟩) ∧
    ∃ b' o' sp c, W.cell? ⟨b, o + 3, none⟩ = some (.slice sp sub.length c) ∧ (0 < sub.length → sp = some ⟨b', o', none⟩ ∧ P b') ∧ ListP P W sub b' o'
def ListP (P : Nat → Prop) (W : World) : List Ex → Nat → Nat → Prop
  | [], _, _ => True
  | e :: l, b, o => CellsP P W e b o ∧ ListP P W l b (o + 4)
end
def ExP (P : Nat → Prop) (W : World) (v : Value) : Ex → Prop
  | .mk op n name sub => n ≤ 65535 ∧ ∃ b o sp c, v = .agg #[.string ⟨op.toArray⟩, .int .u16 (n : Nat), .string ⟨name.toArray⟩, .slice sp sub.length c] ∧ (0 < sub.length → sp = some ⟨b, o, none⟩ ∧ P b) ∧ ListP P W sub b o
/-- these blocks' cells stand -/
def Stand (P : Nat → Prop) (W W' : World) : Prop := ∀ (k : Nat), P k → ∀ (o : Nat) (u : Value), W.cell? ⟨k, o, none⟩ = some u → W'.cell? ⟨k, o, none⟩ = some u
mutual
theorem CellsP.keep {P Q : Nat → Prop} {W W' : World} (hs : Stand P W W') (hQ : ∀ k o u, P k → W.cell? ⟨k, o, none⟩ = some u → Q k) : ∀ (e : Ex) (b o : Nat), P b → CellsP P W e b o → CellsP Q W' e b o
  | .mk op n name sub, b, o, hb, h => by
    simp only [CellsP] at h ⊢
    obtain ⟨h1, h2, h3, h4, b', o', sp, c, h5, h6, h7⟩ := h
    refine ⟨hs b hb _ _ h1, hs b hb _ _ h2, h3, hs b hb _ _ h4, b', o', sp, c, hs b hb _ _ h5, fun hl => ⟨(h6 hl).1, ?_⟩, ListP.keep hs hQ sub b' o' (fun hl => (h6 hl).2) h7⟩
    cases sub with
    | nil => simp at hl
    | cons x l =>
      obtain ⟨xo, xn, xs, xl⟩ := x
      simp only [ListP, CellsP] at h7
      exact hQ b' _ _ (h6 hl).2 h7.1.1
theorem ListP.keep {P Q : Nat → Prop} {W W' : World} (hs : Stand P W W') (hQ : ∀ k o u, P k → W.cell? ⟨k, o, none⟩ = some u → Q k) : ∀ (l : List Ex) (b o : Nat), (0 < l.length → P b) → ListP P W l b o → ListP Q W' l b o
  | [], _, _, _, _ => by simp only [ListP]
  | e :: l, b, o, hb, h => by
    simp only [ListP] at h ⊢
    exact ⟨CellsP.keep hs hQ e b o (hb (by simp)) h.1, ListP.keep hs hQ l b (o + 4) (fun _ => hb (by simp)) h.2⟩
end
theorem ExP.keep {P Q : Nat → Prop} {W W' : World} (hs : Stand P W W') (hQ : ∀ k o u, P k → W.cell? ⟨k, o, none⟩ = some u → Q k) {v : Value} : ∀ {e : Ex}, ExP P W v e → ExP Q W' v e
  | .mk op n name sub, h => by
    obtain ⟨h0, b, o, sp, c, h1, h2, h3⟩ := h
    refine ⟨h0, b, o, sp, c, h1, fun hl => ⟨(h2 hl).1, ?_⟩, ListP.keep hs hQ sub b o (fun hl => (h2 hl).2) h3⟩
    cases sub with
    | nil => simp at hl
    | cons x l =>
      obtain ⟨xo, xn, xs, xl⟩ := x
      simp only [ListP, CellsP] at h3
      exact hQ b _ _ (h2 hl).2 h3.1.1
mutual
theorem CellsP.plain {P : Nat → Prop} {W : World} : ∀ (e : Ex) (b o : Nat), CellsP P W e b o → CellsAt W e b o
  | .mk op n name sub, b, o, h => by
    simp only [CellsP, CellsAt] at h ⊢
    obtain ⟨h1, h2, h3, h4, b', o', sp, c, h5, h6, h7⟩ := h
    exact ⟨h1, h2, h3, h4, b', o', sp, c, h5, fun hl => (h6 hl).1, ListP.plain sub b' o' h7⟩
theorem ListP.plain {P : Nat → Prop} {W : World} : ∀ (l : List Ex) (b o : Nat), ListP P W l b o → ListAt W l b o
  | [], _, _, _ => by simp only [ListAt]
  | e :: l, b, o, h => by
    simp only [ListP, ListAt] at h ⊢
    exact ⟨CellsP.plain e b o h.1, ListP.plain l b (o + 4) h.2⟩
end
theorem ExP.plain {P : Nat → Prop} {W : World} {v : Value} : ∀ {e : Ex}, ExP P W v e → ExV W v e
  | .mk op n name sub, h => by
    obtain ⟨h0, b, o, sp, c, h1, h2, h3⟩ := h
    exact ⟨h0, b, o, sp, c, h1, fun hl => (h2 hl).1, ListP.plain sub b o h3⟩
theorem ExP.cells {P : Nat → Prop} {W : World} {v0 v1 v2 v3 : Value} {e : Ex} {b o : Nat} (h : ExP P W (.agg #[v0, v1, v2, v3]) e) (h0 : W.cell? ⟨b, o, none⟩ = some v0) (h1 : W.cell? ⟨b, o + 1, none⟩ = some v1) (h2 : W.cell? ⟨b, o + 2, none⟩ = some v2) (h3 : W.cell? ⟨b, o + 3, none⟩ = some v3) : CellsP P W e b o := by
  obtain ⟨op, n, name, sub⟩ := e
  obtain ⟨hn, b', o', sp, c, hv, hsp, hl⟩ := h
  simp only [Value.agg.injEq, Array.mk.injEq, List.cons.injEq, and_true] at hv
  obtain ⟨rfl, rfl, rfl, rfl⟩ := hv
  simp only [CellsP]
  exact ⟨h0, h1, hn, h2, b', o', sp, c, h3, hsp, hl⟩
theorem Stand.of_heap {P : Nat → Prop} {W W' : World} (h : ∀ k, P k → ∀ o, W.heap[k]? = some o → W'.heap[k]? = some o) : Stand P W W' := fun k hk o u hc => by
  cases hh : W.heap[k]? with
  | none => simp [World.cell?, hh] at hc
  | some x =>
    rw [← hc]
    exact World.cell?_of_block (by rw [hh]; exact h k hk x hh)
theorem Stand.below {P : Nat → Prop} {W W' : World} (h : Below W.heap.size W W') : Stand P W W' := fun k _ o _ hc => (h.cell (World.block_lt_of_cell? W ⟨k, o, none⟩ hc)).trans hc
theorem Stand.trans {P : Nat → Prop} {W W' W'' : World} (h : Stand P W W') (h' : Stand P W' W'') : Stand P W W'' := fun k hk o u hc => h' k hk o u (h k hk o u hc)
theorem cell_lt {W : World} {k o : Nat} {u : Value} (h : W.cell? ⟨k, o, none⟩ = some u) : k < W.heap.size := World.block_lt_of_cell? W ⟨k, o, none⟩ h
end Go.Proofs.YtaoeipbofhkkcaaGreatDoor
namespace Go.Proofs.YtaoeipbofhkkcaaGreatDoor
open Go.RowKit Go.Proofs.NumMath

/-- all blocks but rb stand as they stood -/
abbrev Ap (rb : Nat) (w w' : World) : Prop := w.grownBy w' (some rb)
theorem Ap.refl (rb : Nat) (w : World) : Ap rb w w := ⟨rfl, rfl, rfl, Nat.le_refl _, fun _ _ _ => rfl⟩
theorem Ap.trans {rb : Nat} {a b c : World} (h : Ap rb a b) (k : Ap rb b c) : Ap rb a c :=
  ⟨k.os.trans h.os, k.tape.trans h.tape, k.output.trans h.output, Nat.le_trans h.size k.size, fun j hj hn => (k.block j (Nat.lt_of_lt_of_le hj h.size) hn).trans (h.block j hj hn)⟩
theorem Ap.of {rb : Nat} {w w' : World} (h : Below w.heap.size w w') : Ap rb w w' := ⟨h.os, h.tape, h.output, h.size, fun j hj _ => h.block j hj⟩
theorem Ap.set {rb : Nat} (w : World) (j : Nat) (u : Value) : Ap rb w (w.setCell ⟨rb, j, none⟩ u) :=
  ⟨rfl, rfl, rfl, by simp [World.setCell], fun _ _ hn => set_other j u (fun e => hn (by rw [e]))⟩
theorem Ap.heap {rb k : Nat} {w w' : World} {o : Obj} (h : Ap rb w w') (hk : k ≠ rb) (hh : w.heap[k]? = some o) : w'.heap[k]? = some o :=
  (h.block k (Array.getElem?_eq_some_iff.1 hh).1 (fun e => hk (Option.some.inj e))).trans hh
theorem Ap.below {rb B : Nat} {w w' : World} (h : Ap rb w w') (hB : B ≤ rb) (hw : B ≤ w.heap.size) : Below B w w' :=
  (Below.refl B w).grown h hw (fun k e => by cases e; exact hB)
theorem bdrew {B : Nat} {a w : World} (h : Below B a w) (n : Nat) : Below B a (w.drewN n) := ⟨h.os, h.tape, h.output, h.size, h.block⟩
/-- the reader -/
def RS (rb : Nat) (lv : Value) (i op : Nat) (w : World) : Prop := w.heap[rb]? = some (.cells #[lv, .int .i64 (i : Nat), .int .i64 (op : Nat)] 85 (0, 0))
theorem cells_three {W : World} {k : Nat} {u0 u1 u2 : Value} {t : TypeId} {fr : Nat × Nat} (h : W.heap[k]? = some (.cells #[u0, u1, u2] t fr)) :
    W.cell? ⟨k, 0, none⟩ = some u0 ∧ W.cell? ⟨k, 1, none⟩ = some u1 ∧ W.cell? ⟨k, 2, none⟩ = some u2 := by simp [World.cell?, h]
def tokV (t : Tok) : Value := .agg #[.int .i64 t.k, .string ⟨t.s.toArray⟩, .int .u16 (t.n : Nat)]
def noTok : Tok := ⟨0, [], 0⟩
theorem resT {fn : Func} {p k : Nat} {v0 v1 v2 : Value} {tmps : Array Value} {W : World} (h : fn.results = #[.cell p 68]) (hp : tmps.getD p undef = .pointer (some ⟨k, 0, none⟩))
    (k0 : W.cell? ⟨k, 0, none⟩ = some v0) (k1 : W.cell? ⟨k, 1, none⟩ = some v1) (k2 : W.cell? ⟨k, 2, none⟩ = some v2) : (results fn tmps).run Tryz.prog W = .ok (.agg #[v0, v1, v2]) W := by
  simp only [Array.getD_eq_getD_getElem?] at hp
  simp only [results, h]
  simp [hp, go_sem, k0, k1, k2]
theorem finT {fn : Func} {R : Ending → World → Prop} {p k : Nat} {v0 v1 v2 : Value} {t : TypeId} {a : Act} {W : World} (h : fn.results = #[.cell p 68]) (hp : a.tmps.getD p undef = .pointer (some ⟨k, 0, none⟩))
    (hb : W.heap[k]? = some (.cells #[v0, v1, v2] t (0, 0))) (hd : a.defers = []) (hR : R (.returned (.agg #[v0, v1, v2])) W) : bodyPost Tryz.prog fn R .ret a W :=
  have ⟨k0, k1, k2⟩ := cells_three hb
  bodyPost_ret (resT h hp k0 k1 k2) hd hR
set_option maxHeartbeats 1000000 in
theorem here_any (rb : Nat) (lv : Value) (L : List Tok) (i op : Nat) (w : World) (hT : TokR w lv L) (hi : i ≤ L.length) (hL : L.length < 140737488355328) (hR : RS rb lv i op w) :
    Calls Tryz.prog 104 #[.pointer (some ⟨rb, 0, none⟩)] w fun e w' => e = .returned (tokV (L[i]?.getD noTok)) ∧ Below w.heap.size w w' := by
  obtain ⟨b, o, sp, c, rfl, hsp, hc⟩ := hT
  obtain ⟨m, hm⟩ : ∃ m, L.length = m := ⟨_, rfl⟩
  rw [hm] at hsp hi hL hR
  have hbx := box_below w (Obj.cells #[Value.int .i64 0, Value.string ⟨#[]⟩, Value.int .u16 0] 68)
  have hbh := heap_alloc_new w (Obj.cells #[Value.int .i64 0, Value.string ⟨#[]⟩, Value.int .u16 0] 68)
  obtain ⟨r0, r1, r2⟩ := cells_three (below_heap hbx hR)
  have HX := Lib.hid hbx
  have HH := Lib.hid hbh
  by_cases hlt : i < m
  · obtain rfl := hsp (by omega)
    obtain ⟨t, ht⟩ : ∃ t, L[i]? = some t := ⟨_, List.getElem?_eq_getElem (by rw [hm]; exact hlt)⟩
    obtain ⟨t1, t2, t3⟩ := hc i t ht
    rw [ht, Option.getD_some]
    obtain ⟨tk, ts, tn⟩ := t
    have T1 := Lib.hid t1
    have T2 := Lib.hid t2
    have T3 := Lib.hid t3
    clear ht t1 t2 t3 hc hm hR r2 hbx hbh
    go_enter Tryz.func104, Tryz.ntmps104
    go_wp2
    generalize hw0 : w.alloc (Obj.cells #[Value.int .i64 0, Value.string ⟨#[]⟩, Value.int .u16 0] 68) = w0 at HX HH r0 r1 ⊢
    clear hw0
    go_quiet (fail)
    obtain ⟨q0, q1, q2⟩ := cells_three HH.out
    have f0 := Lib.frozen_of_heap HH.out 0
    have f1 := Lib.frozen_of_heap HH.out 1
    have f2 := Lib.frozen_of_heap HH.out 2
    have HG := Lib.hid (show (w0.drewN nq).heap[w.heap.size]? = _ from HH.out)
    have s1 := keep_bel HX.out _ _ T1.out
    have s2 := keep_bel HX.out _ _ T2.out
    have s3 := keep_bel HX.out _ _ T3.out
    go_wp2
    go_region
    go_wp2
    refine finT rfl rfl (set_heap (set_heap (set_heap (show (w0.drewN (nq + 1)).heap[w.heap.size]? = _ from HH.out) 0 _) 1 _) 2 _) rfl ?_
    exact ⟨rfl, (((bdrew HX.out _).setCell (p := ⟨w.heap.size, 0, none⟩) (Nat.le_refl _) _).setCell (p := ⟨w.heap.size, 1, none⟩) (Nat.le_refl _) _).setCell (p := ⟨w.heap.size, 2, none⟩) (Nat.le_refl _) _⟩
  · have hn : L[i]? = none := List.getElem?_eq_none (by omega)
    rw [hn]
    obtain rfl : i = m := by omega
    clear hc hm hR r2 hbx hbh
    go_enter Tryz.func104, Tryz.ntmps104
    go_wp2
    generalize hw0 : w.alloc (Obj.cells #[Value.int .i64 0, Value.string ⟨#[]⟩, Value.int .u16 0] 68) = w0 at HX HH r0 r1 ⊢
    clear hw0
    go_quiet (fail)
    obtain ⟨q0, q1, q2⟩ := cells_three HH.out
    have f0 := Lib.frozen_of_heap HH.out 0
    have f1 := Lib.frozen_of_heap HH.out 1
    have f2 := Lib.frozen_of_heap HH.out 2
    have HG := Lib.hid (show (w0.drewN nq).heap[w.heap.size]? = _ from HH.out)
    go_wp2
    refine finT rfl rfl (set_heap (set_heap (set_heap HG.out 0 _) 1 _) 2 _) rfl ?_
    exact ⟨rfl, (((bdrew HX.out _).setCell (p := ⟨w.heap.size, 0, none⟩) (Nat.le_refl _) _).setCell (p := ⟨w.heap.size, 1, none⟩) (Nat.le_refl _) _).setCell (p := ⟨w.heap.size, 2, none⟩) (Nat.le_refl _) _⟩
theorem set_cell_other {W : World} {k k' : Nat} (j j' : Nat) (v : Value) (h : k' ≠ k) : (W.setCell ⟨k, j, none⟩ v).cell? ⟨k', j', none⟩ = W.cell? ⟨k', j', none⟩ := World.cell?_of_block (set_other j v h)
/-- words in memory, as a variadic list -/
def WordsAt (w : World) (v : Value) (ops : List (List UInt8)) : Prop := ∃ b o c, v = .slice (some ⟨b, o, none⟩) ops.length c ∧ ∀ j s, ops[j]? = some s → w.cell? ⟨b, o + j, none⟩ = some (.string ⟨s.toArray⟩)
theorem contains_any (v : Value) (ops : List (List UInt8)) (s : List UInt8) (w : World) (h : WordsAt w v ops) (hl : ops.length ≤ 1000) :
    Calls Tryz.prog 105 #[v, .string ⟨s.toArray⟩] w fun e w' => e = .returned (.bool (decide (s ∈ ops))) ∧ w' = w := by
  obtain ⟨b, o, c, rfl, hc⟩ := h
  have := Tryz.slices_Contains_string b o ops.length c (ops.map fun s => ⟨s.toArray⟩) ⟨s.toArray⟩ w (by simp) (by omega) (fun j hj => by
    obtain ⟨x, hx⟩ : ∃ x, ops[j]? = some x := ⟨_, List.getElem?_eq_getElem (by simpa using hj)⟩
    rw [hc j x hx]
    simp [List.getD, hx])
  refine this.mono ?_
  rintro e w' ⟨rfl, rfl⟩
  refine ⟨?_, rfl⟩
  congr 2
  rw [List.take_of_length_le (by simp), Bool.eq_iff_iff, Lib.containsS_iff, decide_eq_true_iff]
  simp
theorem WordsAt.below {w w' : World} {v : Value} {ops : List (List UInt8)} (h : WordsAt w v ops) (hb : Below w.heap.size w w') : WordsAt w' v ops := by
  obtain ⟨b, o, c, h1, h2⟩ := h
  exact ⟨b, o, c, h1, fun j s hj => keep_bel hb _ _ (h2 j s hj)⟩
set_option maxHeartbeats 4000000 in
set_option maxRecDepth 100000 in
theorem pass_any (rb : Nat) (lv tv : Value) (L : List Tok) (ops : List (List UInt8)) (i op : Nat) (w : World) (hT : TokR w lv L) (hi : i ≤ L.length) (hL : L.length < 140737488355328) (hlen : ∀ t ∈ L, t.s.length < 140737488355328)
    (hR : RS rb lv i op w) (hW : WordsAt w tv ops) (hl : ops.length ≤ 1000) :
    Calls Tryz.prog 94 #[.pointer (some ⟨rb, 0, none⟩), tv] w fun e w' =>
      e = .returned (.string ⟨(if passB ops (L[i]?.getD noTok) = true then (L[i]?.getD noTok).s else []).toArray⟩) ∧ RS rb lv (if passB ops (L[i]?.getD noTok) = true then i + 1 else i) op w' ∧ Ap rb w w' := by
  have hh := here_any rb lv L i op w hT hi hL hR
  obtain ⟨t, ht⟩ : ∃ t, L[i]?.getD noTok = t := ⟨_, rfl⟩
  rw [ht] at hh ⊢
  have hsz : t.s.length < 140737488355328 := by
    rw [← ht]
    cases hx : L[i]? with
    | none => simp [noTok]
    | some x => exact hlen x (List.mem_of_getElem? hx)
  obtain ⟨tk, ts, tn⟩ := t
  have hN := name_any ⟨ts.toArray⟩ (by rw [bsize]; dsimp only at hsz; omega)
  dsimp only at hN hsz
  unfold tokV at hh
  dsimp only at hh
  have hC := fun w h => contains_any tv ops ts w h hl
  unfold passB
  obtain ⟨B, hBn⟩ : ∃ B, nameL ts = B := ⟨_, rfl⟩
  obtain ⟨D, hD⟩ : ∃ D, decide (ts ∈ ops) = D := ⟨_, rfl⟩
  obtain ⟨kd, hkd⟩ : ∃ kd : Int, (if B = true then (1 : Int) else 4) = kd := ⟨_, rfl⟩
  dsimp only
  rw [hBn] at hN ⊢
  rw [hD] at hC ⊢
  rw [hkd]
  have HW := Lib.hid hW
  have HR := Lib.hid hR
  have HC := Lib.hid hC
  have hw1 : IntKind.i64.wrap ((i : Int) + 1) = (i : Int) + 1 := IntWalk.i64_in _ (by omega)
  clear hW hR hT hlen ht hBn hD hC hi hL hsz
  by_cases hk : tk = kd
  · subst hk
    have hkk : (tk != tk) = false := by simp
    cases D
    · rw [if_neg (by simp), if_neg (by simp)]
      cases B
      · obtain rfl : tk = 4 := by simpa using hkd.symm
        clear hkd
        go_enter Tryz.func94, Tryz.ntmps94
        go_wp2_with (first
          | (go_at_call 104; refine hh.mono ?_; rintro e w1 ⟨rfl, hB1⟩)
          | (go_at_call 65; refine (hN _).mono ?_; rintro e w2 ⟨rfl, hB2⟩
             obtain ⟨c0, c1, c2⟩ := cells_three (below_heap hB2 (heap_alloc_new w1 _))
             have HZ := Lib.hid (hB1.trans (((box_below w1 (Obj.cells #[.int .i64 4, .string ⟨ts.toArray⟩, .int .u16 (tn : Nat)] 68)).trans (hB2.mono (box_below w1 _).size)).mono hB1.size)))
          | (go_at_call 105; refine (HC.out _ (HW.out.below HZ.out)).mono ?_; rintro e w3 ⟨rfl, rfl⟩))
        go_ret
        exact ⟨rfl, below_heap HZ.out HR.out, Ap.of HZ.out⟩
      · obtain rfl : tk = 1 := by simpa using hkd.symm
        clear hkd
        go_enter Tryz.func94, Tryz.ntmps94
        go_wp2_with (first
          | (go_at_call 104; refine hh.mono ?_; rintro e w1 ⟨rfl, hB1⟩)
          | (go_at_call 65; refine (hN _).mono ?_; rintro e w2 ⟨rfl, hB2⟩
             obtain ⟨c0, c1, c2⟩ := cells_three (below_heap hB2 (heap_alloc_new w1 _))
             have HZ := Lib.hid (hB1.trans (((box_below w1 (Obj.cells #[.int .i64 1, .string ⟨ts.toArray⟩, .int .u16 (tn : Nat)] 68)).trans (hB2.mono (box_below w1 _).size)).mono hB1.size)))
          | (go_at_call 105; refine (HC.out _ (HW.out.below HZ.out)).mono ?_; rintro e w3 ⟨rfl, rfl⟩))
        go_ret
        exact ⟨rfl, below_heap HZ.out HR.out, Ap.of HZ.out⟩
    · rw [if_pos (by simp), if_pos (by simp)]
      cases B
      · obtain rfl : tk = 4 := by simpa using hkd.symm
        clear hkd
        go_enter Tryz.func94, Tryz.ntmps94
        go_wp2_with (first
          | (go_at_call 104; refine hh.mono ?_; rintro e w1 ⟨rfl, hB1⟩)
          | (go_at_call 65; refine (hN _).mono ?_; rintro e w2 ⟨rfl, hB2⟩
             obtain ⟨c0, c1, c2⟩ := cells_three (below_heap hB2 (heap_alloc_new w1 _))
             have HZ := Lib.hid (hB1.trans (((box_below w1 (Obj.cells #[.int .i64 4, .string ⟨ts.toArray⟩, .int .u16 (tn : Nat)] 68)).trans (hB2.mono (box_below w1 _).size)).mono hB1.size))
             obtain ⟨d0, d1, d2⟩ := cells_three (below_heap HZ.out HR.out)
             have f1 := Lib.frozen_of_heap (below_heap HZ.out HR.out) 1
             have g1 : (w2.setCell ⟨rb, 1, none⟩ (.int .i64 ((i : Int) + 1))).cell? ⟨w1.heap.size, 1, none⟩ = some (.string ⟨ts.toArray⟩) := (set_cell_other 1 1 _ (by have := (Array.getElem?_eq_some_iff.1 HR.out).1; have := hB1.size; omega)).trans c1)
          | (go_at_call 105; refine (HC.out _ (HW.out.below HZ.out)).mono ?_; rintro e w3 ⟨rfl, rfl⟩))
        go_ret
        exact ⟨rfl, set_heap (below_heap HZ.out HR.out) 1 _, (Ap.of HZ.out).trans (Ap.set _ 1 _)⟩
      · obtain rfl : tk = 1 := by simpa using hkd.symm
        clear hkd
        go_enter Tryz.func94, Tryz.ntmps94
        go_wp2_with (first
          | (go_at_call 104; refine hh.mono ?_; rintro e w1 ⟨rfl, hB1⟩)
          | (go_at_call 65; refine (hN _).mono ?_; rintro e w2 ⟨rfl, hB2⟩
             obtain ⟨c0, c1, c2⟩ := cells_three (below_heap hB2 (heap_alloc_new w1 _))
             have HZ := Lib.hid (hB1.trans (((box_below w1 (Obj.cells #[.int .i64 1, .string ⟨ts.toArray⟩, .int .u16 (tn : Nat)] 68)).trans (hB2.mono (box_below w1 _).size)).mono hB1.size))
             obtain ⟨d0, d1, d2⟩ := cells_three (below_heap HZ.out HR.out)
             have f1 := Lib.frozen_of_heap (below_heap HZ.out HR.out) 1
             have g1 : (w2.setCell ⟨rb, 1, none⟩ (.int .i64 ((i : Int) + 1))).cell? ⟨w1.heap.size, 1, none⟩ = some (.string ⟨ts.toArray⟩) := (set_cell_other 1 1 _ (by have := (Array.getElem?_eq_some_iff.1 HR.out).1; have := hB1.size; omega)).trans c1)
          | (go_at_call 105; refine (HC.out _ (HW.out.below HZ.out)).mono ?_; rintro e w3 ⟨rfl, rfl⟩))
        go_ret
        exact ⟨rfl, set_heap (below_heap HZ.out HR.out) 1 _, (Ap.of HZ.out).trans (Ap.set _ 1 _)⟩
  · rw [if_neg (by simp [hk]), if_neg (by simp [hk])]
    have hkk : (tk != kd) = true := by rw [bne_iff_ne]; exact hk
    cases B
    · obtain rfl : kd = 4 := by simpa using hkd.symm
      clear hkd hk
      go_enter Tryz.func94, Tryz.ntmps94
      go_wp2_with (first
        | (go_at_call 104; refine hh.mono ?_; rintro e w1 ⟨rfl, hB1⟩)
        | (go_at_call 65; refine (hN _).mono ?_; rintro e w2 ⟨rfl, hB2⟩
           obtain ⟨c0, c1, c2⟩ := cells_three (below_heap hB2 (heap_alloc_new w1 _))
           have HZ := Lib.hid (hB1.trans (((box_below w1 (Obj.cells #[.int .i64 tk, .string ⟨ts.toArray⟩, .int .u16 (tn : Nat)] 68)).trans (hB2.mono (box_below w1 _).size)).mono hB1.size))))
      go_ret
      exact ⟨rfl, below_heap HZ.out HR.out, Ap.of HZ.out⟩
    · obtain rfl : kd = 1 := by simpa using hkd.symm
      clear hkd hk
      go_enter Tryz.func94, Tryz.ntmps94
      go_wp2_with (first
        | (go_at_call 104; refine hh.mono ?_; rintro e w1 ⟨rfl, hB1⟩)
        | (go_at_call 65; refine (hN _).mono ?_; rintro e w2 ⟨rfl, hB2⟩
           obtain ⟨c0, c1, c2⟩ := cells_three (below_heap hB2 (heap_alloc_new w1 _))
           have HZ := Lib.hid (hB1.trans (((box_below w1 (Obj.cells #[.int .i64 tk, .string ⟨ts.toArray⟩, .int .u16 (tn : Nat)] 68)).trans (hB2.mono (box_below w1 _).size)).mono hB1.size))))
      go_ret
      exact ⟨rfl, below_heap HZ.out HR.out, Ap.of HZ.out⟩
end Go.Proofs.YtaoeipbofhkkcaaGreatDoor
