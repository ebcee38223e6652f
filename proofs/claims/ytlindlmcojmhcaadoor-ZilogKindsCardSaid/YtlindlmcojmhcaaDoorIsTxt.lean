/- Rows of texts in memory: what can be read of one, and to append one text to a row that a call owns; no condition but that a row is short. -/
import Derived.Test.YtlindlmcojmhcaaDoorProg
import Derived.WalkKit
import Derived.WalkSpells
import Derived.WalkLawsBesides
import Derived.Handy
import Derived.Lib.Hide
import Derived.Lib.OthersKept
import Derived.Lib.SlBytesConst
import Derived.Below
import Derived.WalkSmall
import Derived.ArgAppend
import Derived.Laws.AppendOwn
import Derived.Laws.OwnMore
import Derived.Laws.IdiomStrings
import Derived.Laws.Concat
import Derived.Laws.StructEq
import Derived.Deep.AppendLies
import Derived.Deep.Cut
import Derived.BigQuiet
namespace Go.Proofs.YtlindlmcojmhcaaDoor
open Go.RowKit

def strV (s : List UInt8) : Value := .string ⟨s.toArray⟩
def strs (l : List (List UInt8)) : List Value := l.map strV
theorem strs_len (l : List (List UInt8)) : (strs l).length = l.length := by simp [strs]
theorem strs_snoc (l : List (List UInt8)) (x : List UInt8) : strs (l ++ [x]) = strs l ++ [strV x] := by simp [strs]
theorem strs_at {l : List (List UInt8)} {i : Nat} {x : List UInt8} (h : l[i]? = some x) : (strs l)[i]? = some (strV x) := by simp [strs, h]
theorem infoStr : (Tryd.prog.info? 9).map (fun i => (i.zero, i.size, i.bytes)) = some (some (.string ⟨#[]⟩), 1, 16) := by kernel_rfl

/-- what can be read of a row of texts -/
def TextR (w : World) (v : Value) (l : List (List UInt8)) : Prop := ∃ b o sp c, v = .slice sp l.length c ∧ l.length ≤ c ∧ (0 < l.length → sp = some ⟨b, o, none⟩) ∧
  ∀ i x, l[i]? = some x → w.cell? ⟨b, o + i, none⟩ = some (strV x)
theorem keep_below {W W' : World} (h : Below W.heap.size W W') : ∀ p u, W.cell? p = some u → W'.cell? p = some u := fun p _ hu => (h.cell (World.block_lt_of_cell? W p hu)).trans hu
theorem TextR.keep {w w' : World} {v : Value} {l : List (List UInt8)} (h : TextR w v l) (hk : ∀ p u, w.cell? p = some u → w'.cell? p = some u) : TextR w' v l := by
  obtain ⟨b, o, sp, c, h1, hc, h2, h3⟩ := h
  exact ⟨b, o, sp, c, h1, hc, h2, fun i x hx => hk _ _ (h3 i x hx)⟩
theorem TextR.below {w w' : World} {v : Value} {l : List (List UInt8)} (h : TextR w v l) (hb : Below w.heap.size w w') : TextR w' v l := h.keep (keep_below hb)
theorem cell_alloc {w : World} {p : Addr} {u : Value} (o : Obj) (h : w.cell? p = some u) : (w.alloc o).cell? p = some u := Lib.cell?_alloc_marked o h
theorem TextR.alloc {w : World} {v : Value} {l : List (List UInt8)} (h : TextR w v l) (o : Obj) : TextR (w.alloc o) v l := h.keep fun _ _ hu => cell_alloc o hu
theorem textR_nil (w : World) : TextR w (.slice none 0 0) [] := ⟨0, 0, none, 0, rfl, Nat.le_refl _, by simp, by simp⟩
theorem textR_tail {w : World} {v : Value} {x : List UInt8} {l : List (List UInt8)} (h : TextR w v (x :: l)) : ∃ b o c, v = .slice (some ⟨b, o, none⟩) (l.length + 1) c ∧ l.length + 1 ≤ c ∧ w.cell? ⟨b, o, none⟩ = some (strV x) ∧
    TextR w (.slice (if c = 1 then some ⟨b, o, none⟩ else some ⟨b, o + 1, none⟩) l.length (c - 1)) l := by
  obtain ⟨b, o, sp, c, rfl, hc, h2, h3⟩ := h
  obtain rfl := h2 (by simp)
  simp only [List.length_cons] at hc
  refine ⟨b, o, c, rfl, hc, by have := h3 0 x rfl; rwa [Nat.add_zero] at this, b, o + 1, _, _, rfl, by omega, fun h0 => by rw [if_neg (by omega)], fun i y hy => ?_⟩
  have := h3 (i + 1) y hy
  rwa [show o + (i + 1) = o + 1 + i by omega] at this
theorem own_slice {W : World} {B : Nat} {e : TypeId} {s : Nat} {v : Value} {n : Nat} {xs : List Value} (h : W.ownsRow B e s v n xs) : ∃ a c, v = .slice a n c := by
  rcases h.2 with ⟨rfl, hn⟩ | ⟨b, cap, cur, rfl, _⟩
  · exact ⟨none, 0, by rw [hn]⟩
  · exact ⟨_, _, rfl⟩
theorem own_old {W : World} {B : Nat} {e : TypeId} {s : Nat} {v : Value} {n : Nat} {xs : List Value} (h : W.ownsRow B e s v n xs) {g : Nat} (hg : g < B) : v.ownBlock ≠ some g := by
  rcases h.2 with ⟨rfl, _⟩ | ⟨b, cap, cur, rfl, hb, _⟩
  · intro e; cases e
  · intro e; injection e with e; have e' : b = g := e; omega
theorem own_below {w w' : World} {B e size n : Nat} {v : Value} {xs : List Value} (h : w.ownsRow B e size v n xs) (hb : Below w.heap.size w w') : w'.ownsRow B e size v n xs := by
  refine ⟨h.1, ?_⟩
  rcases h.2 with hn | ⟨g, cap, cur, rfl, hg, hgg, rest⟩
  · exact .inl hn
  · exact .inr ⟨g, cap, cur, rfl, hg, by rw [hb.block g (Array.getElem?_eq_some_iff.1 hgg).1]; exact hgg, rest⟩
theorem own_at {W : World} {B : Nat} {e : TypeId} {sz : Nat} {v : Value} {n : Nat} {xs : List Value} (h : W.ownsRow B e sz v n xs) : ∃ g sp c, v = .slice sp n c ∧ (0 < n → sp = some ⟨g, 0, none⟩) ∧ n ≤ c + 0 ∧ ∀ j u, xs[j]? = some u → W.cell? ⟨g, j, none⟩ = some u := by
  rcases h.2 with ⟨rfl, hn⟩ | ⟨g, cap, cur, rfl, hb, hc, h1, h2, h3, hx⟩
  · have hl := h.1
    rw [hn, Nat.zero_mul] at hl
    exact ⟨0, none, 0, by rw [hn], by omega, by omega, fun j u hj => by rw [List.eq_nil_of_length_eq_zero hl] at hj; simp at hj⟩
  · refine ⟨g, _, cap, rfl, fun _ => rfl, by omega, fun j u hj => ?_⟩
    have h4 : cur.toList[j]? = some u := by
      rw [← hx] at hj
      rw [List.getElem?_take] at hj
      split at hj
      · exact hj
      · cases hj
    rw [cell_of_row W g j cur e (0, 0) hc]
    simpa using h4
theorem textR_of_own {W : World} {B : Nat} {e : TypeId} {v : Value} {n : Nat} {l : List (List UInt8)} (h : W.ownsRow B e 1 v n (strs l)) (hn : l.length = n) : TextR W v l := by
  obtain ⟨g, sp, c, rfl, h1, hc, h2⟩ := own_at h
  subst hn
  refine ⟨g, 0, sp, c, rfl, by omega, h1, fun i x hi => ?_⟩
  rw [Nat.zero_add]
  exact h2 _ _ (strs_at hi)
theorem cell_new (w : World) (z : Value) (t : TypeId) : (w.alloc (.cells #[z] t)).cell? ⟨w.heap.size, 0, none⟩ = some z := by simp
/-- to append one text that lies in a block of its own -/
theorem wpList_append_str {w : World} {ops : Array Oper} {rest : List Oper} {o : Oper} {a : Act} {Q : Exit → Act → World → Prop} (hgd : o.guard = none) (s x : Operand)
    (ho : o.op = .call { callee := .builtin .append, args := #[s, x], argTypes := #[24, 24] })
    (base : Nat) (v : Value) (n : Nat) (l : List (List UInt8)) (hs : a.eval s = v) (hown : w.ownsRow base 9 1 v n (strs l)) (hln : n ≤ 1000000)
    (ad : Addr) (c : Nat) (y : List UInt8) (hx : a.eval x = .slice (some ad) 1 c) (hb : w.cell? ad = some (strV y)) (hbase : base ≤ w.heap.size)
    (h : ∀ v' w', w'.ownsRow base 9 1 v' (n + 1) (strs (l ++ [y])) → Below base w w' → wpList Tryd.prog ops Q rest (a.put o.dst v') w') : wpList Tryd.prog ops Q (o :: rest) a w := by
  obtain ⟨i, p1, p2, p3, p4⟩ := info_parts infoStr
  have hnews : ∀ j u', ([strV y] : List Value)[j]? = some u' → w.cell? (ad.add j) = some u' := fun j u' hj => by
    match j, hj with
    | 0, hj => simp at hj; subst hj; simpa [Addr.add] using hb
    | j + 1, hj => simp at hj
  refine wpList_append_own w hgd s x 24 ho base 9 i (.string ⟨#[]⟩) 1 16 Tryd.underlying24 p1 p2 p3 p4 rfl (by decide) v n (strs l) hs hown ad 1 c [strV y] hx rfl hnews (by simp [strV, Value.oneCell'])
    (by simp only [maxLen]; omega) (by omega) hbase ?_
  intro v' w' hown' hg _
  refine h v' w' (by rw [strs_snoc]; exact hown') ((Below.refl base w).grown hg hbase fun r er => ?_)
  rcases Nat.lt_or_ge r base with hr | hr
  · exact absurd er (own_old hown hr)
  · exact hr
theorem str_beq (a b : List UInt8) : ((⟨a.toArray⟩ : ByteArray).toList == (⟨b.toArray⟩ : ByteArray).toList) = decide (a = b) := by
  rw [← beq_toListBytes]
  show ((a.toArray : Array UInt8) == b.toArray) = _
  rw [Bool.eq_iff_iff, decide_eq_true_eq, beq_iff_eq]
  exact ⟨fun h => by have := congrArg Array.toList h; simpa using this, fun h => by rw [h]⟩

/-! ### the document's Words -/
def wordsA (out : List (List UInt8)) (w : List UInt8) : List UInt8 → List (List UInt8)
  | [] => if w = [] then out else out ++ [w]
  | c :: r => if c = 32 then wordsA (out ++ [w]) [] r else wordsA out (w ++ [c]) r
/-- the words of a text, with one space between -/
def wordsL (s : List UInt8) : List (List UInt8) := wordsA [] [] s
end Go.Proofs.YtlindlmcojmhcaaDoor
