/- Parts of a line in memory: a row of rows of tokens, each in a block of its own; what it is to begin a part, and to lengthen the last one; no condition. -/
import Derived.Test.YtblbcdofiheikaaDoorToks
namespace Go.Proofs.YtblbcdofiheikaaDoor
open Go.RowKit Go.Proofs.NumMath

abbrev Part := List Tok × Value
def pcells : List Part → List Value
  | [] => []
  | x :: t => pcells t ++ [x.2]
theorem pcells_len : ∀ ps : List Part, (pcells ps).length = ps.length
  | [] => rfl
  | x :: t => by simp [pcells, pcells_len t]
/-- The slice v holds the parts, the last one ahead; each lies in a row of its own. -/
structure PartsAt (W : World) (B : Nat) (v : Value) (ps : List Part) : Prop where
  row : W.ownsRow B 23 1 v ps.length (pcells ps)
  toks : ∀ x ∈ ps, W.ownsRow B 42 3 x.2 x.1.length (toks x.1)
  apart : ps.Pairwise (fun x y => ∀ q, x.2.ownBlock = some q → y.2.ownBlock ≠ some q)
theorem own_tag {W : World} {B : Nat} {e : TypeId} {s : Nat} {v : Value} {n : Nat} {xs : List Value} (h : W.ownsRow B e s v n xs) {q : Nat} (hq : v.ownBlock = some q) : ∃ cur, W.heap[q]? = some (.cells cur e (0, 0)) := by
  rcases h.2 with ⟨rfl, _⟩ | ⟨g, cap, cur, rfl, _, hg, _⟩
  · simp [Value.ownBlock] at hq
  · simp [Value.ownBlock] at hq; subst hq; exact ⟨cur, hg⟩
theorem own_apart {W : World} {B B' : Nat} {e e' : TypeId} {s s' : Nat} {v v' : Value} {n n' : Nat} {xs xs' : List Value} (h : W.ownsRow B e s v n xs) (h' : W.ownsRow B' e' s' v' n' xs') (hne : e ≠ e') :
    v.ownBlock = none ∨ v.ownBlock ≠ v'.ownBlock := by
  cases hq : v.ownBlock with
  | none => exact .inl rfl
  | some q =>
    refine .inr fun e1 => ?_
    obtain ⟨c, h1⟩ := own_tag h hq
    obtain ⟨c', h2⟩ := own_tag h' e1.symm
    rw [h1] at h2
    simp at h2
    exact hne h2.2
theorem PartsAt.below {W W' : World} {B : Nat} {v : Value} {ps : List Part} (h : PartsAt W B v ps) (hb : Below W.heap.size W W') : PartsAt W' B v ps :=
  ⟨own_below h.row hb, fun x hx => own_below (h.toks x hx) hb, h.apart⟩
theorem PartsAt.nil (W : World) (B : Nat) : PartsAt W B (.slice none 0 0) [] := ⟨World.ownsRow_nil _ _ _ _, fun _ hx => (List.not_mem_nil hx).elim, List.Pairwise.nil⟩
theorem PartsAt.one (W : World) {B : Nat} (hB : B ≤ W.heap.size) : PartsAt (W.alloc (.cells #[.slice none 0 0] 23)) B (.slice (some ⟨W.heap.size, 0, none⟩) 1 1) [([], .slice none 0 0)] := by
  refine ⟨⟨rfl, .inr ⟨W.heap.size, 1, #[.slice none 0 0], rfl, hB, heap_alloc_new W _, Nat.le_refl _, by decide, rfl, rfl⟩⟩, fun x hx => ?_, List.pairwise_singleton _ _⟩
  obtain rfl : x = ([], .slice none 0 0) := by simpa using hx
  exact World.ownsRow_nil _ _ _ _
/-- A part begun. -/
theorem PartsAt.add {W W2 : World} {B : Nat} {v v' : Value} {ps : List Part} (h : PartsAt W B v ps)
    (hown : W2.ownsRow B 23 1 v' (ps.length + 1) (pcells ps ++ [.slice none 0 0])) (hg : W.grownBy W2 v.ownBlock) : PartsAt W2 B v' (([], .slice none 0 0) :: ps) := by
  refine ⟨hown, fun x hx => ?_, ?_⟩
  · rcases List.mem_cons.1 hx with rfl | hx
    · exact World.ownsRow_nil _ _ _ _
    · exact (h.toks x hx).kept hg (own_apart (h.toks x hx) h.row (by decide))
  · exact List.pairwise_cons.2 ⟨fun x _ q hq => by simp [Value.ownBlock] at hq, h.apart⟩
/-- The last part a token longer. -/
theorem PartsAt.longer {W W2 : World} {B g cap : Nat} {vb vb' : Value} {p : List Tok} {t : List Part} (h : PartsAt W B (.slice (some ⟨g, 0, none⟩) (t.length + 1) cap) ((p, vb) :: t)) {x : Tok}
    (hown : W2.ownsRow B 42 3 vb' (p.length + 1) (Go.Proofs.YtblbcdofiheikaaDoor.toks (p ++ [x]))) (hg : W.grownBy W2 vb.ownBlock) (hat : vb'.ownBlock = vb.ownBlock ∨ ∃ q, vb'.ownBlock = some q ∧ W.heap.size ≤ q) :
    PartsAt (W2.setCell ⟨g, t.length, none⟩ vb') B (.slice (some ⟨g, 0, none⟩) (t.length + 1) cap) ((p ++ [x], vb') :: t) := by
  have hb := h.toks (p, vb) (List.mem_cons_self ..)
  have hrow2 := h.row.kept hg (own_apart h.row hb (by decide))
  obtain ⟨hst, hgs⟩ := hrow2.stored t.length vb'
  have hset : (pcells ((p, vb) :: t)).set t.length vb' = pcells ((p ++ [x], vb') :: t) := by
    simp only [pcells]
    rw [List.set_append_right _ _ (by rw [pcells_len]; exact Nat.le_refl _), pcells_len, Nat.sub_self]
    rfl
  rw [hset] at hst
  have hap := List.pairwise_cons.1 h.apart
  refine ⟨hst, fun y hy => ?_, List.pairwise_cons.2 ⟨fun y hy q hq => ?_, hap.2⟩⟩
  · rcases List.mem_cons.1 hy with rfl | hy
    · have hown2 : W2.ownsRow B 42 3 vb' (p ++ [x]).length (Go.Proofs.YtblbcdofiheikaaDoor.toks (p ++ [x])) := by
        rw [List.length_append]; exact hown
      exact hown2.kept hgs (own_apart hown2 hrow2 (by decide))
    · have hy1 := h.toks y (List.mem_cons_of_mem _ hy)
      have hy2 := hy1.kept hg (by
        cases hq : y.2.ownBlock with
        | none => exact .inl rfl
        | some q => exact .inr fun e1 => hap.1 y hy q e1.symm hq)
      exact hy2.kept hgs (own_apart hy2 hrow2 (by decide))
  · rcases hat with h1 | ⟨q', h1, h2⟩
    · exact hap.1 y hy q (h1.symm.trans hq)
    · intro e1
      have := (h.toks y (List.mem_cons_of_mem _ hy)).lt q e1
      rw [h1] at hq; cases hq; omega
/-- The last part's cell. -/
theorem PartsAt.last {W : World} {B g cap : Nat} {p : List Tok} {vb : Value} {t : List Part} (h : PartsAt W B (.slice (some ⟨g, 0, none⟩) (t.length + 1) cap) ((p, vb) :: t)) :
    W.cell? ⟨g, t.length, none⟩ = some vb ∧ W.frozen? ⟨g, t.length, none⟩ = false := by
  have h1 := h.row.cellAt t.length (by simp)
  refine ⟨h1.trans ?_, h.row.frozenAt _⟩
  simp only [pcells]
  rw [List.getElem?_append_right (by rw [pcells_len]; exact Nat.le_refl _), pcells_len, Nat.sub_self]; rfl
/-- Each part's cell. -/
theorem pcells_at : ∀ (ps : List Part) (i : Nat) (y : Part), ps.reverse[i]? = some y → (pcells ps)[i]? = some y.2
  | [], i, y, h => by simp at h
  | x :: t, i, y, h => by
    rw [List.reverse_cons] at h
    unfold pcells
    by_cases hi : i < t.length
    · rw [List.getElem?_append_left (by simpa using hi)] at h
      rw [List.getElem?_append_left (by rw [pcells_len]; exact hi)]
      exact pcells_at t i y h
    · rw [List.getElem?_append_right (by simpa using hi)] at h
      rw [List.getElem?_append_right (by rw [pcells_len]; omega), pcells_len]
      rw [List.length_reverse] at h
      cases hj : i - t.length with
      | zero => rw [hj] at h; simp at h; rw [h]; rfl
      | succ j => rw [hj] at h; simp at h
theorem zero23 : (Tryd.prog.info? 23).map (fun i => (i.zero, i.size, i.bytes)) = some (some (.slice none 0 0), 1, 24) := by kernel_rfl

/-! ### the parts, one token at a time -/
theorem cut_start (mk : List UInt8) (l : List Tok) : cutG mk 0 l = ([] : List (List Tok)).reverse ++ glue [] (cutG mk 0 l) := by
  cases h : cutG mk 0 l with
  | nil => exact absurd h (cutG_ne _ _ _)
  | cons a b => rfl
theorem cut_end (mk : List UInt8) (d : Nat) (h : List Tok) (t : List (List Tok)) : t.reverse ++ glue h (cutG mk d []) = (h :: t).reverse := by
  simp [cutG, glue]
theorem cut_mark (mk : List UInt8) (d : Nat) (x : Tok) (l : List Tok) (h : List Tok) (t : List (List Tok)) (hx : isM mk x = true ∧ dAt d x = 0) :
    t.reverse ++ glue h (cutG mk d (x :: l)) = (h :: t).reverse ++ glue [] (cutG mk (dOn d x) l) := by
  rw [cutG_mark mk d x l hx]
  cases hc : cutG mk (dOn d x) l with
  | nil => exact absurd hc (cutG_ne _ _ _)
  | cons a b => simp [glue]
theorem cut_more (mk : List UInt8) (d : Nat) (x : Tok) (l : List Tok) (h : List Tok) (t : List (List Tok)) (hx : ¬ (isM mk x = true ∧ dAt d x = 0)) :
    t.reverse ++ glue h (cutG mk d (x :: l)) = t.reverse ++ glue (h ++ [x]) (cutG mk (dOn d x) l) := by
  rw [cutG_more mk d x l hx, glue_glue]
end Go.Proofs.YtblbcdofiheikaaDoor
