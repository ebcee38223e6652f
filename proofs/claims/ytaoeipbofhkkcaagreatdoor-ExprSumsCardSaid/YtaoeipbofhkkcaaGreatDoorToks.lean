/- Rows of tokens in memory: to append one token to a row that a call owns, and what can be read of a row; no condition but that a row is short. -/
import Derived.Test.YtaoeipbofhkkcaaGreatDoorTokRead
import Derived.Deep.AppendLies
namespace Go.Proofs.YtaoeipbofhkkcaaGreatDoor
open Go.RowKit Go.Proofs.NumMath

def tcells (x : Tok) : List Value := [.int .i64 x.k, .string ⟨x.s.toArray⟩, .int .u16 (x.n : Nat)]
def toks (l : List Tok) : List Value := l.flatMap tcells
theorem toks_len (l : List Tok) : (toks l).length = l.length * 3 := by
  induction l with
  | nil => rfl
  | cons x l ih => unfold toks at *; rw [List.flatMap_cons, List.length_append, ih]; simp [tcells]; omega
theorem toks_snoc (l : List Tok) (x : Tok) : toks (l ++ [x]) = toks l ++ tcells x := by simp [toks]
theorem toks_app (l m : List Tok) : toks (l ++ m) = toks l ++ toks m := by simp [toks]
theorem toks_at : ∀ (l : List Tok) (i : Nat) (x : Tok), l[i]? = some x → (toks l)[i * 3]? = some (.int .i64 x.k) ∧ (toks l)[i * 3 + 1]? = some (.string ⟨x.s.toArray⟩) ∧ (toks l)[i * 3 + 2]? = some (.int .u16 (x.n : Nat))
  | [], i, x, h => by simp at h
  | y :: l, 0, x, h => by
    obtain rfl : y = x := by simpa using h
    simp [toks, tcells]
  | y :: l, i + 1, x, h => by
    have h2 : l[i]? = some x := by simpa using h
    have ih := toks_at l i x h2
    unfold toks at ih ⊢
    rw [List.flatMap_cons]
    have e : ∀ j, (tcells y ++ l.flatMap tcells)[j + 3]? = (l.flatMap tcells)[j]? := fun j => by
      rw [List.getElem?_append_right (by simp [tcells])]; simp [tcells]
    rw [show (i + 1) * 3 = i * 3 + 3 by omega, show i * 3 + 3 + 1 = i * 3 + 1 + 3 by omega, show i * 3 + 3 + 2 = i * 3 + 2 + 3 by omega, e, e, e]
    exact ih
theorem tcells_one (x : Tok) : ∀ u ∈ tcells x, u.oneCell' = true := by simp [tcells, Value.oneCell']

theorem zero42 : (Tryz.prog.info? 68).map (fun i => (i.zero, i.size, i.bytes)) = some (some (.agg #[.int .i64 0, .string ⟨#[]⟩, .int .u16 0]), 3, 32) := by kernel_rfl
theorem own_slice {W : World} {B : Nat} {e : TypeId} {s : Nat} {v : Value} {n : Nat} {xs : List Value} (h : W.ownsRow B e s v n xs) : ∃ a c, v = .slice a n c := by
  rcases h.2 with ⟨rfl, hn⟩ | ⟨b, cap, cur, rfl, _⟩
  · exact ⟨none, 0, by rw [hn]⟩
  · exact ⟨_, _, rfl⟩
theorem own_old {W : World} {B : Nat} {e : TypeId} {s : Nat} {v : Value} {n : Nat} {xs : List Value} (h : W.ownsRow B e s v n xs) {g : Nat} (hg : g < B) : v.ownBlock ≠ some g := by
  rcases h.2 with ⟨rfl, _⟩ | ⟨b, cap, cur, rfl, hb, _⟩
  · intro e; cases e
  · intro e; injection e with e; have e' : b = g := e; omega
theorem own_below {w w' : World} {B e size n : Nat} {v : Value} {xs : List Value} (h : w.ownsRow B e size v n xs) (hb : Below w.heap.size w w') : w'.ownsRow B e size v n xs := by
  refine ⟨h.1, ?_⟩
  rcases h.2 with hn | ⟨g, cap, cur, rfl, hg, hgg, rest⟩
  · exact .inl hn
  · exact .inr ⟨g, cap, cur, rfl, hg, by rw [hb.block g (Array.getElem?_eq_some_iff.1 hgg).1]; exact hgg, rest⟩
theorem three_at {w : World} {k : Nat} {v0 v1 v2 : Value} {t : TypeId} {fr : Nat × Nat} (hb : w.heap[k]? = some (.cells #[v0, v1, v2] t fr)) : ∀ j u, [v0, v1, v2][j]? = some u → w.cell? ((⟨k, 0, none⟩ : Addr).add j) = some u :=
  World.news_of_block hb

theorem at_new2 (w : World) (o1 o2 : Obj) : ((w.alloc o1).alloc o2).heap[w.heap.size + 1]? = some o2 := by
  have := at_new (w.alloc o1) o2
  rwa [show (w.alloc o1).heap.size = w.heap.size + 1 by simp] at this
/-- to append one token that lies in a block of its own -/
theorem wpList_append_tok {w : World} {ops : Array Oper} {rest : List Oper} {o : Oper} {a : Act} {Q : Exit → Act → World → Prop} (hgd : o.guard = none) (s x : Operand) (t e : TypeId) (ht : Tryz.prog.underlying t = some (.slice e))
    (hi : (Tryz.prog.info? e).map (fun i => (i.zero, i.size, i.bytes)) = some (some (.agg #[.int .i64 0, .string ⟨#[]⟩, .int .u16 0]), 3, 32))
    (ho : o.op = .call { callee := .builtin .append, args := #[s, x], argTypes := #[t, t] })
    (base : Nat) (v : Value) (n : Nat) (l : List Tok) (hs : a.eval s = v) (hown : w.ownsRow base e 3 v n (toks l)) (hln : n ≤ 1000000)
    (k c : Nat) (y : Tok) (v0 v1 v2 : Value) (t' : TypeId) (fr : Nat × Nat) (hx : a.eval x = .slice (some ⟨k, 0, none⟩) 1 c) (hb : w.heap[k]? = some (.cells #[v0, v1, v2] t' fr)) (hy : [v0, v1, v2] = tcells y) (hbase : base ≤ w.heap.size)
    (h : ∀ v' w', w'.ownsRow base e 3 v' (n + 1) (toks (l ++ [y])) → Below base w w' → w.grownBy w' v.ownBlock → wpList Tryz.prog ops Q rest (a.put o.dst v') w') : wpList Tryz.prog ops Q (o :: rest) a w := by
  obtain ⟨i, p1, p2, p3, p4⟩ := info_parts hi
  refine wpList_append_own w hgd s x t ho base e i (.agg #[.int .i64 0, .string ⟨#[]⟩, .int .u16 0]) 3 32 ht p1 p2 p3 p4 rfl (by decide) v n (toks l) hs hown ⟨k, 0, none⟩ 1 c [v0, v1, v2] hx rfl (three_at hb) (by rw [hy]; exact tcells_one y)
    (by simp only [maxLen]; omega) (by omega) hbase ?_
  intro v' w' hown' hg _
  refine h v' w' (by rw [toks_snoc, ← hy]; exact hown') ((Below.refl base w).grown hg hbase fun r er => ?_) hg
  rcases Nat.lt_or_ge r base with hr | hr
  · exact absurd er (own_old hown hr)
  · exact hr

/-- what can be read of a row of tokens -/
def TokR (w : World) (v : Value) (l : List Tok) : Prop := ∃ b o sp c, v = .slice sp l.length c ∧ (0 < l.length → sp = some ⟨b, o, none⟩) ∧
  ∀ i x, l[i]? = some x → w.cell? ⟨b, o + i * 3, none⟩ = some (.int .i64 x.k) ∧ w.cell? ⟨b, o + i * 3 + 1, none⟩ = some (.string ⟨x.s.toArray⟩) ∧ w.cell? ⟨b, o + i * 3 + 2, none⟩ = some (.int .u16 (x.n : Nat))
theorem keep_below {W W' : World} (h : Below W.heap.size W W') : ∀ p u, W.cell? p = some u → W'.cell? p = some u := fun p _ hu => (h.cell (World.block_lt_of_cell? W p hu)).trans hu
theorem TokR.keep {w w' : World} {v : Value} {l : List Tok} (h : TokR w v l) (hk : ∀ p u, w.cell? p = some u → w'.cell? p = some u) : TokR w' v l := by
  obtain ⟨b, o, sp, c, h1, h2, h3⟩ := h
  exact ⟨b, o, sp, c, h1, h2, fun i x hx => ⟨hk _ _ (h3 i x hx).1, hk _ _ (h3 i x hx).2.1, hk _ _ (h3 i x hx).2.2⟩⟩
theorem TokR.below {w w' : World} {v : Value} {l : List Tok} (h : TokR w v l) (hb : Below w.heap.size w w') : TokR w' v l := h.keep (keep_below hb)
theorem own_at {W : World} {B : Nat} {e : TypeId} {sz : Nat} {v : Value} {n : Nat} {xs : List Value} (h : W.ownsRow B e sz v n xs) : ∃ g sp c, v = .slice sp n c ∧ (0 < n → sp = some ⟨g, 0, none⟩) ∧ n ≤ c + 0 ∧ ∀ j u, xs[j]? = some u → W.cell? ⟨g, j, none⟩ = some u := by
  rcases h.2 with ⟨rfl, hn⟩ | ⟨g, cap, cur, rfl, hb, hc, h1, h2, h3, hx⟩
  · have hl := h.1
    rw [hn, Nat.zero_mul] at hl
    exact ⟨0, none, 0, by rw [hn], by omega, by omega, fun j u hj => by rw [List.eq_nil_of_length_eq_zero hl] at hj; simp at hj⟩
  · refine ⟨g, _, cap, rfl, fun _ => rfl, by omega, fun j u hj => ?_⟩
    have h4 : cur.toList[j]? = some u := by
      rw [← hx] at hj
      rw [List.getElem?_take] at hj
      split at hj
      · exact hj
      · cases hj
    rw [cell_of_row W g j cur e (0, 0) hc]
    simpa using h4
theorem tokR_of_own {W : World} {B : Nat} {e : TypeId} {v : Value} {n : Nat} {l : List Tok} (h : W.ownsRow B e 3 v n (toks l)) (hn : l.length = n) : TokR W v l := by
  obtain ⟨g, sp, c, rfl, h1, _, h2⟩ := own_at h
  subst hn
  refine ⟨g, 0, sp, c, rfl, h1, fun i x hi => ?_⟩
  obtain ⟨t1, t2, t3⟩ := toks_at l i x hi
  rw [Nat.zero_add]
  exact ⟨h2 _ _ t1, h2 _ _ t2, h2 _ _ t3⟩
end Go.Proofs.YtaoeipbofhkkcaaGreatDoor
