/- The runs of rising bytes: they are all the bytes, with a gap between each two; without the program. -/
import Derived.Test.YtjodidkjpdjmoaaDoorMath
namespace Go.Proofs.YtjodidkjpdjmoaaDoor

theorem seg_sorted (g : Nat → Option Int) (lo : Nat) : ∀ n, (seg g lo n).Pairwise (fun x y => x.a < y.a)
  | 0 => List.Pairwise.nil
  | n + 1 => by
    rw [seg_succ, List.pairwise_append]
    refine ⟨seg_sorted g lo n, ?_, fun x hx y hy => ?_⟩
    · unfold entAt
      split
      · split
        · exact List.pairwise_singleton _ _
        · exact List.Pairwise.nil
      · exact List.Pairwise.nil
    · rw [mem_seg] at hx
      rw [mem_entAt] at hy
      omega
theorem lst_sorted (g : Nat → Option Int) : (lst g).Pairwise (fun x y => x.a < y.a) := seg_sorted g 0 65536

/-- All the bytes of runs, where they are. -/
def flat (rs : List Run) : List (Nat × Int) := rs.flatMap fun r => (List.range r.bs.length).map fun k => (r.p + k, r.bs.getD k 0)
theorem flat_append (a b : List Run) : flat (a ++ b) = flat a ++ flat b := by simp [flat]
theorem flat_one (r : Run) : flat [r] = (List.range r.bs.length).map fun k => (r.p + k, r.bs.getD k 0) := by simp [flat]
theorem flat_longer (p : Nat) (bs : List Int) (v : Int) : flat [⟨p, bs ++ [v]⟩] = flat [⟨p, bs⟩] ++ [(p + bs.length, v)] := by
  rw [flat_one, flat_one]
  simp only [List.length_append, List.length_singleton, List.range_succ, List.map_append, List.map_cons, List.map_nil]
  congr 1
  · apply List.map_congr_left
    intro k hk
    rw [List.mem_range] at hk
    simp [List.getD_eq_getElem?_getD, List.getElem?_append_left hk]
  · simp [List.getD_eq_getElem?_getD]

theorem flat_runs (l : List Ent) : flat (runsRev l).reverse = l.map fun x => (x.a, x.v) := by
  suffices h : ∀ l : List Ent, flat (runsRev l.reverse).reverse = l.reverse.map fun x => (x.a, x.v) by
    have := h l.reverse; simpa using this
  intro l
  induction l with
  | nil => rfl
  | cons x l ih =>
    rw [List.reverse_cons, runsRev_snoc, List.map_append, ← ih]
    cases hr : runsRev l.reverse with
    | nil => simp [stepR, flat]
    | cons r t =>
      by_cases e : r.p + r.bs.length = x.a
      · rw [stepR, if_pos e, List.reverse_cons, flat_append, flat_longer, List.reverse_cons, flat_append, List.append_assoc, e]
        rfl
      · rw [stepR, if_neg e, List.reverse_cons, flat_append]
        simp [flat]

/-- The i-th run. -/
def rn (rs : List Run) (i : Nat) : Run := rs.getD i ⟨0, []⟩
/-- How many bytes the first i runs have. -/
def off (rs : List Run) : Nat → Nat
  | 0 => 0
  | i + 1 => off rs i + (rn rs i).bs.length
theorem off_cons (r : Run) (rs : List Run) : ∀ i, off (r :: rs) (i + 1) = r.bs.length + off rs i
  | 0 => by simp [off, rn]
  | i + 1 => by
    rw [off, off_cons r rs i, off, Nat.add_assoc]
    rfl
theorem flat_get : ∀ (rs : List Run) (i k : Nat), i < rs.length → k < (rn rs i).bs.length → (flat rs)[off rs i + k]? = some ((rn rs i).p + k, (rn rs i).bs.getD k 0)
  | r :: rs, 0, k, _, hk => by
    have hk' : k < r.bs.length := hk
    rw [show r :: rs = [r] ++ rs by rfl, flat_append, flat_one]
    simp only [off, Nat.zero_add]
    rw [List.getElem?_append_left (by simpa using hk')]
    simp [hk', rn]
  | r :: rs, i + 1, k, hi, hk => by
    have hk' : k < (rn rs i).bs.length := hk
    rw [off_cons, show r :: rs = [r] ++ rs by rfl, flat_append, flat_one, List.getElem?_append_right (by simp; omega)]
    simp only [List.length_map, List.length_range]
    rw [show r.bs.length + off rs i + k - r.bs.length = off rs i + k by omega]
    exact flat_get rs i k (by simpa using hi) hk'
theorem flat_length : ∀ rs : List Run, (flat rs).length = off rs rs.length
  | [] => rfl
  | r :: rs => by
    rw [show r :: rs = [r] ++ rs by rfl, flat_append, flat_one, List.length_append, flat_length rs]
    simp only [List.length_map, List.length_range, List.singleton_append, List.length_cons]
    rw [off_cons]

/-- A gap between each two (the last run ahead). -/
def Gaps : List Run → Prop
  | r :: r' :: t => r'.p + r'.bs.length < r.p ∧ Gaps (r' :: t)
  | _ => True
theorem runs_gaps (l : List Ent) (h : l.Pairwise (fun x y => x.a < y.a)) : Gaps (runsRev l) ∧ ∀ r ∈ runsRev l, r.bs ≠ [] := by
  suffices hh : ∀ l : List Ent, l.reverse.Pairwise (fun x y => x.a < y.a) → Gaps (runsRev l.reverse) ∧ ∀ r ∈ runsRev l.reverse, r.bs ≠ [] by
    have := hh l.reverse (by simpa using h); simpa using this
  intro l
  induction l with
  | nil => intro _; exact ⟨trivial, fun r hr => by simp [runsRev] at hr⟩
  | cons x l ih =>
    intro hp
    rw [List.reverse_cons] at hp ⊢
    obtain ⟨hp1, _, hp2⟩ := List.pairwise_append.1 hp
    obtain ⟨ih1, ih2⟩ := ih hp1
    rw [runsRev_snoc]
    cases l with
    | nil => simp [runsRev, stepR, Gaps]
    | cons y l =>
      have hlt : y.a < x.a := hp2 y (by simp) x (by simp)
      rw [List.reverse_cons] at ih1 ih2 ⊢
      obtain ⟨r, t, hr, hend⟩ := runsRev_last l.reverse y
      rw [hr] at ih1 ih2 ⊢
      by_cases e : r.p + r.bs.length = x.a
      · rw [stepR, if_pos e]
        refine ⟨?_, fun r' hr' => ?_⟩
        · cases t with
          | nil => trivial
          | cons r2 t => exact ⟨ih1.1, ih1.2⟩
        · rcases List.mem_cons.1 hr' with rfl | hr'
          · simp
          · exact ih2 r' (List.mem_cons_of_mem _ hr')
      · rw [stepR, if_neg e]
        refine ⟨⟨(by show r.p + r.bs.length < x.a; omega), ih1⟩, fun r' hr' => ?_⟩
        rcases List.mem_cons.1 hr' with rfl | hr'
        · simp
        · exact ih2 r' hr'
theorem rn_append_left {a b : List Run} {i : Nat} (h : i < a.length) : rn (a ++ b) i = rn a i := by
  simp [rn, List.getD_eq_getElem?_getD, List.getElem?_append_left h]
theorem rn_append_last (a : List Run) (r : Run) : rn (a ++ [r]) a.length = r := by simp [rn, List.getD_eq_getElem?_getD]
theorem gaps_at : ∀ (rv : List Run) (i : Nat), Gaps rv → 0 < i → i < rv.length → (rn rv.reverse (i - 1)).p + (rn rv.reverse (i - 1)).bs.length < (rn rv.reverse i).p
  | [], i, _, _, h => by simp at h
  | [r], i, _, h0, h => by simp at h; omega
  | r :: r' :: t, i, hg, h0, h => by
    rw [List.reverse_cons]
    have hl : (r' :: t).reverse.length = t.length + 1 := by simp
    by_cases e : i = t.length + 1
    · subst e
      have e1 : rn ((r' :: t).reverse ++ [r]) (t.length + 1) = r := by rw [← hl]; exact rn_append_last _ _
      have e2 : rn ((r' :: t).reverse ++ [r]) (t.length + 1 - 1) = r' := by
        rw [rn_append_left (by rw [hl]; omega), List.reverse_cons, Nat.add_sub_cancel]
        have : t.length = t.reverse.length := by simp
        rw [this]; exact rn_append_last _ _
      rw [e1, e2]; exact hg.1
    · have hi : i < t.length + 1 := by simp at h; omega
      rw [rn_append_left (by rw [hl]; omega), rn_append_left (by rw [hl]; exact hi)]
      exact gaps_at (r' :: t) i hg.2 h0 (by simpa using hi)
/-- What a loop over the runs of sorted bytes finds. -/
theorem runs_found (l : List Ent) (h : l.Pairwise (fun x y => x.a < y.a)) (rs : List Run) (hrs : rs = (runsRev l).reverse) :
    (∀ i, i < rs.length → 0 < (rn rs i).bs.length) ∧ (∀ i, 0 < i → i < rs.length → (rn rs (i - 1)).p + (rn rs (i - 1)).bs.length < (rn rs i).p) ∧ off rs rs.length = l.length ∧
      ∀ i k, i < rs.length → k < (rn rs i).bs.length → ∃ x, l[off rs i + k]? = some x ∧ x.a = (rn rs i).p + k ∧ x.v = (rn rs i).bs.getD k 0 := by
  obtain ⟨hg, hn⟩ := runs_gaps l h
  have hf := flat_runs l
  rw [← hrs] at hf
  refine ⟨fun i hi => ?_, fun i h0 hi => ?_, ?_, fun i k hi hk => ?_⟩
  · have hm : rn rs i ∈ runsRev l := by
      have : rn rs i ∈ rs := by simp [rn, List.getD_eq_getElem?_getD, hi]
      exact List.mem_reverse.1 (hrs ▸ this)
    exact List.length_pos_iff.2 (hn _ hm)
  · rw [hrs]; exact gaps_at _ i hg h0 (by rw [hrs] at hi; simpa using hi)
  · rw [← flat_length, hf]; simp
  · have := flat_get rs i k hi hk
    rw [hf, List.getElem?_map] at this
    obtain ⟨x, hx, hxe⟩ := Option.map_eq_some_iff.1 this
    injection hxe with e1 e2
    exact ⟨x, hx, e1, e2⟩
theorem off_le (rs : List Run) : ∀ i j, i ≤ j → off rs i ≤ off rs j
  | i, 0, h => by rw [Nat.le_zero.1 h]; exact Nat.le_refl _
  | i, j + 1, h => by
    by_cases e : i = j + 1
    · rw [e]; exact Nat.le_refl _
    · have := off_le rs i j (by omega); rw [off]; omega
end Go.Proofs.YtjodidkjpdjmoaaDoor
