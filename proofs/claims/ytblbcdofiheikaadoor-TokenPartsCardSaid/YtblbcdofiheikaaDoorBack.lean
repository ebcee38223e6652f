/- What the law's Back and Own do when they are called: the same tokens in a row of their own; at most 1000000 tokens. -/
import Derived.Test.YtblbcdofiheikaaDoorToks
import Derived.BigQuiet
import Derived.Deep.RegionHeld3
import Derived.Deep.RegionLaw
namespace Go.Proofs.YtblbcdofiheikaaDoor
open Go.RowKit Go.Proofs.NumMath

theorem step_append_tok {w : World} {ops : Array Oper} {o : Oper} {a : Act} {K : Act → World → Prop} {Q : Exit → Act → World → Prop} {E : Prop} (hgd : o.guard = none) (s x : Operand) (t e : TypeId) (ht : Tryd.prog.underlying t = some (.slice e))
    (hi : (Tryd.prog.info? e).map (fun i => (i.zero, i.size, i.bytes)) = some (some (.agg #[.int .i64 0, .string ⟨#[]⟩, .int .u16 0]), 3, 32))
    (ho : o.op = .call { callee := .builtin .append, args := #[s, x], argTypes := #[t, t] })
    (base : Nat) (v : Value) (n : Nat) (l : List Tok) (hs : a.eval s = v) (hown : w.ownsRow base e 3 v n (toks l)) (hln : n ≤ 1000000)
    (k c : Nat) (y : Tok) (v0 v1 v2 : Value) (t' : TypeId) (fr : Nat × Nat) (hx : a.eval x = .slice (some ⟨k, 0, none⟩) 1 c) (hb : w.heap[k]? = some (.cells #[v0, v1, v2] t' fr)) (hy : [v0, v1, v2] = tcells y) (hbase : base ≤ w.heap.size) (H : Nat) (hH : w.heap.size = H)
    (h : ∀ g cap w', w'.ownsRow base e 3 (.slice (some ⟨g, 0, none⟩) (n + 1) cap) (n + 1) (toks (l ++ [y])) → Below base w w' → w.grownBy w' v.ownBlock → K (a.put o.dst (.slice (some ⟨g, 0, none⟩) (n + 1) cap)) w') : if Region.wanted o (yielded ops a.tmps) = true then Oper.wp Tryd.prog o a w K Q else E := by
  obtain ⟨i, p1, p2, p3, p4⟩ := info_parts hi
  refine step_append_lies w hgd s x t ho base e i (.agg #[.int .i64 0, .string ⟨#[]⟩, .int .u16 0]) 3 32 ht p1 p2 p3 p4 rfl (by decide) v n (toks l) hs hown ⟨k, 0, none⟩ 1 c [v0, v1, v2] hx rfl (three_at hb) (by rw [hy]; exact tcells_one y)
    (by omega) (by simp only [maxLen]; omega) (by omega) hbase H hH ?_
  intro g cap w' hown' hg _ _
  refine h g cap w' (by rw [toks_snoc, ← hy]; exact hown') ((Below.refl base w).grown hg hbase fun r er => ?_) hg
  rcases Nat.lt_or_ge r base with hr | hr
  · exact absurd er (own_old hown hr)
  · exact hr

theorem below_da {w wr w1 : World} {q : Nat} {o : Obj} (hB : Below w.heap.size w wr) (h1 : Below w.heap.size ((wr.drewN q).alloc o) w1) : Below w.heap.size w w1 :=
  (((below_step hB (below_drewNg wr q)).alloc (by have := hB.size; simpa using this) o)).trans h1
set_option maxRecDepth 100000 in
set_option maxHeartbeats 4000000 in
theorem back_any (v : Value) (l : List Tok) (w : World) (h : TokR w v l) (hl : l.length ≤ 1000000) : Calls Tryd.prog 12 #[v] w fun e w' =>
    ∃ v', e = .returned v' ∧ w'.ownsRow w.heap.size 41 3 v' l.length (toks l) ∧ Below w.heap.size w w' := by
  obtain ⟨b, o, s, c, rfl, hs, hc⟩ := h
  obtain ⟨n, hn⟩ : ∃ n, l.length = n := ⟨_, rfl⟩
  rw [hn] at hl hs ⊢
  have HN := Lib.hid hn
  have HC := Lib.hid hc
  clear hn hc
  go_enter Tryd.func12, Tryd.ntmps12
  go_wp2
  go_loopw [3, 4] (fun v i wr => ∃ k : Nat, k ≤ n ∧ i = .int .i64 k ∧ wr.ownsRow w.heap.size 41 3 v k (toks (l.take k)) ∧ Below w.heap.size w wr) (fun _ i _ => n - (intOf i).toNat)
  case atStart => exact ⟨0, by omega, rfl, World.ownsRow_nil _ _ _ _, Below.refl _ _⟩
  case round =>
    obtain ⟨k, hk, rfl, hown, hB⟩ := hrel
    have hbase := hB.size
    by_cases hlt : k < n
    · obtain rfl := hs (by omega)
      obtain ⟨sp, cp, rfl⟩ := own_slice hown
      obtain ⟨x, hx⟩ : ∃ x, l[k]? = some x := ⟨_, List.getElem?_eq_getElem (by rw [HN.out]; exact hlt)⟩
      obtain ⟨x1, x2, x3⟩ := HC.out k x hx
      have y1 := Lib.hid x1
      have y2 := Lib.hid x2
      have y3 := Lib.hid x3
      replace x1 := keep_below hB _ _ x1
      replace x2 := keep_below hB _ _ x2
      replace x3 := keep_below hB _ _ x3
      have HX := Lib.hid hx
      have hownd : ∀ q, (wr.drewN q).ownsRow w.heap.size 41 3 (.slice sp k cp) k (toks (l.take k)) := fun q => hown
      clear hx
      go_wp2
      go_region_held3 (fun w' => w'.cell? ⟨b, o + k * 3, none⟩ = some (.int .i64 x.k) ∧ w'.cell? ⟨b, o + k * 3 + 1, none⟩ = some (.string ⟨x.s.toArray⟩) ∧ w'.cell? ⟨b, o + k * 3 + 2, none⟩ = some (.int .u16 (x.n : Nat)))
        (first | go_keep | (exact ⟨s1, s2, s3⟩))
        ((refine step_append_tok (k := wr.heap.size) (c := 1) (y := x) (t' := 41) (fr := (0, 0)) rfl (.tmp 11) (.tmp 28) 27 41 Tryd.underlying27 zero41 rfl w.heap.size (.slice sp k cp) k (l.take k) rfl ((hownd _).alloc _) (by omega) _ _ _ rfl (at_new _ _) rfl (by simp; omega) (wr.heap.size + 1) (by simp) ?_; intro gg cap w1 hown1 hB1 hgrow1; have hBf := below_da hB hB1; have s1 := keep_below hBf _ _ y1.out; have s2 := keep_below hBf _ _ y2.out; have s3 := keep_below hBf _ _ y3.out))
      go_wp2
      refine ⟨⟨k + 1, by omega, by go_num, ?_, hBf⟩, by simp [intOf]; omega⟩
      rw [List.take_add_one, HX.out]
      exact hown1
    · obtain rfl : k = n := by omega
      go_wp2
      go_ret
      rw [List.take_of_length_le (by rw [HN.out]; exact Nat.le_refl _)] at hown
      exact ⟨_, rfl, hown, hB⟩
set_option maxRecDepth 100000 in
set_option maxHeartbeats 4000000 in
theorem own_any (v : Value) (l : List Tok) (w : World) (h : TokR w v l) (hl : l.length ≤ 1000000) : Calls Tryd.prog 16 #[v] w fun e w' =>
    ∃ v', e = .returned v' ∧ w'.ownsRow w.heap.size 42 3 v' l.length (toks l) ∧ Below w.heap.size w w' := by
  obtain ⟨b, o, s, c, rfl, hs, hc⟩ := h
  obtain ⟨n, hn⟩ : ∃ n, l.length = n := ⟨_, rfl⟩
  rw [hn] at hl hs ⊢
  have HN := Lib.hid hn
  have HC := Lib.hid hc
  clear hn hc
  go_enter Tryd.func16, Tryd.ntmps16
  go_wp2
  go_loopw [3, 4] (fun v i wr => ∃ k : Nat, k ≤ n ∧ i = .int .i64 k ∧ wr.ownsRow w.heap.size 42 3 v k (toks (l.take k)) ∧ Below w.heap.size w wr) (fun _ i _ => n - (intOf i).toNat)
  case atStart => exact ⟨0, by omega, rfl, World.ownsRow_nil _ _ _ _, Below.refl _ _⟩
  case round =>
    obtain ⟨k, hk, rfl, hown, hB⟩ := hrel
    have hbase := hB.size
    by_cases hlt : k < n
    · obtain rfl := hs (by omega)
      obtain ⟨sp, cp, rfl⟩ := own_slice hown
      obtain ⟨x, hx⟩ : ∃ x, l[k]? = some x := ⟨_, List.getElem?_eq_getElem (by rw [HN.out]; exact hlt)⟩
      obtain ⟨x1, x2, x3⟩ := HC.out k x hx
      have y1 := Lib.hid x1
      have y2 := Lib.hid x2
      have y3 := Lib.hid x3
      replace x1 := keep_below hB _ _ x1
      replace x2 := keep_below hB _ _ x2
      replace x3 := keep_below hB _ _ x3
      have HX := Lib.hid hx
      have hownd : ∀ q, (wr.drewN q).ownsRow w.heap.size 42 3 (.slice sp k cp) k (toks (l.take k)) := fun q => hown
      clear hx
      go_wp2
      go_region_held3 (fun w' => w'.cell? ⟨b, o + k * 3, none⟩ = some (.int .i64 x.k) ∧ w'.cell? ⟨b, o + k * 3 + 1, none⟩ = some (.string ⟨x.s.toArray⟩) ∧ w'.cell? ⟨b, o + k * 3 + 2, none⟩ = some (.int .u16 (x.n : Nat)))
        (first | go_keep | (exact ⟨s1, s2, s3⟩))
        ((refine step_append_tok (k := wr.heap.size) (c := 1) (y := x) (t' := 42) (fr := (0, 0)) rfl (.tmp 11) (.tmp 28) 23 42 Tryd.underlying23 zero42 rfl w.heap.size (.slice sp k cp) k (l.take k) rfl ((hownd _).alloc _) (by omega) _ _ _ rfl (at_new _ _) rfl (by simp; omega) (wr.heap.size + 1) (by simp) ?_; intro gg cap w1 hown1 hB1 hgrow1; have hBf := below_da hB hB1; have s1 := keep_below hBf _ _ y1.out; have s2 := keep_below hBf _ _ y2.out; have s3 := keep_below hBf _ _ y3.out))
      go_wp2
      refine ⟨⟨k + 1, by omega, by go_num, ?_, hBf⟩, by simp [intOf]; omega⟩
      rw [List.take_add_one, HX.out]
      exact hown1
    · obtain rfl : k = n := by omega
      go_wp2
      go_ret
      rw [List.take_of_length_le (by rw [HN.out]; exact Nat.le_refl _)] at hown
      exact ⟨_, rfl, hown, hB⟩
end Go.Proofs.YtblbcdofiheikaaDoor
