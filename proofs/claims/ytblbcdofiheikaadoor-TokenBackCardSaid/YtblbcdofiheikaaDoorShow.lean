/- What Show of token does when it is called with a line's tokens: their texts with a space between each two; the library's longest text is set and its table of bits laid. -/
import Derived.Test.YtblbcdofiheikaaDoorKindsWalk
import Derived.Test.YtblbcdofiheikaaDoorNumShow
import Derived.OwnWalk
namespace Go.Proofs.YtblbcdofiheikaaDoor
open Go.RowKit Go.Proofs.NumMath

set_option maxHeartbeats 1000000 in
theorem show1_any (x : Tok) (hx : Good x) (hs : x.s.length ≤ 200) (m : Int) (w : World) (hm : MaxAt w m) (hT : Tab16 w) : Calls Tryd.prog 24 #[.agg #[.int .i64 x.k, .string ⟨x.s.toArray⟩, .int .u16 (x.n : Nat)]] w fun e w' =>
    e = .returned (.string ⟨(showTok x).toArray⟩) ∧ Below w.heap.size w w' := by
  obtain ⟨xk, xs, xn⟩ := x
  simp only at hs
  have hmw : ∀ o, MaxAt (w.alloc o) m := fun o => hm.below ((Below.refl _ _).alloc (Nat.le_refl _) _)
  have hTw : ∀ o, Tab16 (w.alloc o) := fun o => hT.below ((Below.refl _ _).alloc (Nat.le_refl _) _)
  rcases hx with ⟨g1, g2, g3, g4⟩ | ⟨g1, g2, g3⟩ | ⟨g1, g2, g3⟩ | ⟨g1, g2, c4, g3, g4⟩
  · simp only at g1 g2
    subst g1; subst g2
    rw [show showTok ⟨1, xs, 0⟩ = xs from rfl]
    obtain ⟨T, hT2⟩ : ∃ T : ByteArray, (⟨xs.toArray⟩ : ByteArray) = T := ⟨_, rfl⟩
    simp only [hT2]
    clear hT2 g3 g4
    go_enter Tryd.func24, Tryd.ntmps24
    go_wp2
    go_ret
    exact ⟨rfl, (Below.refl _ _).alloc (Nat.le_refl _) _⟩
  · simp only at g1 g2 g3
    subst g1; subst g2
    rw [show showTok ⟨2, [], xn⟩ = showL xn from rfl]
    have hS := fun W h => show_any xn g3 W h
    go_enter Tryd.func24, Tryd.ntmps24
    go_wp2_with (go_at_call 50; refine (hS _ (hTw _)).mono ?_; rintro e w2 ⟨rfl, hb2⟩)
    go_ret
    exact ⟨rfl, below_new _ hb2⟩
  · simp only at g1 g2 g3
    subst g1; subst g2
    rw [show showTok ⟨3, xs, 0⟩ = quoteL xs from rfl]
    have hq1 := fun W h => quo_any ⟨xs.toArray⟩ (by rw [size_mk]; omega) m W h
    rw [show (⟨xs.toArray⟩ : ByteArray).data.toList = xs from rfl] at hq1
    obtain ⟨T, hT2⟩ : ∃ T : ByteArray, (⟨xs.toArray⟩ : ByteArray) = T := ⟨_, rfl⟩
    rw [hT2] at hq1
    simp only [hT2]
    clear hT2 g3
    go_enter Tryd.func24, Tryd.ntmps24
    go_wp2_with (go_at_call 20; refine (hq1 _ (hmw _)).mono ?_; rintro e w2 ⟨rfl, hb2⟩)
    go_ret
    exact ⟨rfl, below_new _ hb2⟩
  · simp only at g1 g2
    subst g1; subst g2
    rw [show showTok ⟨4, xs, 0⟩ = xs from rfl]
    obtain ⟨T, hT2⟩ : ∃ T : ByteArray, (⟨xs.toArray⟩ : ByteArray) = T := ⟨_, rfl⟩
    simp only [hT2]
    clear hT2 g3 g4
    go_enter Tryd.func24, Tryd.ntmps24
    go_wp2
    go_ret
    exact ⟨rfl, (Below.refl _ _).alloc (Nat.le_refl _) _⟩

/-! ### rows of texts -/
theorem zero9 : (Tryd.prog.info? 9).map (fun i => (i.zero, i.size, i.bytes)) = some (some (.string ⟨#[]⟩), 1, 16) := by kernel_rfl
theorem one_at {w : World} {k : Nat} {v0 : Value} {t : TypeId} {fr : Nat × Nat} (hb : w.heap[k]? = some (.cells #[v0] t fr)) : ∀ j u, [v0][j]? = some u → w.cell? ((⟨k, 0, none⟩ : Addr).add j) = some u :=
  World.news_of_block hb
theorem wpList_append_str1 {w : World} {ops : Array Oper} {rest : List Oper} {o : Oper} {a : Act} {Q : Exit → Act → World → Prop} (hgd : o.guard = none) (s x : Operand)
    (ho : o.op = .call { callee := .builtin .append, args := #[s, x], argTypes := #[51, 51] })
    (base : Nat) (v : Value) (n : Nat) (l : List ByteArray) (hs : a.eval s = v) (hown : w.ownsRow base 9 1 v n (l.map Value.string)) (hln : n ≤ 1000000)
    (k c : Nat) (y : ByteArray) (t' : TypeId) (fr : Nat × Nat) (hx : a.eval x = .slice (some ⟨k, 0, none⟩) 1 c) (hb : w.heap[k]? = some (.cells #[.string y] t' fr)) (hbase : base ≤ w.heap.size)
    (h : ∀ v' w', w'.ownsRow base 9 1 v' (n + 1) ((l ++ [y]).map Value.string) → Below base w w' → w.grownBy w' v.ownBlock → wpList Tryd.prog ops Q rest (a.put o.dst v') w') : wpList Tryd.prog ops Q (o :: rest) a w := by
  obtain ⟨i, p1, p2, p3, p4⟩ := info_parts zero9
  refine wpList_append_own w hgd s x 51 ho base 9 i (.string ⟨#[]⟩) 1 16 Tryd.underlying51 p1 p2 p3 p4 rfl (by decide) v n _ hs hown ⟨k, 0, none⟩ 1 c [.string y] hx rfl (one_at hb) (by simp [Value.oneCell'])
    (by simp only [maxLen]; omega) (by omega) hbase ?_
  intro v' w' hown' hg _
  refine h v' w' (by rw [List.map_append]; exact hown') ((Below.refl base w).grown hg hbase fun r er => ?_) hg
  rcases Nat.lt_or_ge r base with hr | hr
  · exact absurd er (own_old hown hr)
  · exact hr
def shown (l : List Tok) : List ByteArray := l.map fun x => ⟨(showTok x).toArray⟩
theorem shown_data (l : List Tok) : (shown l).map (fun z : ByteArray => z.data.toList) = l.map showTok := by simp [shown, List.map_map, Function.comp_def]
theorem join_show : ∀ l : List Tok, Lib.join (l.map showTok) [32] = showT l
  | [] => rfl
  | [x] => by show Lib.join [showTok x] [32] = _; rw [Lib.join_one]; rfl
  | x :: y :: l => by
    have ih := join_show (y :: l)
    rw [showT, ← ih]
    rw [List.map_cons, List.map_cons, Lib.join_cons, Lib.join_cons]
    simp [Lib.joinTail]
theorem digits_len (g : Bool) (b : Nat) (h2 : 2 ≤ b) : ∀ (k n : Nat), n ≤ k → (digits g b n).length ≤ n + 1
  | k, n, hk => by
    by_cases h : n < b
    · rw [digits_lt g b n h]; simp
    · rw [digits_ge g b n h2 (by omega), List.length_append]
      match k with
      | 0 => omega
      | k + 1 =>
        have h3 : n / b ≤ n / 2 := Nat.div_le_div_left h2 (by omega)
        have := digits_len g b h2 k (n / b) (by omega)
        simp only [List.length_singleton]
        omega
theorem showTok_len (x : Tok) (hx : Good x) (hs : x.s.length ≤ 200) : (showTok x).length ≤ 66000 := by
  unfold showTok
  rcases hx with ⟨g1, _⟩ | ⟨g1, _, g3⟩ | ⟨g1, _⟩ | ⟨g1, _⟩
  · rw [g1]; simp; omega
  · rw [g1, if_pos rfl]
    have := digits_len true 16 (by omega) x.n x.n (Nat.le_refl _)
    unfold showL hexL
    repeat' split
    all_goals simp; try omega
  · rw [g1]
    have := quoL_len x.s
    simp [quoteL]; omega
  · rw [g1]; simp; omega
theorem showT_len : ∀ l : List Tok, (∀ x ∈ l, Good x ∧ x.s.length ≤ 200) → (showT l).length ≤ l.length * 66001
  | [], _ => by simp [showT]
  | [x], h => by have := showTok_len x (h x (by simp)).1 (h x (by simp)).2; simp [showT]; omega
  | x :: y :: l, h => by
    have h1 := showTok_len x (h x (by simp)).1 (h x (by simp)).2
    have h2 := showT_len (y :: l) (fun z hz => h z (by simp [hz]))
    rw [showT, List.length_append, List.length_cons]
    simp only [List.length_cons] at h2 ⊢
    omega

set_option maxRecDepth 100000 in
set_option maxHeartbeats 4000000 in
theorem tshow_any (v : Value) (L : List Tok) (hgood : ∀ x ∈ L, Good x ∧ x.s.length ≤ 200) (hl : L.length ≤ 200) (m : Int) (w : World) (h : TokR w v L) (hm : MaxAt w m) (hT : Tab16 w) : Calls Tryd.prog 13 #[v] w fun e w' =>
    e = .returned (.string ⟨(showT L).toArray⟩) ∧ Below w.heap.size w w' := by
  obtain ⟨i9, p1, p2, p3, p4⟩ := info_parts zero9
  have hlen := showT_len L hgood
  obtain ⟨b, o, sp, c, rfl, hsp, hc⟩ := h
  obtain ⟨n, hn⟩ : ∃ n, L.length = n := ⟨_, rfl⟩
  rw [hn] at hl hsp hlen ⊢
  have HN := Lib.hid hn
  have HC := Lib.hid hc
  have HG := Lib.hid hgood
  clear hn hc hgood
  go_enter Tryd.func13, Tryd.ntmps13
  go_wp2_with (at_make; refine wpList_make_own _ rfl _ _ 51 rfl w.heap.size 9 i9 (.string ⟨#[]⟩) 1 Tryd.underlying51 p1 p2 p3 .i64 .i64 _ n rfl rfl rfl (by rw [p4]; omega) (by simp only [maxLen]; omega) (Nat.le_refl _) ?_; intro w1 hown1 hg1)
  have hB1 : Below w.heap.size w w1 := (Below.refl _ w).grown hg1 (Nat.le_refl _) (fun _ e => by cases e)
  go_loopw [3, 11] (fun v i wr => ∃ k : Nat, k ≤ n ∧ i = .int .i64 k ∧ wr.ownsRow w.heap.size 9 1 v k ((shown (L.take k)).map Value.string) ∧ Below w.heap.size w wr) (fun _ i _ => n - (intOf i).toNat)
  case atStart => exact ⟨0, by omega, rfl, hown1, hB1⟩
  case round =>
    obtain ⟨k, hk, rfl, hown, hB⟩ := hrel
    have hbase := hB.size
    obtain ⟨sq, cq, rfl⟩ := own_slice hown
    by_cases hlt : k < n
    · obtain rfl := hsp (by omega)
      obtain ⟨x, hx⟩ : ∃ x, L[k]? = some x := ⟨_, List.getElem?_eq_getElem (by rw [HN.out]; exact hlt)⟩
      obtain ⟨x1, x2, x3⟩ := HC.out k x hx
      obtain ⟨hgx, hsx⟩ := HG.out x (List.mem_of_getElem? hx)
      replace x1 := keep_below hB _ _ x1
      replace x2 := keep_below hB _ _ x2
      replace x3 := keep_below hB _ _ x3
      have HX := Lib.hid hx
      clear hx
      have hBa := hB.alloc hbase (.cells #[.int .i64 x.k, .string ⟨x.s.toArray⟩, .int .u16 (x.n : Nat)] 42)
      have hS := show1_any x hgx hsx m _ (hm.below hBa) (hT.below hBa)
      have HGx := Lib.hid hgx
      clear hgx
      go_wp2_with (first
        | (go_at_call 24; refine hS.mono ?_; rintro e w2 ⟨rfl, hb2⟩; have hown2 := own_below (hown.alloc _) hb2; have hB2 := below_step hBa hb2; have hsz2 := hB2.size)
        | (at_builtin; refine wpList_append_str1 (k := w2.heap.size) (c := 1) (y := ⟨(showTok x).toArray⟩) (t' := 9) (fr := (0, 0)) rfl (.tmp 15) (.tmp 18) rfl w.heap.size (.slice sq k cq) k (shown (L.take k)) rfl (hown2.alloc _) (by omega) rfl (at_new w2 _) (by simp; omega) ?_; intro v3 w3 hown3 hB3 _))
      refine ⟨⟨k + 1, by omega, by go_num, ?_, (hB2.alloc hsz2 _).trans hB3⟩, by simp [intOf]; omega⟩
      rw [List.take_add_one, HX.out]
      have e : shown (L.take k ++ (some x).toList) = shown (L.take k) ++ [⟨(showTok x).toArray⟩] := by simp [shown]
      rw [e]
      exact hown3
    · obtain rfl : k = n := by omega
      rw [List.take_of_length_le (by rw [HN.out]; exact Nat.le_refl _)] at hown
      have hJ : Calls Tryd.prog 25 #[.slice sq k cq, .string ⟨#[32]⟩] wr fun e w' => e = .returned (.string ⟨(showT L).toArray⟩) ∧ Below wr.heap.size wr w' := by
        obtain ⟨g, sp', c', hv, h1, h2, h3⟩ := own_at hown
        obtain ⟨rfl, _, rfl⟩ := Value.slice.inj hv
        by_cases h0 : k = 0
        · subst h0
          have hL0 : L = [] := List.eq_nil_of_length_eq_zero HN.out
          refine (Tryd.strings_Join_none sq cq ⟨#[32]⟩ wr).mono ?_
          rintro e w' ⟨rfl, rfl⟩
          exact ⟨by rw [hL0]; rfl, Below.refl _ _⟩
        · obtain rfl := h1 (by omega)
          have hsl : (shown L).length = k := by rw [← HN.out]; simp [shown]
          have hcells : ∀ (j : Nat) x, (shown L)[j]? = some x → wr.cell? ⟨g, 0 + j, none⟩ = some (.string x) := fun j x hx => by
            rw [Nat.zero_add]
            exact h3 j _ (by rw [List.getElem?_map, hx]; rfl)
          have hjoin : Lib.join ((shown L).map (·.data.toList)) (⟨#[32]⟩ : ByteArray).data.toList = showT L := by
            rw [shown_data]; exact join_show L
          have hbk : g < wr.heap.size := by
            obtain ⟨x, hx⟩ : ∃ x, (shown L)[0]? = some x := ⟨_, List.getElem?_eq_getElem (by omega)⟩
            exact World.block_lt_of_cell? wr _ (hcells 0 x hx)
          have hJ := Tryd.strings_Join g 0 cq (shown L) ⟨#[32]⟩ wr hcells hbk (by omega) (by omega) (by rw [hjoin]; omega)
          rw [hjoin, hsl] at hJ
          exact hJ
      go_wp2_with (go_at_call 25; refine hJ.mono ?_; rintro e w2 ⟨rfl, hb2⟩)
      go_ret
      exact ⟨rfl, below_step hB hb2⟩
end Go.Proofs.YtblbcdofiheikaaDoor
