/- TokenSpaces, walked: whatever the three texts, it returns true; the library's longest text is set. -/
import Derived.Test.YtblbcdofiheikaaDoorLinesWalk
import Derived.Laws.AppendOwnNone
namespace Go.Proofs.YtblbcdofiheikaaDoor
open Go.RowKit Go.Proofs.NumMath

theorem line_ne0 : ∀ (N : Nat) (s : List UInt8), s.length ≤ N → lineT s = .error 0 → False
  | _, [], _, h => by rw [lineT_nil] at h; cases h
  | 0, c :: t, hN, _ => by simp at hN
  | N + 1, c :: t, hN, h => by
    have hN : t.length ≤ N := by simpa using hN
    by_cases h1 : c = 32 ∨ c = 9
    · rw [lineT, if_pos h1] at h; exact line_ne0 N t hN h
    by_cases h2 : c = 59
    · rw [lineT, if_neg h1, if_pos h2] at h; cases h
    cases hx : nextL c t with
    | error k => rw [lineT_err c t k h1 h2 hx] at h; injection h with h; subst h; exact next_ne0 c t hx
    | ok v =>
      obtain ⟨x, q⟩ := v
      rw [lineT_ok c t x q h1 h2 hx] at h
      cases hq : lineT (t.drop q) with
      | error k => rw [hq] at h; injection h with h; subst h; exact line_ne0 N (t.drop q) (by simp; omega) hq
      | ok l' => rw [hq] at h; cases h
theorem lineT_of (s : List UInt8) (hs : s.length ≤ 200) (h : lineK s = 0) : lineT s = .ok (lineV s) := by
  cases e : lineT s with
  | error k =>
    have := (lineL_err s hs k e).1
    rw [h] at this
    subst this
    exact (line_ne0 _ s (Nat.le_refl _) e).elim
  | ok v => rw [(lineL_ok s hs v e).2]

theorem wpList_on {P : Program} {w : World} {ops : Array Oper} {rest : List Oper} {o : Oper} {a : Act} {Q : Exit → Act → World → Prop} (hw : Region.wanted o (yielded ops a.tmps) = true)
    (h : ∀ K : Act → World → Prop, (∀ a w, wpList P ops Q rest a w → K a w) → o.wp P a w K Q) : wpList P ops Q (o :: rest) a w := by
  unfold wpList
  rw [if_pos hw]
  exact .inl (h _ fun _ _ hh => hh)
/-- to append a row of tokens -/
theorem wpList_append_toks {w : World} {ops : Array Oper} {rest : List Oper} {o : Oper} {a : Act} {Q : Exit → Act → World → Prop} (hgd : Region.wanted o (yielded ops a.tmps) = true) (s x : Operand) (t e : TypeId) (ht : Tryd.prog.underlying t = some (.slice e))
    (hi : (Tryd.prog.info? e).map (fun i => (i.zero, i.size, i.bytes)) = some (some (.agg #[.int .i64 0, .string ⟨#[]⟩, .int .u16 0]), 3, 32))
    (ho : o.op = .call { callee := .builtin .append, args := #[s, x], argTypes := #[t, t] })
    (base : Nat) (v : Value) (n : Nat) (l : List Tok) (hs : a.eval s = v) (hown : w.ownsRow base e 3 v n (toks l)) (v2 : Value) (k : Nat) (l2 : List Tok) (B2 : Nat) (e2 : TypeId) (hx : a.eval x = v2) (h2 : w.ownsRow B2 e2 3 v2 k (toks l2)) (hln : n + k ≤ 1000000) (hbase : base ≤ w.heap.size)
    (h : ∀ v' w', w'.ownsRow base e 3 v' (n + k) (toks (l ++ l2)) → Below base w w' → w.grownBy w' v.ownBlock → wpList Tryd.prog ops Q rest (a.put o.dst v') w') : wpList Tryd.prog ops Q (o :: rest) a w := by
  obtain ⟨i, p1, p2, p3, p4⟩ := info_parts hi
  have hbel : ∀ w', w.grownBy w' v.ownBlock → Below base w w' := fun w' hg => (Below.refl base w).grown hg hbase fun r er => by
    rcases Nat.lt_or_ge r base with hr | hr
    · exact absurd er (own_old hown hr)
    · exact hr
  rcases h2.2 with ⟨rfl, hk⟩ | ⟨g, cap, cur, rfl, _, hc, _⟩
  · have hn : l2 = [] := by
      have hl := h2.1
      rw [toks_len, hk] at hl
      exact List.eq_nil_of_length_eq_zero (by omega)
    subst hn; subst hk
    have h := h v w (by simpa using hown) (Below.refl _ _) (World.grownBy.refl _ _)
    refine wpList_on hgd fun K hK => ?_
    have hrun := run_append_owned_none (P := Tryd.prog) (w := w) base t o.type e i 3 ht p1 v n (toks l) hown
    unfold Oper.wp
    simp [execOp, ho, resolve, invoke, builtin, hs, hx, hrun, Result.andThen]
    exact hK _ _ h
  · refine wpList_on hgd fun K hK => ?_
    refine wp_append_own w s x t ho base e i (.agg #[.int .i64 0, .string ⟨#[]⟩, .int .u16 0]) 3 32 ht p1 p2 p3 p4 rfl (by decide) v n (toks l) hs hown ⟨g, 0, none⟩ k cap (toks l2) hx h2.1 (fun j u hj => ?_) (fun u hu => ?_)
      (by simp only [maxLen]; omega) (by omega) hbase ?_
    · obtain ⟨g', sp, c, hv, h1, _, h3⟩ := own_at h2
      have hk : 0 < k := by
        rcases Nat.eq_zero_or_pos k with h0 | h0
        · have hl := h2.1
          rw [h0] at hl
          have e0 : toks l2 = [] := List.eq_nil_of_length_eq_zero (by omega)
          rw [e0] at hj
          simp at hj
        · exact h0
      have := h1 hk
      subst this
      have hgg : g = g' := (Addr.mk.inj (Option.some.inj (Value.slice.inj hv).1)).1
      subst hgg
      have hadd : (⟨g, 0, none⟩ : Addr).add j = ⟨g, j, none⟩ := by unfold Addr.add; split <;> simp_all
      rw [hadd]
      exact h3 j u hj
    · unfold toks at hu
      rw [List.mem_flatMap] at hu
      obtain ⟨y, _, hy⟩ := hu
      exact tcells_one y u hy
    · intro v' w' hown' hg _
      exact hK _ _ (h v' w' (by rw [toks_app]; exact hown') (hbel w' hg) hg)

theorem own_joined {w : World} {B n : Nat} {v : Value} {L1 L2 L3 : List Tok} (h : w.ownsRow B 41 3 v n (toks ([] ++ L1 ++ L2))) (h3 : Hid (L1 ++ L2 = L3)) : TokR w v L3 := by
  have hl := h.1
  rw [toks_len] at hl
  rw [List.nil_append, h3.out] at h hl
  exact tokR_of_own h (by omega)
theorem own_new0 (w : World) {B : Nat} (hB : B ≤ w.heap.size) : (w.alloc (.cells #[] 41)).ownsRow B 41 3 (.slice (some ⟨w.heap.size, 0, none⟩) 0 0) 0 (toks []) :=
  ⟨rfl, .inr ⟨w.heap.size, 0, #[], rfl, hB, heap_alloc_new w _, Nat.le_refl _, by decide, rfl, rfl⟩⟩
set_option maxRecDepth 100000 in
set_option maxHeartbeats 4000000 in
theorem tokenSpaces_walk (a : ByteArray) (ha : a.size ≤ 9223372036854775807) (b : ByteArray) (hb : b.size ≤ 9223372036854775807) (c : ByteArray) (hc : c.size ≤ 9223372036854775807) (m : Int) (w : World) (hm : MaxAt w m) :
    Calls Tryd.prog 5 #[.string a, .string b, .string c] w fun e w' => e = .returned (.bool true) ∧ Below w.heap.size w w' := by
  by_cases h60 : a.size ≤ 60 ∧ b.size ≤ 60 ∧ c.size ≤ 60
  · obtain ⟨ha6, hb6, hc6⟩ := h60
    go_enter Tryd.func5, Tryd.ntmps5
    go_wp2
    go_loop [7] (fun i => ∃ k : Nat, k ≤ a.size ∧ i = .int .i64 k ∧ Hid (59 ∉ a.data.toList.take k)) (fun i => a.size - (intOf i).toNat)
    case atStart => exact ⟨0, by omega, rfl, Lib.hid (by simp)⟩
    case round =>
      obtain ⟨k, hk, rfl, HN⟩ := hrel
      by_cases hlt : k < a.size
      · obtain ⟨x, hx⟩ : ∃ x, a[k]'hlt = x := ⟨_, rfl⟩
        by_cases h59 : x = 59
        · subst h59
          go_wp2_with (go_at_call 8; refine (alive_any m _ hm).mono ?_; rintro e w5 ⟨rfl, hb5⟩)
          go_ret
          exact ⟨rfl, hb5⟩
        · have h59n : ((x.toNat : Int) == 59) = false := by
            rw [beq_eq_false_iff_ne]; intro e; exact h59 (UInt8.toNat.inj (by omega : x.toNat = 59))
          go_wp2
          refine ⟨⟨k + 1, by omega, by go_num, Lib.hid ?_⟩, by simp [intOf]; omega⟩
          rw [take_snoc a k hlt, hx]
          intro h
          rcases List.mem_append.1 h with h | h
          · exact HN.out h
          · simp only [List.mem_singleton] at h; exact h59 h.symm
      · obtain rfl : k = a.size := by omega
        have hno : 59 ∉ a.data.toList := by
          have := HN.out
          rwa [List.take_of_length_le (by rw [data_size]; exact Nat.le_refl _)] at this
        have HNO := Lib.hid hno
        clear hno HN
        have h1 := fun W h => line_any a ha m W h
        have h2 := fun W h => line_any b hb m W h
        have hll := lineV_len a.data.toList
        have hlm := lineV_len b.data.toList
        obtain ⟨K1, hK1⟩ : ∃ K, lineK a.data.toList = K := ⟨_, rfl⟩
        obtain ⟨K2, hK2⟩ : ∃ K, lineK b.data.toList = K := ⟨_, rfl⟩
        obtain ⟨L1, hL1⟩ : ∃ K, lineV a.data.toList = K := ⟨_, rfl⟩
        obtain ⟨L2, hL2⟩ : ∃ K, lineV b.data.toList = K := ⟨_, rfl⟩
        rw [hK1, hL1] at h1
        rw [hK2, hL2] at h2
        rw [hL1] at hll
        rw [hL2] at hlm
        obtain ⟨S, hS⟩ : ∃ S : ByteArray, ((((⟨#[32, 9]⟩ : ByteArray) ++ a ++ ⟨#[32]⟩) ++ b) ++ ⟨#[59]⟩) ++ c = S := ⟨_, rfl⟩
        have hSd : S.data.toList = 32 :: 9 :: (a.data.toList ++ 32 :: (b.data.toList ++ 59 :: c.data.toList)) := by rw [← hS]; simp [ByteArray.data_append]
        have hSs : S.size ≤ 200 := by
          have h1 := data_size a
          have h2 := data_size b
          have h3 := data_size c
          rw [← data_size, hSd]
          simp only [List.length_cons, List.length_append]
          omega
        have h3 := fun W h => line_any S (by omega) m W h
        have HS := Lib.hid hS
        clear hS
        by_cases hk1 : K1 = 0
        · by_cases hk2 : K2 = 0
          · have hT1 := lineT_of a.data.toList (by rw [data_size]; omega) (by rw [hK1, hk1])
            have hT2 := lineT_of b.data.toList (by rw [data_size]; omega) (by rw [hK2, hk2])
            rw [hL1] at hT1
            rw [hL2] at hT2
            have hT3 := line_spaces _ _ c.data.toList L1 L2 hT1 HNO.out hT2
            rw [← hSd] at hT3
            obtain ⟨e1, e2⟩ := lineL_ok S.data.toList (by rw [data_size]; exact hSs) _ hT3
            rw [e1, e2] at h3
            rw [← HS.out] at h3
            have hlen : (L1 ++ L2).length ≤ 1000000 := by simp; omega
            obtain ⟨L3, hL3⟩ : ∃ L, L1 ++ L2 = L := ⟨_, rfl⟩
            have HL3 := Lib.hid hL3
            rw [hL3] at h3 hlen
            subst hk1; subst hk2
            clear hT1 hT2 hT3 e1 e2 hSd hSs HS hL1 hL2 hK1 hK2 hL3
            go_wp2_with (first
              | (go_at_call 9; (with_reducible refine (h1 _ hm).mono ?_); rintro e w1 ⟨v1, rfl, hown1, hb1⟩; have hm1 := hm.below hb1)
              | (go_at_call 9; (with_reducible refine (h2 _ hm1).mono ?_); rintro e w2 ⟨v2, rfl, hown2, hb2⟩; have hm2 := hm1.below hb2; have hB2 := below_step hb1 hb2; have r1 := (tokR_of_own hown1 rfl).below hb2)
              | (go_at_call 9; (with_reducible refine (h3 _ hm2).mono ?_); rintro e w3 ⟨v3, rfl, hown3, hb3⟩; have r3 := tokR_of_own hown3 rfl; have r1' := r1.below hb3; have r2' := (tokR_of_own hown2 rfl).below hb3; have hm3 := hm2.below hb3; have hB3 := below_step hB2 hb3)
              | (go_at_call 12; (with_reducible refine (back_any v3 L3 w3 r3 hlen).mono ?_); rintro e w4 ⟨v4, rfl, hown4, hb4⟩; have r4 := tokR_of_own hown4 rfl; have r1'' := r1'.below hb4; have r2'' := r2'.below hb4; have hm4 := hm3.below hb4; have hB4 := below_step hB3 hb4; have hC5 := (Below.refl w4.heap.size w4).alloc (Nat.le_refl _) (.cells #[] 41))
              | (go_at_call 12; (with_reducible refine (back_any v1 L1 (w4.alloc (.cells #[] 41)) (r1''.below hC5) (by omega)).mono ?_); rintro e w6 ⟨v6, rfl, hown6, hb6⟩; have hC6 := below_step hC5 hb6; have hlit := own_below (own_new0 w4 (Nat.le_refl _)) hb6; have hs6 := hC6.size)
              | (at_builtin; refine wpList_append_toks rfl (.tmp 73) (.tmp 75) 27 41 Tryd.underlying27 zero41 rfl w4.heap.size _ 0 [] rfl hlit v6 L1.length L1 _ 41 rfl hown6 (by omega) hs6 ?_; intro v7 w7 hown7 hB7 _; have hC7 := hC6.trans hB7)
              | (go_at_call 12; (with_reducible refine (back_any v2 L2 w7 (r2''.below hC7) (by omega)).mono ?_); rintro e w8 ⟨v8, rfl, hown8, hb8⟩; have hC8 := below_step hC7 hb8; have hown7' := own_below hown7 hb8; have hs8 := hC8.size)
              | (at_builtin; refine wpList_append_toks rfl (.tmp 76) (.tmp 78) 27 41 Tryd.underlying27 zero41 rfl w4.heap.size v7 (0 + L1.length) ([] ++ L1) rfl hown7' v8 L2.length L2 _ 41 rfl hown8 (by omega) hs8 ?_; intro v9 w9 hown9 hB9 _; have hC9 := hC8.trans hB9; have r9 := own_joined hown9 HL3; have hm9 := hm4.below hC9; have hB9' := below_step hB4 hC9)
              | (go_at_call 11; (with_reducible refine (same_self v4 v9 L3 w9 (r4.below hC9) r9 hlen).mono ?_); rintro e w10 ⟨rfl, hb10⟩; have hm10 := hm9.below hb10; have hB10 := below_step hB9' hb10)
              | (go_at_call 8; refine (alive_any m _ hm10).mono ?_; rintro e w11 ⟨rfl, hb11⟩; have hB11 := below_step hB10 hb11))
            go_ret
            exact ⟨rfl, hB11⟩
          · have hk2n : ((K2 : Int) != 0) = true := by simp; omega
            rw [← HS.out] at h3
            subst hk1
            clear hSd hSs HS hL1 hL2 hK1 hK2
            go_wp2_with (first
              | (go_at_call 9; (with_reducible refine (h1 _ hm).mono ?_); rintro e w1 ⟨v1, rfl, _, hb1⟩; have hm1 := hm.below hb1)
              | (go_at_call 9; (with_reducible refine (h2 _ hm1).mono ?_); rintro e w2 ⟨v2, rfl, _, hb2⟩; have hm2 := hm1.below hb2; have hB2 := below_step hb1 hb2)
              | (go_at_call 9; (with_reducible refine (h3 _ hm2).mono ?_); rintro e w3 ⟨v3, rfl, _, hb3⟩; have hm3 := hm2.below hb3; have hB3 := below_step hB2 hb3)
              | (go_at_call 8; refine (alive_any m _ hm3).mono ?_; rintro e w11 ⟨rfl, hb11⟩; have hB11 := below_step hB3 hb11))
            go_ret
            exact ⟨rfl, hB11⟩
        · have hk1n : ((K1 : Int) != 0) = true := by simp; omega
          rw [← HS.out] at h3
          clear hSd hSs HS hL1 hL2 hK1 hK2
          go_wp2_with (first
            | (go_at_call 9; (with_reducible refine (h1 _ hm).mono ?_); rintro e w1 ⟨v1, rfl, _, hb1⟩; have hm1 := hm.below hb1)
            | (go_at_call 9; (with_reducible refine (h2 _ hm1).mono ?_); rintro e w2 ⟨v2, rfl, _, hb2⟩; have hm2 := hm1.below hb2; have hB2 := below_step hb1 hb2)
            | (go_at_call 9; (with_reducible refine (h3 _ hm2).mono ?_); rintro e w3 ⟨v3, rfl, _, hb3⟩; have hm3 := hm2.below hb3; have hB3 := below_step hB2 hb3)
            | (go_at_call 8; refine (alive_any m _ hm3).mono ?_; rintro e w11 ⟨rfl, hb11⟩; have hB11 := below_step hB3 hb11))
          go_ret
          exact ⟨rfl, hB11⟩
  · by_cases ha6 : a.size ≤ 60
    · by_cases hb6 : b.size ≤ 60
      · have hc6 : ¬ c.size ≤ 60 := fun h => h60 ⟨ha6, hb6, h⟩
        go_enter Tryd.func5, Tryd.ntmps5
        go_wp2_with (go_at_call 8; refine (alive_any m _ hm).mono ?_; rintro e w5 ⟨rfl, hb5⟩)
        go_ret
        exact ⟨rfl, hb5⟩
      · go_enter Tryd.func5, Tryd.ntmps5
        go_wp2_with (go_at_call 8; refine (alive_any m _ hm).mono ?_; rintro e w5 ⟨rfl, hb5⟩)
        go_ret
        exact ⟨rfl, hb5⟩
    · go_enter Tryd.func5, Tryd.ntmps5
      go_wp2_with (go_at_call 8; refine (alive_any m _ hm).mono ?_; rintro e w5 ⟨rfl, hb5⟩)
      go_ret
      exact ⟨rfl, hb5⟩
end Go.Proofs.YtblbcdofiheikaaDoor
