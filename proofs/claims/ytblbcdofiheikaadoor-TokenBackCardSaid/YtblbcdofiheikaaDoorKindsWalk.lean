/- TokenKinds, walked: whatever the line, it returns true; the library's longest text is set. -/
import Derived.Test.YtblbcdofiheikaaDoorLinesWalk
import Derived.Deep.RegionHeld3
namespace Go.Proofs.YtblbcdofiheikaaDoor
open Go.RowKit Go.Proofs.NumMath

theorem unqIn_len : ∀ (N : Nat) (l u : List UInt8), l.length ≤ N → unqIn l = some u → u.length ≤ l.length
  | _, [], u, _, h => by rw [unqIn] at h; cases h; exact Nat.le_refl _
  | _, [c], u, _, h => by
    rw [unqIn] at h
    by_cases hc : c = 39 ∨ ok c = false
    · rw [if_pos hc] at h; cases h
    · rw [if_neg hc] at h; cases h; exact Nat.le_refl _
  | 0, c :: d :: l, u, hN, h => by simp at hN
  | N + 1, c :: d :: l, u, hN, h => by
    rw [unqIn] at h
    by_cases ho : ok c = false
    · rw [if_pos ho] at h; cases h
    rw [if_neg ho] at h
    by_cases hc : c = 39
    · rw [if_pos hc] at h
      by_cases hd : d = 39
      · rw [if_pos hd] at h
        cases hu : unqIn l with
        | none => rw [hu] at h; cases h
        | some v =>
          rw [hu] at h; cases h
          have := unqIn_len N l v (by simp at hN; omega) hu
          simp; omega
      · rw [if_neg hd] at h; cases h
    · rw [if_neg hc] at h
      cases hu : unqIn (d :: l) with
      | none => rw [hu] at h; cases h
      | some v =>
        rw [hu] at h; cases h
        have := unqIn_len N (d :: l) v (by simp at hN ⊢; omega) hu
        simp at this ⊢; omega
theorem unqL_len (l u : List UInt8) (h : unqL l = some u) : u.length ≤ l.length := by
  unfold unqL at h
  split at h
  · have := unqIn_len _ _ u (Nat.le_refl _) h
    simp at this
    omega
  · cases h
theorem next_len (c : UInt8) (t : List UInt8) (x : Tok) (m : Nat) (h : nextL c t = .ok (x, m)) : x.s.length ≤ t.length + 1 := by
  have hle : ∀ p : UInt8 → Bool, (t.takeWhile p).length ≤ t.length := fun p => (List.takeWhile_sublist p).length_le
  unfold nextL at h
  by_cases hl : letter c.toNat = true
  · rw [if_pos hl] at h
    by_cases h16 : 16 < (t.takeWhile tailB).length + 1
    · rw [if_pos h16] at h; cases h
    · rw [if_neg h16] at h; cases h
      have := hle tailB
      simp [upL]; omega
  rw [if_neg hl] at h
  by_cases hg : digB c = true
  · rw [if_pos hg] at h
    by_cases hp : (parseL (c :: t.takeWhile alnB)).2 = 0
    · rw [if_pos hp] at h; cases h; simp
    · rw [if_neg hp] at h; cases h
  rw [if_neg hg] at h
  by_cases hq : c = 39
  · rw [if_pos hq] at h
    cases hs : scanQ t with
    | none => rw [hs] at h; cases h
    | some q =>
      rw [hs] at h
      simp only at h
      cases hu : unqL (c :: t.take q) with
      | none => rw [hu] at h; cases h
      | some u =>
        rw [hu] at h; cases h
        have := unqL_len _ u hu
        simp at this ⊢
        omega
  rw [if_neg hq] at h
  by_cases hm : markB c = true
  · rw [if_pos hm] at h; cases h; simp
  · rw [if_neg hm] at h; cases h
theorem line_small : ∀ (N : Nat) (a : List UInt8) (l : List Tok), a.length ≤ N → lineT a = .ok l → ∀ x ∈ l, x.s.length ≤ N
  | _, [], l, _, h => by rw [lineT_nil] at h; cases h; simp
  | 0, c :: t, l, hN, _ => by simp at hN
  | N + 1, c :: t, l, hN, h => by
    have hN : t.length ≤ N := by simpa using hN
    by_cases h1 : c = 32 ∨ c = 9
    · rw [lineT, if_pos h1] at h; exact fun x hx => Nat.le_succ_of_le (line_small N t l hN h x hx)
    by_cases h2 : c = 59
    · rw [lineT, if_neg h1, if_pos h2] at h; cases h; simp
    cases hx : nextL c t with
    | error k => rw [lineT_err c t k h1 h2 hx] at h; cases h
    | ok v =>
      obtain ⟨x, q⟩ := v
      rw [lineT_ok c t x q h1 h2 hx] at h
      cases hq : lineT (t.drop q) with
      | error k => rw [hq] at h; cases h
      | ok l' =>
        rw [hq] at h; cases h
        intro y hy
        rcases List.mem_cons.1 hy with rfl | hy
        · have := next_len c t _ q hx; omega
        · exact Nat.le_succ_of_le (line_small N (t.drop q) l' (by simp; omega) hq y hy)
theorem lineV_good (s : List UInt8) : ∀ x ∈ lineV s, Good x ∧ x.s.length ≤ 200 := by
  by_cases h : s.length ≤ 200
  · cases e : lineT s with
    | error k => rw [(lineL_err s h k e).2]; simp
    | ok v => rw [(lineL_ok s h v e).2]; exact fun x hx => ⟨line_good _ s v (Nat.le_refl _) e x hx, line_small 200 s v h e x hx⟩
  · rw [(lineL_long s h).2]; simp
theorem cell_later {w w' : World} {p : Addr} {u : Value} (hb : Below w.heap.size w w') (h : w.cell? p = some u) : w'.cell? p = some u := keep_below hb p u h

set_option maxRecDepth 100000 in
set_option maxHeartbeats 4000000 in
theorem tokenKinds_walk (s : ByteArray) (hs : s.size ≤ 9223372036854775807) (m : Int) (w : World) (hm : MaxAt w m) : Calls Tryd.prog 7 #[.string s] w fun e w' => e = .returned (.bool true) ∧ Below w.heap.size w w' := by
  by_cases h2000 : s.size ≤ 2000
  · have h1 := fun W h => line_any s hs m W h
    have hl := lineV_len s.data.toList
    have hg := lineV_good s.data.toList
    obtain ⟨L, hL⟩ : ∃ L, lineV s.data.toList = L := ⟨_, rfl⟩
    obtain ⟨K, hK⟩ : ∃ K, lineK s.data.toList = K := ⟨_, rfl⟩
    rw [hL] at hl hg
    rw [hL, hK] at h1
    have HG := Lib.hid hg
    clear hL hK hg
    go_enter Tryd.func7, Tryd.ntmps7
    go_wp2_with (go_at_call 9; refine (h1 _ hm).mono ?_; rintro e w1 ⟨v1, rfl, hown1, hb1⟩; have hm1 := hm.below hb1)
    obtain ⟨b, o, sp, c, rfl, hsp, hc⟩ := tokR_of_own hown1 rfl
    obtain ⟨n, hn⟩ : ∃ n, L.length = n := ⟨_, rfl⟩
    rw [hn] at hl hsp ⊢
    have HN := Lib.hid hn
    have HC := Lib.hid hc
    clear hn hc hown1
    go_loopw [5] (fun i wr => ∃ k : Nat, k ≤ n ∧ i = .int .i64 k ∧ Below w1.heap.size w1 wr) (fun i _ => n - (intOf i).toNat)
    case atStart => exact ⟨0, by omega, rfl, Below.refl _ _⟩
    case round =>
      obtain ⟨k, hk, rfl, hB⟩ := hrel
      by_cases hlt : k < n
      · obtain rfl := hsp (by omega)
        obtain ⟨x, hx⟩ : ∃ x, L[k]? = some x := ⟨_, List.getElem?_eq_getElem (by rw [HN.out]; exact hlt)⟩
        obtain ⟨x1, x2, x3⟩ := HC.out k x hx
        obtain ⟨hgood, hsmall⟩ := HG.out x (List.mem_of_getElem? hx)
        replace x1 := keep_below hB _ _ x1
        replace x2 := keep_below hB _ _ x2
        replace x3 := keep_below hB _ _ x3
        have HX := Lib.hid hx
        clear hx
        obtain ⟨xk, xs, xn⟩ := x
        simp only at x1 x2 x3 hsmall
        have hmr := hm1.below hB
        rcases hgood with ⟨g1, g2, g3, g4⟩ | ⟨g1, g2, g3⟩ | ⟨g1, g2, g3⟩ | ⟨g1, g2, c4, g3, g4⟩
        · simp only at g1 g2 g3 g4
          subst g1; subst g2
          have hNm := fun W => name_any ⟨xs.toArray⟩ (by rw [size_mk]; omega) W
          have hUp := fun W => upper_any ⟨xs.toArray⟩ (by rw [size_mk]; omega) W
          simp only [g3, g4] at hNm hUp
          obtain ⟨T, hT⟩ : ∃ T : ByteArray, (⟨xs.toArray⟩ : ByteArray) = T := ⟨_, rfl⟩
          rw [hT] at hNm hUp x2
          clear hT g3 g4
          go_wp2
          obtain ⟨⟨k0, k1, k2⟩, _⟩ := three (at_new wr (.cells #[.int .i64 1, .string T, .int .u16 0] 42))
          have hB0 := hB.alloc hB.size (.cells #[.int .i64 1, .string T, .int .u16 0] 42)
          clear x1 x2 x3
          generalize wr.alloc (.cells #[.int .i64 1, .string T, .int .u16 0] 42) = W0 at k0 k1 k2 hB0 ⊢
          go_region_held3 (fun W' => Below w1.heap.size w1 W' ∧ W'.cell? ⟨wr.heap.size, 0, none⟩ = some (.int .i64 1) ∧ W'.cell? ⟨wr.heap.size, 1, none⟩ = some (.string T) ∧ W'.cell? ⟨wr.heap.size, 2, none⟩ = some (.int .u16 0))
            (first | (go_split_ands; exact ⟨below_step (by assumption) hbb, cell_later hbb (by assumption), cell_later hbb (by assumption), cell_later hbb (by assumption)⟩) | ((repeat' apply And.intro) <;> first | (with_reducible refine Below.drew ?_; assumption) | go_keep))
            ((first | (go_at_call 17; (with_reducible refine (hNm _).mono ?_); rintro e Wb ⟨rfl, hbb⟩) | (go_at_call 18; (with_reducible refine (hUp _).mono ?_); rintro e Wb ⟨rfl, hbb⟩)))
          go_wp2
          go_split_ands
          exact ⟨⟨k + 1, by omega, by go_num, by assumption⟩, by simp [intOf]; omega⟩
        · simp only at g1 g2 g3
          subst g1; subst g2
          go_wp2
          exact ⟨⟨k + 1, by omega, by go_num, hB.alloc hB.size _⟩, by simp [intOf]; omega⟩
        · simp only at g1 g2 g3
          subst g1; subst g2
          have hq1 := fun W h => quo_any ⟨xs.toArray⟩ (by rw [size_mk]; omega) m W h
          have hu1 := fun W h => unq_any ⟨(quoteL xs).toArray⟩ (by
            have := quoL_len xs
            rw [size_mk]; simp [quoteL]; omega) m W h
          rw [show (⟨xs.toArray⟩ : ByteArray).data.toList = xs from rfl] at hq1
          rw [show (⟨(quoteL xs).toArray⟩ : ByteArray).data.toList = quoteL xs from rfl, unqL_quote, if_pos g3] at hu1
          simp only [unR] at hu1
          obtain ⟨T, hT⟩ : ∃ T : ByteArray, (⟨xs.toArray⟩ : ByteArray) = T := ⟨_, rfl⟩
          obtain ⟨Q, hQ⟩ : ∃ T : ByteArray, (⟨(quoteL xs).toArray⟩ : ByteArray) = T := ⟨_, rfl⟩
          rw [hT] at hq1 hu1 x2
          rw [hQ] at hq1 hu1
          clear hT hQ g3
          have hk0 := at_new wr (.cells #[.int .i64 3, .string T, .int .u16 0] 42)
          have hB0 := hB.alloc hB.size (.cells #[.int .i64 3, .string T, .int .u16 0] 42)
          have hmr0 : MaxAt (wr.alloc (.cells #[.int .i64 3, .string T, .int .u16 0] 42)) m := hm1.below hB0
          go_wp2_with (first
            | (go_at_call 20; refine (hq1 _ hmr0).mono ?_; rintro e w2 ⟨rfl, hb2⟩; have hk2 := at_below hb2 hk0; have hB2 := below_step hB0 hb2; have hm2 := hmr0.below hb2)
            | (go_at_call 19; refine (hu1 _ hm2).mono ?_; rintro e w3 ⟨rfl, hb3⟩; have hk3 := at_below hb3 hk2; obtain ⟨⟨_, _, _⟩, _⟩ := three hk3; have hB3 := below_step hB2 hb3))
          exact ⟨⟨k + 1, by omega, by go_num, hB3⟩, by simp [intOf]; omega⟩
        · simp only at g1 g2 g3
          subst g1; subst g2
          have hT1 : (⟨xs.toArray⟩ : ByteArray).size = 1 := by rw [size_mk, g3]; rfl
          obtain ⟨T, hT⟩ : ∃ T : ByteArray, (⟨xs.toArray⟩ : ByteArray) = T := ⟨_, rfl⟩
          rw [hT] at hT1 x2
          clear hT g3 g4
          go_wp2
          exact ⟨⟨k + 1, by omega, by go_num, hB.alloc hB.size _⟩, by simp [intOf]; omega⟩
      · obtain rfl : k = n := by omega
        have hmr := hm1.below hB
        have hl2 : decide ((k : Int) ≤ 200) = true := decide_eq_true (by omega)
        go_wp2_with (go_at_call 8; refine (alive_any m _ hmr).mono ?_; rintro e w5 ⟨rfl, hb5⟩)
        go_ret
        exact ⟨rfl, below_step (below_step hb1 hB) hb5⟩
  · go_enter Tryd.func7, Tryd.ntmps7
    go_wp2_with (go_at_call 8; refine (alive_any m _ hm).mono ?_; rintro e w5 ⟨rfl, hb5⟩)
    go_ret
    exact ⟨rfl, hb5⟩
end Go.Proofs.YtblbcdofiheikaaDoor
